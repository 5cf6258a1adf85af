/- Lemmas. -/
import Derived.Test.YtlmdjghcmofdlaaGreatProg
import Derived.Test.YtlmdjghcmofdlaaGreatS02
import Derived.OpenShut
import Derived.Deep.RegionHeld3
import Derived.Maps.OwnOps
set_option maxRecDepth 100000
set_option maxHeartbeats 64000000
namespace Go.Proofs.YtlmdjghcmofdlaaGreat
open Go.RowKit
set_option linter.unusedVariables false
theorem arr2 : Go.WideMaps.ArrKey Tryz.prog 109 3 2 := ⟨by kernel_rfl, by kernel_rfl, by kernel_rfl, by kernel_rfl⟩
theorem arr3 : Go.WideMaps.ArrKey Tryz.prog 140 3 3 := ⟨by kernel_rfl, by kernel_rfl, by kernel_rfl, by kernel_rfl⟩
theorem sizeT : ∃ m, Tryz.prog.types.size = m + 1 := ⟨Tryz.prog.types.size - 1, by kernel_rfl⟩
theorem KL : KeyT Tryz.prog 113 109 51 (.slice none 0 0) pairK okP := key_pairs arr2 (by kernel_rfl) sizeT (by kernel_rfl) (fun w => by kernel_rfl)
theorem KP : KeyT Tryz.prog 114 140 3 (.int .i64 0) tripK okT := key_triples arr3 (by kernel_rfl) sizeT (by kernel_rfl) (fun w => by kernel_rfl)
def i6s (l : List Int) : List Value := l.map (Value.int .i64)
theorem i6s_len (l : List Int) : (i6s l).length = l.length := by simp [i6s]
theorem i6s_at {l : List Int} {i : Nat} (h : i < l.length) : (i6s l)[i]? = some (.int .i64 (lAt l i)) := by unfold i6s; rw [List.getElem?_map, lAt_some h]; rfl
theorem i6s_snoc (l : List Int) (x : Int) : i6s (l ++ [x]) = i6s l ++ [.int .i64 x] := by simp [i6s]
theorem i6s_del (l : List Int) (e : Int) : i6s (delL l e) = ((i6s l).set (l.idxOf e) (.int .i64 (lAt l (l.length - 1)))).take (l.length - 1) := by
  unfold delL i6s
  rw [List.map_take, List.map_set]
def lq (s : Bg) (V : Int × Int → Value) : Int × Int → Option Value := fun a => if s.L a = [] then none else some (V a)
structure BgX (b c : Nat) (V : Int × Int → Value) (W : World) (F : Nat → Prop) (B : Nat) (s : Bg) (k : Nat) : Prop where
  blk : Blk W B 116 #[.map (some b), .map (some c)]
  lists : ∃ m, m ≤ k ∧ MapV Tryz.prog 109 (.slice none 0 0) pairK okP W b (lq s V) m
  places : MapV Tryz.prog 140 (.int .i64 0) tripK okT W c s.pos s.n
  row : ∀ a, RowW W 3 1 (V a) (s.L a).length (i6s (s.L a)) ∧ ∀ g, (V a).ownBlock = some g → F g
  nil : ∀ a, s.L a = [] → V a = .slice none 0 0
  apart : ∀ a a', a ≠ a' → Apart (V a) (V a')
  bc : b ≠ c
  fb : F B
  f1 : F b
  f2 : F c
  lt : ∀ g, F g → g < W.heap.size
def BgM (W : World) (F : Nat → Prop) (B : Nat) (s : Bg) (k : Nat) : Prop := s.Ok k ∧ ((s = bg0 ∧ Blk W B 116 #[.map none, .map none] ∧ F B ∧ ∀ g, F g → g < W.heap.size) ∨ ∃ b c V, BgX b c V W F B s k)
section
variable {b c : Nat} {V : Int × Int → Value} {W W' : World} {F : Nat → Prop} {B : Nat} {s : Bg} {k : Nat}
theorem BgX.kept (h : BgX b c V W F B s k) (hb : ∀ g, F g → W'.heap[g]? = W.heap[g]?) (hs : W.heap.size ≤ W'.heap.size) : BgX b c V W' F B s k := by
  obtain ⟨m, hm, h1⟩ := h.lists
  exact ⟨(hb B h.fb).trans h.blk, ⟨m, hm, h1.kept (hb b h.f1)⟩, h.places.kept (hb c h.f2), fun a => ⟨(h.row a).1.kept fun g hg => hb g ((h.row a).2 g hg), (h.row a).2⟩, h.nil, h.apart, h.bc, h.fb, h.f1, h.f2, fun g hg => Nat.lt_of_lt_of_le (h.lt g hg) hs⟩
theorem BgX.mono (h : BgX b c V W F B s k) {k' : Nat} (hk : k ≤ k') : BgX b c V W F B s k' := by
  obtain ⟨m, hm, h1⟩ := h.lists
  exact ⟨h.blk, ⟨m, Nat.le_trans hm hk, h1⟩, h.places, h.row, h.nil, h.apart, h.bc, h.fb, h.f1, h.f2, h.lt⟩
theorem BgM.kept (h : BgM W F B s k) (hb : ∀ g, F g → W'.heap[g]? = W.heap[g]?) (hs : W.heap.size ≤ W'.heap.size) : BgM W' F B s k := by
  obtain ⟨h0, ⟨h1, h2, h3, h4⟩ | ⟨b, c, V, h1⟩⟩ := h
  · exact ⟨h0, .inl ⟨h1, (hb B h3).trans h2, h3, fun g hg => Nat.lt_of_lt_of_le (h4 g hg) hs⟩⟩
  · exact ⟨h0, .inr ⟨b, c, V, h1.kept hb hs⟩⟩
theorem BgM.lt (h : BgM W F B s k) : ∀ g, F g → g < W.heap.size := by
  obtain ⟨h0, ⟨h1, h2, h3, h4⟩ | ⟨b, c, V, h1⟩⟩ := h
  · exact h4
  · exact h1.lt
theorem BgM.mono (h : BgM W F B s k) {k' : Nat} (hk : k ≤ k') : BgM W F B s k' := by
  obtain ⟨h0, h1 | ⟨b, c, V, h1⟩⟩ := h
  · exact ⟨h0.mono hk, .inl h1⟩
  · exact ⟨h0.mono hk, .inr ⟨b, c, V, h1.mono hk⟩⟩
theorem BgM.below (h : BgM W F B s k) (hb : Below W.heap.size W W') : BgM W' F B s k := h.kept (fun g hg => hb.block g (h.lt g hg)) hb.size
theorem BgM.fresh (hb : Blk W B 116 #[.map none, .map none]) : BgM W (fun g => g = B) B bg0 0 := ⟨bg0_ok 0, .inl ⟨rfl, hb, rfl, fun g hg => hg ▸ hb.lt⟩⟩
theorem BgX.slice (h : BgX b c V W F B s k) (a : Int × Int) : (lq s V a).getD (.slice none 0 0) = V a := by
  unfold lq
  split
  · rename_i e; exact (h.nil a e).symm
  · rfl
theorem BgX.apartB (h : BgX b c V W F B s k) (a : Int × Int) {g : Nat} (hg : (V a).ownBlock = some g) : g ≠ B ∧ g ≠ b ∧ g ≠ c := by
  obtain ⟨m, _, hm⟩ := h.lists
  rcases (h.row a).1.2 with ⟨e0, _⟩ | ⟨g', cap, cur, e0, hb, _⟩
  · rw [e0] at hg; cases hg
  · rw [e0] at hg; cases hg
    refine ⟨fun e => ?_, fun e => ?_, fun e => ?_⟩
    · subst e
      have := hb.symm.trans h.blk
      cases this
    · subst e
      obtain ⟨o, h1, h2⟩ := hm.noCells
      rw [show W.heap[g']? = _ from hb] at h1; cases h1; cases h2
    · subst e
      obtain ⟨o, h1, h2⟩ := h.places.noCells
      rw [show W.heap[g']? = _ from hb] at h1; cases h1; cases h2
theorem BgX.nb (h : BgX b c V W F B s k) : b ≠ B ∧ c ≠ B := by
  obtain ⟨m, _, hm⟩ := h.lists
  refine ⟨fun e => ?_, fun e => ?_⟩
  · subst e
    obtain ⟨o, h1, h2⟩ := hm.noCells
    rw [show W.heap[b]? = _ from h.blk] at h1; cases h1; cases h2
  · subst e
    obtain ⟨o, h1, h2⟩ := h.places.noCells
    rw [show W.heap[c]? = _ from h.blk] at h1; cases h1; cases h2
theorem BgM.reads (h : BgM W F B s k) : ∃ (x y : Value) (V : Int × Int → Value), Blk W B 116 #[x, y] ∧ (∀ a, okP a → (Instr.lookup 113 x (pairK a) false).run Tryz.prog W = .ok (V a) W) ∧
    (∀ a, okT a → (Instr.lookup 114 y (tripK a) true).run Tryz.prog W = .ok (.tuple #[(s.pos a).getD (.int .i64 0), .bool (s.pos a).isSome]) W) ∧ (∀ ty, (Builtin.len_ #[114] ty #[y]).run Tryz.prog W = .ok (.int .i64 s.n) W) ∧
    ∀ a, RowW W 3 1 (V a) (s.L a).length (i6s (s.L a)) ∧ ∀ g, (V a).ownBlock = some g → F g := by
  obtain ⟨h0, ⟨rfl, h2, h3, h4⟩ | ⟨b, c, V, h1⟩⟩ := h
  · refine ⟨_, _, fun _ => .slice none 0 0, h2, fun a ha => by simpa using MapV.look_nil KL W ha false, fun a ha => ?_, fun ty => MapV.len_nil KP W ty, fun a => ⟨RowW.empty _ _ _, fun g hg => by cases hg⟩⟩
    have := MapV.look_nil KP W ha true
    simp only [if_true] at this
    rw [this]
    simp [Bg.pos, bg0, posL_nil]
  · obtain ⟨m, hm, h2⟩ := h1.lists
    refine ⟨_, _, V, h1.blk, fun a ha => ?_, fun a ha => h1.places.look_ok KP ha, fun ty => h1.places.len KP ty, h1.row⟩
    rw [h2.look KL ha, h1.slice a]
end
section
variable {W : World} {F : Nat → Prop} {B : Nat} {s : Bg} {k : Nat} {w : World}
theorem bnew_any (w : World) : Calls Tryz.prog 40 #[] w fun x w' => x = .returned (.pointer (some ⟨w.heap.size, 0, none⟩)) ∧ BgM w' (fun g => g = w.heap.size) w.heap.size bg0 0 ∧ Below w.heap.size w w' := by
  go_enter Tryz.func40, Tryz.ntmps40
  go_wp2
  go_ret
  exact ⟨rfl, BgM.fresh (Blk.new w _ _), (Below.refl _ _).alloc (Nat.le_refl _) _⟩
theorem bhas_any (h : BgM w F B s k) {v l e : Int} (ha : okT (v, l, e)) : Calls Tryz.prog 89 #[.pointer (some ⟨B, 0, none⟩), .int .i64 v, .int .i64 l, .int .i64 e] w fun x w' => x = .returned (.bool (decide (e ∈ s.L (v, l)))) ∧ w' = w := by
  obtain ⟨x, y, V, h1, _, h3, _⟩ := h.reads
  obtain ⟨c0, c1⟩ := h1.cells2
  have hl := h3 _ ha
  simp only [tripK, Bg.pos] at hl
  rw [posL_isSome] at hl
  obtain ⟨u, hu⟩ : ∃ u, u = (posL (s.L (v, l)) e).getD (.int .i64 0) := ⟨_, rfl⟩
  rw [← hu] at hl
  generalize decide (e ∈ s.L (v, l)) = t at *
  clear h h1 h3 hu
  go_enter Tryz.func89, Tryz.ntmps89
  go_wp2
  go_ret
  exact ⟨rfl, rfl⟩
theorem bmany_any (h : BgM w F B s k) {v l : Int} (ha : okP (v, l)) : Calls Tryz.prog 63 #[.pointer (some ⟨B, 0, none⟩), .int .i64 v, .int .i64 l] w fun x w' => x = .returned (.int .i64 (s.L (v, l)).length) ∧ w' = w := by
  obtain ⟨x, y, V, h1, h2, _, _, h4⟩ := h.reads
  obtain ⟨c0, c1⟩ := h1.cells2
  have hl := h2 _ ha
  simp only [pairK] at hl
  obtain ⟨ao, cap, e0⟩ := (h4 (v, l)).1.form
  rw [e0] at hl
  generalize (s.L (v, l)).length = n at *
  clear h h1 h2 h4 e0
  go_enter Tryz.func63, Tryz.ntmps63
  go_wp2
  go_ret
  exact ⟨rfl, rfl⟩
end
end Go.Proofs.YtlmdjghcmofdlaaGreat
