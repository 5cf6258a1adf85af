/- Lemmas. -/
import Derived.Test.YtlmdjghcmofdlaaGreatS25
import Derived.Laws.MathBits
import Derived.Sort.CutIn
import Derived.Deep.CutBlock
import Derived.Test.YtlmdjghcmofdlaaGreatS04
import Derived.Deep.RegionLaw
import Derived.Test.YtlmdjghcmofdlaaGreatS08
import Derived.Deep.RegionHeld3
set_option maxRecDepth 100000
set_option maxHeartbeats 64000000
namespace Go.Proofs.YtlmdjghcmofdlaaGreat
open Go.RowKit
set_option linter.unusedVariables false
def lenTab : ByteArray := ⟨#[0, 1, 2, 2, 3, 3, 3, 3, 4, 4, 4, 4, 4, 4, 4, 4, 5, 5, 5, 5, 5, 5, 5, 5, 5, 5, 5, 5, 5, 5, 5, 5, 6, 6, 6, 6, 6, 6, 6, 6, 6, 6, 6, 6, 6, 6, 6, 6, 6, 6, 6, 6, 6, 6, 6, 6, 6, 6, 6, 6, 6, 6, 6, 6, 7, 7, 7, 7, 7, 7, 7, 7, 7, 7, 7, 7, 7, 7, 7, 7, 7, 7, 7, 7, 7, 7, 7, 7, 7, 7, 7, 7, 7, 7, 7, 7, 7, 7, 7, 7, 7, 7, 7, 7, 7, 7, 7, 7, 7, 7, 7, 7, 7, 7, 7, 7, 7, 7, 7, 7, 7, 7, 7, 7, 7, 7, 7, 7, 8, 8, 8, 8, 8, 8, 8, 8, 8, 8, 8, 8, 8, 8, 8, 8, 8, 8, 8, 8, 8, 8, 8, 8, 8, 8, 8, 8, 8, 8, 8, 8, 8, 8, 8, 8, 8, 8, 8, 8, 8, 8, 8, 8, 8, 8, 8, 8, 8, 8, 8, 8, 8, 8, 8, 8, 8, 8, 8, 8, 8, 8, 8, 8, 8, 8, 8, 8, 8, 8, 8, 8, 8, 8, 8, 8, 8, 8, 8, 8, 8, 8, 8, 8, 8, 8, 8, 8, 8, 8, 8, 8, 8, 8, 8, 8, 8, 8, 8, 8, 8, 8, 8, 8, 8, 8, 8, 8, 8, 8, 8, 8, 8, 8, 8, 8, 8, 8, 8, 8, 8, 8, 8, 8, 8, 8, 8, 8]⟩
theorem lenTab_at : ∀ j : Fin 256, (lenTab[j.val]?).map (·.toNat) = some (bitLen j.val) := by decide +kernel
theorem run_index_str (s : ByteArray) (k : Nat) (b : UInt8) (hs : s[k]? = some b) (w : World) : (Instr.index 9 (.string s) (.int .u8 k)).run Tryz.prog w = .ok (.int .u8 b.toNat) w := by
  simp [Instr.index, go_sem, hs]
theorem lenTab_run (k : Nat) (hk : k < 256) (w : World) : (Instr.index 9 (.string lenTab) (.int .u8 k)).run Tryz.prog w = .ok (.int .u8 (bitLen k : Nat)) w := by
  have h := lenTab_at ⟨k, hk⟩
  cases hb : lenTab[k]? with
  | none => rw [show (⟨k, hk⟩ : Fin 256).val = k from rfl, hb] at h; cases h
  | some b =>
    rw [show (⟨k, hk⟩ : Fin 256).val = k from rfl, hb] at h
    simp at h
    rw [run_index_str lenTab k b hb w, h]
attribute [local irreducible] lenTab
theorem blen_small (n : Nat) (hn : n < 256) (w : World) : Calls Tryz.prog 70 #[.int .u64 n] w fun e w' => e = .returned (.int .i64 (bitLen n : Nat)) ∧ w' = w := by
  have HT := fun w => lenTab_run n (by omega) w
  have hb8 := bitLen_le8 n (by omega)
  generalize bitLen n = b at *
  have h1 : ¬ (4294967296 : Int) ≤ (n : Int) := by omega
  have h2 : ¬ (65536 : Int) ≤ (n : Int) := by omega
  have h3 : ¬ (256 : Int) ≤ (n : Int) := by omega
  go_enter Tryz.func70, Tryz.ntmps70
  generalize hS : (Value.string _) = S
  have hS2 : S = .string lenTab := by rw [← hS]; unfold lenTab; kernel_rfl
  clear hS
  subst hS2
  go_upto_region 10 with fail
  go_wp2_with fail
  go_ret
  exact ⟨rfl, rfl⟩
theorem blen_mid (n : Nat) (hn : 256 ≤ n) (hn2 : n < 65536) (w : World) : Calls Tryz.prog 70 #[.int .u64 n] w fun e w' => e = .returned (.int .i64 (bitLen n : Nat)) ∧ w' = w := by
  have HT := fun w => lenTab_run (n / 256) (by omega) w
  have hb8 := bitLen_le8 (n / 256) (by omega)
  have he : bitLen n = 8 + bitLen (n / 256) := bitLen_shift n 8 (by simp; omega)
  rw [he]
  clear he
  generalize bitLen (n / 256) = b at *
  have h1 : ¬ (4294967296 : Int) ≤ (n : Int) := by omega
  have h2 : ¬ (65536 : Int) ≤ (n : Int) := by omega
  have h3 : (256 : Int) ≤ (n : Int) := by omega
  go_enter Tryz.func70, Tryz.ntmps70
  generalize hS : (Value.string _) = S
  have hS2 : S = .string lenTab := by rw [← hS]; unfold lenTab; kernel_rfl
  clear hS
  subst hS2
  go_upto_region 10 with fail
  have ex : (n : Int) / 256 = ((n / 256 : Nat) : Int) := by omega
  have hxb : n / 256 < 256 := by omega
  rw [ex]
  clear ex
  generalize n / 256 = x at *
  go_wp2_with fail
  go_ret
  exact ⟨by first | rfl | trace_state, rfl⟩
theorem blen_big (n : Nat) (hn : 65536 ≤ n) (hn2 : n ≤ 4194304) (w : World) : Calls Tryz.prog 70 #[.int .u64 n] w fun e w' => e = .returned (.int .i64 (bitLen n : Nat)) ∧ w' = w := by
  have HT := fun w => lenTab_run (n / 65536) (by omega) w
  have hb8 := bitLen_le8 (n / 65536) (by omega)
  have he : bitLen n = 16 + bitLen (n / 65536) := bitLen_shift n 16 (by simp; omega)
  rw [he]
  clear he
  generalize bitLen (n / 65536) = b at *
  have h1 : ¬ (4294967296 : Int) ≤ (n : Int) := by omega
  have h2 : (65536 : Int) ≤ (n : Int) := by omega
  have h3 : ¬ (256 : Int) ≤ ((n / 65536 : Nat) : Int) := by omega
  go_enter Tryz.func70, Tryz.ntmps70
  generalize hS : (Value.string _) = S
  have hS2 : S = .string lenTab := by rw [← hS]; unfold lenTab; kernel_rfl
  clear hS
  subst hS2
  go_upto_region 10 with fail
  have ex : (n : Int) / 65536 = ((n / 65536 : Nat) : Int) := by omega
  have hxb : n / 65536 < 256 := by omega
  rw [ex]
  clear ex
  generalize n / 65536 = x at *
  go_wp2_with fail
  go_ret
  exact ⟨by first | rfl | trace_state, rfl⟩
theorem blen64_any (n : Nat) (hn : n ≤ 4194304) (w : World) : Calls Tryz.prog 70 #[.int .u64 n] w fun e w' => e = .returned (.int .i64 (bitLen n : Nat)) ∧ w' = w := by
  by_cases h1 : n < 256
  · exact blen_small n h1 w
  · by_cases h2 : n < 65536
    · exact blen_mid n (by omega) h2 w
    · exact blen_big n (by omega) hn w
theorem bitlen_any (n : Nat) (hn : n ≤ 4194304) (w : World) : Calls Tryz.prog 41 #[.int .u64 n] w fun e w' => e = .returned (.int .i64 (bitLen n : Nat)) ∧ w' = w := by
  go_enter Tryz.func41, Tryz.ntmps41
  go_wp2_with fail
  refine (blen64_any n hn w).mono ?_
  rintro e w1 ⟨rfl, rfl⟩
  go_wp2
  go_ret
  exact ⟨rfl, rfl⟩
theorem bitLen_lev {n : Nat} (h0 : 1 ≤ n) (h1 : n ≤ 4194304) : (1 ≤ bitLen n ∧ bitLen n ≤ 23) ∧ (n : Int) < 2 ^ bitLen n ∧ ∀ i : Nat, i < bitLen n → (2 : Int) ^ i ≤ n := by
  obtain ⟨s1, s2⟩ := bitLen_spec n
  have s2 := s2 (by omega)
  have h3 : 1 ≤ bitLen n := by
    rcases Nat.lt_or_ge 0 (bitLen n) with h | h
    · exact h
    · have : bitLen n = 0 := by omega
      rw [this] at s1; simp at s1; omega
  have h4 : bitLen n ≤ 23 := by
    rcases Nat.lt_or_ge 23 (bitLen n) with h | h
    · have : 2 ^ 23 ≤ 2 ^ (bitLen n - 1) := Nat.pow_le_pow_right (by decide) (by omega)
      have : (2 : Nat) ^ 23 = 8388608 := by decide
      omega
    · exact h
  refine ⟨⟨h3, h4⟩, by exact_mod_cast s1, fun i hi => ?_⟩
  have : 2 ^ i ≤ 2 ^ (bitLen n - 1) := Nat.pow_le_pow_right (by decide) (by omega)
  have : 2 ^ i ≤ n := by omega
  exact_mod_cast this
end Go.Proofs.YtlmdjghcmofdlaaGreat
namespace Go.Proofs.YtlmdjghcmofdlaaGreat
open Go.RowKit
set_option linter.unusedVariables false
abbrev fcells (d : Option Addr) : Array Value := #[.slice none 0 0, .slice none 0 0, .pointer d, .slice none 0 0, .slice none 0 0, .slice none 0 0, .slice none 0 0, .map none, .map none, .map none, .map none, .map none]
def ptrL (Bl : List Nat) : List Value := Bl.map fun b => .pointer (some ⟨b, 0, none⟩)
structure Nw (w wr : World) (d : Option Addr) (n : Int) (B M bB : Nat) (rv : Value) (Bl : List Nat) : Prop where
  blk : Blk wr B 58 #[.int .i64 n, rv, .map (some M), .pointer (some ⟨bB, 0, none⟩), .int .i64 0, .slice none 0 0, .int .i64 0, .slice none 0 0]
  map : MapV Tryz.prog 3 eg0 (fun i : Int => Value.int .i64 i) B64 wr M (fun _ => none) 0
  bag : BgM wr (fun g => g = bB) bB bg0 0
  row : RowW wr 59 1 rv Bl.length (ptrL Bl)
  fs : ∀ b ∈ Bl, Blk wr b 99 (fcells d)
  nd : Bl.Nodup
  ne : B ≠ M ∧ B ≠ bB ∧ M ≠ bB
  ne2 : ∀ b ∈ Bl, b ≠ B ∧ b ≠ M ∧ b ≠ bB
  ne3 : ∀ q, rv.ownBlock = some q → (q ≠ B ∧ q ≠ M ∧ q ≠ bB ∧ q ∉ Bl) ∧ w.heap.size ≤ q
  lo : w.heap.size ≤ B ∧ w.heap.size ≤ M ∧ w.heap.size ≤ bB ∧ ∀ b ∈ Bl, w.heap.size ≤ b
  bl : Below w.heap.size w wr
theorem Nw.push {w wr w1 w2 w3 : World} {d : Option Addr} {n : Int} {B M bB b : Nat} {rv : Value} {Bl : List Nat} {ao : Option Addr} {cap : Nat} (h : Nw w wr d n B M bB rv Bl) (h1 : Below wr.heap.size wr w1) (hB : wr.heap.size ≤ b) (hb : Blk w1 b 99 (fcells d)) (h2 : Below w1.heap.size w1 w2)
    (hrow : RowW w3 59 1 (.slice ao (Bl.length + 1) cap) (Bl.length + 1) (ptrL Bl ++ [.pointer (some ⟨b, 0, none⟩)])) (hg : w2.grownBy w3 rv.ownBlock) (hq : ∀ q, (Value.slice ao (Bl.length + 1) cap).ownBlock = some q → rv.ownBlock = some q ∨ w2.heap.size ≤ q) :
    Nw w (w3.setCell ⟨B, 1, none⟩ (.slice ao (Bl.length + 1) cap)) d n B M bB (.slice ao (Bl.length + 1) cap) (Bl ++ [b]) := by
  have s1 := h1.size
  have s2 := h2.size
  have hb1 := hb.lt
  have own : ∀ q, rv.ownBlock = some q → q < wr.heap.size := fun q hq => h.row.lt hq
  have k3 : ∀ k, k < wr.heap.size → rv.ownBlock ≠ some k → w3.heap[k]? = wr.heap[k]? := fun k hk hne => (hg.block k (by omega) (Ne.symm hne)).trans ((h2.block k (by omega)).trans (h1.block k hk))
  have k4 : ∀ k, k ≠ B → (w3.setCell ⟨B, 1, none⟩ (.slice ao (Bl.length + 1) cap)).heap[k]? = w3.heap[k]? := fun k hk => Below.heap_setCell w3 ⟨B, 1, none⟩ _ k hk
  have nB : rv.ownBlock ≠ some B := fun e => (h.ne3 B e).1.1 rfl
  have hBl := h.blk.lt
  have keep : ∀ k, k < wr.heap.size → k ≠ B → rv.ownBlock ≠ some k → (w3.setCell ⟨B, 1, none⟩ (.slice ao (Bl.length + 1) cap)).heap[k]? = wr.heap[k]? := fun k hk h1 h2 => (k4 k h1).trans (k3 k hk h2)
  have bnew : rv.ownBlock ≠ some b := fun e => by have := own b e; omega
  have b3 : w3.heap[b]? = w1.heap[b]? := (hg.block b (by omega) (Ne.symm bnew)).trans (h2.block b hb1)
  have bB' : b ≠ B := by omega
  have sz : wr.heap.size ≤ (w3.setCell ⟨B, 1, none⟩ (.slice ao (Bl.length + 1) cap)).heap.size := by rw [size_setCell]; have := hg.size; omega
  have hMl := h.map.lt
  have hbBl := h.bag.lt bB rfl
  have hlen : (Bl ++ [b]).length = Bl.length + 1 := by simp
  have hbn : b ∉ Bl := fun k => by have := (h.fs b k).lt; omega
  refine ⟨?_, h.map.kept (keep M hMl h.ne.1.symm (fun e => (h.ne3 M e).1.2.1 rfl)), h.bag.kept (fun k hk => by subst hk; exact keep _ hbBl h.ne.2.1.symm (fun e => (h.ne3 _ e).1.2.2.1 rfl)) sz, ?_, fun x hx => ?_, ?_, h.ne, fun x hx => ?_, fun q hqq => ?_, ⟨h.lo.1, h.lo.2.1, h.lo.2.2.1, fun x hx => ?_⟩, ?_⟩
  · have := Blk.setAt ((k3 B hBl nB).trans h.blk) 1 (.slice ao (Bl.length + 1) cap)
    simpa using this
  · rw [hlen]
    have e : ptrL (Bl ++ [b]) = ptrL Bl ++ [.pointer (some ⟨b, 0, none⟩)] := by simp [ptrL]
    rw [e]
    refine hrow.kept fun q hqq => k4 q ?_
    rcases hq q hqq with e | e
    · exact (h.ne3 q e).1.1
    · omega
  · rcases List.mem_append.1 hx with hx | hx
    · exact (keep x (h.fs x hx).lt (h.ne2 x hx).1 (fun e => (h.ne3 x e).1.2.2.2 hx)).trans (h.fs x hx)
    · simp at hx; subst hx
      exact (k4 x bB').trans (b3.trans hb)
  · exact List.nodup_append.2 ⟨h.nd, by simp, fun x hx y hy e => by simp at hy; subst hy; subst e; exact hbn hx⟩
  · rcases List.mem_append.1 hx with hx | hx
    · exact h.ne2 x hx
    · simp at hx; subst hx; exact ⟨bB', by omega, by omega⟩
  · have hlo := h.lo
    rcases hq q hqq with e | e
    · obtain ⟨⟨a1, a2, a3, a4⟩, a5⟩ := h.ne3 q e
      exact ⟨⟨a1, a2, a3, fun k => by
        rcases List.mem_append.1 k with k | k
        · exact a4 k
        · simp at k; have := own q e; omega⟩, a5⟩
    · have hbs := h.bl.size
      exact ⟨⟨by omega, by omega, by omega, fun k => by
        rcases List.mem_append.1 k with k | k
        · have := (h.fs q k).lt; omega
        · simp at k; omega⟩, by omega⟩
  · rcases List.mem_append.1 hx with hx | hx
    · exact h.lo.2.2.2 x hx
    · simp at hx; subst hx; have := h.bl.size; omega
  · have hbs := h.bl.size
    refine Below.setCell (p := ⟨B, 1, none⟩) ⟨hg.os.trans (h2.os.trans (h1.os.trans h.bl.os)), hg.tape.trans (h2.tape.trans (h1.tape.trans h.bl.tape)), hg.output.trans (h2.output.trans (h1.output.trans h.bl.output)), by have := hg.size; omega, fun k hk => (k3 k (by omega) (fun e => by have := (h.ne3 k e).2; omega)).trans (h.bl.block k hk)⟩ h.lo.1 _
def Dw (W : World) (d : Option Addr) (dr : Option (Nat × Nat × List Int)) : Prop := (d = none ∧ dr = none) ∨ ∃ D Dg xs, d = some ⟨D, 0, none⟩ ∧ dr = some (D, Dg, xs) ∧ Drw W D Dg xs 0
theorem fv0 (dr : Option (Nat × Nat × List Int)) : Fv (fo0.wd dr) (fun _ => False) (fun _ => False) :=
  ⟨[], [], ⟨rel0.eu, rel0.vnd, rel0.esd, rel0.vin, rel0.vno, rel0.vall, rel0.ein, rel0.eno, rel0.eall, rel0.z⟩, fun x => by simp, fun y => by simp⟩
def g00 (n : Int) (m : Nat) : Gs := ⟨n, m, fun _ _ => False, fun _ _ => False, fun _ => none, 0, bg0, 0, [], 0, []⟩
theorem nm0 {W : World} {B o : Nat} (h0 : W.cell? ⟨B, o, none⟩ = some (.int .i64 0)) (h1 : W.cell? ⟨B, o + 1, none⟩ = some (.slice none 0 0)) : Nm W B o 0 (.slice none 0 0) [] :=
  ⟨h0, ⟨h1, RowW.empty _ _ _, fun e => by cases e⟩, ⟨fun i _ hi => by simp at hi, List.nodup_nil, fun x hx => (by cases hx), Int.le_refl _⟩⟩
theorem Nw.gm {w wr : World} {d : Option Addr} {dr : Option (Nat × Nat × List Int)} {n : Int} {B M bB : Nat} {rv : Value} {Bl : List Nat} (h : Nw w wr d n B M bB rv Bl) (hd : Dw w d dr) :
    Gm ⟨rv, fun i => Bl.getD i 0, M, bB, dr⟩ wr (fun k => k = B ∨ k = M ∨ k = bB ∨ rv.ownBlock = some k ∨ k ∈ Bl ∨ Shd dr k) B (g00 n Bl.length) 0 := by
  classical
  have hdl : ∀ k, Shd dr k → k < w.heap.size := fun k ⟨D, Dg, xs, e, hk⟩ => by
    rcases hd with ⟨_, e2⟩ | ⟨D', Dg', xs', _, e2, e3⟩
    · rw [e] at e2; cases e2
    · rw [e] at e2; cases e2
      rcases hk with rfl | rfl
      · exact e3.lt
      · exact e3.gl
  have hbs := h.bl.size
  have hlo := h.lo
  have hne := h.ne
  obtain ⟨c, hc⟩ : ∃ c : Nat → Nat, c = fun k => if k = B then 0 else if k = M then 2 else if k = bB then 5 else if rv.ownBlock = some k then 1 else if Shd dr k then 6 else 7 + Bl.idxOf k := ⟨_, rfl⟩
  have hget : ∀ i, i < Bl.length → Bl.getD i 0 ∈ Bl := fun i hi => by rw [List.getD_eq_getElem?_getD, List.getElem?_eq_getElem hi]; exact List.getElem_mem hi
  refine ⟨c, .slice none 0 0, .slice none 0 0, fun i k => k = Bl.getD i 0 ∨ Shd dr k, fun k => k = bB, ⟨h.blk, ?_, fun i hi => ?_, h.map.congr (fun a _ => rfl), h.bag, ?_, ?_, ⟨.inl rfl, by rw [hc]; exact if_pos rfl⟩, fun k hk => ⟨.inr (.inr (.inr (.inl hk))), ?_⟩, ⟨.inr (.inl rfl), ?_⟩, fun k hk => (by cases hk), fun k hk => (by cases hk), fun k hk => ⟨.inr (.inr (.inl hk)), ?_⟩, fun i k hi hk => ?_, fun k hk => ?_⟩⟩
  · have e : ptrs (⟨rv, fun i => Bl.getD i 0, M, bB, dr⟩ : Gp) Bl.length = ptrL Bl := by
      unfold ptrs ptrL
      apply List.ext_getElem
      · simp
      · intro i h1 h2
        simp at h1
        simp [h1]
    show RowW wr _ 1 rv Bl.length (ptrs _ Bl.length)
    rw [e]
    exact h.row
  · have hi' : i < Bl.length := hi
    have hm := hget i hi'
    have hkk : w.heap.size ≤ Bl.getD i 0 := hlo.2.2.2 _ hm
    refine ⟨0, fo0.wd dr, Fd.freshD (h.fs _ hm) (.inl rfl) (fun k hk => ?_) ?_, rfl, ⟨fo0_wf.t, fo0_wf.nv, fo0_wf.ne, fo0_wf.vb, fo0_wf.eb⟩, fv0 dr⟩
    · rcases hk with rfl | hk
      · exact (h.fs _ hm).lt
      · have := hdl k hk; omega
    · rcases hd with ⟨e1, e2⟩ | ⟨D, Dg, xs, e1, e2, e3⟩
      · exact .inl ⟨e1, e2⟩
      · have l1 := e3.lt
        have l2 := e3.gl
        exact .inr ⟨D, Dg, xs, 0, e1, e3.kept (h.bl.block D l1) (h.bl.block Dg l2) hbs, Nat.le_refl _, .inr ⟨D, Dg, xs, e2, .inl rfl⟩, .inr ⟨D, Dg, xs, e2, .inr rfl⟩, fun e => by have e' : D = Bl.getD i 0 := e; omega, fun e => by have e' : Dg = Bl.getD i 0 := e; omega, fun q hq => by rw [e2] at hq; exact (Option.some.inj hq).symm⟩
  · exact nm0 (h.blk.at (j := 4) rfl) (h.blk.at (j := 5) rfl)
  · exact nm0 (h.blk.at (j := 6) rfl) (h.blk.at (j := 7) rfl)
  · obtain ⟨⟨a1, a2, a3, a4⟩, a5⟩ := h.ne3 k hk
    rw [hc]
    show (if k = B then _ else _) = 1
    rw [if_neg a1, if_neg a2, if_neg a3, if_pos hk]
  · rw [hc]
    show (if M = B then _ else _) = 2
    rw [if_neg hne.1.symm, if_pos rfl]
  · subst hk
    rw [hc]
    show (if k = B then _ else _) = 5
    rw [if_neg hne.2.1.symm, if_neg hne.2.2.symm, if_pos rfl]
  · have hi' : i < Bl.length := hi
    have hm := hget i hi'
    rcases hk with hk | hk
    · obtain ⟨a1, a2, a3⟩ := h.ne2 _ hm
      refine ⟨.inr (.inr (.inr (.inr (.inl (by rw [hk]; exact hm))))), .inl ?_⟩
      rw [hc, hk]
      show (if Bl.getD i 0 = B then _ else _) = 7 + i
      rw [if_neg a1, if_neg a2, if_neg a3, if_neg (fun e => (h.ne3 _ e).1.2.2.2 hm), if_neg (fun e => by have := hdl _ e; have := hlo.2.2.2 _ hm; omega)]
      congr 1
      rw [List.getD_eq_getElem?_getD, List.getElem?_eq_getElem hi']
      exact h.nd.idxOf_getElem i hi'
    · have hl := hdl k hk
      refine ⟨.inr (.inr (.inr (.inr (.inr hk)))), .inr ⟨?_, hk⟩⟩
      rw [hc]
      show (if k = B then _ else _) = 6
      rw [if_neg (by omega), if_neg (by omega), if_neg (by omega), if_neg (fun e => by have := (h.ne3 k e).2; omega), if_pos hk]
  · rcases hk with rfl | rfl | rfl | hk | hk | hk
    · exact h.blk.lt
    · exact h.map.lt
    · exact h.bag.lt _ rfl
    · exact h.row.lt hk
    · exact (h.fs k hk).lt
    · have := hdl k hk; omega
theorem infoPF : (Tryz.prog.info? 59).map (fun i => (i.zero, i.size, i.bytes)) = some (some (.pointer none), 1, 8) := by kernel_rfl
theorem lnew_no (d : Option Addr) (n : Int) (w : World) (h : n < 1 ∨ 4194304 < n) : Calls Tryz.prog 21 #[.pointer d, .int .i64 n] w fun e w' => e = .returned (.tuple #[.pointer none, .int .i64 1]) ∧ w' = w := by
  by_cases h1 : n < 1
  · go_enter Tryz.func21, Tryz.ntmps21
    go_wp2
    go_ret2
    exact ⟨rfl, rfl⟩
  · have h2 : 4194304 < n := by omega
    go_enter Tryz.func21, Tryz.ntmps21
    go_wp2
    go_ret2
    exact ⟨rfl, rfl⟩
theorem lnew_yes (d : Option Addr) (n : Nat) (w : World) (h0 : 1 ≤ n) (h1 : n ≤ 4194304) : Calls Tryz.prog 21 #[.pointer d, .int .i64 n] w fun e w' => ∃ B M bB rv Bl, e = .returned (.tuple #[.pointer (some ⟨B, 0, none⟩), .int .i64 0]) ∧ Bl.length = bitLen n ∧ Nw w w' d n B M bB rv Bl := by
  have hmm := @run_makeMap Tryz.prog
  obtain ⟨i0, hi, hz0, hz1, hz2⟩ := info_parts infoPF
  obtain ⟨⟨b1, b2⟩, _, _⟩ := bitLen_lev h0 h1
  have HM := MapV.made KE w
  obtain ⟨w1, hw1⟩ : ∃ w1, w1 = w.alloc (.map #[] 0) := ⟨_, rfl⟩
  rw [← hw1] at HM
  have hb1 : Below w.heap.size w w1 := by rw [hw1]; exact (Below.refl _ _).alloc (Nat.le_refl _) _
  have hs1 : w1.heap.size = w.heap.size + 1 := by rw [hw1]; simp
  have HN : Hid (∀ w2, BgM w2 (fun g => g = w1.heap.size) w1.heap.size bg0 0 → Below w1.heap.size w1 w2 → Nw w (w2.alloc (.cells #[.int .i64 n, .slice none 0 0, .map (some w.heap.size), .pointer (some ⟨w1.heap.size, 0, none⟩), .int .i64 0, .slice none 0 0, .int .i64 0, .slice none 0 0] 58)) d n w2.heap.size w.heap.size w1.heap.size (.slice none 0 0) []) := fun w2 hbg hb2 => by
    have s2 := hb2.size
    have hl := hbg.lt _ rfl
    have ha := (Below.refl w2.heap.size w2).alloc (Nat.le_refl _) (.cells #[.int .i64 n, .slice none 0 0, .map (some w.heap.size), .pointer (some ⟨w1.heap.size, 0, none⟩), .int .i64 0, .slice none 0 0, .int .i64 0, .slice none 0 0] 58)
    refine ⟨Blk.new w2 _ _, (HM.kept (hb2.block _ HM.lt)).kept (ha.block _ (by omega)), hbg.kept (fun k hk => ha.block k (by omega)) ha.size, RowW.empty _ _ _, fun b hb => (by cases hb), List.nodup_nil, ⟨by omega, by omega, by omega⟩, fun b hb => (by cases hb), fun q hq => (by cases hq), ⟨by omega, by omega, by omega, fun b hb => (by cases hb)⟩, ?_⟩
    exact below_step (below_step hb1 hb2 (Nat.le_refl _)) ha (Nat.le_refl _)
  have HW := mkH hw1.symm
  clear HM hb1 hs1 hw1
  go_enter Tryz.func21, Tryz.ntmps21
  go_wp2_with fail
  rw [HW.out]
  refine (bnew_any w1).mono ?_
  rintro e w2 ⟨rfl, hbg, hb2⟩
  have HN2 := mkH (HN.out w2 hbg hb2)
  clear hbg hb2 HN
  go_wp2_with fail
  refine (bitlen_any n h1 _).mono ?_
  rintro e w3 ⟨rfl, rfl⟩
  obtain ⟨m, hmb⟩ : ∃ m, m = bitLen n := ⟨_, rfl⟩
  have HMB := mkH hmb
  rw [← hmb]
  rw [← hmb] at b1 b2
  clear hmb
  generalize w2.alloc (.cells #[.int .i64 n, .slice none 0 0, .map (some w.heap.size), .pointer (some ⟨w1.heap.size, 0, none⟩), .int .i64 0, .slice none 0 0, .int .i64 0, .slice none 0 0] 58) = wo at *
  generalize hB : w2.heap.size = B at *
  generalize hbB : w1.heap.size = bB at *
  clear hB hbB
  go_wp2
  go_loopw [21] (fun v wr => ∃ (k : Nat) (rv : Value) (Bl : List Nat), k ≤ m ∧ v = .int .i64 k ∧ Hid (Bl.length = k) ∧ Hid (Nw w wr d n B w.heap.size bB rv Bl)) (fun v _ => m - (intOf v).toNat)
  case atStart => exact ⟨0, _, [], by omega, rfl, rfl, HN2⟩
  case round =>
    clear HN2
    obtain ⟨k, rv, Bl, hk, rfl, HL, HNw⟩ := hrel
    by_cases hlt : k < m
    · have hrow := HNw.out.row
      obtain ⟨ao, cap, hrv⟩ := hrow.form
      rw [HL.out] at hrv
      subst hrv
      have hX := HNw.out
      have hBl := hX.blk.lt
      have c1 : wr.drew.cell? ⟨B, 1, none⟩ = some (.slice ao k cap) := by have := hX.blk.at (j := 1) rfl; simpa using this
      have nB : (Value.slice ao k cap).ownBlock ≠ some B := fun e => (hX.ne3 B e).1.1 rfl
      have own : ∀ q, (Value.slice ao k cap).ownBlock = some q → q < wr.heap.size := fun q hq => hX.row.lt hq
      have HR : Hid (∀ W, Below wr.heap.size wr W → RowW W 59 1 (.slice ao k cap) k (ptrL Bl)) := fun W hb => by
        have h := hX.row
        rw [HL.out] at h
        exact h.kept (fun q hq => hb.block q (own q hq))
      have HP : Hid (∀ w5 w7 b ao4 cap4, Below wr.heap.size wr w5 → wr.heap.size ≤ b → Blk w5 b 99 (fcells d) → RowW w7 59 1 (.slice ao4 (k + 1) cap4) (k + 1) (ptrL Bl ++ [.pointer (some ⟨b, 0, none⟩)]) → (w5.alloc (.cells #[.pointer (some ⟨b, 0, none⟩)] 59)).grownBy w7 (Value.slice ao k cap).ownBlock → (∀ q, (Value.slice ao4 (k + 1) cap4).ownBlock = some q → (Value.slice ao k cap).ownBlock = some q ∨ (w5.alloc (.cells #[.pointer (some ⟨b, 0, none⟩)] 59)).heap.size ≤ q) → Nw w (w7.setCell ⟨B, 1, none⟩ (.slice ao4 (k + 1) cap4)) d n B w.heap.size bB (.slice ao4 (k + 1) cap4) (Bl ++ [b])) := fun w5 w7 b ao4 cap4 q1 q2 q3 q4 q5 q6 => by
        have h := hX.push (b := b) (ao := ao4) (cap := cap4) (w3 := w7) q1 q2 q3 ((Below.refl _ _).alloc (Nat.le_refl _) (.cells #[.pointer (some ⟨b, 0, none⟩)] 59)) (by rw [HL.out]; exact q4) q5 (by rw [HL.out]; exact q6)
        rw [HL.out] at h
        exact h
      have HC7 : Hid (∀ w5 w7 b, Below wr.heap.size wr w5 → (w5.alloc (.cells #[.pointer (some ⟨b, 0, none⟩)] 59)).grownBy w7 (Value.slice ao k cap).ownBlock → w7.cell? ⟨B, 1, none⟩ = some (.slice ao k cap) ∧ w7.frozen? ⟨B, 1, none⟩ = false) := fun w5 w7 b q1 q2 => by
        have e1 : w7.heap[B]? = wr.heap[B]? := (q2.block B (by simp; have := q1.size; omega) (Ne.symm nB)).trans ((heap_alloc_old w5 _ B (by have := q1.size; omega)).trans (q1.block B hBl))
        have hb7 : Blk w7 B 58 _ := e1.trans hX.blk
        exact ⟨by have := hb7.at (j := 1) rfl; simpa using this, hb7.frozen 1⟩
      have HC5 : Hid (∀ w5, Below wr.heap.size wr w5 → w5.cell? ⟨B, 1, none⟩ = some (.slice ao k cap)) := fun w5 q1 => (q1.cell (p := ⟨B, 1, none⟩) hBl).trans c1
      have HD0 : Hid (Below wr.heap.size wr wr.drew) := (Below.refl _ _).drew
      have Hm : Hid (m ≤ 23) := b2
      clear hX hrow nB own HNw
      go_wp2
      go_region_law (first
          | (go_simp; refine (fonew_any d _).mono ?_; rintro e w5 ⟨b, rfl, hbB, hbk, hb5⟩; have hb5' := HD0.out.trans hb5; have c5 := HC5.out _ hb5'; have c5' := HC5.out _ (hb5'.alloc (by exact hb5'.size) (.cells #[.pointer (some ⟨b, 0, none⟩)] 59)))
          | (refine step_append_any _ (by rfl) (.tmp 27) (.tmp 30) 48 (by rfl) 59 i0 (.pointer none) 1 8 Tryz.underlying48 hi hz0 hz1 hz2 rfl (.slice ao k cap) k (ptrL Bl) (by rfl) (HR.out _ (hb5'.alloc (by exact hb5'.size) _)) (.slice (some ⟨w5.heap.size, 0, none⟩) 1 1) 1 [.pointer (some ⟨b, 0, none⟩)] (by rfl) (SrcW.new w5 _ [.pointer (some ⟨b, 0, none⟩)] (by simp [Value.oneCell'])) (k + 1) (by omega) (ptrL Bl ++ [.pointer (some ⟨b, 0, none⟩)]) rfl (by unfold maxLen; omega) (by omega) ?_; intro ao4 cap4 w7 hown4 hgrow4 hat4; have f7 := (HC7.out _ _ _ hb5' hgrow4).2; have c7 := (HC7.out _ _ _ hb5' hgrow4).1)
          | skip)
      all_goals (have HN4 := mkH (HP.out w5 w7 b ao4 cap4 hb5' hbB hbk hown4 hgrow4 (by intro q hq; exact hat4 q hq)))
      all_goals (have HL4 : Hid ((Bl ++ [b]).length = k + 1) := by show _ = _; rw [List.length_append, HL.out]; rfl)
      all_goals clear hb5' hbB hbk hown4 hgrow4 hat4 HP HC7 HC5 HD0 HR c1 c5 c5' c7 f7 hb5
      all_goals go_wp2
      all_goals go_roundw
      all_goals (first | exact ⟨k + 1, _, _, by omega, by go_num, HL4, HN4⟩ | (simp [intOf]; omega))
    · obtain rfl : k = m := by omega
      have HF := mkH HNw.out
      have HLL := mkH HL.out
      clear HNw HL
      go_wp2
      go_ret2
      exact ⟨B, _, bB, rv, Bl, rfl, HLL.out.trans HMB.out, HF.out⟩
structure Lv (p : Gp) (W : World) (F : Nat → Prop) (B : Nat) (g : Gs) (K : Nat) (V : List Int) (sv lv : Int → Int) (D : List Int) (T : Nat) : Prop where
  gm : Gm p W F B g K
  gi : Gi g (fun v => v ∈ V) sv lv (fun _ => False) eg00 0
  rest : Rest g.E V g.n g.m
  n : (1 ≤ g.n ∧ g.n ≤ 4194304) ∧ g.n < 2 ^ g.m
  vnd : V.Nodup
  vlen : (V.length : Int) ≤ g.n
  vt : ∀ t, Tk g.vl g.vb t ↔ t ∈ V
  vc : g.vl - g.vb.length = V.length
  et : ∀ t, Tk g.el g.eb t ↔ ∃ x, g.E t = some x
  ec : g.el - g.eb.length = g.ne
  bd : g.vl ≤ T ∧ g.vb.length ≤ T ∧ g.el ≤ T ∧ g.eb.length ≤ T
  tb : T ≤ 200
  ok : ∀ v ∈ V, okSL (sv v) (lv v) = true
  dn : D.Nodup
  dd : ∀ e x, g.E e = some x → e ∈ D
  pk : K + 3 * potL g.E g.m D ≤ 140 * T + 10
def Ls (p : Gp) (W : World) (F : Nat → Prop) (B : Nat) (g : Gs) (V : List Int) (sv lv : Int → Int) (T : Nat) : Prop := ∃ K D, Lv p W F B g K V sv lv D T
section
variable {p : Gp} {w w' : World} {F : Nat → Prop} {B : Nat} {g : Gs} {K : Nat} {V : List Int} {sv lv : Int → Int} {D : List Int} {T : Nat}
theorem Lv.with (h : Lv p w F B g K V sv lv D T) {w' : World} {F' : Nat → Prop} (hg : Gm p w' F' B g K) : Lv p w' F' B g K V sv lv D T := { h with gm := hg }
theorem Ls.below (h : Ls p w F B g V sv lv T) (hb : Below w.heap.size w w') : Ls p w' F B g V sv lv T := by
  obtain ⟨K, D, h⟩ := h
  exact ⟨K, D, h.with (h.gm.below hb)⟩
theorem Ls.step {F' F1 : Nat → Prop} (h : Ls p w F B g V sv lv T) (hb : Step F' F1 w w') (hd : ∀ k, F k → ¬ F' k) : Ls p w' F B g V sv lv T := by
  obtain ⟨K, D, h⟩ := h
  exact ⟨K, D, h.with (h.gm.step hb hd)⟩
theorem Lv.later (h : Lv p w F B g K V sv lv D T) {K' : Nat} (hg : Gm p w' F B g K') (hK : K' ≤ K + 100) (hT : T + 1 ≤ 200) : Lv p w' F B g K' V sv lv D (T + 1) :=
  { h with gm := hg, bd := ⟨by have := h.bd; omega, by have := h.bd; omega, by have := h.bd; omega, by have := h.bd; omega⟩, tb := hT, pk := by have := h.pk; omega }
theorem Lv.kb (h : Lv p w F B g K V sv lv D T) : K ≤ 28010 := by have := h.pk; have := h.tb; omega
theorem Lv.vp (h : Lv p w F B g K V sv lv D T) (v : Int) : Vp (g.P 0) v ↔ v ∈ V := by
  rw [h.gi.p 0 h.gi.m.1, pf_vp]
  unfold VS
  rw [if_pos rfl]
theorem Lv.jq (h : Lv p w F B g K V sv lv D T) (a b : Int) : Jq (g.Q 0) a b ↔ Jn (Ae g.E) a b := by
  rw [h.gi.q 0 h.gi.m.1, qd_jq, h.rest.joins]; rfl
theorem Lv.b64 (h : Lv p w F B g K V sv lv D T) {v : Int} (hv : v ∈ V) : B64 v := h.gi.b64 hv
def HasE (E : EM) (v : Int) : Prop := ∃ e x, E e = some x ∧ (x.a = v ∨ x.b = v)
theorem Lv.hase (h : Lv p w F B g K V sv lv D T) (v : Int) : Hase (g.Q 0) v ↔ HasE g.E v := by
  constructor
  · intro k
    rw [h.gi.q 0 h.gi.m.1, qd_hase] at k
    obtain ⟨e, x, _, k2, _, _, k5⟩ := k
    exact ⟨e, x, k2, k5⟩
  · rintro ⟨e, x, k2, k5⟩
    exact h.gi.hase h.rest k2 k5
theorem Lv.fb (h : Lv p w F B g K V sv lv D T) : g.vl ≤ 100000 ∧ g.vb.length ≤ 100000 ∧ g.el ≤ 100000 ∧ g.eb.length ≤ 100000 ∧ g.ne ≤ 1000000 := by
  have := h.bd; have := h.tb; have := h.ec; omega
theorem tk_ext {a b : Int → Prop} (h : ∀ t, a t ↔ b t) {r : Int} (hr : Least a r) : Least b r := ⟨hr.1, fun k => hr.2.1 ((h r).2 k), fun t h1 h2 => (h t).1 (hr.2.2 t h1 h2)⟩
theorem Lv.vbd (h : Lv p w F B g K V sv lv D T) {r : Int} (hr : Least (Tk g.vl g.vb) r) : 1 ≤ r ∧ r ≤ 1000 := by
  have h1 := hr.1
  have hb := h.bd
  have ht := h.tb
  by_cases k : g.vl + 1 < r
  · have := (hr.2.2 (g.vl + 1) (by obtain ⟨c, vv, ev, Ff, Fb, hX⟩ := h.gm; have := hX.vn.p.l0; omega) k).2.1
    omega
  · omega
theorem Lv.ebd (h : Lv p w F B g K V sv lv D T) {r : Int} (hr : Least (Tk g.el g.eb) r) : 1 ≤ r ∧ r ≤ 1000 := by
  have h1 := hr.1
  have hb := h.bd
  have ht := h.tb
  by_cases k : g.el + 1 < r
  · have := (hr.2.2 (g.el + 1) (by obtain ⟨c, vv, ev, Ff, Fb, hX⟩ := h.gm; have := hX.en.p.l0; omega) k).2.1
    omega
  · omega
theorem ls_vertex (h : Ls p w F B g V sv lv T) (hT : T + 1 ≤ 200) (s l : Int) :
    Calls Tryz.prog 6 #[.pointer (some ⟨B, 0, none⟩), .int .i64 s, .int .i64 l] w fun e w' =>
      (g.n ≤ V.length ∧ e = .returned (.tuple #[.int .i64 0, .int .i64 6]) ∧ Below w.heap.size w w') ∨
      ((V.length : Int) < g.n ∧ okSL s l = false ∧ e = .returned (.tuple #[.int .i64 0, .int .i64 1]) ∧ Below w.heap.size w w') ∨
      ((V.length : Int) < g.n ∧ okSL s l = true ∧ ∃ r, e = .returned (.tuple #[.int .i64 r, .int .i64 0]) ∧ Least (fun t => t ∈ V) r ∧ ∃ F' g', Ls p w' F' B g' (V ++ [r]) (updI sv r s) (updI lv r l) (T + 1) ∧ Step F F' w w' ∧ g'.E = g.E ∧ g'.n = g.n ∧ g'.m = g.m) := by
  obtain ⟨K, D, h⟩ := h
  have hf := h.fb
  refine (vertex_any h.gm (by have := h.kb; omega) h.gi.m.1 s l hf.1 hf.2.1 ⟨h.n.1.2, h.n.1.1⟩).mono fun e w' H => ?_
  rw [h.vc] at H
  rcases H with ⟨a, b, c⟩ | ⟨a, b, c, d⟩ | ⟨a, b, r, c, d, F', vl', vb', q1, q2, q3, q4, q5, q6, q7⟩
  · exact .inl ⟨a, b, c⟩
  · exact .inr (.inl ⟨a, b, c, d⟩)
  · have hr := tk_ext h.vt d
    have hrb := h.vbd d
    refine .inr (.inr ⟨a, b, r, c, hr, F', _, ⟨_, D, ⟨q1, ?_, ?_, h.n, ?_, ?_, fun t => ?_, ?_, h.et, h.ec, ⟨?_, ?_, ?_, ?_⟩, hT, fun v hv => ?_, h.dn, h.dd, ?_⟩⟩, q2, rfl, rfl, rfl⟩)
    · exact (h.gi.vertG hr.2.1 ⟨hrb.1, by omega⟩ s l vl' vb').vals (fun v => by simp) (fun v _ => ⟨rfl, rfl⟩)
    · exact h.rest.verts fun e x he => by have := h.rest.v e x he; exact ⟨List.mem_append_left _ this.2.1, List.mem_append_left _ this.2.2⟩
    · exact List.nodup_append.2 ⟨h.vnd, by simp, fun x hx y hy e => by simp at hy; subst hy; subst e; exact hr.2.1 hx⟩
    · show ((V ++ [r]).length : Int) ≤ g.n
      simp; omega
    · show Tk vl' vb' t ↔ _
      rw [q3, h.vt]; simp
    · show vl' - (vb'.length : Int) = _
      simp; omega
    · show vl' ≤ _; have := h.bd; omega
    · show vb'.length ≤ _; have := h.bd; omega
    · show g.el ≤ _; have := h.bd; omega
    · show g.eb.length ≤ _; have := h.bd; omega
    · by_cases e : v = r
      · subst e; rw [updI_at, updI_at]; exact b
      · rw [updI_ne e, updI_ne e]
        rcases List.mem_append.1 hv with k | k
        · exact h.ok v k
        · simp at k; exact absurd k e
    · show K + 1 + 3 * potL g.E g.m D ≤ _
      have := h.pk; omega
theorem ls_drop (h : Ls p w F B g V sv lv T) (hT : T + 1 ≤ 200) (v : Int) (hb : B64 v) :
    Calls Tryz.prog 10 #[.pointer (some ⟨B, 0, none⟩), .int .i64 v] w fun e w' =>
      (v ∉ V ∧ e = .returned (.int .i64 4) ∧ Below w.heap.size w w') ∨
      (v ∈ V ∧ HasE g.E v ∧ e = .returned (.int .i64 13) ∧ ∃ F', Ls p w' F' B g V sv lv (T + 1) ∧ Step F F' w w') ∨
      (v ∈ V ∧ ¬ HasE g.E v ∧ e = .returned (.int .i64 0) ∧ ∃ F' g', Ls p w' F' B g' (V.filter fun u => decide (u ≠ v)) sv lv (T + 1) ∧ Step F F' w w' ∧ g'.E = g.E ∧ g'.n = g.n ∧ g'.m = g.m) := by
  obtain ⟨K, D, h⟩ := h
  have hf := h.fb
  refine (drop_any h.gm (by have := h.kb; omega) h.gi.m.1 v hb hf.2.1 (fun k => (h.vt v).2 ((h.vp v).1 k))).mono fun e w' H => ?_
  rw [h.vp, h.hase] at H
  rcases H with ⟨a, b, c⟩ | ⟨a, b, c, F', d1, d2⟩ | ⟨a, b, c, F', vb', q1, q2, q3, q4⟩
  · exact .inl ⟨a, b, c⟩
  · refine .inr (.inl ⟨a, b, c, F', ⟨K + 1, D, ?_⟩, d2⟩)
    exact { h with gm := d1, bd := ⟨by have := h.bd; omega, by have := h.bd; omega, by have := h.bd; omega, by have := h.bd; omega⟩, tb := hT, pk := by have := h.pk; omega }
  · have hne : ∀ e x, g.E e = some x → x.a ≠ v ∧ x.b ≠ v := fun e x he => ⟨fun k => b ⟨e, x, he, .inl k⟩, fun k => b ⟨e, x, he, .inr k⟩⟩
    have hfl : (V.filter fun u => decide (u ≠ v)).length + 1 = V.length := by
      have h1 := h.vnd.erase_eq_filter v
      have h2 := List.length_erase_of_mem a
      have h3 : V.erase v = V.filter fun u => decide (u ≠ v) := by
        rw [h1]; congr 1; funext u; by_cases e : u = v <;> simp [e]
      rw [h3] at h2
      have : 0 < V.length := List.length_pos_of_mem a
      omega
    have hmf : ∀ u, u ∈ (V.filter fun u => decide (u ≠ v)) ↔ u ∈ V ∧ u ≠ v := fun u => by simp [List.mem_filter]
    refine .inr (.inr ⟨a, b, c, F', _, ⟨_, D, ⟨q1, ?_, ?_, h.n, h.vnd.sublist List.filter_sublist, ?_, fun t => ?_, ?_, h.et, h.ec, ⟨?_, ?_, ?_, ?_⟩, hT, fun u hu => h.ok u ((hmf u).1 hu).1, h.dn, h.dd, ?_⟩⟩, q2, rfl, rfl, rfl⟩)
    · exact (h.gi.dropG (by rw [h.hase]; exact b) hne g.vl vb').vals (fun u => (hmf u).symm) (fun u _ => ⟨rfl, rfl⟩)
    · exact h.rest.verts fun e x he => by
        have := h.rest.v e x he
        have k := hne e x he
        exact ⟨(hmf _).2 ⟨this.2.1, k.1⟩, (hmf _).2 ⟨this.2.2, k.2⟩⟩
    · show (_ : Int) ≤ g.n
      have := h.vlen; omega
    · show Tk g.vl vb' t ↔ _
      rw [q3, h.vt, hmf]
    · show g.vl - (vb'.length : Int) = _
      have := h.vc; omega
    · show g.vl ≤ _; have := h.bd; omega
    · show vb'.length ≤ _; have := h.bd; omega
    · show g.el ≤ _; have := h.bd; omega
    · show g.eb.length ≤ _; have := h.bd; omega
    · show K + 1 + 3 * potL g.E g.m D ≤ _
      have := h.pk; omega
end
section
variable {p : Gp} {w w' : World} {F : Nat → Prop} {B : Nat} {g : Gs} {K : Nat} {V : List Int} {sv lv : Int → Int} {D : List Int} {T : Nat}
theorem ls_insert_no (h : Ls p w F B g V sv lv T) {a b : Int} (ha : B64 a) (hb : B64 b) (hno : a ∉ V ∨ b ∉ V ∨ a = b) :
    Calls Tryz.prog 7 #[.pointer (some ⟨B, 0, none⟩), .int .i64 a, .int .i64 b] w fun e w' => ((a ∈ V ∧ b ∈ V → e = .returned (.tuple #[.int .i64 0, .int .i64 1])) ∧ (¬ (a ∈ V ∧ b ∈ V) → e = .returned (.tuple #[.int .i64 0, .int .i64 4]))) ∧ Below w.heap.size w w' := by
  obtain ⟨K, D, h⟩ := h
  refine (insert_no h.gm h.gi.m.1 ha hb (by rw [h.vp, h.vp]; exact hno)).mono fun e w' H => ?_
  rw [h.vp, h.vp] at H
  exact H
theorem ls_insert (h : Ls p w F B g V sv lv T) (hT : T + 1 ≤ 200) {a b : Int} (ha : a ∈ V) (hb : b ∈ V) (hab : a ≠ b) :
    Calls Tryz.prog 7 #[.pointer (some ⟨B, 0, none⟩), .int .i64 a, .int .i64 b] w fun e w' => ∃ r, e = .returned (.tuple #[.int .i64 r, .int .i64 0]) ∧ Least (fun t => ∃ x, g.E t = some x) r ∧ ∃ F' g' t, Ls p w' F' B g' V sv lv (T + 1) ∧ Step F F' w w' ∧ g'.E = updQ g.E r (some ⟨a, b, 0, t⟩) ∧ g'.n = g.n ∧ g'.m = g.m ∧ (t = true ↔ ¬ Jn (Ae g.E) a b) := by
  obtain ⟨K, D, h⟩ := h
  have hf := h.fb
  have hkb := h.kb
  have hm := h.gi.m
  have hlo : ∀ v i e, e ∈ g.s.L (v, i) → ∃ x, g.E e = some x := fun v i e k => by obtain ⟨x, _, k2, _⟩ := (h.gi.lo v i e).1 k; exact ⟨x, k2⟩
  refine (insert_yes h.gm (by omega) hm.1 (h.b64 ha) (h.b64 hb) hab ((h.vp a).2 ha) ((h.vp b).2 hb) hf.2.2.2.2 (by omega) hf.2.2.2.1 (fun r hr => ?_)).mono ?_
  · have hrb := h.ebd hr
    have hno : ¬ ∃ x, g.E r = some x := fun k => hr.2.1 ((h.et r).2 k)
    have hE : g.E r = none := by
      cases k : g.E r with
      | none => rfl
      | some x => exact absurd ⟨x, k⟩ hno
    refine ⟨by unfold B64; omega, hE, fun k => ?_, fun k => hno (hlo _ _ _ k), fun k => hno (hlo _ _ _ k)⟩
    rw [h.gi.q 0 hm.1] at k
    obtain ⟨x, _, k2, _⟩ := qd_ep.1 k
    exact hno ⟨x, k2⟩
  · rintro e w' ⟨r, el', eb', he, hr, ⟨q1, q2, q3, q4, q5⟩, F', hS, H⟩
    have hrb := h.ebd hr
    have hr' := tk_ext h.et hr
    have hno : ¬ ∃ x, g.E r = some x := hr'.2.1
    have hE : g.E r = none := by
      cases k : g.E r with
      | none => rfl
      | some x => exact absurd ⟨x, k⟩ hno
    have hpot : ∀ x : Eg, potL (updQ g.E r (some x)) g.m (r :: D.erase r) ≤ potL g.E g.m D + 23 := fun x => by have := potL_ins (m := g.m) (x := x) h.dn hE; omega
    have hdn : (r :: D.erase r).Nodup := List.nodup_cons.2 ⟨h.dn.not_mem_erase, h.dn.erase r⟩
    have hdd : ∀ (x : Eg) f y, updQ g.E r (some x) f = some y → f ∈ r :: D.erase r := fun x f y hy => by
      by_cases ef : f = r
      · subst ef; exact List.mem_cons_self ..
      · rw [updQ_ne ef] at hy
        exact List.mem_cons_of_mem _ ((List.mem_erase_of_ne ef).2 (h.dd f y hy))
    have het : ∀ (x : Eg) t, Tk el' eb' t ↔ ∃ y, updQ g.E r (some x) t = some y := fun x t => by
      rw [q1, h.et]
      by_cases et : t = r
      · subst et; rw [updQ_at]; exact ⟨fun _ => ⟨x, rfl⟩, fun _ => .inr rfl⟩
      · rw [updQ_ne et]; exact ⟨fun k => k.elim id (fun k => absurd k et), .inl⟩
    have wd := (h.gi.wide hE)
    have ea := (h.gi.ob a ha)
    have hpk := h.pk
    have hbd := h.bd
    refine ⟨r, he, hr', F', ?_⟩
    rcases H with ⟨hj, hG⟩ | ⟨hj, hG⟩
    · refine ⟨_, true, ⟨_, r :: D.erase r, ⟨hG, ?_, ?_, h.n, h.vnd, h.vlen, h.vt, h.vc, het _, ?_, ⟨?_, ?_, ?_, ?_⟩, hT, h.ok, hdn, hdd _, ?_⟩⟩, hS, rfl, rfl, rfl, ⟨fun _ => fun k => hj ((h.jq a b).2 k), fun _ => rfl⟩⟩
      · have s1 := wd.skipE (e := r) (x := ⟨a, b, 0, true⟩) (.inr rfl) ⟨⟨hrb.1, by omega⟩, hab, ha, hb, Int.le_refl _, by show (0 : Int) < g.m; omega⟩ (g.ne + 1)
        have s2 := s1.bindG (S := fun _ => False) (fun k => k) (x := ⟨a, b, 0, true⟩) (updQ_at _ _ _) rfl (i := 0) hm.1 rfl (fun j hj => by
          obtain rfl : j = 0 := by omega
          unfold VS; rw [if_pos rfl, if_pos rfl]; exact ⟨ha, hb⟩)
        rw [← bindGk_succ, bindGk_zero] at s2
        exact ⟨s2.q, s2.p, s2.lo, s2.eb, s2.ob, s2.nd, s2.m⟩
      · refine h.rest.insTree h.vlen h.n.1.1 hm.1 hE ha hb hab (fun k => hj ?_)
        rw [h.gi.q 0 hm.1, qd_jq]; exact k
      · show el' - (eb'.length : Int) = ((g.ne + 1 : Nat) : Int)
        have := h.ec; omega
      · show g.vl ≤ _; omega
      · show g.vb.length ≤ _; omega
      · show el' ≤ _; omega
      · show eb'.length ≤ _; omega
      · show K + 3 + 3 * potL (updQ g.E r (some ⟨a, b, 0, true⟩)) g.m (r :: D.erase r) ≤ _
        have := hpot ⟨a, b, 0, true⟩; omega
    · refine ⟨_, false, ⟨_, r :: D.erase r, ⟨hG, ?_, ?_, h.n, h.vnd, h.vlen, h.vt, h.vc, het _, ?_, ⟨?_, ?_, ?_, ?_⟩, hT, h.ok, hdn, hdd _, ?_⟩⟩, hS, rfl, rfl, rfl, ⟨fun k => (by cases k), fun k => absurd ((h.jq a b).1 hj) k⟩⟩
      · have s1 := wd.skipE (e := r) (x := ⟨a, b, 0, false⟩) (.inr rfl) ⟨⟨hrb.1, by omega⟩, hab, ha, hb, Int.le_refl _, by show (0 : Int) < g.m; omega⟩ (g.ne + 1)
        have s2 := (s1.putL (S := fun _ => False) (fun k => k) (x := ⟨a, b, 0, false⟩) (updQ_at _ _ _) rfl (i := 0) hm.1 rfl (by unfold VS; rw [if_pos rfl]; exact ha) (by unfold VS; rw [if_pos rfl]; exact hb)).1
        exact ⟨s2.q, s2.p, s2.lo, s2.eb, s2.ob, s2.nd, s2.m⟩
      · refine h.rest.insLoose hm.1 hE ha hb hab ?_
        rw [h.gi.q 0 hm.1, qd_jq] at hj; exact hj
      · show el' - (eb'.length : Int) = ((g.ne + 1 : Nat) : Int)
        have := h.ec; omega
      · show g.vl ≤ _; omega
      · show g.vb.length ≤ _; omega
      · show el' ≤ _; omega
      · show eb'.length ≤ _; omega
      · show K + 2 + 3 * potL (updQ g.E r (some ⟨a, b, 0, false⟩)) g.m (r :: D.erase r) ≤ _
        have := hpot ⟨a, b, 0, false⟩; omega
def Evx (E E' : EM) (e : Int) : Prop := E' e = none ∧ ∀ f, f ≠ e → (E f = none ∧ E' f = none) ∨ ∃ x0 x, E f = some x0 ∧ E' f = some x ∧ x.a = x0.a ∧ x.b = x0.b ∧ x0.l ≤ x.l
theorem ls_delete_no (h : Ls p w F B g V sv lv T) {e : Int} (he : B64 e) (hx : g.E e = none) : Calls Tryz.prog 11 #[.pointer (some ⟨B, 0, none⟩), .int .i64 e] w fun r w' => r = .returned (.int .i64 4) ∧ Below w.heap.size w w' := by
  obtain ⟨K, D, h⟩ := h
  exact delete_none h.gm he hx
theorem ls_delete (h : Ls p w F B g V sv lv T) (hT : T + 1 ≤ 200) {e : Int} {x : Eg} (hx : g.E e = some x) :
    Calls Tryz.prog 11 #[.pointer (some ⟨B, 0, none⟩), .int .i64 e] w fun r w' => r = .returned (.int .i64 0) ∧ ∃ F' g', Ls p w' F' B g' V sv lv (T + 1) ∧ Step F F' w w' ∧ Evx g.E g'.E e ∧ g'.n = g.n ∧ g'.m = g.m := by
  obtain ⟨K, D, h⟩ := h
  have hf := h.fb
  have hkb := h.kb
  have hm := h.gi.m
  have hpk := h.pk
  have hbd := h.bd
  have htb := h.tb
  have htk : Tk g.el g.eb e := (h.et e).2 ⟨x, hx⟩
  obtain ⟨a1, a2, a3, a4, a5, a6⟩ := h.gi.eb e x hx
  obtain ⟨L, hl⟩ : ∃ L : Nat, x.l = (L : Int) := ⟨x.l.toNat, by omega⟩
  have hL : L < g.m := by omega
  have hne1 : 1 ≤ g.ne := by
    have h1 := h.ec
    have : 0 < g.ne := by
      rcases Nat.eq_zero_or_pos g.ne with k | k
      · obtain ⟨c, vv, ev, Ff, Fb, hX⟩ := h.gm
        exfalso
        have hN := hX.en.p
        have hsub : (List.map (fun i : Nat => (i : Int) + 1) (List.range g.el.toNat)).length ≤ (g.eb.erase e).length := by
          rw [k] at h1
          simp
          have : g.eb.length = g.el.toNat := by have := hN.l0; omega
          rw [List.erase_of_not_mem htk.2.2]
          omega
        have hnd : (e :: g.eb).Nodup := List.nodup_cons.2 ⟨htk.2.2, hN.nd⟩
        have := hnd.length_le_of_subset (l₂ := List.map (fun i : Nat => (i : Int) + 1) (List.range g.el.toNat)) (fun y hy => by
          have hy' : 1 ≤ y ∧ y ≤ g.el := by
            rcases List.mem_cons.1 hy with rfl | hy
            · exact ⟨htk.1, htk.2.1⟩
            · exact hN.rg y hy
          exact List.mem_map.2 ⟨(y - 1).toNat, List.mem_range.2 (by omega), by omega⟩)
        simp at this
        have := hN.l0
        rw [k] at h1
        omega
      · exact k
    omega
  have key : ∀ (E' : EM) (el : Int) (eb' : List Int), (∀ f, (∃ y, E' f = some y) ↔ (∃ y, g.E f = some y)) → (∀ t, Tk el eb' t ↔ Tk g.el g.eb t ∧ t ≠ e) → ∀ t, Tk el eb' t ↔ ∃ y, updQ E' e none t = some y := fun E' el eb' hE q t => by
    rw [q, h.et]
    by_cases et : t = e
    · subst et; rw [updQ_at]; simp
    · rw [updQ_ne et, hE]; simp [et]
  have ddo : ∀ (E' : EM), (∀ f y, E' f = some y → f ∈ D) → ∀ f y, updQ E' e none f = some y → f ∈ D := fun E' hE f y hy => by
    by_cases ef : f = e
    · subst ef; rw [updQ_at] at hy; cases hy
    · rw [updQ_ne ef] at hy; exact hE f y hy
  have he64 := h.gi.e64 hx
  cases ht : x.t with
  | false =>
    have hj := h.rest.b e x (fun k => k) hx ht
    rw [hl] at hj
    obtain ⟨v1, v2⟩ := h.gi.vp_of_jn hL hj a2
    obtain ⟨t1, t2, t3⟩ := h.gi.takeL (fun k => k) hx ht hL hl ((h.gi.vs hL).1 v1) ((h.gi.vs hL).1 v2)
    refine (delete_loose h.gm (by omega) he64 a1.1 hx ht hL (by omega) hl (h.gi.b64 a3) (h.gi.b64 a4) a2 t2 t3 v1 v2 hf.2.2.2.1 htk).mono ?_
    rintro r w' ⟨hr, F', eb', hG, hS, hT', hl'⟩
    have hck := takeG_ck g e x L
    have s1 : Gi (takeG g e x L) (fun v => v ∈ V) sv lv (fun k => k = e) eg00 0 := by
      have : (fun k => False ∨ k = e) = (fun k => k = e) := funext fun k => propext ⟨fun q => q.elim False.elim id, .inr⟩
      rw [this] at t1; exact t1
    have s2 := s1.goneE (g.ne - 1)
    refine ⟨hr, F', _, ⟨_, D, ⟨hG, ?_, ?_, ?_, h.vnd, ?_, ?_, ?_, ?_, ?_, ⟨?_, ?_, ?_, ?_⟩, hT, h.ok, h.dn, ?_, ?_⟩⟩, hS, ?_, hck.1.n, hck.1.m⟩
    · rw [hck.2] at s2
      exact ⟨s2.q, s2.p, s2.lo, s2.eb, s2.ob, s2.nd, s2.m⟩
    · show Rest (updQ g.E e none) V (takeG g e x L).n (takeG g e x L).m
      rw [hck.1.n, hck.1.m]
      exact h.rest.outLoose hx ht
    · show (1 ≤ (takeG g e x L).n ∧ (takeG g e x L).n ≤ 4194304) ∧ (takeG g e x L).n < 2 ^ (takeG g e x L).m
      rw [hck.1.n, hck.1.m]; exact h.n
    · show (V.length : Int) ≤ (takeG g e x L).n
      rw [hck.1.n]; exact h.vlen
    · show ∀ t, Tk (takeG g e x L).vl (takeG g e x L).vb t ↔ t ∈ V
      rw [hck.1.vl, hck.1.vb]; exact h.vt
    · show (takeG g e x L).vl - ((takeG g e x L).vb.length : Int) = V.length
      rw [hck.1.vl, hck.1.vb]; exact h.vc
    · exact key g.E _ eb' (fun f => Iff.rfl) hT'
    · show g.el - (eb'.length : Int) = ((g.ne - 1 : Nat) : Int)
      have := h.ec; omega
    · show (takeG g e x L).vl ≤ _
      rw [hck.1.vl]; omega
    · show (takeG g e x L).vb.length ≤ _
      rw [hck.1.vb]; omega
    · show g.el ≤ _; omega
    · show eb'.length ≤ _; omega
    · exact ddo g.E h.dd
    · show K + 0 + 3 * potL (updQ g.E e none) (takeG g e x L).m D ≤ _
      rw [hck.1.m]
      have := potL_out (E := g.E) (m := g.m) e D
      omega
    · refine ⟨updQ_at _ _ _, fun f hf => ?_⟩
      show (_ ∧ updQ g.E e none f = none) ∨ ∃ x0 x, _ ∧ updQ g.E e none f = some x ∧ _
      rw [updQ_ne hf]
      cases k : g.E f with
      | none => exact .inl ⟨rfl, rfl⟩
      | some y => exact .inr ⟨y, y, rfl, rfl, rfl, rfl, Int.le_refl _⟩
  | true =>
    refine (delete_tree (C := 140 * T + 10) h.gm h.gi (Int.le_refl _) h.rest.acy h.rest.sz h.rest.b h.dn h.dd (by omega) (by omega) h.n.2 hx ht hl hf.2.2.2.2 hf.2.2.2.1 htk).mono ?_
    rintro r w' ⟨hr, F', g2, K2, eb', sf, hG, hS, hT', hl'⟩
    have c1 : g2.n = g.n := sf.ck.n
    have c2 : g2.m = g.m := sf.ck.m
    have c3 : g2.ne = g.ne := sf.ck.ne
    have c4 : g2.vl = g.vl := sf.ck.vl
    have c5 : g2.vb = g.vb := sf.ck.vb
    have c6 : g2.el = g.el := sf.ck.el
    have c7 : g2.eb = g.eb := sf.ck.eb
    have ev : Ev g.E g2.E := sf.ev
    have s1 := ((sf.gi.leaveG (by omega)).goneE (g2.ne - 1)).rest (Int.le_refl _) eg00
    have hsome : ∀ f, (∃ y, g2.E f = some y) ↔ (∃ y, g.E f = some y) := fun f => by
      rcases ev f with ⟨k1, k2⟩ | ⟨x0, x1, k1, k2, _⟩
      · rw [k1, k2]
      · rw [k1, k2]; exact ⟨fun _ => ⟨_, rfl⟩, fun _ => ⟨_, rfl⟩⟩
    rw [c6, c7] at hT'
    rw [c7] at hl'
    have hpk2 := sf.pk
    refine ⟨hr, F', _, ⟨_, D, ⟨hG, ?_, ?_, ?_, h.vnd, ?_, ?_, ?_, ?_, ?_, ⟨?_, ?_, ?_, ?_⟩, hT, h.ok, h.dn, ?_, ?_⟩⟩, hS, ?_, c1, c2⟩
    · exact ⟨s1.q, s1.p, s1.lo, s1.eb, s1.ob, s1.nd, s1.m⟩
    · show Rest (updQ g2.E e none) V g2.n g2.m
      rw [c1]
      exact Rest.outTree sf.acy sf.sz sf.b (fun f y hy => by have := sf.gi.eb f y hy; exact ⟨this.2.2.2.2.1, this.2.2.2.2.2⟩) (fun f y hy => by have := sf.gi.eb f y hy; exact ⟨this.2.1, this.2.2.1, this.2.2.2.1⟩)
    · show (1 ≤ g2.n ∧ g2.n ≤ 4194304) ∧ g2.n < 2 ^ g2.m
      rw [c1, c2]; exact h.n
    · show (V.length : Int) ≤ g2.n
      rw [c1]; exact h.vlen
    · show ∀ t, Tk g2.vl g2.vb t ↔ t ∈ V
      rw [c4, c5]; exact h.vt
    · show g2.vl - (g2.vb.length : Int) = V.length
      rw [c4, c5]; exact h.vc
    · show ∀ t, Tk g2.el eb' t ↔ ∃ y, updQ g2.E e none t = some y
      rw [c6]
      exact key g2.E _ eb' hsome hT'
    · show g2.el - (eb'.length : Int) = ((g2.ne - 1 : Nat) : Int)
      rw [c6, c3]
      have := h.ec; omega
    · show g2.vl ≤ _; rw [c4]; omega
    · show g2.vb.length ≤ _; rw [c5]; omega
    · show g2.el ≤ _; rw [c6]; omega
    · show eb'.length ≤ _; omega
    · exact ddo g2.E (fun f y hy => by
        obtain ⟨y', hy'⟩ := (hsome f).1 ⟨y, hy⟩
        exact h.dd f y' hy')
    · show K2 + 2 * L + 3 * potL (updQ g2.E e none) g2.m D ≤ _
      have := potL_out (E := g2.E) (m := g2.m) e D
      omega
    · refine ⟨updQ_at _ _ _, fun f hf => ?_⟩
      show (_ ∧ updQ g2.E e none f = none) ∨ ∃ x0 x, _ ∧ updQ g2.E e none f = some x ∧ _
      rw [updQ_ne hf]
      rcases ev f with ⟨k1, k2⟩ | ⟨x0, x1, k1, k2, k3, k4, k5, _⟩
      · exact .inl ⟨k1, k2⟩
      · exact .inr ⟨x0, x1, k1, k2, k3, k4, k5⟩
theorem ls_new {d : Option Addr} {dr : Option (Nat × Nat × List Int)} {n : Nat} {B M bB : Nat} {rv : Value} {Bl : List Nat} (h0 : 1 ≤ n) (h1 : n ≤ 4194304) (h : Nw w w' d n B M bB rv Bl) (hb : Bl.length = bitLen n) (hd : Dw w d dr) :
    Ls ⟨rv, fun i => Bl.getD i 0, M, bB, dr⟩ w' (fun k => k = B ∨ k = M ∨ k = bB ∨ rv.ownBlock = some k ∨ k ∈ Bl ∨ Shd dr k) B (g00 n Bl.length) [] n0 n0 0 := by
  obtain ⟨⟨b1, b2⟩, b3, b4⟩ := bitLen_lev h0 h1
  have hq : ∀ i : Int, Qd (fun _ => none) (fun _ => False) i = fun _ => False := fun i => funext fun y => propext ⟨fun ⟨x, _, k, _⟩ => (by cases k), False.elim⟩
  refine ⟨0, [], ⟨h.gm hd, ⟨fun i _ => ?_, fun i _ => ?_, fun v i e => ?_, fun e x k => (by cases k), fun v k => (by cases k), fun a => List.nodup_nil, ?_⟩, ?_, ⟨⟨by show (1 : Int) ≤ n; omega, by show (n : Int) ≤ _; omega⟩, by rw [hb]; exact b3⟩, List.nodup_nil, by show ((0 : Nat) : Int) ≤ n; omega, fun t => ?_, rfl, fun t => ?_, rfl, ⟨Int.le_refl _, Nat.le_refl _, Int.le_refl _, Nat.le_refl _⟩, by omega, fun v k => (by cases k), List.nodup_nil, fun e x k => (by cases k), ?_⟩⟩
  · exact (hq i).symm
  · funext x
    refine propext ⟨False.elim, fun k => ?_⟩
    have k1 := k.1
    unfold VS at k1
    split at k1
    · cases k1
    · rcases k1 with k1 | ⟨k1, k2⟩
      · rw [show (g00 n Bl.length).E = fun _ => none from rfl, hq] at k1
        obtain ⟨y, hy, _⟩ := k1
        exact hy
      · omega
  · exact ⟨fun k => (by cases k), fun ⟨x, _, k, _⟩ => (by cases k)⟩
  · show 1 ≤ Bl.length ∧ Bl.length ≤ 23
    omega
  · show Rest (fun _ => none) [] (n : Int) Bl.length
    rw [hb]
    exact Rest.bare [] b4
  · show Tk 0 [] t ↔ _
    exact ⟨fun k => by have := k.1; have := k.2.1; omega, fun k => by cases k⟩
  · show Tk 0 [] t ↔ _
    exact ⟨fun k => by have := k.1; have := k.2.1; omega, fun ⟨x, k⟩ => by cases k⟩
  · show 0 + 3 * potL _ _ [] ≤ _
    unfold potL; omega
noncomputable def conN (E : EM) (V : List Int) (a b : Int) : Bool := @decide (a ∈ V ∧ b ∈ V ∧ Jn (Ae E) a b) (Classical.propDecidable _)
theorem conN_iff {E : EM} {V : List Int} {a b : Int} : conN E V a b = true ↔ a ∈ V ∧ b ∈ V ∧ Jn (Ae E) a b := by
  unfold conN
  exact @decide_eq_true_iff _ (Classical.propDecidable _)
theorem ls_conn (h : Ls p w F B g V sv lv T) (a b : Int) (ha : B64 a) (hb : B64 b) : Calls Tryz.prog 13 #[.pointer (some ⟨B, 0, none⟩), .int .i64 a, .int .i64 b] w fun e w' => e = .returned (.bool (conN g.E V a b)) ∧ Below w.heap.size w w' := by
  obtain ⟨K, D, h⟩ := h
  refine (lsame_rd h.gm (by have := h.kb; omega) h.gi.m.1 a b ha hb).mono ?_
  rintro e w' ⟨⟨t, rfl, ht⟩, hb⟩
  rw [h.vp, h.vp, h.jq] at ht
  refine ⟨by congr 2; exact Bool.eq_iff_iff.2 (ht.trans conN_iff.symm), hb⟩
noncomputable def joinN (E : EM) (V : List Int) (v : Int) : List Int := if v ∈ V then V.filter fun u => @decide (Jn (Ae E) v u) (Classical.propDecidable _) else []
theorem joinN_mem {E : EM} {V : List Int} {v u : Int} : u ∈ joinN E V v ↔ v ∈ V ∧ u ∈ V ∧ Jn (Ae E) v u := by
  unfold joinN
  by_cases hv : v ∈ V
  · rw [if_pos hv, List.mem_filter]
    have := @decide_eq_true_iff (Jn (Ae E) v u) (Classical.propDecidable _)
    rw [this]
    exact ⟨fun k => ⟨hv, k⟩, fun k => k.2⟩
  · rw [if_neg hv]
    exact ⟨fun k => (by cases k), fun k => absurd k.1 hv⟩
theorem joinN_nd {E : EM} {V : List Int} {v : Int} (h : V.Nodup) : (joinN E V v).Nodup := by
  unfold joinN
  split
  · exact h.sublist List.filter_sublist
  · exact List.nodup_nil
theorem Lv.tree (h : Lv p w F B g K V sv lv D T) {v : Int} (hv : v ∈ V) {L : List Int} (ht : Tree (g.P 0) (g.Q 0) v L) : L.Perm (joinN g.E V v) := by
  refine (List.perm_ext_iff_of_nodup ht.nd (joinN_nd h.vnd)).2 fun u => ?_
  rw [ht.mem, h.vp, h.jq, joinN_mem]
  exact ⟨fun k => ⟨hv, k⟩, fun k => k.2⟩
theorem sumL_perm {f : Int → Int} {a b : List Int} (h : a.Perm b) : sumL f a = sumL f b := by
  induction h with
  | nil => rfl
  | cons x _ ih => show f x + sumL f _ = f x + sumL f _; rw [ih]
  | swap x y l => show f y + (f x + sumL f l) = f x + (f y + sumL f l); omega
  | trans _ _ ih1 ih2 => exact ih1.trans ih2
theorem minL_perm {f : Int → Int} {a b : List Int} (h : a.Perm b) : minL f a = minL f b := by
  induction h with
  | nil => rfl
  | cons x _ ih => show min (f x) (minL f _) = min (f x) (minL f _); rw [ih]
  | swap x y l => show min (f y) (min (f x) (minL f l)) = min (f x) (min (f y) (minL f l)); omega
  | trans _ _ ih1 ih2 => exact ih1.trans ih2
theorem ls_size (h : Ls p w F B g V sv lv T) (v : Int) (hb : B64 v) : Calls Tryz.prog 14 #[.pointer (some ⟨B, 0, none⟩), .int .i64 v] w fun e w' => e = .returned (.int .i64 (joinN g.E V v).length) ∧ Below w.heap.size w w' := by
  obtain ⟨K, D, h⟩ := h
  refine (lsize_rd h.gm (by have := h.kb; omega) h.gi.m.1 v hb).mono ?_
  rintro e w' ⟨⟨n, rfl, ⟨h1, h2⟩, _⟩, hb⟩
  rw [h.vp] at h1 h2
  refine ⟨?_, hb⟩
  by_cases hv : v ∈ V
  · obtain ⟨L, k1, rfl⟩ := h2 hv
    rw [(h.tree hv k1).length_eq]
  · rw [h1 hv]; unfold joinN; rw [if_neg hv]; rfl
theorem Lv.vals (h : Lv p w F B g K V sv lv D T) : ∀ x, g.P 0 x → x.s = sv x.v ∧ x.l = lv x.v := fun x hx => by
  rw [h.gi.p 0 h.gi.m.1] at hx
  have := hx.2
  unfold sv0 at this
  rw [if_pos rfl, if_pos rfl] at this
  exact ⟨this.1, this.2.1⟩
def sumN' (sv : Int → Int) (L : List Int) : Int := if L = [] then 0 else wr (sumL sv L)
def minN' (lv : Int → Int) (L : List Int) : Int := if L = [] then -1 else minL lv L
theorem joinN_self {E : EM} {V : List Int} {v : Int} (hv : v ∈ V) : joinN E V v ≠ [] := fun k => by
  have : v ∈ joinN E V v := joinN_mem.2 ⟨hv, hv, Jn.refl v⟩
  rw [k] at this; cases this
theorem ls_sum (h : Ls p w F B g V sv lv T) (v : Int) (hb : B64 v) : Calls Tryz.prog 15 #[.pointer (some ⟨B, 0, none⟩), .int .i64 v] w fun e w' => e = .returned (.int .i64 (sumN' sv (joinN g.E V v))) ∧ Below w.heap.size w w' := by
  obtain ⟨K, D, h⟩ := h
  refine (lsum_rd h.gm (by have := h.kb; omega) h.gi.m.1 v hb h.vals).mono ?_
  rintro e w' ⟨⟨n, rfl, h1, h2⟩, hb⟩
  rw [h.vp] at h1 h2
  refine ⟨?_, hb⟩
  by_cases hv : v ∈ V
  · obtain ⟨L, k1, rfl⟩ := h2 hv
    unfold sumN'
    rw [if_neg (joinN_self hv), sumL_perm (h.tree hv k1)]
  · rw [h1 hv]; unfold joinN sumN'; rw [if_neg hv, if_pos rfl]
theorem ls_least (h : Ls p w F B g V sv lv T) (v : Int) (hb : B64 v) : Calls Tryz.prog 16 #[.pointer (some ⟨B, 0, none⟩), .int .i64 v] w fun e w' => e = .returned (.int .i64 (minN' lv (joinN g.E V v))) ∧ Below w.heap.size w w' := by
  obtain ⟨K, D, h⟩ := h
  refine (lleast_rd h.gm (by have := h.kb; omega) h.gi.m.1 v hb h.vals).mono ?_
  rintro e w' ⟨⟨n, rfl, h1, h2⟩, hb⟩
  rw [h.vp] at h1 h2
  refine ⟨?_, hb⟩
  by_cases hv : v ∈ V
  · obtain ⟨L, k1, rfl⟩ := h2 hv
    unfold minN'
    rw [if_neg (joinN_self hv), minL_perm (h.tree hv k1)]
  · rw [h1 hv]; unfold joinN minN'; rw [if_neg hv, if_pos rfl]
end
section
variable {p : Gp} {w : World} {F : Nat → Prop} {B : Nat} {g : Gs} {K : Nat}
theorem highest_any (h : Gm p w F B g K) (hm : 1 ≤ g.m) : Calls Tryz.prog 18 #[.pointer (some ⟨B, 0, none⟩)] w fun e w' => e = .returned (.int .i64 ((g.m : Int) - 1)) ∧ Below w.heap.size w w' := by
  obtain ⟨vv, ev, hc⟩ := h.cells
  have c1 := hc.at (j := 1) rfl
  simp only [List.getElem_toArray, List.getElem_cons_zero, List.getElem_cons_succ] at c1
  obtain ⟨q, cap, e1, cq, hql, hcap1, hcap2⟩ := h.ptr (i := 0) (by omega)
  rw [e1] at c1
  have hm' : (g.m : Int) ≤ 9223372036854775807 := by unfold maxLen at hcap2; omega
  have hmx : ¬ ((g.m : Int) - 1) < 0 := by omega
  have hmx2 : max (0 : Int) ((g.m : Int) - 1) = (g.m : Int) - 1 := by omega
  have HB := mkH (Below.refl w.heap.size w)
  clear h hc e1 hcap1 hcap2 cq
  go_enter Tryz.func18, Tryz.ntmps18
  go_wp2
  all_goals (go_ret; exact ⟨by first | rfl | (simp; omega), HB.out⟩)
end
def EL (E : EM) (M : List (Int × Int × Int)) : Prop := ∀ e a b, (∃ x, E e = some x ∧ x.a = a ∧ x.b = b) ↔ (e, a, b) ∈ M
def Am (M : List (Int × Int × Int)) (a b : Int) : Prop := ∃ e, (e, a, b) ∈ M
theorem EL.ae {E : EM} {M : List (Int × Int × Int)} (h : EL E M) : Ae E = Am M := by
  funext a b
  refine propext ⟨fun ⟨e, x, h1, h2, h3⟩ => ⟨e, (h e a b).1 ⟨x, h1, h2, h3⟩⟩, fun ⟨e, k⟩ => ?_⟩
  obtain ⟨x, h1, h2, h3⟩ := (h e a b).2 k
  exact ⟨e, x, h1, h2, h3⟩
theorem EL.isS {E : EM} {M : List (Int × Int × Int)} (h : EL E M) (e : Int) : (∃ x, E e = some x) ↔ ∃ a b, (e, a, b) ∈ M :=
  ⟨fun ⟨x, k⟩ => ⟨x.a, x.b, (h _ _ _).1 ⟨x, k, rfl, rfl⟩⟩, fun ⟨a, b, k⟩ => by obtain ⟨x, k, _⟩ := (h _ _ _).2 k; exact ⟨x, k⟩⟩
theorem EL.isN {E : EM} {M : List (Int × Int × Int)} (h : EL E M) {e : Int} (k : ∀ a b, (e, a, b) ∉ M) : E e = none := by
  cases hx : E e with
  | none => rfl
  | some x => exact absurd ((h _ _ _).1 ⟨x, hx, rfl, rfl⟩) (k _ _)
theorem EL.ins {E : EM} {M : List (Int × Int × Int)} (h : EL E M) {r a b l : Int} {t : Bool} (hn : E r = none) : EL (updQ E r (some ⟨a, b, l, t⟩)) (M ++ [(r, a, b)]) := fun e x y => by
  rw [List.mem_append, List.mem_singleton]
  by_cases he : e = r
  · subst he
    rw [updQ_at]
    constructor
    · rintro ⟨z, k1, k2, k3⟩
      cases k1
      exact .inr (by rw [← k2, ← k3])
    · rintro (k | k)
      · obtain ⟨z, k1, _⟩ := (h _ _ _).2 k
        rw [hn] at k1; cases k1
      · cases k
        exact ⟨_, rfl, rfl, rfl⟩
  · rw [updQ_ne he, h]
    exact ⟨.inl, fun k => k.elim id fun k => absurd (by cases k; rfl) he⟩
theorem EL.del {E E' : EM} {M : List (Int × Int × Int)} (h : EL E M) {r : Int} (k : Evx E E' r) : EL E' (M.filter fun x => decide (x.1 ≠ r)) := fun e x y => by
  rw [List.mem_filter, ← h]
  simp only [decide_eq_true_eq]
  by_cases he : e = r
  · subst he
    rw [k.1]
    exact ⟨fun ⟨z, k1, _⟩ => (by cases k1), fun k => absurd rfl k.2⟩
  · rcases k.2 e he with ⟨k1, k2⟩ | ⟨x0, x1, k1, k2, k3, k4, _⟩
    · rw [k1, k2]
      exact ⟨fun ⟨z, q, _⟩ => (by cases q), fun ⟨⟨z, q, _⟩, _⟩ => (by cases q)⟩
    · rw [k1, k2]
      constructor
      · rintro ⟨z, q, q1, q2⟩
        cases q
        exact ⟨⟨x0, rfl, by rw [← k3]; exact q1, by rw [← k4]; exact q2⟩, he⟩
      · rintro ⟨⟨z, q, q1, q2⟩, _⟩
        cases q
        exact ⟨x1, rfl, by rw [k3]; exact q1, by rw [k4]; exact q2⟩
def Lg (F : Nat → Prop) (W : World) (B : Nat) (n : Int) (m : Nat) (V : List Int) (sv lv : Int → Int) (M : List (Int × Int × Int)) (T : Nat) : Prop := ∃ p g, Ls p W F B g V sv lv T ∧ EL g.E M ∧ g.n = n ∧ g.m = m
noncomputable def conM (M : List (Int × Int × Int)) (V : List Int) (a b : Int) : Bool := @decide (a ∈ V ∧ b ∈ V ∧ Jn (Am M) a b) (Classical.propDecidable _)
theorem conM_iff {M : List (Int × Int × Int)} {V : List Int} {a b : Int} : conM M V a b = true ↔ a ∈ V ∧ b ∈ V ∧ Jn (Am M) a b := by
  unfold conM
  exact @decide_eq_true_iff _ (Classical.propDecidable _)
noncomputable def joinM (M : List (Int × Int × Int)) (V : List Int) (v : Int) : List Int := if v ∈ V then V.filter fun u => @decide (Jn (Am M) v u) (Classical.propDecidable _) else []
section
variable {F : Nat → Prop} {w w' : World} {B : Nat} {n : Int} {m : Nat} {V : List Int} {sv lv : Int → Int} {M : List (Int × Int × Int)} {T : Nat}
theorem Lg.below (h : Lg F w B n m V sv lv M T) (hb : Below w.heap.size w w') : Lg F w' B n m V sv lv M T := by
  obtain ⟨p, g, h, r⟩ := h; exact ⟨p, g, h.below hb, r⟩
theorem Lg.step {F' F1 : Nat → Prop} (h : Lg F w B n m V sv lv M T) (hb : Step F' F1 w w') (hd : ∀ k, F k → ¬ F' k) : Lg F w' B n m V sv lv M T := by
  obtain ⟨p, g, h, r⟩ := h; exact ⟨p, g, h.step hb hd, r⟩
theorem Lg.lt (h : Lg F w B n m V sv lv M T) : ∀ k, F k → k < w.heap.size := by
  obtain ⟨p, g, ⟨K, D, h⟩, r⟩ := h; exact h.gm.lt
theorem EL.hase {E : EM} (h : EL E M) (v : Int) : HasE E v ↔ ∃ e a b, (e, a, b) ∈ M ∧ (a = v ∨ b = v) :=
  ⟨fun ⟨e, x, k1, k2⟩ => ⟨e, x.a, x.b, (h _ _ _).1 ⟨x, k1, rfl, rfl⟩, k2⟩, fun ⟨e, a, b, k1, k2⟩ => by obtain ⟨x, q1, rfl, rfl⟩ := (h _ _ _).2 k1; exact ⟨e, x, q1, k2⟩⟩
theorem lg_vertex (h : Lg F w B n m V sv lv M T) (hT : T + 1 ≤ 200) (s l : Int) :
    Calls Tryz.prog 6 #[.pointer (some ⟨B, 0, none⟩), .int .i64 s, .int .i64 l] w fun e w' =>
      (n ≤ V.length ∧ e = .returned (.tuple #[.int .i64 0, .int .i64 6]) ∧ Below w.heap.size w w') ∨
      ((V.length : Int) < n ∧ okSL s l = false ∧ e = .returned (.tuple #[.int .i64 0, .int .i64 1]) ∧ Below w.heap.size w w') ∨
      ((V.length : Int) < n ∧ okSL s l = true ∧ ∃ r, e = .returned (.tuple #[.int .i64 r, .int .i64 0]) ∧ Least (fun t => t ∈ V) r ∧ ∃ F', Lg F' w' B n m (V ++ [r]) (updI sv r s) (updI lv r l) M (T + 1) ∧ Step F F' w w') := by
  obtain ⟨p, g, h, hE, rfl, rfl⟩ := h
  refine (ls_vertex h hT s l).mono fun e w' H => ?_
  rcases H with a | a | ⟨a, b, r, c, d, F', g', q1, q2, q3, q4, q5⟩
  · exact .inl a
  · exact .inr (.inl a)
  · exact .inr (.inr ⟨a, b, r, c, d, F', ⟨p, g', q1, by rw [q3]; exact hE, q4, q5⟩, q2⟩)
theorem lg_drop (h : Lg F w B n m V sv lv M T) (hT : T + 1 ≤ 200) (v : Int) (hb : B64 v) :
    Calls Tryz.prog 10 #[.pointer (some ⟨B, 0, none⟩), .int .i64 v] w fun e w' =>
      (v ∉ V ∧ e = .returned (.int .i64 4) ∧ Below w.heap.size w w') ∨
      (v ∈ V ∧ (∃ e a b, (e, a, b) ∈ M ∧ (a = v ∨ b = v)) ∧ e = .returned (.int .i64 13) ∧ ∃ F', Lg F' w' B n m V sv lv M (T + 1) ∧ Step F F' w w') ∨
      (v ∈ V ∧ (¬ ∃ e a b, (e, a, b) ∈ M ∧ (a = v ∨ b = v)) ∧ e = .returned (.int .i64 0) ∧ ∃ F', Lg F' w' B n m (V.filter fun u => decide (u ≠ v)) sv lv M (T + 1) ∧ Step F F' w w') := by
  obtain ⟨p, g, h, hE, rfl, rfl⟩ := h
  refine (ls_drop h hT v hb).mono fun e w' H => ?_
  rw [hE.hase] at H
  rcases H with a | ⟨a, b, c, F', q1, q2⟩ | ⟨a, b, c, F', g', q1, q2, q3, q4, q5⟩
  · exact .inl a
  · exact .inr (.inl ⟨a, b, c, F', ⟨p, g, q1, hE, rfl, rfl⟩, q2⟩)
  · exact .inr (.inr ⟨a, b, c, F', ⟨p, g', q1, by rw [q3]; exact hE, q4, q5⟩, q2⟩)
theorem lg_insert_no (h : Lg F w B n m V sv lv M T) {a b : Int} (ha : B64 a) (hb : B64 b) (hno : a ∉ V ∨ b ∉ V ∨ a = b) :
    Calls Tryz.prog 7 #[.pointer (some ⟨B, 0, none⟩), .int .i64 a, .int .i64 b] w fun e w' => ((a ∈ V ∧ b ∈ V → e = .returned (.tuple #[.int .i64 0, .int .i64 1])) ∧ (¬ (a ∈ V ∧ b ∈ V) → e = .returned (.tuple #[.int .i64 0, .int .i64 4]))) ∧ Below w.heap.size w w' := by
  obtain ⟨p, g, h, _⟩ := h
  exact ls_insert_no h ha hb hno
theorem lg_insert (h : Lg F w B n m V sv lv M T) (hT : T + 1 ≤ 200) {a b : Int} (ha : a ∈ V) (hb : b ∈ V) (hab : a ≠ b) :
    Calls Tryz.prog 7 #[.pointer (some ⟨B, 0, none⟩), .int .i64 a, .int .i64 b] w fun e w' => ∃ r, e = .returned (.tuple #[.int .i64 r, .int .i64 0]) ∧ Least (fun t => ∃ a b, (t, a, b) ∈ M) r ∧ ∃ F', Lg F' w' B n m V sv lv (M ++ [(r, a, b)]) (T + 1) ∧ Step F F' w w' := by
  obtain ⟨p, g, h, hE, rfl, rfl⟩ := h
  refine (ls_insert h hT ha hb hab).mono fun e w' H => ?_
  obtain ⟨r, q0, q1, F', g', t, q2, q3, q4, q5, q6, _⟩ := H
  have hn : g.E r = none := by
    cases k : g.E r with
    | none => rfl
    | some x => exact absurd ⟨x, k⟩ q1.2.1
  exact ⟨r, q0, tk_ext hE.isS q1, F', ⟨p, g', q2, by rw [q4]; exact hE.ins hn, q5, q6⟩, q3⟩
theorem lg_delete_no (h : Lg F w B n m V sv lv M T) {e : Int} (he : B64 e) (hx : ∀ a b, (e, a, b) ∉ M) : Calls Tryz.prog 11 #[.pointer (some ⟨B, 0, none⟩), .int .i64 e] w fun r w' => r = .returned (.int .i64 4) ∧ Below w.heap.size w w' := by
  obtain ⟨p, g, h, hE, _⟩ := h
  exact ls_delete_no h he (hE.isN hx)
theorem lg_delete (h : Lg F w B n m V sv lv M T) (hT : T + 1 ≤ 200) {e a b : Int} (hx : (e, a, b) ∈ M) :
    Calls Tryz.prog 11 #[.pointer (some ⟨B, 0, none⟩), .int .i64 e] w fun r w' => r = .returned (.int .i64 0) ∧ ∃ F', Lg F' w' B n m V sv lv (M.filter fun x => decide (x.1 ≠ e)) (T + 1) ∧ Step F F' w w' := by
  obtain ⟨p, g, h, hE, rfl, rfl⟩ := h
  obtain ⟨x, k, _⟩ := (hE _ _ _).2 hx
  refine (ls_delete h hT k).mono fun r w' H => ?_
  obtain ⟨q0, F', g', q1, q2, q3, q4, q5⟩ := H
  exact ⟨q0, F', ⟨p, g', q1, hE.del q3, q4, q5⟩, q2⟩
theorem lg_conn (h : Lg F w B n m V sv lv M T) (a b : Int) (ha : B64 a) (hb : B64 b) : Calls Tryz.prog 13 #[.pointer (some ⟨B, 0, none⟩), .int .i64 a, .int .i64 b] w fun e w' => e = .returned (.bool (conM M V a b)) ∧ Below w.heap.size w w' := by
  obtain ⟨p, g, h, hE, _⟩ := h
  have := ls_conn h a b ha hb
  unfold conN at this
  rw [hE.ae] at this
  exact this
theorem joinM_eq {E : EM} (hE : EL E M) (v : Int) : joinN E V v = joinM M V v := by
  unfold joinN joinM
  rw [hE.ae]
theorem lg_size (h : Lg F w B n m V sv lv M T) (v : Int) (hb : B64 v) : Calls Tryz.prog 14 #[.pointer (some ⟨B, 0, none⟩), .int .i64 v] w fun e w' => e = .returned (.int .i64 (joinM M V v).length) ∧ Below w.heap.size w w' := by
  obtain ⟨p, g, h, hE, _⟩ := h
  rw [← joinM_eq hE]
  exact ls_size h v hb
theorem lg_sum (h : Lg F w B n m V sv lv M T) (v : Int) (hb : B64 v) : Calls Tryz.prog 15 #[.pointer (some ⟨B, 0, none⟩), .int .i64 v] w fun e w' => e = .returned (.int .i64 (sumN' sv (joinM M V v))) ∧ Below w.heap.size w w' := by
  obtain ⟨p, g, h, hE, _⟩ := h
  rw [← joinM_eq hE]
  exact ls_sum h v hb
theorem lg_least (h : Lg F w B n m V sv lv M T) (v : Int) (hb : B64 v) : Calls Tryz.prog 16 #[.pointer (some ⟨B, 0, none⟩), .int .i64 v] w fun e w' => e = .returned (.int .i64 (minN' lv (joinM M V v))) ∧ Below w.heap.size w w' := by
  obtain ⟨p, g, h, hE, _⟩ := h
  rw [← joinM_eq hE]
  exact ls_least h v hb
theorem lg_highest (h : Lg F w B n m V sv lv M T) : Calls Tryz.prog 18 #[.pointer (some ⟨B, 0, none⟩)] w fun e w' => e = .returned (.int .i64 ((m : Int) - 1)) ∧ Below w.heap.size w w' := by
  obtain ⟨p, g, ⟨K, D, h⟩, hE, _, rfl⟩ := h
  exact highest_any h.gm h.gi.m.1
theorem lg_new (d : Option Addr) (dr : Option (Nat × Nat × List Int)) (n : Nat) (w : World) (h0 : 1 ≤ n) (h1 : n ≤ 4194304) (hd : Dw w d dr) : Calls Tryz.prog 21 #[.pointer d, .int .i64 n] w fun e w' => ∃ B F, e = .returned (.tuple #[.pointer (some ⟨B, 0, none⟩), .int .i64 0]) ∧ Lg F w' B n (bitLen n) [] n0 n0 [] 0 ∧ (∀ k, F k → w.heap.size ≤ k ∨ Shd dr k) ∧ Below w.heap.size w w' := by
  refine (lnew_yes d n w h0 h1).mono fun e w' H => ?_
  obtain ⟨B, M, bB, rv, Bl, q0, q1, q2⟩ := H
  have hl := ls_new h0 h1 q2 q1 hd
  have hE0 : EL (g00 n Bl.length).E [] := fun e a b => ⟨fun ⟨x, k, _⟩ => (by cases k), fun k => (by cases k)⟩
  refine ⟨B, _, q0, ⟨_, _, hl, hE0, rfl, q1⟩, ?_, q2.bl⟩
  · rintro k (rfl | rfl | rfl | k1 | k1 | k1)
    · exact .inl q2.lo.1
    · exact .inl q2.lo.2.1
    · exact .inl q2.lo.2.2.1
    · exact .inl (q2.ne3 _ k1).2
    · exact .inl (q2.lo.2.2.2 _ k1)
    · exact .inr k1
end
theorem Least.one {P : Int → Prop} {r s : Int} (h : Least P r) (k : Least P s) : r = s := by
  rcases Int.lt_trichotomy r s with hlt | he | hlt
  · exact absurd (k.2.2 r h.1 hlt) h.2.1
  · exact he
  · exact absurd (h.2.2 s k.1 hlt) k.2.1
theorem Jn.closed {R : Int → Int → Prop} {S : Int → Prop} (h : ∀ a b, R a b → (S a ↔ S b)) {a b : Int} (k : Jn R a b) : S a → S b := by
  induction k with
  | refl => exact id
  | step _ e ih => exact fun ha => e.elim (fun e => (h _ _ e).1 (ih ha)) fun e => (h _ _ e).2 (ih ha)
def Wk (w W : World) (B : Nat) (n : Int) (m : Nat) (V : List Int) (sv lv : Int → Int) (M : List (Int × Int × Int)) (T : Nat) : Prop := ∃ F, Lg F W B n m V sv lv M T ∧ (∀ k, F k → w.heap.size ≤ k) ∧ Below w.heap.size w W
section
variable {w W : World} {B : Nat} {n : Int} {m : Nat} {V : List Int} {sv lv : Int → Int} {M : List (Int × Int × Int)} {T : Nat}
theorem Wk.bl (h : Wk w W B n m V sv lv M T) : Below w.heap.size w W := by obtain ⟨F, _, _, hb⟩ := h; exact hb
theorem Wk.below {W' : World} (h : Wk w W B n m V sv lv M T) (hb : Below W.heap.size W W') : Wk w W' B n m V sv lv M T := by
  obtain ⟨F, h1, h2, h3⟩ := h
  exact ⟨F, h1.below hb, h2, below_step h3 hb (Nat.le_refl _)⟩
theorem Wk.with (h : Wk w W B n m V sv lv M T) {V' : List Int} {M' : List (Int × Int × Int)} (h1 : V = V') (h4 : M = M') : Wk w W B n m V' sv lv M' T := by subst h1 h4; exact h
theorem Wk.next {F F' : Nat → Prop} {W' : World} {V' : List Int} {sv' lv' : Int → Int} {M' : List (Int × Int × Int)} {T' : Nat} (h2 : ∀ k, F k → w.heap.size ≤ k) (h3 : Below w.heap.size w W) (h : Lg F' W' B n m V' sv' lv' M' T') (hs : Step F F' W W') : Wk w W' B n m V' sv' lv' M' T' :=
  ⟨F', h, hs.from h3.size h2, hs.start h3 (Nat.le_refl _) h2⟩
theorem wk_vertex (h : Wk w W B n m V sv lv M T) (hT : T + 1 ≤ 200) {r : Int} (hr : Least (fun t => t ∈ V) r) (hn : (V.length : Int) < n) (s l : Int) (ok : okSL s l = true) :
    Calls Tryz.prog 6 #[.pointer (some ⟨B, 0, none⟩), .int .i64 s, .int .i64 l] W fun e w' => e = .returned (.tuple #[.int .i64 r, .int .i64 0]) ∧ Wk w w' B n m (V ++ [r]) (updI sv r s) (updI lv r l) M (T + 1) := by
  obtain ⟨F, h1, h2, h3⟩ := h
  refine (lg_vertex h1 hT s l).mono fun e w' H => ?_
  rcases H with ⟨a, _⟩ | ⟨_, a, _⟩ | ⟨_, _, r', q0, q1, F', q2, q3⟩
  · omega
  · rw [ok] at a; cases a
  · obtain rfl := Least.one q1 hr
    exact ⟨q0, Wk.next h2 h3 q2 q3⟩
theorem wk_insert (h : Wk w W B n m V sv lv M T) (hT : T + 1 ≤ 200) {r a b : Int} (hr : Least (fun t => ∃ a b, (t, a, b) ∈ M) r) (ha : a ∈ V) (hb : b ∈ V) (hab : a ≠ b) :
    Calls Tryz.prog 7 #[.pointer (some ⟨B, 0, none⟩), .int .i64 a, .int .i64 b] W fun e w' => e = .returned (.tuple #[.int .i64 r, .int .i64 0]) ∧ Wk w w' B n m V sv lv (M ++ [(r, a, b)]) (T + 1) := by
  obtain ⟨F, h1, h2, h3⟩ := h
  refine (lg_insert h1 hT ha hb hab).mono fun e w' H => ?_
  obtain ⟨r', q0, q1, F', q2, q3⟩ := H
  obtain rfl := Least.one q1 hr
  exact ⟨q0, Wk.next h2 h3 q2 q3⟩
theorem wk_delete (h : Wk w W B n m V sv lv M T) (hT : T + 1 ≤ 200) {e a b : Int} (hx : (e, a, b) ∈ M) :
    Calls Tryz.prog 11 #[.pointer (some ⟨B, 0, none⟩), .int .i64 e] W fun r w' => r = .returned (.int .i64 0) ∧ Wk w w' B n m V sv lv (M.filter fun x => decide (x.1 ≠ e)) (T + 1) := by
  obtain ⟨F, h1, h2, h3⟩ := h
  refine (lg_delete h1 hT hx).mono fun e w' H => ?_
  obtain ⟨q0, F', q2, q3⟩ := H
  exact ⟨q0, Wk.next h2 h3 q2 q3⟩
theorem wk_conn (h : Wk w W B n m V sv lv M T) (a b : Int) (ha : B64 a) (hb : B64 b) {t : Bool} (ht : conM M V a b = t) : Calls Tryz.prog 13 #[.pointer (some ⟨B, 0, none⟩), .int .i64 a, .int .i64 b] W fun e w' => e = .returned (.bool t) ∧ Wk w w' B n m V sv lv M T := by
  have h0 := h
  obtain ⟨F, h1, h2, h3⟩ := h
  rw [← ht]
  exact (lg_conn h1 a b ha hb).mono fun e w' H => ⟨H.1, h0.below H.2⟩
theorem wk_size (h : Wk w W B n m V sv lv M T) (v : Int) (hb : B64 v) {t : Int} (ht : ((joinM M V v).length : Int) = t) : Calls Tryz.prog 14 #[.pointer (some ⟨B, 0, none⟩), .int .i64 v] W fun e w' => e = .returned (.int .i64 t) ∧ Wk w w' B n m V sv lv M T := by
  have h0 := h
  obtain ⟨F, h1, h2, h3⟩ := h
  rw [← ht]
  exact (lg_size h1 v hb).mono fun e w' H => ⟨H.1, h0.below H.2⟩
theorem wk_sum (h : Wk w W B n m V sv lv M T) (v : Int) (hb : B64 v) {t : Int} (ht : sumN' sv (joinM M V v) = t) : Calls Tryz.prog 15 #[.pointer (some ⟨B, 0, none⟩), .int .i64 v] W fun e w' => e = .returned (.int .i64 t) ∧ Wk w w' B n m V sv lv M T := by
  have h0 := h
  obtain ⟨F, h1, h2, h3⟩ := h
  rw [← ht]
  exact (lg_sum h1 v hb).mono fun e w' H => ⟨H.1, h0.below H.2⟩
theorem wk_least (h : Wk w W B n m V sv lv M T) (v : Int) (hb : B64 v) {t : Int} (ht : minN' lv (joinM M V v) = t) : Calls Tryz.prog 16 #[.pointer (some ⟨B, 0, none⟩), .int .i64 v] W fun e w' => e = .returned (.int .i64 t) ∧ Wk w w' B n m V sv lv M T := by
  have h0 := h
  obtain ⟨F, h1, h2, h3⟩ := h
  rw [← ht]
  exact (lg_least h1 v hb).mono fun e w' H => ⟨H.1, h0.below H.2⟩
theorem wk_highest (h : Wk w W B n m V sv lv M T) : Calls Tryz.prog 18 #[.pointer (some ⟨B, 0, none⟩)] W fun e w' => e = .returned (.int .i64 ((m : Int) - 1)) ∧ Wk w w' B n m V sv lv M T := by
  have h0 := h
  obtain ⟨F, h1, h2, h3⟩ := h
  exact (lg_highest h1).mono fun e w' H => ⟨H.1, h0.below H.2⟩
end
theorem wk_new (n m : Nat) (w : World) (h0 : 1 ≤ n) (h1 : n ≤ 4194304) (hm : bitLen n = m) : Calls Tryz.prog 21 #[.pointer none, .int .i64 n] w fun e w' => ∃ B, e = .returned (.tuple #[.pointer (some ⟨B, 0, none⟩), .int .i64 0]) ∧ Wk w w' B n m [] n0 n0 [] 0 := by
  refine (lg_new none none n w h0 h1 (.inl ⟨rfl, rfl⟩)).mono fun e w' H => ?_
  obtain ⟨B, F, q0, q1, q2, q3⟩ := H
  rw [hm] at q1
  exact ⟨B, q0, F, q1, fun k hk => (q2 k hk).elim id fun ⟨D, Dg, xs, e, _⟩ => (by cases e), q3⟩
def upto (k : Nat) : List Int := (List.range k).map fun i : Nat => (i : Int) + 1
theorem upto_mem {k : Nat} {t : Int} : t ∈ upto k ↔ 1 ≤ t ∧ t ≤ k := by
  unfold upto
  rw [List.mem_map]
  exact ⟨fun ⟨i, h, e⟩ => by have := List.mem_range.1 h; omega, fun h => ⟨(t - 1).toNat, List.mem_range.2 (by omega), by omega⟩⟩
theorem upto_len (k : Nat) : (upto k).length = k := by simp [upto]
theorem upto_succ (k : Nat) : upto (k + 1) = upto k ++ [(k : Int) + 1] := by simp [upto, List.range_succ]
theorem upto_least (k : Nat) : Least (fun t => t ∈ upto k) ((k : Int) + 1) := ⟨by omega, fun h => by have := upto_mem.1 h; omega, fun t h1 h2 => upto_mem.2 ⟨h1, by omega⟩⟩
theorem tri_l0 : Least (fun t : Int => ∃ a b : Int, (t, a, b) ∈ ([] : List (Int × Int × Int))) 1 := by
  refine ⟨by omega, ?_, fun t h1 h2 => ?_⟩
  · rintro ⟨a, b, k⟩
    cases k
  · omega
theorem tri_l1 : Least (fun t : Int => ∃ a b : Int, (t, a, b) ∈ ([(1, 1, 2)] : List (Int × Int × Int))) 2 := by
  refine ⟨by omega, ?_, fun t h1 h2 => ?_⟩
  · rintro ⟨a, b, k⟩
    simp at k
  · obtain rfl : t = 1 := by omega
    exact ⟨1, 2, by simp⟩
theorem tri_l2 : Least (fun t : Int => ∃ a b : Int, (t, a, b) ∈ ([(1, 1, 2), (2, 2, 3)] : List (Int × Int × Int))) 3 := by
  refine ⟨by omega, ?_, fun t h1 h2 => ?_⟩
  · rintro ⟨a, b, k⟩
    simp at k
  · rcases (by omega : t = 1 ∨ t = 2) with rfl | rfl
    · exact ⟨1, 2, by simp⟩
    · exact ⟨2, 3, by simp⟩
theorem tri_j {u : Int} (hu : u ∈ ([1, 2, 3] : List Int)) (v : Int) (hv : v ∈ ([1, 2, 3] : List Int)) : Jn (Am [(2, 2, 3), (3, 3, 1)]) v u := by
  have a1 : Jn (Am [(2, 2, 3), (3, 3, 1)]) 2 3 := Jn.one ⟨2, by simp⟩
  have a2 : Jn (Am [(2, 2, 3), (3, 3, 1)]) 3 1 := Jn.one ⟨3, by simp⟩
  have to3 : ∀ x ∈ ([1, 2, 3] : List Int), Jn (Am [(2, 2, 3), (3, 3, 1)]) x 3 := fun x hx => by
    simp at hx
    rcases hx with rfl | rfl | rfl
    · exact a2.symm
    · exact a1
    · exact .refl _
  exact (to3 v hv).trans (to3 u hu).symm
theorem tri_join (v : Int) (hv : v ∈ ([1, 2, 3] : List Int)) : joinM [(2, 2, 3), (3, 3, 1)] [1, 2, 3] v = [1, 2, 3] := by
  unfold joinM
  rw [if_pos hv]
  exact List.filter_eq_self.2 fun u hu => @decide_eq_true _ (Classical.propDecidable _) (tri_j hu v hv)
theorem tri_con : conM [(2, 2, 3), (3, 3, 1)] [1, 2, 3] 1 2 = true := conM_iff.2 ⟨by simp, by simp, tri_j (by simp) 1 (by simp)⟩
theorem tri_cut : conM [(2, 2, 3)] [1, 2, 3] 1 2 = false := by
  rw [Bool.eq_false_iff]
  intro k
  have := (conM_iff.1 k).2.2.closed (S := fun v => v = 1) (fun a b ⟨e, h⟩ => by
    simp at h
    obtain ⟨_, rfl, rfl⟩ := h
    simp)
  have := this rfl
  omega
theorem tri_sum {sv : Int → Int} (h : ∀ v ∈ upto 3, sv v = v) : sumN' sv [1, 2, 3] = 6 := by
  unfold sumN'
  rw [if_neg (by simp)]
  simp only [sumL]
  rw [h 1 (upto_mem.2 (by omega)), h 2 (upto_mem.2 (by omega)), h 3 (upto_mem.2 (by omega))]
  exact (wr_id (by omega) (by omega)).trans (by omega)
theorem tri_min {lv : Int → Int} (h : ∀ v ∈ upto 3, lv v = v) : minN' lv [1, 2, 3] = 1 := by
  unfold minN'
  rw [if_neg (by simp)]
  simp only [minL]
  rw [h 1 (upto_mem.2 (by omega)), h 2 (upto_mem.2 (by omega)), h 3 (upto_mem.2 (by omega))]
  decide
theorem tri_sum' {sv : Int → Int} (h : ∀ v ∈ upto 3, sv v = v) (v : Int) (hv : v ∈ ([1, 2, 3] : List Int)) : sumN' sv (joinM [(2, 2, 3), (3, 3, 1)] [1, 2, 3] v) = 6 := by rw [tri_join v hv]; exact tri_sum h
theorem tri_min' {sv : Int → Int} (h : ∀ v ∈ upto 3, sv v = v) (v : Int) (hv : v ∈ ([1, 2, 3] : List Int)) : minN' sv (joinM [(2, 2, 3), (3, 3, 1)] [1, 2, 3] v) = 1 := by rw [tri_join v hv]; exact tri_min h
theorem wakes10_any (w : World) : Calls Tryz.prog 19 #[] w fun e w' => e = .returned (.bool true) ∧ Below w.heap.size w w' := by
  have HN := mkH (wk_new 4 3 w (by decide) (by decide) (by decide))
  go_enter Tryz.func19, Tryz.ntmps19
  go_wp2_with fail
  refine HN.out.mono ?_
  rintro e w1 ⟨B, rfl, hL⟩
  have L1 := mkH hL
  clear hL HN
  go_wp2
  go_loopw [3] (fun v wr => ∃ k : Nat, k ≤ 3 ∧ v = .int .i64 ((k : Int) + 1) ∧ Hid (∃ V sv lv, Wk w wr B 4 3 V sv lv [] k ∧ V = upto k ∧ ∀ v ∈ V, sv v = v ∧ lv v = v)) (fun v _ => 4 - (intOf v).toNat)
  case atStart => exact ⟨0, by omega, rfl, ⟨_, _, _, L1.out, rfl, fun v k => by cases k⟩⟩
  case round =>
    clear L1
    obtain ⟨k, hk, rfl, HX⟩ := hrel
    by_cases hlt : k < 3
    · have hlt' : (k : Int) + 1 < 4 := by omega
      obtain ⟨V, sv, lv, h1, h2, h3⟩ := HX.out
      subst h2
      have HV : Hid (Calls Tryz.prog 6 #[.pointer (some ⟨B, 0, none⟩), .int .i64 ((k : Int) + 1), .int .i64 ((k : Int) + 1)] wr fun e w' => e = .returned (.tuple #[.int .i64 ((k : Int) + 1), .int .i64 0]) ∧ ∃ V sv lv, Wk w w' B 4 3 V sv lv [] (k + 1) ∧ V = upto (k + 1) ∧ ∀ v ∈ V, sv v = v ∧ lv v = v) := by
        refine (wk_vertex h1 (by omega) (upto_least k) (by rw [upto_len]; omega) ((k : Int) + 1) ((k : Int) + 1) (by unfold okSL; rw [decide_eq_true_iff]; omega)).mono fun e w' H => ⟨H.1, _, _, _, H.2, (upto_succ k).symm, fun v hv => ?_⟩
        by_cases e : v = (k : Int) + 1
        · subst e; rw [updI_at, updI_at]; exact ⟨rfl, rfl⟩
        · rw [updI_ne e, updI_ne e]
          rcases List.mem_append.1 hv with q | q
          · exact h3 v q
          · exact absurd (List.mem_singleton.1 q) e
      clear h1 h3 HX
      go_wp2_with fail
      refine HV.out.mono ?_
      rintro e w2 ⟨rfl, h4⟩
      have H4 := mkH h4
      clear h4 HV
      go_wp2
      go_roundw
      case rel => exact ⟨k + 1, by omega, by go_num, H4⟩
      case measure => simp [intOf]; omega
    · obtain rfl : k = 3 := by omega
      obtain ⟨V, sv, lv, h1, h2, h3⟩ := HX.out
      subst h2
      have S1 := mkH (fun v hv => (h3 v hv).1)
      have S2 := mkH (fun v hv => (h3 v hv).2)
      have H1 : Hid (Wk w wr B 4 3 [1, 2, 3] sv lv [] 3) := h1
      clear h1 h3 HX
      go_wp2_with fail
      refine (wk_insert H1.out (by omega) (r := 1) tri_l0 (by simp) (by simp) (by omega)).mono ?_
      rintro e w2 ⟨rfl, h⟩
      have H2 : Hid (Wk w w2 B 4 3 [1, 2, 3] sv lv [(1, 1, 2)] 4) := h
      clear h H1
      go_wp2_with fail
      refine (wk_insert H2.out (by omega) (r := 2) tri_l1 (by simp) (by simp) (by omega)).mono ?_
      rintro e w3 ⟨rfl, h⟩
      have H3 : Hid (Wk w w3 B 4 3 [1, 2, 3] sv lv [(1, 1, 2), (2, 2, 3)] 5) := h
      clear h H2
      go_wp2_with fail
      refine (wk_insert H3.out (by omega) (r := 3) tri_l2 (by simp) (by simp) (by omega)).mono ?_
      rintro e w4 ⟨rfl, h⟩
      have H4 : Hid (Wk w w4 B 4 3 [1, 2, 3] sv lv [(1, 1, 2), (2, 2, 3), (3, 3, 1)] 6) := h
      clear h H3
      go_wp2_with fail
      refine (wk_delete H4.out (by omega) (e := 1) (a := 1) (b := 2) (by simp)).mono ?_
      rintro e w5 ⟨rfl, h⟩
      have H5 : Hid (Wk w w5 B 4 3 [1, 2, 3] sv lv [(2, 2, 3), (3, 3, 1)] 7) := h.with rfl (by decide)
      clear h H4
      go_wp2_with fail
      refine (wk_conn H5.out 1 2 (by unfold B64; omega) (by unfold B64; omega) tri_con).mono ?_
      rintro e w6 ⟨rfl, h⟩
      have H6 := mkH h
      clear h H5
      go_wp2_with fail
      refine (wk_size H6.out 1 (by unfold B64; omega) (t := 3) (by rw [tri_join 1 (by simp)]; rfl)).mono ?_
      rintro e w7 ⟨rfl, h⟩
      have H7 := mkH h
      clear h H6
      go_wp2_with fail
      refine (wk_sum H7.out 1 (by unfold B64; omega) (tri_sum' S1.out 1 (by simp))).mono ?_
      rintro e w8 ⟨rfl, h⟩
      have H8 := mkH h
      clear h H7
      go_wp2_with fail
      refine (wk_least H8.out 3 (by unfold B64; omega) (tri_min' S2.out 3 (by simp))).mono ?_
      rintro e w9 ⟨rfl, h⟩
      have H9 := mkH h
      clear h H8
      go_wp2_with fail
      refine (wk_delete H9.out (by omega) (e := 3) (a := 3) (b := 1) (by simp)).mono ?_
      rintro e w10 ⟨rfl, h⟩
      have H10 : Hid (Wk w w10 B 4 3 [1, 2, 3] sv lv [(2, 2, 3)] 8) := h.with rfl (by decide)
      clear h H9
      go_wp2_with fail
      refine (wk_conn H10.out 1 2 (by unfold B64; omega) (by unfold B64; omega) tri_cut).mono ?_
      rintro e w11 ⟨rfl, h⟩
      have H11 := mkH h
      clear h H10
      go_wp2_with fail
      refine (wk_highest H11.out).mono ?_
      rintro e w12 ⟨rfl, h⟩
      have H12 := mkH h.bl
      clear h H11
      go_wp2
      go_ret
      exact ⟨rfl, H12.out⟩
structure Gv where
  V : List Int
  sv : Int → Int
  lv : Int → Int
  M : List (Int × Int × Int)
def Lw (F : Nat → Prop) (W : World) (B : Nat) (n : Int) (m : Nat) (x : Gv) (T : Nat) : Prop := Lg F W B n m x.V x.sv x.lv x.M T
def VxR (n : Int) (x : Gv) (s l r er : Int) (y : Gv) : Prop :=
  (n ≤ x.V.length ∧ r = 0 ∧ er = 6 ∧ y = x) ∨ ((x.V.length : Int) < n ∧ okSL s l = false ∧ r = 0 ∧ er = 1 ∧ y = x) ∨ ((x.V.length : Int) < n ∧ okSL s l = true ∧ Least (fun t => t ∈ x.V) r ∧ er = 0 ∧ y = ⟨x.V ++ [r], updI x.sv r s, updI x.lv r l, x.M⟩)
theorem VxR.one {n : Int} {x y y' : Gv} {s l r er r' er' : Int} (h : VxR n x s l r er y) (k : VxR n x s l r' er' y') : r' = r ∧ er' = er ∧ y' = y := by
  rcases h with ⟨a, rfl, rfl, rfl⟩ | ⟨a, b, rfl, rfl, rfl⟩ | ⟨a, b, c, rfl, rfl⟩ <;> rcases k with ⟨a', rfl, rfl, rfl⟩ | ⟨a', b', rfl, rfl, rfl⟩ | ⟨a', b', c', rfl, rfl⟩
  · exact ⟨rfl, rfl, rfl⟩
  · omega
  · omega
  · omega
  · exact ⟨rfl, rfl, rfl⟩
  · rw [b] at b'; cases b'
  · omega
  · rw [b] at b'; cases b'
  · obtain rfl := Least.one c c'
    exact ⟨rfl, rfl, rfl⟩
def DrR (x : Gv) (v er : Int) (y : Gv) : Prop :=
  (v ∉ x.V ∧ er = 4 ∧ y = x) ∨ (v ∈ x.V ∧ (∃ e a b, (e, a, b) ∈ x.M ∧ (a = v ∨ b = v)) ∧ er = 13 ∧ y = x) ∨ (v ∈ x.V ∧ (¬ ∃ e a b, (e, a, b) ∈ x.M ∧ (a = v ∨ b = v)) ∧ er = 0 ∧ y = ⟨x.V.filter fun u => decide (u ≠ v), x.sv, x.lv, x.M⟩)
theorem DrR.one {x y y' : Gv} {v er er' : Int} (h : DrR x v er y) (k : DrR x v er' y') : er' = er ∧ y' = y := by
  rcases h with ⟨a, rfl, rfl⟩ | ⟨a, b, rfl, rfl⟩ | ⟨a, b, rfl, rfl⟩ <;> rcases k with ⟨a', rfl, rfl⟩ | ⟨a', b', rfl, rfl⟩ | ⟨a', b', rfl, rfl⟩
  · exact ⟨rfl, rfl⟩
  · exact absurd a' a
  · exact absurd a' a
  · exact absurd a a'
  · exact ⟨rfl, rfl⟩
  · exact absurd b b'
  · exact absurd a a'
  · exact absurd b' b
  · exact ⟨rfl, rfl⟩
def InR (x : Gv) (a b r er : Int) (y : Gv) : Prop :=
  (¬ (a ∈ x.V ∧ b ∈ x.V) ∧ r = 0 ∧ er = 4 ∧ y = x) ∨ ((a ∈ x.V ∧ b ∈ x.V) ∧ a = b ∧ r = 0 ∧ er = 1 ∧ y = x) ∨ ((a ∈ x.V ∧ b ∈ x.V) ∧ a ≠ b ∧ Least (fun t => ∃ a b, (t, a, b) ∈ x.M) r ∧ er = 0 ∧ y = ⟨x.V, x.sv, x.lv, x.M ++ [(r, a, b)]⟩)
theorem InR.one {x y y' : Gv} {a b r er r' er' : Int} (h : InR x a b r er y) (k : InR x a b r' er' y') : r' = r ∧ er' = er ∧ y' = y := by
  rcases h with ⟨p, rfl, rfl, rfl⟩ | ⟨p, q, rfl, rfl, rfl⟩ | ⟨p, q, c, rfl, rfl⟩ <;> rcases k with ⟨p', rfl, rfl, rfl⟩ | ⟨p', q', rfl, rfl, rfl⟩ | ⟨p', q', c', rfl, rfl⟩
  · exact ⟨rfl, rfl, rfl⟩
  · exact absurd p' p
  · exact absurd p' p
  · exact absurd p p'
  · exact ⟨rfl, rfl, rfl⟩
  · exact absurd q q'
  · exact absurd p p'
  · exact absurd q' q
  · obtain rfl := Least.one c c'
    exact ⟨rfl, rfl, rfl⟩
def DeR (x : Gv) (e er : Int) (y : Gv) : Prop :=
  ((∀ a b, (e, a, b) ∉ x.M) ∧ er = 4 ∧ y = x) ∨ ((∃ a b, (e, a, b) ∈ x.M) ∧ er = 0 ∧ y = ⟨x.V, x.sv, x.lv, x.M.filter fun z => decide (z.1 ≠ e)⟩)
theorem DeR.one {x y y' : Gv} {e er er' : Int} (h : DeR x e er y) (k : DeR x e er' y') : er' = er ∧ y' = y := by
  rcases h with ⟨a, rfl, rfl⟩ | ⟨⟨a, b, c⟩, rfl, rfl⟩ <;> rcases k with ⟨a', rfl, rfl⟩ | ⟨⟨a', b', c'⟩, rfl, rfl⟩
  · exact ⟨rfl, rfl⟩
  · exact absurd c' (a _ _)
  · exact absurd c (a' _ _)
  · exact ⟨rfl, rfl⟩
section
variable {F : Nat → Prop} {w w' : World} {B : Nat} {n : Int} {m : Nat} {x : Gv} {T : Nat}
theorem Lw.below (h : Lw F w B n m x T) (hb : Below w.heap.size w w') : Lw F w' B n m x T := Lg.below h hb
theorem Lw.later (h : Lw F w B n m x T) (hT : T + 1 ≤ 200) : Lw F w B n m x (T + 1) := by
  obtain ⟨p, g, ⟨K, D, h⟩, r⟩ := h
  exact ⟨p, g, ⟨K, D, h.later h.gm (by omega) hT⟩, r⟩
theorem lw_vertex (h : Lw F w B n m x T) (hT : T + 1 ≤ 200) (s l : Int) :
    Calls Tryz.prog 6 #[.pointer (some ⟨B, 0, none⟩), .int .i64 s, .int .i64 l] w fun e w' => ∃ r er y F', e = .returned (.tuple #[.int .i64 r, .int .i64 er]) ∧ VxR n x s l r er y ∧ Lw F' w' B n m y (T + 1) ∧ Step F F' w w' := by
  refine (lg_vertex h hT s l).mono fun e w' H => ?_
  rcases H with ⟨a, b, c⟩ | ⟨a, b, c, d⟩ | ⟨a, b, r, q0, q1, F', q2, q3⟩
  · exact ⟨0, 6, x, F, b, .inl ⟨a, rfl, rfl, rfl⟩, (h.below c).later hT, Step.of_below c⟩
  · exact ⟨0, 1, x, F, c, .inr (.inl ⟨a, b, rfl, rfl, rfl⟩), (h.below d).later hT, Step.of_below d⟩
  · exact ⟨r, 0, ⟨x.V ++ [r], updI x.sv r s, updI x.lv r l, x.M⟩, F', q0, .inr (.inr ⟨a, b, q1, rfl, rfl⟩), q2, q3⟩
theorem lw_drop (h : Lw F w B n m x T) (hT : T + 1 ≤ 200) (v : Int) (hb : B64 v) :
    Calls Tryz.prog 10 #[.pointer (some ⟨B, 0, none⟩), .int .i64 v] w fun e w' => ∃ er y F', e = .returned (.int .i64 er) ∧ DrR x v er y ∧ Lw F' w' B n m y (T + 1) ∧ Step F F' w w' := by
  refine (lg_drop h hT v hb).mono fun e w' H => ?_
  rcases H with ⟨a, b, c⟩ | ⟨a, b, c, F', q1, q2⟩ | ⟨a, b, c, F', q1, q2⟩
  · exact ⟨4, x, F, b, .inl ⟨a, rfl, rfl⟩, (h.below c).later hT, Step.of_below c⟩
  · exact ⟨13, x, F', c, .inr (.inl ⟨a, b, rfl, rfl⟩), q1, q2⟩
  · exact ⟨0, ⟨x.V.filter fun u => decide (u ≠ v), x.sv, x.lv, x.M⟩, F', c, .inr (.inr ⟨a, b, rfl, rfl⟩), q1, q2⟩
theorem lw_insert (h : Lw F w B n m x T) (hT : T + 1 ≤ 200) (a b : Int) (ha : B64 a) (hb : B64 b) :
    Calls Tryz.prog 7 #[.pointer (some ⟨B, 0, none⟩), .int .i64 a, .int .i64 b] w fun e w' => ∃ r er y F', e = .returned (.tuple #[.int .i64 r, .int .i64 er]) ∧ InR x a b r er y ∧ Lw F' w' B n m y (T + 1) ∧ Step F F' w w' := by
  by_cases hV : a ∈ x.V ∧ b ∈ x.V
  · by_cases hab : a = b
    · refine (lg_insert_no h ha hb (.inr (.inr hab))).mono fun e w' H => ?_
      exact ⟨0, 1, x, F, H.1.1 hV, .inr (.inl ⟨hV, hab, rfl, rfl, rfl⟩), (h.below H.2).later hT, Step.of_below H.2⟩
    · refine (lg_insert h hT hV.1 hV.2 hab).mono fun e w' H => ?_
      obtain ⟨r, q0, q1, F', q2, q3⟩ := H
      exact ⟨r, 0, ⟨x.V, x.sv, x.lv, x.M ++ [(r, a, b)]⟩, F', q0, .inr (.inr ⟨hV, hab, q1, rfl, rfl⟩), q2, q3⟩
  · refine (lg_insert_no h ha hb (Classical.or_iff_not_imp_left.2 fun k => .inl fun k2 => hV ⟨Classical.not_not.1 k, k2⟩)).mono fun e w' H => ?_
    exact ⟨0, 4, x, F, H.1.2 hV, .inl ⟨hV, rfl, rfl, rfl⟩, (h.below H.2).later hT, Step.of_below H.2⟩
theorem lw_delete (h : Lw F w B n m x T) (hT : T + 1 ≤ 200) (e : Int) (he : B64 e) :
    Calls Tryz.prog 11 #[.pointer (some ⟨B, 0, none⟩), .int .i64 e] w fun r w' => ∃ er y F', r = .returned (.int .i64 er) ∧ DeR x e er y ∧ Lw F' w' B n m y (T + 1) ∧ Step F F' w w' := by
  by_cases hx : ∃ a b, (e, a, b) ∈ x.M
  · obtain ⟨a, b, hx⟩ := hx
    refine (lg_delete h hT hx).mono fun r w' H => ?_
    obtain ⟨q0, F', q1, q2⟩ := H
    exact ⟨0, ⟨x.V, x.sv, x.lv, x.M.filter fun z => decide (z.1 ≠ e)⟩, F', q0, .inr ⟨⟨a, b, hx⟩, rfl, rfl⟩, q1, q2⟩
  · have hx' : ∀ a b, (e, a, b) ∉ x.M := fun a b k => hx ⟨a, b, k⟩
    refine (lg_delete_no h he hx').mono fun r w' H => ?_
    exact ⟨4, x, F, H.1, .inl ⟨hx', rfl, rfl⟩, (h.below H.2).later hT, Step.of_below H.2⟩
end
structure Dl (w0 W : World) (F1 : Nat → Prop) (B1 : Nat) (x1 : Gv) (T1 : Nat) (F2 : Nat → Prop) (B2 : Nat) (x2 : Gv) (T2 : Nat) (n : Int) (m : Nat) : Prop where
  a : Lw F1 W B1 n m x1 T1
  b : Lw F2 W B2 n m x2 T2
  dis : ∀ k, F1 k → ¬ F2 k
  la : ∀ k, F1 k → w0.heap.size ≤ k
  lb : ∀ k, F2 k → w0.heap.size ≤ k
  bl : Below w0.heap.size w0 W
section
variable {w0 W W' : World} {F1 F2 F' : Nat → Prop} {B1 B2 : Nat} {x1 x2 y : Gv} {T1 T2 T' : Nat} {n : Int} {m : Nat}
theorem Dl.below (h : Dl w0 W F1 B1 x1 T1 F2 B2 x2 T2 n m) (hb : Below W.heap.size W W') : Dl w0 W' F1 B1 x1 T1 F2 B2 x2 T2 n m := ⟨h.a.below hb, h.b.below hb, h.dis, h.la, h.lb, below_step h.bl hb (Nat.le_refl _)⟩
theorem Dl.stepA (h : Dl w0 W F1 B1 x1 T1 F2 B2 x2 T2 n m) (hl : Lw F' W' B1 n m y T') (hs : Step F1 F' W W') : Dl w0 W' F' B1 y T' F2 B2 x2 T2 n m :=
  ⟨hl, Lg.step h.b hs (fun k h2 h1 => h.dis k h1 h2), fun k k1 k2 => (hs.ext k k1).elim (fun k3 => h.dis k k3 k2) (fun k3 => by have := Lg.lt h.b k k2; omega), hs.from h.bl.size h.la, h.lb, hs.start h.bl (Nat.le_refl _) h.la⟩
theorem Dl.stepB (h : Dl w0 W F1 B1 x1 T1 F2 B2 x2 T2 n m) (hl : Lw F' W' B2 n m y T') (hs : Step F2 F' W W') : Dl w0 W' F1 B1 x1 T1 F' B2 y T' n m :=
  ⟨Lg.step h.a hs h.dis, hl, fun k k1 k2 => (hs.ext k k2).elim (fun k3 => h.dis k k1 k3) (fun k3 => by have := Lg.lt h.a k k1; omega), h.la, hs.from h.bl.size h.lb, hs.start h.bl (Nat.le_refl _) h.lb⟩
end
theorem lw_reads (y : Gv) (n : Int) (m : Nat) (a b : Int) (ha : B64 a) (hb : B64 b) : ∃ (cc : Bool) (cz cs cl : Int),
    (∀ W F B T, Lw F W B n m y T → Calls Tryz.prog 13 #[.pointer (some ⟨B, 0, none⟩), .int .i64 a, .int .i64 b] W fun e w' => e = .returned (.bool cc) ∧ Below W.heap.size W w') ∧
    (∀ W F B T, Lw F W B n m y T → Calls Tryz.prog 14 #[.pointer (some ⟨B, 0, none⟩), .int .i64 a] W fun e w' => e = .returned (.int .i64 cz) ∧ Below W.heap.size W w') ∧
    (∀ W F B T, Lw F W B n m y T → Calls Tryz.prog 15 #[.pointer (some ⟨B, 0, none⟩), .int .i64 a] W fun e w' => e = .returned (.int .i64 cs) ∧ Below W.heap.size W w') ∧
    (∀ W F B T, Lw F W B n m y T → Calls Tryz.prog 16 #[.pointer (some ⟨B, 0, none⟩), .int .i64 b] W fun e w' => e = .returned (.int .i64 cl) ∧ Below W.heap.size W w') :=
  ⟨_, _, _, _, fun W F B T h => lg_conn h a b ha hb, fun W F B T h => lg_size h a ha, fun W F B T h => lg_sum h a ha, fun W F B T h => lg_least h b hb⟩
theorem levdraws_walk (ao : Option Addr) (ca : Nat) (xs : List Int) (bo : Option Addr) (cb : Nat) (ys : List Int) (n : Int) (co : Option Addr) (cc : Nat) (qs : List A10.Ac) (w : World) (hka : UAt w ao xs) (hwa : Wu xs) (hla : xs.length ≤ 9223372036854775807) (hkb : UAt w bo ys) (hwb : Wu ys) (hlb : ys.length ≤ 9223372036854775807) (hkq : A10.AcAt w co qs) (hlq : qs.length ≤ 9223372036854775807) :
    Calls Tryz.prog 4 #[.slice ao xs.length ca, .slice bo ys.length cb, .int .i64 n, .slice co qs.length cc] w fun e w' => e = .returned (.bool true) ∧ Below w.heap.size w w' := by
  have HA : Hid (UAt w ao xs ∧ Wu xs) := ⟨hka, hwa⟩
  have HBb : Hid (UAt w bo ys ∧ Wu ys) := ⟨hkb, hwb⟩
  have HQ := mkH hkq
  clear hka hwa hkb hwb hkq
  obtain ⟨na, hna⟩ : ∃ na, na = xs.length := ⟨_, rfl⟩
  obtain ⟨nb, hnb⟩ : ∃ nb, nb = ys.length := ⟨_, rfl⟩
  obtain ⟨c, hm⟩ : ∃ c, c = qs.length := ⟨_, rfl⟩
  rw [← hna, ← hnb, ← hm]
  rw [← hna] at hla
  rw [← hnb] at hlb
  rw [← hm] at hlq
  have HNA := mkH hna
  have HNB := mkH hnb
  have HM := mkH hm
  clear hna hnb hm
  have wake : ∀ wx : World, Below w.heap.size w wx → Calls Tryz.prog 19 #[] wx fun e w' => e = .returned (.bool true) ∧ Below w.heap.size w w' := fun wx hb => (wakes10_any wx).mono fun e w' ⟨h1, h2⟩ => ⟨h1, hb.trans (h2.mono hb.size)⟩
  have WK := mkH wake
  clear wake
  by_cases hq : (120 : Int) < (c : Int)
  · go_enter Tryz.func4, Tryz.ntmps4
    go_wp2_with fail
    refine (WK.out _ (Below.refl _ _)).mono ?_
    rintro e w1 ⟨rfl, hb⟩
    have HB1 := mkH hb
    clear hb
    go_wp2
    go_ret
    exact ⟨rfl, HB1.out⟩
  by_cases ha : (60 : Int) < (na : Int)
  · go_enter Tryz.func4, Tryz.ntmps4
    go_wp2_with fail
    refine (WK.out _ (Below.refl _ _)).mono ?_
    rintro e w1 ⟨rfl, hb⟩
    have HB1 := mkH hb
    clear hb
    go_wp2
    go_ret
    exact ⟨rfl, HB1.out⟩
  by_cases hb : (60 : Int) < (nb : Int)
  · go_enter Tryz.func4, Tryz.ntmps4
    go_wp2_with fail
    refine (WK.out _ (Below.refl _ _)).mono ?_
    rintro e w1 ⟨rfl, hb⟩
    have HB1 := mkH hb
    clear hb
    go_wp2
    go_ret
    exact ⟨rfl, HB1.out⟩
  have hN1 := dnew_yes ao xs.length ca xs w rfl HA.out.1 HA.out.2 (by have := HNA.out; omega)
  rw [← HNA.out] at hN1
  have HN1 := mkH hN1
  have HN2 : Hid (∀ wx, Below w.heap.size w wx → Calls Tryz.prog 20 #[.slice bo nb cb] wx fun e w' => ∃ D G, e = .returned (.tuple #[.pointer (some ⟨D, 0, none⟩), .int .i64 0]) ∧ wx.heap.size ≤ D ∧ wx.heap.size ≤ G ∧ Drw w' D G ys 0 ∧ Below wx.heap.size wx w') := fun wx hb => by
    have := dnew_yes bo ys.length cb ys wx rfl (HBb.out.1.below hb) HBb.out.2 (by have := HNB.out; omega)
    rw [← HNB.out] at this
    exact this
  clear hN1 HA HBb
  go_enter Tryz.func4, Tryz.ntmps4
  go_wp2_with fail
  refine HN1.out.mono ?_
  rintro e w1 ⟨D1, E1, rfl, hd1, he1, hD1, hb1⟩
  have HD1 := mkH hD1
  have HB1 := mkH hb1
  have s1 := hb1.size
  have t1 := hD1.lt
  have u1 := hD1.gl
  clear hD1 hb1 HN1
  go_wp2_with fail
  refine (HN2.out _ HB1.out).mono ?_
  rintro e w2 ⟨D2, E2, rfl, hd2, he2, hD2, hb2⟩
  have HD2 := mkH hD2
  have HB2 := mkH hb2
  have s2 := hb2.size
  have t2 := hD2.lt
  have u2 := hD2.gl
  clear hD2 hb2 HN2
  by_cases hn : n < 1 ∨ 4194304 < n
  · have HW2 : Hid (Below w.heap.size w w2) := below_step HB1.out HB2.out (Nat.le_refl _)
    have HNo := mkH (fun d : Option Addr => lnew_no d n w2 hn)
    clear hn HD1 HD2 HB1 HB2 s1 s2 t1 t2 u1 u2 hd1 he1 hd2 he2
    go_wp2_with fail
    refine (HNo.out _).mono ?_
    rintro e _ ⟨rfl, rfl⟩
    go_wp2_with fail
    refine (HNo.out _).mono ?_
    rintro e _ ⟨rfl, rfl⟩
    go_wp2_with fail
    refine (WK.out _ HW2.out).mono ?_
    rintro e w3 ⟨rfl, hb⟩
    have HB3 := mkH hb
    clear hb
    go_wp2
    go_ret
    exact ⟨rfl, HB3.out⟩
  obtain ⟨N, rfl⟩ : ∃ N : Nat, n = (N : Int) := ⟨n.toNat, by omega⟩
  have hN0 : 1 ≤ N ∧ N ≤ 4194304 := by omega
  clear hn
  obtain ⟨m, hmm⟩ : ∃ m, m = bitLen N := ⟨_, rfl⟩
  have HC1 := mkH (lg_new (some ⟨D1, 0, none⟩) (some (D1, E1, xs)) N w2 hN0.1 hN0.2 (.inr ⟨D1, E1, xs, rfl, rfl, HD1.out.below HB2.out⟩))
  have HC2 := mkH (fun (W : World) (hb : Below w2.heap.size w2 W) => lg_new (some ⟨D2, 0, none⟩) (some (D2, E2, ys)) N W hN0.1 hN0.2 (.inr ⟨D2, E2, ys, rfl, rfl, HD2.out.below hb⟩))
  rw [← hmm] at HC1 HC2
  clear hmm hN0
  go_wp2_with fail
  refine HC1.out.mono ?_
  rintro e w3 ⟨B1, F1, rfl, hL, hF, hb3⟩
  have hF1 : ∀ k, F1 k → w2.heap.size ≤ k ∨ k = D1 ∨ k = E1 := fun k hk => (hF k hk).imp id fun ⟨D, Dg, zs, e, h⟩ => by cases e; exact h
  have hF1l := hL.lt
  have s3 := hb3.size
  have HL1 := mkH hL
  have HB3 := mkH hb3
  clear hL hF hb3 HC1
  go_wp2_with fail
  refine (HC2.out _ HB3.out).mono ?_
  rintro e w4 ⟨B2, F2, rfl, hL, hF, hb4⟩
  have hF2 : ∀ k, F2 k → w3.heap.size ≤ k ∨ k = D2 ∨ k = E2 := fun k hk => (hF k hk).imp id fun ⟨D, Dg, zs, e, h⟩ => by cases e; exact h
  have HT0 : Hid (Dl w w4 F1 B1 ⟨[], n0, n0, []⟩ 0 F2 B2 ⟨[], n0, n0, []⟩ 0 N m) := by
    refine ⟨Lg.below HL1.out hb4, hL, fun k k1 k2 => ?_, fun k k1 => ?_, fun k k2 => ?_, below_step (below_step (below_step HB1.out HB2.out (Nat.le_refl _)) HB3.out (Nat.le_refl _)) hb4 (Nat.le_refl _)⟩
    · have := hF1 k k1; have := hF2 k k2; have := hF1l k k1; omega
    · have := hF1 k k1; omega
    · have := hF2 k k2; omega
  clear hL hF hb4 hF1 hF2 hF1l HL1 HB1 HB2 HB3 HC2 HD1 HD2 s1 s2 s3 t1 t2 u1 u2 hd1 he1 hd2 he2
  go_wp2
  go_loopw [17] (fun vk wr => ∃ (k : Nat) (x : Gv) (F1 F2 : Nat → Prop), vk = .int .i64 k ∧ k ≤ c ∧ Hid (Dl w wr F1 B1 x k F2 B2 x k N m)) (fun vk _ => c - (intOf vk).toNat)
  case atStart => exact ⟨0, _, _, _, rfl, Nat.zero_le _, HT0.out⟩
  case round =>
    clear HT0
    obtain ⟨k, x, F1, F2, rfl, hkm, HT⟩ := hrel
    by_cases hlt : k < c
    · rcases HQ.out with h | ⟨b, off, rfl, hbl, hc⟩
      · have := HM.out; rw [h] at this; simp at this; omega
      · have hok := (hc k (by rw [← HM.out]; exact hlt)).2
        have CL : Hid (∀ wx, Below w.heap.size w wx → A10.AcIn wx b (off + k * 6) (A10.aAt qs k)) := fun wx hb => (hc k (by rw [← HM.out]; exact hlt)).1.below hb hbl
        obtain ⟨ob1, oe, oa, ob, ox, oy⟩ := hok
        have hbe : B64 (A10.aAt qs k).e := oe
        have hba : B64 (A10.aAt qs k).a := oa
        have hbb : B64 (A10.aAt qs k).b := ob
        clear hc ob1 oe oa ob ox oy
        have hlti : (k : Int) < (c : Int) := by omega
        have hT1 : k + 1 ≤ 200 := by omega
        generalize A10.aAt qs k = q at *
        obtain ⟨qd, qe, qa, qb, qx, qy⟩ := q
        simp only at hbe hba hbb
        have RD := mkH (fun y => lw_reads y N m qa qb hba hbb)
        have hbW : Hid (b < w.heap.size) := hbl
        have hTe := mkH hbe
        have hTa := mkH hba
        have hTb := mkH hbb
        clear hbe hba hbb hbl
        obtain ⟨c0, c1, c2, c3, c4, c5⟩ := CL.out _ HT.out.bl
        by_cases d0 : qd = 0
        · subst d0
          have HDd0 := mkH (HT.out.below (Below.refl wr.heap.size wr).drew)
          have CU0 := mkH (lw_vertex HDd0.out.a hT1 qx qy)
          have HO0 : Hid (∀ W o F', Step F1 F' wr.drew W → W.cell? ⟨b, o, none⟩ = wr.drew.cell? ⟨b, o, none⟩) := fun W o F' hs => hs.cell (by have := HDd0.out.bl.size; have := hbW.out; omega) (fun k1 => by have := HDd0.out.la _ k1; have := hbW.out; omega)
          have HE0 : Hid (∀ W F' y, Lw F' W B1 N m y (k + 1) → Step F1 F' wr.drew W → Dl w W F' B1 y (k + 1) F2 B2 x k N m) := fun W F' y h1 h2 => HDd0.out.stepA h1 h2
          clear HT HDd0
          have z4 : wr.drew.cell? ⟨b, off + k * 6 + 4, none⟩ = some (.int .i64 qx) := c4
          have z5 : wr.drew.cell? ⟨b, off + k * 6 + 5, none⟩ = some (.int .i64 qy) := c5
          go_wp2
          go_region_held3 (fun w' => w'.cell? ⟨b, off + k * 6 + 4, none⟩ = some (.int .i64 qx) ∧ w'.cell? ⟨b, off + k * 6 + 5, none⟩ = some (.int .i64 qy))
            (first | go_keep | exact ⟨(HO0.out _ _ _ hS5).trans z4, (HO0.out _ _ _ hS5).trans z5⟩)
            (first | (go_at_call 6; refine CU0.out.mono ?_; rintro e w5 ⟨r5, er5, y5, F5, rfl, hR5, hG5, hS5⟩) | fail)
          have HX1 := mkH (HE0.out _ _ _ hG5 hS5)
          rename_i hHeld
          clear hHeld hG5 hS5 HE0 HO0 CU0 z4 z5
          have HR5 := mkH hR5
          clear hR5
          generalize hy0 : y5 = y0 at *
          clear hy0
          generalize hF4 : F5 = F4 at *
          clear hF4
          clear c0 c1 c2 c3 c4 c5
          obtain ⟨c0, c1, c2, c3, c4, c5⟩ := CL.out _ HX1.out.bl
          have HDd1 := mkH (HX1.out.below (Below.refl w5.heap.size w5).drew)
          have CU1 := mkH (lw_vertex HDd1.out.b hT1 qx qy)
          have HO1 : Hid (∀ W o F', Step F2 F' w5.drew W → W.cell? ⟨b, o, none⟩ = w5.drew.cell? ⟨b, o, none⟩) := fun W o F' hs => hs.cell (by have := HDd1.out.bl.size; have := hbW.out; omega) (fun k1 => by have := HDd1.out.lb _ k1; have := hbW.out; omega)
          have HE1 : Hid (∀ W F' y, Lw F' W B2 N m y (k + 1) → Step F2 F' w5.drew W → Dl w W F4 B1 y0 (k + 1) F' B2 y (k + 1) N m) := fun W F' y h1 h2 => HDd1.out.stepB h1 h2
          clear HX1 HDd1
          have z4 : w5.drew.cell? ⟨b, off + k * 6 + 4, none⟩ = some (.int .i64 qx) := c4
          have z5 : w5.drew.cell? ⟨b, off + k * 6 + 5, none⟩ = some (.int .i64 qy) := c5
          go_wp2
          go_region_held3 (fun w' => w'.cell? ⟨b, off + k * 6 + 4, none⟩ = some (.int .i64 qx) ∧ w'.cell? ⟨b, off + k * 6 + 5, none⟩ = some (.int .i64 qy))
            (first | go_keep | exact ⟨(HO1.out _ _ _ hS6).trans z4, (HO1.out _ _ _ hS6).trans z5⟩)
            (first | (go_at_call 6; refine CU1.out.mono ?_; rintro e w6 ⟨r6, er6, y6, F6, rfl, hR6, hG6, hS6⟩) | fail)
          have HX2 := mkH (HE1.out _ _ _ hG6 hS6)
          rename_i hHeld
          clear hHeld hG6 hS6 HE1 HO1 CU1 z4 z5
          obtain ⟨rfl, rfl, rfl⟩ := HR5.out.one hR6
          clear hR6 HR5
          generalize y6 = y at *
          clear c0 c1 c2 c3 c4 c5
          obtain ⟨c0, c1, c2, c3, c4, c5⟩ := CL.out _ HX2.out.bl
          obtain ⟨rc, rz, rs, rl, RC, RZ, RS, RL⟩ := RD.out y
          have RC := mkH RC
          have RZ := mkH RZ
          have RS := mkH RS
          have RL := mkH RL
          clear RD
          go_wp2_with fail
          refine (RC.out _ _ _ _ HX2.out.a).mono ?_
          rintro e v1 ⟨rfl, hb⟩
          have HV1 := mkH (HX2.out.below hb)
          clear hb HX2 c0 c1 c2 c3 c4 c5
          go_wp2_with fail
          refine (RC.out _ _ _ _ HV1.out.b).mono ?_
          rintro e v2 ⟨rfl, hb⟩
          have HV2 := mkH (HV1.out.below hb)
          clear hb HV1
          go_wp2_with fail
          refine (RZ.out _ _ _ _ HV2.out.a).mono ?_
          rintro e v3 ⟨rfl, hb⟩
          have HV3 := mkH (HV2.out.below hb)
          clear hb HV2
          go_wp2_with fail
          refine (RZ.out _ _ _ _ HV3.out.b).mono ?_
          rintro e v4 ⟨rfl, hb⟩
          have HV4 := mkH (HV3.out.below hb)
          clear hb HV3
          go_wp2_with fail
          refine (RS.out _ _ _ _ HV4.out.a).mono ?_
          rintro e v5 ⟨rfl, hb⟩
          have HV5 := mkH (HV4.out.below hb)
          clear hb HV4
          go_wp2_with fail
          refine (RS.out _ _ _ _ HV5.out.b).mono ?_
          rintro e v6 ⟨rfl, hb⟩
          have HV6 := mkH (HV5.out.below hb)
          clear hb HV5
          go_wp2_with fail
          refine (RL.out _ _ _ _ HV6.out.a).mono ?_
          rintro e v7 ⟨rfl, hb⟩
          have HV7 := mkH (HV6.out.below hb)
          clear hb HV6
          go_wp2_with fail
          refine (RL.out _ _ _ _ HV7.out.b).mono ?_
          rintro e v8 ⟨rfl, hb⟩
          have HV8 := mkH (HV7.out.below hb)
          clear hb HV7
          clear RC RZ RS RL
          go_wp2
          go_roundw
          case rel => exact ⟨k + 1, y, _, _, by go_num, by omega, HV8.out⟩
          case measure => simp [intOf]; omega
        by_cases d1 : qd = 1
        · subst d1
          go_wp2_with fail
          refine (lw_drop HT.out.a hT1 qa hTa.out).mono ?_
          rintro e w5 ⟨er5, y5, F5, rfl, hR, hG, hS⟩
          have HX1 := mkH (HT.out.stepA hG hS)
          have HR5 := mkH hR
          clear hR hG hS HT
          clear c0 c1 c2 c3 c4 c5
          obtain ⟨c0, c1, c2, c3, c4, c5⟩ := CL.out _ HX1.out.bl
          go_wp2_with fail
          refine (lw_drop HX1.out.b hT1 qa hTa.out).mono ?_
          rintro e w6 ⟨er6, y6, F6, rfl, hR, hG, hS⟩
          have HX2 := mkH (HX1.out.stepB hG hS)
          have HR6 := mkH hR
          clear hR hG hS HX1
          clear c0 c1 c2 c3 c4 c5
          obtain ⟨c0, c1, c2, c3, c4, c5⟩ := CL.out _ HX2.out.bl
          obtain ⟨rfl, rfl⟩ := HR5.out.one HR6.out
          clear HR6 HR5
          generalize y6 = y at *
          obtain ⟨rc, rz, rs, rl, RC, RZ, RS, RL⟩ := RD.out y
          have RC := mkH RC
          have RZ := mkH RZ
          have RS := mkH RS
          have RL := mkH RL
          clear RD
          go_wp2_with fail
          refine (RC.out _ _ _ _ HX2.out.a).mono ?_
          rintro e v1 ⟨rfl, hb⟩
          have HV1 := mkH (HX2.out.below hb)
          clear hb HX2 c0 c1 c2 c3 c4 c5
          go_wp2_with fail
          refine (RC.out _ _ _ _ HV1.out.b).mono ?_
          rintro e v2 ⟨rfl, hb⟩
          have HV2 := mkH (HV1.out.below hb)
          clear hb HV1
          go_wp2_with fail
          refine (RZ.out _ _ _ _ HV2.out.a).mono ?_
          rintro e v3 ⟨rfl, hb⟩
          have HV3 := mkH (HV2.out.below hb)
          clear hb HV2
          go_wp2_with fail
          refine (RZ.out _ _ _ _ HV3.out.b).mono ?_
          rintro e v4 ⟨rfl, hb⟩
          have HV4 := mkH (HV3.out.below hb)
          clear hb HV3
          go_wp2_with fail
          refine (RS.out _ _ _ _ HV4.out.a).mono ?_
          rintro e v5 ⟨rfl, hb⟩
          have HV5 := mkH (HV4.out.below hb)
          clear hb HV4
          go_wp2_with fail
          refine (RS.out _ _ _ _ HV5.out.b).mono ?_
          rintro e v6 ⟨rfl, hb⟩
          have HV6 := mkH (HV5.out.below hb)
          clear hb HV5
          go_wp2_with fail
          refine (RL.out _ _ _ _ HV6.out.a).mono ?_
          rintro e v7 ⟨rfl, hb⟩
          have HV7 := mkH (HV6.out.below hb)
          clear hb HV6
          go_wp2_with fail
          refine (RL.out _ _ _ _ HV7.out.b).mono ?_
          rintro e v8 ⟨rfl, hb⟩
          have HV8 := mkH (HV7.out.below hb)
          clear hb HV7
          clear RC RZ RS RL
          go_wp2
          go_roundw
          case rel => exact ⟨k + 1, y, _, _, by go_num, by omega, HV8.out⟩
          case measure => simp [intOf]; omega
        by_cases d2 : qd = 2
        · subst d2
          have HDd0 := mkH (HT.out.below (Below.refl wr.heap.size wr).drew)
          have CU0 := mkH (lw_insert HDd0.out.a hT1 qa qb hTa.out hTb.out)
          have HO0 : Hid (∀ W o F', Step F1 F' wr.drew W → W.cell? ⟨b, o, none⟩ = wr.drew.cell? ⟨b, o, none⟩) := fun W o F' hs => hs.cell (by have := HDd0.out.bl.size; have := hbW.out; omega) (fun k1 => by have := HDd0.out.la _ k1; have := hbW.out; omega)
          have HE0 : Hid (∀ W F' y, Lw F' W B1 N m y (k + 1) → Step F1 F' wr.drew W → Dl w W F' B1 y (k + 1) F2 B2 x k N m) := fun W F' y h1 h2 => HDd0.out.stepA h1 h2
          clear HT HDd0
          have z2 : wr.drew.cell? ⟨b, off + k * 6 + 2, none⟩ = some (.int .i64 qa) := c2
          have z3 : wr.drew.cell? ⟨b, off + k * 6 + 3, none⟩ = some (.int .i64 qb) := c3
          go_wp2
          go_region_held3 (fun w' => w'.cell? ⟨b, off + k * 6 + 2, none⟩ = some (.int .i64 qa) ∧ w'.cell? ⟨b, off + k * 6 + 3, none⟩ = some (.int .i64 qb))
            (first | go_keep | exact ⟨(HO0.out _ _ _ hS5).trans z2, (HO0.out _ _ _ hS5).trans z3⟩)
            (first | (go_at_call 7; refine CU0.out.mono ?_; rintro e w5 ⟨r5, er5, y5, F5, rfl, hR5, hG5, hS5⟩) | fail)
          have HX1 := mkH (HE0.out _ _ _ hG5 hS5)
          rename_i hHeld
          clear hHeld hG5 hS5 HE0 HO0 CU0 z2 z3
          have HR5 := mkH hR5
          clear hR5
          generalize hy0 : y5 = y0 at *
          clear hy0
          generalize hF4 : F5 = F4 at *
          clear hF4
          clear c0 c1 c2 c3 c4 c5
          obtain ⟨c0, c1, c2, c3, c4, c5⟩ := CL.out _ HX1.out.bl
          have HDd1 := mkH (HX1.out.below (Below.refl w5.heap.size w5).drew)
          have CU1 := mkH (lw_insert HDd1.out.b hT1 qa qb hTa.out hTb.out)
          have HO1 : Hid (∀ W o F', Step F2 F' w5.drew W → W.cell? ⟨b, o, none⟩ = w5.drew.cell? ⟨b, o, none⟩) := fun W o F' hs => hs.cell (by have := HDd1.out.bl.size; have := hbW.out; omega) (fun k1 => by have := HDd1.out.lb _ k1; have := hbW.out; omega)
          have HE1 : Hid (∀ W F' y, Lw F' W B2 N m y (k + 1) → Step F2 F' w5.drew W → Dl w W F4 B1 y0 (k + 1) F' B2 y (k + 1) N m) := fun W F' y h1 h2 => HDd1.out.stepB h1 h2
          clear HX1 HDd1
          have z2 : w5.drew.cell? ⟨b, off + k * 6 + 2, none⟩ = some (.int .i64 qa) := c2
          have z3 : w5.drew.cell? ⟨b, off + k * 6 + 3, none⟩ = some (.int .i64 qb) := c3
          go_wp2
          go_region_held3 (fun w' => w'.cell? ⟨b, off + k * 6 + 2, none⟩ = some (.int .i64 qa) ∧ w'.cell? ⟨b, off + k * 6 + 3, none⟩ = some (.int .i64 qb))
            (first | go_keep | exact ⟨(HO1.out _ _ _ hS6).trans z2, (HO1.out _ _ _ hS6).trans z3⟩)
            (first | (go_at_call 7; refine CU1.out.mono ?_; rintro e w6 ⟨r6, er6, y6, F6, rfl, hR6, hG6, hS6⟩) | fail)
          have HX2 := mkH (HE1.out _ _ _ hG6 hS6)
          rename_i hHeld
          clear hHeld hG6 hS6 HE1 HO1 CU1 z2 z3
          obtain ⟨rfl, rfl, rfl⟩ := HR5.out.one hR6
          clear hR6 HR5
          generalize y6 = y at *
          clear c0 c1 c2 c3 c4 c5
          obtain ⟨c0, c1, c2, c3, c4, c5⟩ := CL.out _ HX2.out.bl
          obtain ⟨rc, rz, rs, rl, RC, RZ, RS, RL⟩ := RD.out y
          have RC := mkH RC
          have RZ := mkH RZ
          have RS := mkH RS
          have RL := mkH RL
          clear RD
          go_wp2_with fail
          refine (RC.out _ _ _ _ HX2.out.a).mono ?_
          rintro e v1 ⟨rfl, hb⟩
          have HV1 := mkH (HX2.out.below hb)
          clear hb HX2 c0 c1 c2 c3 c4 c5
          go_wp2_with fail
          refine (RC.out _ _ _ _ HV1.out.b).mono ?_
          rintro e v2 ⟨rfl, hb⟩
          have HV2 := mkH (HV1.out.below hb)
          clear hb HV1
          go_wp2_with fail
          refine (RZ.out _ _ _ _ HV2.out.a).mono ?_
          rintro e v3 ⟨rfl, hb⟩
          have HV3 := mkH (HV2.out.below hb)
          clear hb HV2
          go_wp2_with fail
          refine (RZ.out _ _ _ _ HV3.out.b).mono ?_
          rintro e v4 ⟨rfl, hb⟩
          have HV4 := mkH (HV3.out.below hb)
          clear hb HV3
          go_wp2_with fail
          refine (RS.out _ _ _ _ HV4.out.a).mono ?_
          rintro e v5 ⟨rfl, hb⟩
          have HV5 := mkH (HV4.out.below hb)
          clear hb HV4
          go_wp2_with fail
          refine (RS.out _ _ _ _ HV5.out.b).mono ?_
          rintro e v6 ⟨rfl, hb⟩
          have HV6 := mkH (HV5.out.below hb)
          clear hb HV5
          go_wp2_with fail
          refine (RL.out _ _ _ _ HV6.out.a).mono ?_
          rintro e v7 ⟨rfl, hb⟩
          have HV7 := mkH (HV6.out.below hb)
          clear hb HV6
          go_wp2_with fail
          refine (RL.out _ _ _ _ HV7.out.b).mono ?_
          rintro e v8 ⟨rfl, hb⟩
          have HV8 := mkH (HV7.out.below hb)
          clear hb HV7
          clear RC RZ RS RL
          go_wp2
          go_roundw
          case rel => exact ⟨k + 1, y, _, _, by go_num, by omega, HV8.out⟩
          case measure => simp [intOf]; omega
        have e0 : (qd == 0) = false := by simpa using d0
        have e1 : (qd == 1) = false := by simpa using d1
        have e2 : (qd == 2) = false := by simpa using d2
        go_wp2_with fail
        refine (lw_delete HT.out.a hT1 qe hTe.out).mono ?_
        rintro e w5 ⟨er5, y5, F5, rfl, hR, hG, hS⟩
        have HX1 := mkH (HT.out.stepA hG hS)
        have HR5 := mkH hR
        clear hR hG hS HT
        clear c0 c1 c2 c3 c4 c5
        obtain ⟨c0, c1, c2, c3, c4, c5⟩ := CL.out _ HX1.out.bl
        go_wp2_with fail
        refine (lw_delete HX1.out.b hT1 qe hTe.out).mono ?_
        rintro e w6 ⟨er6, y6, F6, rfl, hR, hG, hS⟩
        have HX2 := mkH (HX1.out.stepB hG hS)
        have HR6 := mkH hR
        clear hR hG hS HX1
        clear c0 c1 c2 c3 c4 c5
        obtain ⟨c0, c1, c2, c3, c4, c5⟩ := CL.out _ HX2.out.bl
        obtain ⟨rfl, rfl⟩ := HR5.out.one HR6.out
        clear HR6 HR5
        generalize y6 = y at *
        obtain ⟨rc, rz, rs, rl, RC, RZ, RS, RL⟩ := RD.out y
        have RC := mkH RC
        have RZ := mkH RZ
        have RS := mkH RS
        have RL := mkH RL
        clear RD
        go_wp2_with fail
        refine (RC.out _ _ _ _ HX2.out.a).mono ?_
        rintro e v1 ⟨rfl, hb⟩
        have HV1 := mkH (HX2.out.below hb)
        clear hb HX2 c0 c1 c2 c3 c4 c5
        go_wp2_with fail
        refine (RC.out _ _ _ _ HV1.out.b).mono ?_
        rintro e v2 ⟨rfl, hb⟩
        have HV2 := mkH (HV1.out.below hb)
        clear hb HV1
        go_wp2_with fail
        refine (RZ.out _ _ _ _ HV2.out.a).mono ?_
        rintro e v3 ⟨rfl, hb⟩
        have HV3 := mkH (HV2.out.below hb)
        clear hb HV2
        go_wp2_with fail
        refine (RZ.out _ _ _ _ HV3.out.b).mono ?_
        rintro e v4 ⟨rfl, hb⟩
        have HV4 := mkH (HV3.out.below hb)
        clear hb HV3
        go_wp2_with fail
        refine (RS.out _ _ _ _ HV4.out.a).mono ?_
        rintro e v5 ⟨rfl, hb⟩
        have HV5 := mkH (HV4.out.below hb)
        clear hb HV4
        go_wp2_with fail
        refine (RS.out _ _ _ _ HV5.out.b).mono ?_
        rintro e v6 ⟨rfl, hb⟩
        have HV6 := mkH (HV5.out.below hb)
        clear hb HV5
        go_wp2_with fail
        refine (RL.out _ _ _ _ HV6.out.a).mono ?_
        rintro e v7 ⟨rfl, hb⟩
        have HV7 := mkH (HV6.out.below hb)
        clear hb HV6
        go_wp2_with fail
        refine (RL.out _ _ _ _ HV7.out.b).mono ?_
        rintro e v8 ⟨rfl, hb⟩
        have HV8 := mkH (HV7.out.below hb)
        clear hb HV7
        clear RC RZ RS RL
        go_wp2
        go_roundw
        case rel => exact ⟨k + 1, y, _, _, by go_num, by omega, HV8.out⟩
        case measure => simp [intOf]; omega
    · have hlti : ¬ (k : Int) < (c : Int) := by omega
      have HBk := mkH HT.out.bl
      clear HT
      go_wp2_with fail
      refine (WK.out _ HBk.out).mono ?_
      rintro e w9 ⟨rfl, hb⟩
      have HB9 := mkH hb
      clear hb HBk
      go_wp2
      go_ret
      exact ⟨rfl, HB9.out⟩
end Go.Proofs.YtlmdjghcmofdlaaGreat
