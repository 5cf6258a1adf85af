/- Over whatever program: a frame's boxes (blocks of cells of one's own, made since a start), and the marks that its ranges leave. -/
import Derived.Test.YtabgplniaiehpabIterZ
import Derived.Test.YtabgplniaiehpabLevRejB
namespace Go.Proofs.Ytabgplniaiehpab
open Go.RowKit
set_option linter.unusedVariables false
abbrev BxE := Nat × TypeId × Array Value
structure Bq (bs : List BxE) (Ds : List Nat) (w0 W : World) : Prop where
  bx : ∀ e ∈ bs, Blk W e.1 e.2.1 e.2.2
  lo : ∀ e ∈ bs, w0.heap.size ≤ e.1
  nb : (bs.map (·.1)).Nodup
  ms : ∀ D ∈ Ds, Mark W D
  md : ∀ D ∈ Ds, w0.heap.size ≤ D
  nd : Ds.Nodup
  bl : Below w0.heap.size w0 W
theorem bk_set {X Z b o : Nat} {W : World} (v : Value) (hb : b < X) : BK X Z W (W.setCell ⟨b, o, none⟩ v) := ⟨by show _ ≤ (W.heap.modify _ _).size; rw [Array.size_modify]; exact Nat.le_refl _, fun i h1 h2 => Below.heap_setCell W ⟨b, o, none⟩ v i (fun e => by subst e; exact absurd h1 (Nat.not_le.2 hb))⟩
theorem bk_set2 {X Z b o : Nat} {W : World} (v : Value) (hb : Z ≤ b) : BK X Z W (W.setCell ⟨b, o, none⟩ v) := ⟨by show _ ≤ (W.heap.modify _ _).size; rw [Array.size_modify]; exact Nat.le_refl _, fun i h1 h2 => Below.heap_setCell W ⟨b, o, none⟩ v i (fun e => by subst e; exact absurd h2 (Nat.not_lt.2 hb))⟩
theorem bk_own {β : Type} {X Z B : Nat} {A : World} (h1 : Z ≤ A.heap.size) (h2 : Z ≤ B) : OwnFrom B (fun (_ : β) W => BK X Z A W) := fun s W W' row hs hg hr =>
  ⟨Nat.le_trans hs.size hg.size, fun k k1 k2 => (hg.block k (by have := hs.size; omega) (fun e => by have := (hr k e.symm).1; omega)).trans (hs.same k k1 k2)⟩
theorem size_set (W : World) (a : Addr) (v : Value) : (W.setCell a v).heap.size = W.heap.size := by show (W.heap.modify _ _).size = _; rw [Array.size_modify]
section
variable {bs : List BxE} {Ds : List Nat} {w0 W W' : World}
theorem Bq.start (w : World) : Bq [] [] w w := ⟨fun e h => (by cases h), fun e h => (by cases h), List.nodup_nil, fun e h => (by cases h), fun e h => (by cases h), List.nodup_nil, Below.refl _ _⟩
theorem Bq.lt (h : Bq bs Ds w0 W) : ∀ e ∈ bs, e.1 < W.heap.size := fun e he => (h.bx e he).lt
theorem Bq.mlt (h : Bq bs Ds w0 W) : ∀ D ∈ Ds, D < W.heap.size := fun D hD => (Array.getElem?_eq_some_iff.1 (h.ms D hD)).1
theorem Bq.at (h : Bq bs Ds w0 W) {b : Nat} {t : TypeId} {cs : Array Value} (he : (b, t, cs) ∈ bs) : Blk W b t cs := h.bx _ he
theorem Bq.lowN {n : Nat} (h : Bq bs Ds w0 W) (hb : Below n W W') (h1 : ∀ e ∈ bs, e.1 < n) (h2 : ∀ D ∈ Ds, D < n) (h3 : w0.heap.size ≤ n) : Bq bs Ds w0 W' :=
  ⟨fun e he => (hb.block _ (h1 e he)).trans (h.bx e he), h.lo, h.nb, fun D hD => (hb.block _ (h2 D hD)).trans (h.ms D hD), h.md, h.nd, h.bl.trans (hb.mono h3)⟩
theorem Bq.below (h : Bq bs Ds w0 W) (hb : Below W.heap.size W W') : Bq bs Ds w0 W' := h.lowN hb h.lt h.mlt h.bl.size
theorem Bq.alloc (h : Bq bs Ds w0 W) (cs : Array Value) (t : TypeId) : Bq ((W.heap.size, t, cs) :: bs) Ds w0 (W.alloc (.cells cs t)) := by
  have k := h.below ((Below.refl W.heap.size W).alloc (Nat.le_refl _) (.cells cs t))
  refine ⟨fun e he => ?_, fun e he => ?_, ?_, k.ms, k.md, k.nd, k.bl⟩
  · rcases List.mem_cons.1 he with rfl | he
    · exact Blk.new W t cs
    · exact k.bx e he
  · rcases List.mem_cons.1 he with rfl | he
    · exact h.bl.size
    · exact k.lo e he
  · rw [List.map_cons, List.nodup_cons]
    refine ⟨fun hm => ?_, h.nb⟩
    obtain ⟨e, he, k1⟩ := List.mem_map.1 hm
    have := h.lt e he
    omega
theorem Bq.setAt (h : Bq bs Ds w0 W) {i : Nat} {b : Nat} {t : TypeId} {cs : Array Value} (hi : bs[i]? = some (b, t, cs)) (j : Nat) (v : Value) : Bq (bs.set i (b, t, cs.setIfInBounds j v)) Ds w0 (W.setCell ⟨b, j, none⟩ v) := by
  have hlt : i < bs.length := (List.getElem?_eq_some_iff.1 hi).1
  have he : bs[i] = (b, t, cs) := (List.getElem?_eq_some_iff.1 hi).2
  have hmem : (b, t, cs) ∈ bs := he ▸ List.getElem_mem hlt
  have hmap : (bs.set i (b, t, cs.setIfInBounds j v)).map (·.1) = bs.map (·.1) := by
    rw [List.map_set]
    refine List.ext_getElem (by simp) fun k h1 h2 => ?_
    rw [List.getElem_set]
    split
    · rename_i e; subst e; simp [he]
    · rfl
  have old : ∀ k, k ≠ b → (W.setCell ⟨b, j, none⟩ v).heap[k]? = W.heap[k]? := fun k hk => Below.heap_setCell W ⟨b, j, none⟩ v k (fun e => hk e)
  have hB : Blk W b t cs := h.bx _ hmem
  have hmb : ∀ D ∈ Ds, D ≠ b := fun D hD e => by
    subst e
    have h1 := h.ms D hD
    have h2 : W.heap[D]? = some (.cells cs t (0, 0)) := hB
    rw [h1] at h2; cases h2
  have hbk : ∀ e ∈ bs.set i (b, t, cs.setIfInBounds j v), e = (b, t, cs.setIfInBounds j v) ∨ (e ∈ bs ∧ e.1 ≠ b) := fun e he' => by
    obtain ⟨k, hk, ek⟩ := List.mem_iff_getElem.1 he'
    rw [List.getElem_set] at ek
    split at ek
    · exact .inl ek.symm
    · rename_i hne
      have hk' : k < bs.length := by simpa using hk
      refine .inr ⟨ek ▸ List.getElem_mem hk', fun hb => hne ?_⟩
      have hn := h.nb
      rw [List.nodup_iff_pairwise_ne, List.pairwise_iff_getElem] at hn
      rcases Nat.lt_trichotomy i k with c | c | c
      · exact absurd (by rw [List.getElem_map, List.getElem_map, he, ek]; exact hb.symm) (hn i k (by simpa using hlt) (by simpa using hk') c)
      · exact c
      · exact absurd (by rw [List.getElem_map, List.getElem_map, he, ek]; exact hb) (hn k i (by simpa using hk') (by simpa using hlt) c)
  refine ⟨fun e he' => ?_, fun e he' => ?_, by rw [hmap]; exact h.nb, fun D hD => (old D (hmb D hD)).trans (h.ms D hD), h.md, h.nd, h.bl.setCell (p := ⟨b, j, none⟩) (h.lo _ hmem) _⟩
  · rcases hbk e he' with rfl | ⟨k1, k2⟩
    · exact hB.setAt j v
    · exact (old _ k2).trans (h.bx e k1)
  · rcases hbk e he' with rfl | ⟨k1, k2⟩
    · exact h.lo (b, t, cs) hmem
    · exact h.lo e k1
theorem Bq.get (h : Bq bs Ds w0 W) {i b : Nat} {t : TypeId} {cs : Array Value} (hi : bs[i]? = some (b, t, cs)) : Blk W b t cs := h.bx _ (List.mem_of_getElem? hi)
theorem Bq.ltAt (h : Bq bs Ds w0 W) {i b : Nat} {t : TypeId} {cs : Array Value} (hi : bs[i]? = some (b, t, cs)) : b < W.heap.size := (h.get hi).lt
theorem Bq.take (h : Bq bs Ds w0 W) (hb : Below W.heap.size W W') {b : Nat} {t : TypeId} {cs : Array Value} (hk : Blk W' b t cs) (hl : W.heap.size ≤ b) : Bq ((b, t, cs) :: bs) Ds w0 W' := by
  have k := h.below hb
  refine ⟨fun e he => ?_, fun e he => ?_, ?_, k.ms, k.md, k.nd, k.bl⟩
  · rcases List.mem_cons.1 he with rfl | he
    · exact hk
    · exact k.bx e he
  · rcases List.mem_cons.1 he with rfl | he
    · exact Nat.le_trans h.bl.size hl
    · exact k.lo e he
  · rw [List.map_cons, List.nodup_cons]
    refine ⟨fun hm => ?_, h.nb⟩
    obtain ⟨e, he, k1⟩ := List.mem_map.1 hm
    have := h.lt e he
    simp only at k1
    omega
theorem Bq.take2 (h : Bq bs Ds w0 W) (hb : Below W.heap.size W W') {b c : Nat} {t u : TypeId} {cs ds : Array Value} (hk : Blk W' b t cs) (hl : W.heap.size ≤ b) (hk2 : Blk W' c u ds) (hl2 : W.heap.size ≤ c) (hne : c ≠ b) : Bq ((c, u, ds) :: (b, t, cs) :: bs) Ds w0 W' := by
  have k := h.take hb hk hl
  refine ⟨fun e he => ?_, fun e he => ?_, ?_, k.ms, k.md, k.nd, k.bl⟩
  · rcases List.mem_cons.1 he with rfl | he
    · exact hk2
    · exact k.bx e he
  · rcases List.mem_cons.1 he with rfl | he
    · exact Nat.le_trans h.bl.size hl2
    · exact k.lo e he
  · rw [List.map_cons, List.nodup_cons]
    refine ⟨fun hm => ?_, k.nb⟩
    rw [List.map_cons, List.mem_cons] at hm
    rcases hm with k1 | k1
    · exact hne k1
    · obtain ⟨e, he, k2⟩ := List.mem_map.1 k1
      have := h.lt e he
      simp only at k2
      omega
theorem Bq.tail {e : BxE} (h : Bq (e :: bs) Ds w0 W) : Bq bs Ds w0 W := ⟨fun e he => h.bx e (List.mem_cons_of_mem _ he), fun e he => h.lo e (List.mem_cons_of_mem _ he), (List.nodup_cons.1 h.nb).2, h.ms, h.md, h.nd, h.bl⟩
theorem Bq.sub {bs' : List BxE} (h : Bq bs Ds w0 W) (hs : bs'.Sublist bs) : Bq bs' Ds w0 W := ⟨fun e he => h.bx e (hs.subset he), fun e he => h.lo e (hs.subset he), h.nb.sublist (hs.map _), h.ms, h.md, h.nd, h.bl⟩
theorem Bq.nlt (h : Bq bs Ds w0 W) : ∀ n ∈ bs.map (·.1), n < W.heap.size := fun n hn => by obtain ⟨e, he, rfl⟩ := List.mem_map.1 hn; exact h.lt e he
theorem Bq.cast {bs' : List BxE} (h : Bq bs Ds w0 W) (e : bs = bs') : Bq bs' Ds w0 W := e ▸ h
theorem Bq.owns {β : Type} {X : Nat} {f : β → List BxE} {nums : List Nat} (hn : ∀ s, (f s).map (·.1) = nums) (h1 : ∀ n ∈ nums, n < X) (h2 : ∀ D ∈ Ds, D < X) (h3 : w0.heap.size ≤ X) : OwnFrom X (fun s W => X ≤ W.heap.size ∧ Bq (f s) Ds w0 W) := fun s A B row hs hg hr =>
  ⟨Nat.le_trans hs.1 hg.size, hs.2.lowN ⟨hg.os, hg.tape, hg.output, hg.size, fun k hk => hg.block k (Nat.lt_of_lt_of_le hk hs.1) (fun e => by have := (hr k e.symm).1; omega)⟩ (fun e he => h1 _ (by rw [← hn s]; exact List.mem_map.2 ⟨e, he, rfl⟩)) h2 h3⟩
theorem Bq.mark (h : Bq bs Ds w0 W) {D X : Nat} (hK : W.heap[D]? = some (.deferred (some []))) (hD : X ≤ D) (h1 : ∀ D ∈ Ds, D < X) (h0 : w0.heap.size ≤ X) : Bq bs (D :: Ds) w0 W :=
  ⟨h.bx, h.lo, h.nb, fun E hE => by rcases List.mem_cons.1 hE with rfl | hE; exact hK; exact h.ms E hE, fun E hE => by rcases List.mem_cons.1 hE with rfl | hE; omega; exact h.md E hE, List.nodup_cons.2 ⟨fun k => by have := h1 D k; omega, h.nd⟩, h.bl⟩
/-- A caller's book that is a frame's boxes alone. -/
theorem Bq.own {β : Type} {X : Nat} {f : β → List BxE} (h1 : ∀ s, ∀ e ∈ f s, e.1 < X) (h2 : ∀ D ∈ Ds, D < X) (h3 : w0.heap.size ≤ X) : OwnFrom X (fun s W => X ≤ W.heap.size ∧ Bq (f s) Ds w0 W) := fun s A B row hs hg hr =>
  ⟨Nat.le_trans hs.1 hg.size, hs.2.lowN ⟨hg.os, hg.tape, hg.output, hg.size, fun k hk => hg.block k (Nat.lt_of_lt_of_le hk hs.1) (fun e => by have := (hr k e.symm).1; omega)⟩ (h1 s) h2 h3⟩
/-- The frame leaves: its marks are taken one by one. -/
theorem Bq.leave {F : Fence} {n : Nat} {P : Program} {fn : Func} {tmps : Array Value} {R : Ending → World → Prop} {u : FrameMode} (hu : u ≠ .run) (h : Bq bs Ds w0 W) (hend : ∀ W', (∀ e ∈ bs, Blk W' e.1 e.2.1 e.2.2) → Below w0.heap.size w0 W' → LeavesInM F n P fn tmps R [] u W') : LeavesInM F n P fn tmps R (marks Ds) u W := by
  refine marks_leave hu Ds (fun W' => (∀ e ∈ bs, Blk W' e.1 e.2.1 e.2.2) ∧ Below w0.heap.size w0 W') (fun W' D hD hj hm => ?_) (fun W' hj => hend W' hj.1 hj.2) W h.nd h.ms ⟨h.bx, h.bl⟩
  refine ⟨fun e he => ?_, ?_⟩
  · have hne : e.1 ≠ D := fun k => by
      have h1 : W'.heap[e.1]? = some (.cells e.2.2 e.2.1 (0, 0)) := hj.1 e he
      have h2 : W'.heap[D]? = some (.deferred (some [])) := hm
      rw [k, h2] at h1; cases h1
    exact (World.putObj_heap_other hne).trans (hj.1 e he)
  · exact ⟨hj.2.os, hj.2.tape, hj.2.output, by simpa using hj.2.size, fun k hk => (World.putObj_heap_other (by have := h.md D hD; omega)).trans (hj.2.block k hk)⟩
end
end Go.Proofs.Ytabgplniaiehpab
