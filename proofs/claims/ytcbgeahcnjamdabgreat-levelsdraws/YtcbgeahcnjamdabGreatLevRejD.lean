/- Layer 10: rejoin's memory: the graph, the frame's boxes, the marks of its ranges. -/
import Derived.Test.YtcbgeahcnjamdabGreatLevRejC
import Derived.Test.YtcbgeahcnjamdabGreatLevRejB
import Derived.Test.YtcbgeahcnjamdabGreatEdgesIterY
namespace Go.Proofs.YtcbgeahcnjamdabGreat
open Go.RowKit
set_option linter.unusedVariables false
/-- The graph, what was written since w0, boxes (block, type, cells), marks. -/
structure Jm (p : Gp) (B : Nat) (w0 : World) (F0 : Nat → Prop) (bs : List (Nat × TypeId × Array Value)) (Ds : List Nat) (W : World) (F : Nat → Prop) (g : Gs) (K : Nat) : Prop where
  gm : Gm p W F B g K
  st : Step F0 F w0 W
  bx : ∀ b ∈ bs, Bx W F b.1 b.2.1 b.2.2
  nd : Ds.Nodup
  ms : ∀ D ∈ Ds, Mark W D ∧ ¬ F D ∧ w0.heap.size ≤ D
section
variable {p : Gp} {B : Nat} {w0 W W' : World} {F0 F F' : Nat → Prop} {bs : List (Nat × TypeId × Array Value)} {Ds : List Nat} {g g' : Gs} {K K' : Nat}
theorem Mark.lt {D : Nat} (h : Mark W D) : D < W.heap.size := (Array.getElem?_eq_some_iff.1 h).1
theorem Jm.step (h : Jm p B w0 F0 bs Ds W F g K) (hG : Gm p W' F' B g' K') (hS : Step F F' W W') : Jm p B w0 F0 bs Ds W' F' g' K' :=
  ⟨hG, h.st.trans hS, fun b hb => (h.bx b hb).step hS, h.nd, fun D hD => by
    obtain ⟨k1, k2, k3⟩ := h.ms D hD
    exact ⟨(hS.only.block D k1.lt k2).trans k1, fun k => (hS.ext D k).elim k2 (fun e => by have := k1.lt; omega), k3⟩⟩
theorem Jm.below (h : Jm p B w0 F0 bs Ds W F g K) (hb : Below W.heap.size W W') : Jm p B w0 F0 bs Ds W' F g K := h.step (h.gm.below hb) (Step.of_below hb)
/-- A box more. -/
theorem Jm.box (h : Jm p B w0 F0 bs Ds W F g K) {M : Nat} {T : TypeId} {cs : Array Value} (hM : Blk W M T cs) (hn : ¬ F M) : Jm p B w0 F0 ((M, T, cs) :: bs) Ds W F g K :=
  ⟨h.gm, h.st, fun b hb => by rcases List.mem_cons.1 hb with rfl | k; exact ⟨hM, hn⟩; exact h.bx b k, h.nd, h.ms⟩
theorem Jm.bx_of (h : Jm p B w0 F0 bs Ds W F g K) {bs' : List (Nat × TypeId × Array Value)} (hb : ∀ b ∈ bs', Bx W F b.1 b.2.1 b.2.2) : Jm p B w0 F0 bs' Ds W F g K := ⟨h.gm, h.st, hb, h.nd, h.ms⟩
/-- A mark more. -/
theorem Jm.mark (h : Jm p B w0 F0 bs Ds W F g K) {D : Nat} (hD : Mark W D) (hn : ¬ F D) (hw : w0.heap.size ≤ D) (hnew : D ∉ Ds) : Jm p B w0 F0 bs (D :: Ds) W F g K :=
  ⟨h.gm, h.st, h.bx, List.nodup_cons.2 ⟨hnew, h.nd⟩, fun E hE => by rcases List.mem_cons.1 hE with rfl | k; exact ⟨hD, hn, hw⟩; exact h.ms E k⟩
/-- A mark is taken: the graph stands. -/
theorem Jm.taken {D : Nat} (h : Gm p W F B g K ∧ Step F0 F w0 W) (hn : ¬ F D) (hw : w0.heap.size ≤ D) : Gm p (W.putObj D (.deferred none)) F B g K ∧ Step F0 F w0 (W.putObj D (.deferred none)) := by
  refine ⟨h.1.kept (fun k hk => World.putObj_heap_other (fun e => hn (e ▸ hk))) (by simp), ⟨⟨h.2.only.os, h.2.only.tape, h.2.only.output, by have := h.2.only.size; simpa using this, fun k hk hf => ?_⟩, h.2.ext⟩⟩
  exact (World.putObj_heap_other (by omega)).trans (h.2.only.block k hk hf)
/-- Within a range whose own blocks lie from X to Z. -/
structure Jz (p : Gp) (B : Nat) (w0 : World) (F0 : Nat → Prop) (bs : List (Nat × TypeId × Array Value)) (Ds : List Nat) (X Z : Nat) (W : World) (F : Nat → Prop) (g : Gs) (K : Nat) : Prop where
  j : Jm p B w0 F0 bs Ds W F g K
  f : ∀ k, F k → k < X ∨ Z ≤ k
  b : ∀ b ∈ bs, b.1 < X ∨ Z ≤ b.1
  d : ∀ D ∈ Ds, D < X
  x : w0.heap.size ≤ X
theorem Jz.start {X Z : Nat} (h : Jm p B w0 F0 bs Ds W F g K) (hX : X = W.heap.size) : Jz p B w0 F0 bs Ds X Z W F g K :=
  ⟨h, fun k hk => .inl (by have := h.gm.lt k hk; omega), fun b hb => .inl (by have := (h.bx b hb).blk.lt; omega), fun D hD => by have := (h.ms D hD).1.lt; omega, by have := h.st.size; omega⟩
theorem Jz.grown {X Z : Nat} {row : Option Nat} (h : Jz p B w0 F0 bs Ds X Z W F g K) (hg : W.grownBy W' row) (hr : ∀ r, row = some r → X ≤ r ∧ r < Z ∧ ∃ o : Obj, W.heap[r]? = some o ∧ o.isCells = false) : Jz p B w0 F0 bs Ds X Z W' F g K := by
  have same : ∀ k, k < W.heap.size → (k < X ∨ Z ≤ k) → W'.heap[k]? = W.heap[k]? := fun k hk hx => hg.block k hk (fun e => by obtain ⟨q1, q2, _⟩ := hr k e.symm; omega)
  refine ⟨⟨h.j.gm.kept (fun k hk => same k (h.j.gm.lt k hk) (h.f k hk)) hg.size, ⟨⟨hg.os.trans h.j.st.only.os, hg.tape.trans h.j.st.only.tape, hg.output.trans h.j.st.only.output, Nat.le_trans h.j.st.only.size hg.size, fun k hk hn => ?_⟩, h.j.st.ext⟩, fun b hb => ?_, h.j.nd, fun D hD => ?_⟩, h.f, h.b, h.d, h.x⟩
  · have := h.x
    exact (same k (Nat.lt_of_lt_of_le hk h.j.st.only.size) (.inl (by omega))).trans (h.j.st.only.block k hk hn)
  · exact ⟨(same _ (h.j.bx b hb).blk.lt (h.b b hb)).trans (h.j.bx b hb).blk, (h.j.bx b hb).out⟩
  · obtain ⟨k1, k2, k3⟩ := h.j.ms D hD
    exact ⟨(same D k1.lt (.inl (h.d D hD))).trans k1, k2, k3⟩
theorem Jz.step {X Z : Nat} (h : Jz p B w0 F0 bs Ds X Z W F g K) (hZ : Z ≤ W.heap.size) (hG : Gm p W' F' B g' K') (hS : Step F F' W W') : Jz p B w0 F0 bs Ds X Z W' F' g' K' ∧ BK X Z W W' :=
  ⟨⟨h.j.step hG hS, fun k hk => (hS.ext k hk).elim (h.f k) (fun e => .inr (by omega)), h.b, h.d, h.x⟩, ⟨hS.size, fun k h1 h2 => hS.only.block k (by omega) (fun e => by rcases h.f k e with q | q <;> omega)⟩⟩
end
end Go.Proofs.YtcbgeahcnjamdabGreat
