/- Over whatever program: a list that grows in a box, round by round. -/
import Derived.Test.YtpbnhbpkfdhedaaArenaRow
import Derived.Test.YtpbnhbpkfdhedaaIterLaw
namespace Go.Proofs.Ytpbnhbpkfdhedaa
open Go.RowKit
set_option linter.unusedVariables false

/-- The box bx (its type ts) has a slice whose elements (of type te, a cell each) are xs; its row lies in a block with ok. -/
def Bag (bx : Nat) (ts te : TypeId) (ok : Nat → Prop) (xs : List Value) (A : World) : Prop := ∃ v, Blk A bx ts #[v] ∧ RowW A te 1 v xs.length xs ∧ ∀ k, v.ownBlock = some k → ok k ∧ k ≠ bx
section
variable {bx : Nat} {ts te : TypeId} {ok : Nat → Prop} {xs : List Value} {A A' : World}
theorem RowW.grown {e : TypeId} {size n : Nat} {v : Value} (h : RowW A e size v n xs) {row : Option Nat} (hg : A.grownBy A' row) (hr : ∀ r, row = some r → ∃ o : Obj, A.heap[r]? = some o ∧ o.isCells = false) : RowW A' e size v n xs := by
  refine h.kept fun k hk => hg.block k (h.lt hk) (fun e' => ?_)
  obtain ⟨o, ho, hc⟩ := hr k e'.symm
  rcases h.2 with ⟨e0, _⟩ | ⟨g, cap, cur, e0, hb, _⟩
  · rw [e0] at hk; cases hk
  · rw [e0] at hk; cases hk
    rw [show A.heap[g]? = _ from hb] at ho; cases ho; cases hc
theorem Bag.grown (h : Bag bx ts te ok xs A) {row : Option Nat} (hg : A.grownBy A' row) (hr : ∀ r, row = some r → ∃ o : Obj, A.heap[r]? = some o ∧ o.isCells = false) : Bag bx ts te ok xs A' := by
  obtain ⟨v, h1, h2, h3⟩ := h
  exact ⟨v, blk_grown h1 hg hr, h2.grown hg hr, h3⟩
theorem Bag.own (f : List Int → List Value) : Own (fun s W => Bag bx ts te ok (f s) W) := fun s X Y row hs hg hr => hs.grown hg hr
/-- One more was appended, and the box written. -/
theorem Bag.push {w2 : World} {v u : Value} {n g cap : Nat} {o : Obj} (h1 : Blk A bx ts #[v]) (h2 : RowW A te 1 v n xs) (h3 : v.ownBlock ≠ some bx) (k2 : RowW w2 te 1 (.slice (some ⟨g, 0, none⟩) (n + 1) cap) (n + 1) (xs ++ [u])) (hg : (A.alloc o).grownBy w2 v.ownBlock) (hat : v.ownBlock = some g ∨ g = A.heap.size + 1) :
    Blk (w2.setCell ⟨bx, 0, none⟩ (.slice (some ⟨g, 0, none⟩) (n + 1) cap)) bx ts #[.slice (some ⟨g, 0, none⟩) (n + 1) cap] ∧ RowW (w2.setCell ⟨bx, 0, none⟩ (.slice (some ⟨g, 0, none⟩) (n + 1) cap)) te 1 (.slice (some ⟨g, 0, none⟩) (n + 1) cap) (n + 1) (xs ++ [u]) ∧ g ≠ bx ∧
      KeepsOthers A (w2.setCell ⟨bx, 0, none⟩ (.slice (some ⟨g, 0, none⟩) (n + 1) cap)) ∧ (∀ k, k < A.heap.size → k ≠ bx → v.ownBlock ≠ some k → (w2.setCell ⟨bx, 0, none⟩ (.slice (some ⟨g, 0, none⟩) (n + 1) cap)).heap[k]? = A.heap[k]?) ∧ Blk w2 bx ts #[v] := by
  have hbl := h1.lt
  have hs2 := hg.size
  simp at hs2
  have hgb : g ≠ bx := by
    rcases hat with e | e
    · intro e0; subst e0; exact h3 e
    · omega
  have hb2 : Blk w2 bx ts #[v] := (h1.alloc o).kept hg (Ne.symm h3)
  have keep : ∀ k, k < A.heap.size → k ≠ bx → v.ownBlock ≠ some k → (w2.setCell ⟨bx, 0, none⟩ (.slice (some ⟨g, 0, none⟩) (n + 1) cap)).heap[k]? = A.heap[k]? := fun k hk hne hnv =>
    (Below.heap_setCell w2 ⟨bx, 0, none⟩ _ k hne).trans ((hg.block k (by simp; omega) (Ne.symm hnv)).trans (heap_alloc_old A o k hk))
  refine ⟨hb2.set1 _, k2.kept fun k hk => Below.heap_setCell w2 ⟨bx, 0, none⟩ _ k (fun e => by cases hk; exact hgb e), hgb, ⟨by rw [show (w2.setCell ⟨bx, 0, none⟩ (.slice (some ⟨g, 0, none⟩) (n + 1) cap)).heap.size = w2.heap.size by show (w2.heap.modify _ _).size = _; rw [Array.size_modify]]; omega, fun k ob hk hc => ?_⟩, keep, hb2⟩
  have hkl := (Array.getElem?_eq_some_iff.1 hk).1
  refine (keep k hkl (fun e => ?_) (fun e => ?_)).trans hk
  · subst e; rw [show A.heap[k]? = _ from h1] at hk; cases hk; cases hc
  · rcases h2.2 with ⟨e0, _⟩ | ⟨g', cap', cur, e0, hb', _⟩
    · rw [e0] at e; cases e
    · rw [e0] at e; cases e
      rw [show A.heap[g']? = _ from hb'] at hk; cases hk; cases hc
end
end Go.Proofs.Ytpbnhbpkfdhedaa
