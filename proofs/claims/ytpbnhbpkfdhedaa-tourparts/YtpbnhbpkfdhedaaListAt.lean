/- Lists of integers, by place. -/
import Derived.ProofKit
namespace Go.Proofs.Ytpbnhbpkfdhedaa
set_option linter.unusedVariables false

def lAt (L : List Int) (i : Nat) : Int := L.getD i 0
theorem lAt_eq {L : List Int} {i : Nat} (h : i < L.length) : lAt L i = L[i] := by
  unfold lAt; rw [List.getD_eq_getElem?_getD, List.getElem?_eq_getElem h]; rfl
theorem lAt_mem {L : List Int} {i : Nat} (h : i < L.length) : lAt L i ∈ L := by rw [lAt_eq h]; exact List.getElem_mem h
theorem lAt_some {L : List Int} {i : Nat} (h : i < L.length) : L[i]? = some (lAt L i) := by rw [lAt_eq h]; exact List.getElem?_eq_getElem h
theorem lAt_out {L : List Int} {i : Nat} (h : L.length ≤ i) : lAt L i = 0 := by
  unfold lAt; rw [List.getD_eq_getElem?_getD, List.getElem?_eq_none h]; rfl
theorem ltake_snoc {L : List Int} {i : Nat} (h : i < L.length) : L.take (i + 1) = L.take i ++ [lAt L i] := by
  rw [lAt_eq h, List.take_add_one, List.getElem?_eq_getElem h]; rfl
theorem list_ext {L M : List Int} (hl : L.length = M.length) (h : ∀ i, i < L.length → lAt L i = lAt M i) : L = M := by
  apply List.ext_getElem hl
  intro i h1 h2
  have := h i h1
  rwa [lAt_eq h1, lAt_eq h2] at this
end Go.Proofs.Ytpbnhbpkfdhedaa
