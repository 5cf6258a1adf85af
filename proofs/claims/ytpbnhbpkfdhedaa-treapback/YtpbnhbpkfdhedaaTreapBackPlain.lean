/- Layer 6's statement TreapBack, plain: items 1 to k in one sequence. -/
import Derived.Test.YtpbnhbpkfdhedaaTreapDuo
namespace Go.Proofs.Ytpbnhbpkfdhedaa
open Go.RowKit
set_option linter.unusedVariables false

/-- 1, .., k. -/
def upto (k : Nat) : List Int := List.map (fun i : Nat => (i : Int) + 1) (List.range k)
theorem upto_len (k : Nat) : (upto k).length = k := by simp [upto]
theorem upto_succ (k : Nat) : upto (k + 1) = upto k ++ [(k : Int) + 1] := by simp [upto, List.range_succ]
theorem upto_mem {k : Nat} {j : Int} : j ∈ upto k ↔ 1 ≤ j ∧ j ≤ k := by
  unfold upto
  rw [List.mem_map]
  constructor
  · rintro ⟨i, hi, rfl⟩; have := List.mem_range.1 hi; omega
  · rintro ⟨h1, h2⟩; exact ⟨(j - 1).toNat, List.mem_range.2 (by omega), by omega⟩
theorem upto_at {k i : Nat} (h : i < k) : lAt (upto k) i = (i : Int) + 1 := by
  rw [lAt_eq (by rw [upto_len]; exact h)]; simp [upto]
theorem upto_idx {k : Nat} {j : Int} (h1 : 1 ≤ j) (h2 : j ≤ k) : (upto k).idxOf j = (j - 1).toNat := by
  induction k with
  | zero => omega
  | succ k ih =>
    rw [upto_succ, List.idxOf_append]
    by_cases h : j ≤ k
    · rw [if_pos (upto_mem.2 ⟨h1, h⟩), ih h]
    · rw [if_neg (fun h' => h (upto_mem.1 h').2), upto_len]
      have : j = (k : Int) + 1 := by omega
      subst this
      simp
/-- The sequences while the items are made and joined. -/
def bS (k : Nat) : Int → List Int := fun j => if 1 ≤ j ∧ j ≤ k then upto k else []
theorem bS_at {k : Nat} {j : Int} (h1 : 1 ≤ j) (h2 : j ≤ k) : bS k j = upto k := if_pos ⟨h1, h2⟩
theorem bS_zero : bS 0 = S0 := by funext j; unfold bS; rw [if_neg (by omega)]; rfl
theorem bK_new (k : Nat) : newI (List.replicate k true) [] = (k : Int) + 1 ∧ newK (List.replicate k true) [] = List.replicate (k + 1) true := by
  constructor
  · show ((List.replicate k true).length : Int) + 1 = _; rw [List.length_replicate]
  · show List.replicate k true ++ [true] = _; rw [← List.replicate_succ']
theorem bS_one : makeS (bS 0) 1 = bS 1 := by
  funext j
  unfold makeS bS
  by_cases h : j = 1
  · rw [if_pos h, if_pos (by omega)]; rfl
  · rw [if_neg h, if_neg (by omega), if_neg (by omega)]
theorem bS_join {k : Nat} (hk : 1 ≤ k) : joinB (makeS (bS k) ((k : Int) + 1)) 1 ((k : Int) + 1) = true ∧ joinS (makeS (bS k) ((k : Int) + 1)) 1 ((k : Int) + 1) = bS (k + 1) := by
  have e1 : makeS (bS k) ((k : Int) + 1) 1 = upto k := by unfold makeS; rw [if_neg (by omega), bS_at (by omega) (by omega)]
  have e2 : makeS (bS k) ((k : Int) + 1) ((k : Int) + 1) = [(k : Int) + 1] := by unfold makeS; rw [if_pos rfl]
  have hB : joinB (makeS (bS k) ((k : Int) + 1)) 1 ((k : Int) + 1) = true := by
    unfold joinB
    have h1 : (1 : Int) ∈ upto k := upto_mem.2 ⟨by omega, by omega⟩
    have h2 : ¬ (k : Int) + 1 ∈ upto k := fun h => by have := (upto_mem.1 h).2; omega
    rw [e1, e2]
    simp [h1, h2]
  refine ⟨hB, ?_⟩
  unfold joinS
  rw [if_pos hB]
  funext j
  rw [e1, e2]
  unfold bS
  by_cases h : 1 ≤ j ∧ j ≤ ((k + 1 : Nat) : Int)
  · rw [if_pos h, upto_succ, if_pos]
    by_cases h' : j ≤ k
    · exact .inl (upto_mem.2 ⟨h.1, h'⟩)
    · right; simp; omega
  · rw [if_neg h, if_neg]
    · show makeS (fun j => if 1 ≤ j ∧ j ≤ (k : Int) then upto k else []) _ j = []
      unfold makeS
      rw [if_neg (by omega)]
      simp only
      rw [if_neg (by omega)]
    · rintro (h' | h')
      · have := upto_mem.1 h'; omega
      · simp at h'; omega
/-- Behind a cut ahead of the item p + 1; and joined again, either way about. -/
theorem upto_split {n p : Nat} (hp : p ≤ n) : upto n = upto p ++ (upto n).drop p := by
  have h : (upto n).take p = upto p := by
    apply list_ext
    · rw [List.length_take, upto_len, upto_len]; omega
    · intro i hi
      rw [List.length_take, upto_len] at hi
      rw [upto_at (by omega), lAt_eq (by rw [List.length_take, upto_len]; omega), List.getElem_take]
      simp [upto]
  rw [← h, List.take_append_drop]
theorem bS_cut {k p : Nat} (hp : 1 ≤ p) (hk : p < k) : cutS (bS k) ((p : Int) + 1) = fun j => if j ∈ upto p then upto p else if j ∈ (upto k).drop p then (upto k).drop p else bS k j := by
  have e1 : bS k ((p : Int) + 1) = upto k := bS_at (by omega) (by omega)
  have e2 : (upto k).idxOf ((p : Int) + 1) = p := by rw [upto_idx (by omega) (by omega)]; omega
  have e3 : (upto k).take p = upto p := by
    have := upto_split (n := k) (p := p) (by omega)
    have h2 : (upto p).length = p := upto_len p
    calc (upto k).take p = (upto p ++ (upto k).drop p).take p := by rw [← this]
      _ = upto p := by rw [List.take_append_of_le_length (by omega), List.take_of_length_le (by omega)]
  unfold cutS
  rw [e1, e2, e3]
theorem drop_mem {k p : Nat} (hk : p ≤ k) {j : Int} : j ∈ (upto k).drop p ↔ (p : Int) < j ∧ j ≤ k := by
  constructor
  · intro h
    obtain ⟨i, hi, e⟩ := List.getElem_of_mem h
    rw [List.getElem_drop] at e
    have : (upto k)[p + i]'(by rw [List.length_drop] at hi; omega) = ((p + i : Nat) : Int) + 1 := by simp [upto]
    rw [List.length_drop, upto_len] at hi
    omega
  · rintro ⟨h1, h2⟩
    have hm : j ∈ upto k := upto_mem.2 ⟨by omega, h2⟩
    rw [upto_split hk] at hm
    rcases List.mem_append.1 hm with h3 | h3
    · have := (upto_mem.1 h3).2; omega
    · exact h3
theorem back_cut {k p : Nat} (hp : 1 ≤ p) (hk : p < k) : (cutS (bS k) ((p : Int) + 1) 1 = upto p) ∧ (cutS (bS k) ((p : Int) + 1) ((p : Int) + 1) = (upto k).drop p) := by
  rw [bS_cut hp hk]
  have h1 : (1 : Int) ∈ upto p := upto_mem.2 ⟨by omega, by omega⟩
  have h2 : ¬ (p : Int) + 1 ∈ upto p := fun h => by have := (upto_mem.1 h).2; omega
  have h3 : (p : Int) + 1 ∈ (upto k).drop p := (drop_mem (by omega)).2 ⟨by omega, by omega⟩
  exact ⟨by simp only [h1, if_true], by simp only [h2, h3, if_false, if_true]⟩
theorem back_same {k p : Nat} (hp : 1 ≤ p) (hk : p < k) : decide ((p : Int) + 1 ∈ cutS (bS k) ((p : Int) + 1) 1) = false := by
  rw [(back_cut hp hk).1]
  exact decide_eq_false (fun h => by have := (upto_mem.1 h).2; omega)
theorem back_join {k p : Nat} (hp : 1 ≤ p) (hk : p < k) : joinB (cutS (bS k) ((p : Int) + 1)) 1 ((p : Int) + 1) = true ∧ joinS (cutS (bS k) ((p : Int) + 1)) 1 ((p : Int) + 1) = bS k := by
  obtain ⟨e1, e2⟩ := back_cut hp hk
  have hB : joinB (cutS (bS k) ((p : Int) + 1)) 1 ((p : Int) + 1) = true := by
    unfold joinB
    rw [back_same hp hk, e1, e2]
    have h1 : (1 : Int) ∈ upto p := upto_mem.2 ⟨by omega, by omega⟩
    have h3 : (p : Int) + 1 ∈ (upto k).drop p := (drop_mem (by omega)).2 ⟨by omega, by omega⟩
    simp [h1, h3]
  refine ⟨hB, ?_⟩
  unfold joinS
  rw [if_pos hB, e1, e2, ← upto_split (by omega)]
  funext j
  unfold bS
  by_cases h : 1 ≤ j ∧ j ≤ (k : Int)
  · rw [if_pos h, if_pos]
    by_cases h' : j ≤ p
    · exact .inl (upto_mem.2 ⟨h.1, h'⟩)
    · exact .inr ((drop_mem (by omega)).2 ⟨by omega, h.2⟩)
  · rw [if_neg h]
    have n1 : ¬ j ∈ upto p := fun h' => by have := upto_mem.1 h'; omega
    have n2 : ¬ j ∈ (upto k).drop p := fun h' => by have := (drop_mem (by omega)).1 h'; omega
    rw [if_neg (by rintro (h' | h'); exact n1 h'; exact n2 h')]
    show cutS (fun j => if 1 ≤ j ∧ j ≤ (k : Int) then upto k else []) _ j = []
    have := congrFun (bS_cut hp hk) j
    rw [show (fun j => if 1 ≤ j ∧ j ≤ (k : Int) then upto k else []) = bS k from rfl, this]
    simp only [n1, n2, if_false]
    unfold bS; rw [if_neg h]
theorem back_turn {k p : Nat} (hp : 1 ≤ p) (hk : p < k) : joinB (cutS (bS k) ((p : Int) + 1)) ((p : Int) + 1) 1 = true ∧ joinS (cutS (bS k) ((p : Int) + 1)) ((p : Int) + 1) 1 1 = (upto k).drop p ++ upto p := by
  obtain ⟨e1, e2⟩ := back_cut hp hk
  have n1 : ¬ (1 : Int) ∈ (upto k).drop p := fun h' => by have := (drop_mem (by omega)).1 h'; omega
  have h1 : (1 : Int) ∈ upto p := upto_mem.2 ⟨by omega, by omega⟩
  have hB : joinB (cutS (bS k) ((p : Int) + 1)) ((p : Int) + 1) 1 = true := by
    unfold joinB
    rw [e1, e2]
    have h3 : (p : Int) + 1 ∈ (upto k).drop p := (drop_mem (by omega)).2 ⟨by omega, by omega⟩
    simp [h1, h3, n1]
  refine ⟨hB, ?_⟩
  unfold joinS
  rw [if_pos hB, e1, e2, if_pos (.inr h1)]
theorem bK_is {k : Nat} {j : Int} (h1 : 1 ≤ j) (h2 : j ≤ k) : isK (List.replicate k true) j = true := by
  unfold isK
  rw [List.getD_eq_getElem?_getD, List.getElem?_replicate, if_pos (by omega)]
  simp [h1]
end Go.Proofs.Ytpbnhbpkfdhedaa
