/- Lemmas. -/
import Derived.Test.YtlmdjghcmofdlaaGreatS11
import Derived.Test.YtlmdjghcmofdlaaGreatS04
import Derived.Test.YtlmdjghcmofdlaaGreatS02
set_option maxRecDepth 100000
set_option maxHeartbeats 64000000
namespace Go.Proofs.YtlmdjghcmofdlaaGreat
open Go.RowKit
set_option linter.unusedVariables false
/-! Plain: heaps in lists. -/
def swapL (xs : List Int) (i j : Nat) : List Int := (xs.set i (lAt xs j)).set j (lAt xs i)
theorem swapL_len (xs : List Int) (i j : Nat) : (swapL xs i j).length = xs.length := by simp [swapL]
theorem lAt_set {xs : List Int} {i : Nat} (hi : i < xs.length) (x : Int) (k : Nat) : lAt (xs.set i x) k = if k = i then x else lAt xs k := by
  unfold lAt
  by_cases e : k = i
  · subst e; rw [if_pos rfl, List.getD_eq_getElem?_getD, List.getElem?_set_self hi]; rfl
  · rw [if_neg e, List.getD_eq_getElem?_getD, List.getD_eq_getElem?_getD, List.getElem?_set_ne (Ne.symm e)]
theorem lAt_swap {xs : List Int} {i j : Nat} (hi : i < xs.length) (hj : j < xs.length) (k : Nat) : lAt (swapL xs i j) k = if k = j then lAt xs i else if k = i then lAt xs j else lAt xs k := by
  unfold swapL
  rw [lAt_set (by simpa using hj), lAt_set hi]
theorem mem_lAt {xs : List Int} {x : Int} : x ∈ xs ↔ ∃ k, k < xs.length ∧ lAt xs k = x := by
  rw [List.mem_iff_getElem]
  constructor
  · rintro ⟨k, hk, e⟩
    exact ⟨k, hk, by unfold lAt; rw [List.getD_eq_getElem?_getD, List.getElem?_eq_getElem hk]; exact e⟩
  · rintro ⟨k, hk, e⟩
    refine ⟨k, hk, ?_⟩
    unfold lAt at e
    rw [List.getD_eq_getElem?_getD, List.getElem?_eq_getElem hk] at e; exact e
theorem nodup_lAt {xs : List Int} : xs.Nodup ↔ ∀ i j, i < xs.length → j < xs.length → lAt xs i = lAt xs j → i = j := by
  have e : ∀ k (hk : k < xs.length), lAt xs k = xs[k] := fun k hk => by unfold lAt; rw [List.getD_eq_getElem?_getD, List.getElem?_eq_getElem hk]; rfl
  rw [List.nodup_iff_pairwise_ne, List.pairwise_iff_getElem]
  constructor
  · intro h i j hi hj hij
    rw [e i hi, e j hj] at hij
    rcases Nat.lt_trichotomy i j with k | k | k
    · exact absurd hij (h i j hi hj k)
    · exact k
    · exact absurd hij.symm (h j i hj hi k)
  · intro h i j hi hj hij he
    have := h i j hi hj (by rw [e i hi, e j hj]; exact he)
    omega
theorem swapL_mem {xs : List Int} {i j : Nat} (hi : i < xs.length) (hj : j < xs.length) (x : Int) : x ∈ swapL xs i j ↔ x ∈ xs := by
  rw [mem_lAt, mem_lAt, swapL_len]
  constructor
  · rintro ⟨k, hk, e⟩
    rw [lAt_swap hi hj] at e
    split at e
    · exact ⟨i, hi, e⟩
    · split at e
      · exact ⟨j, hj, e⟩
      · exact ⟨k, hk, e⟩
  · rintro ⟨k, hk, e⟩
    by_cases e1 : k = i
    · exact ⟨j, hj, by rw [lAt_swap hi hj, if_pos rfl, ← e1, e]⟩
    · by_cases e2 : k = j
      · refine ⟨i, hi, ?_⟩
        rw [lAt_swap hi hj]
        split
        · rename_i e3; rw [e3, ← e2, e]
        · rw [if_pos rfl, ← e2, e]
      · exact ⟨k, hk, by rw [lAt_swap hi hj, if_neg e2, if_neg e1, e]⟩
theorem swapL_nodup {xs : List Int} {i j : Nat} (hi : i < xs.length) (hj : j < xs.length) (h : xs.Nodup) : (swapL xs i j).Nodup := by
  rw [nodup_lAt] at h ⊢
  rw [swapL_len]
  intro a b ha hb e
  have key : ∀ k, lAt (swapL xs i j) k = lAt xs (if k = j then i else if k = i then j else k) := fun k => by rw [lAt_swap hi hj]; split; rfl; split; rfl; rfl
  rw [key, key] at e
  have hlt : ∀ k, k < xs.length → (if k = j then i else if k = i then j else k) < xs.length := fun k hk => by split; exact hi; split; exact hj; exact hk
  have := h _ _ (hlt a ha) (hlt b hb) e
  clear key hlt e h
  split at this <;> split at this <;> (first | omega | (split at this <;> first | omega | (split at this <;> omega)))
def Hp (xs : List Int) (n : Nat) : Prop := ∀ k, 0 < k → k < n → lAt xs ((k - 1) / 2) ≤ lAt xs k
theorem Hp.least {xs : List Int} {n : Nat} (h : Hp xs n) : ∀ k, k < n → lAt xs 0 ≤ lAt xs k := by
  intro k
  induction k using Nat.strongRecOn with
  | ind k ih =>
    intro hk
    by_cases e : k = 0
    · subst e; exact Int.le_refl _
    · exact Int.le_trans (ih ((k - 1) / 2) (by omega) (by omega)) (h k (by omega) hk)
structure HpU (xs : List Int) (n j : Nat) : Prop where
  h : ∀ k, 0 < k → k < n → k ≠ j → lAt xs ((k - 1) / 2) ≤ lAt xs k
  g : ∀ k, 0 < k → k < n → (k - 1) / 2 = j → 0 < j → lAt xs ((j - 1) / 2) ≤ lAt xs k
theorem HpU.done {xs : List Int} {n j : Nat} (h : HpU xs n j) (hj : j = 0 ∨ lAt xs ((j - 1) / 2) ≤ lAt xs j) : Hp xs n := fun k h0 hk => by
  by_cases e : k = j
  · subst e; rcases hj with h1 | h1; omega; exact h1
  · exact h.h k h0 hk e
theorem HpU.step {xs : List Int} {n j : Nat} (h : HpU xs n j) (h0 : 0 < j) (hj : j < n) (hn : n ≤ xs.length) (hl : lAt xs j < lAt xs ((j - 1) / 2)) : HpU (swapL xs ((j - 1) / 2) j) n ((j - 1) / 2) := by
  obtain ⟨i, hi⟩ : ∃ i, i = (j - 1) / 2 := ⟨_, rfl⟩
  rw [← hi] at hl ⊢
  have e : ∀ k, lAt (swapL xs i j) k = if k = j then lAt xs i else if k = i then lAt xs j else lAt xs k := lAt_swap (by omega) (by omega)
  refine ⟨fun k k0 hk hne => ?_, fun k k0 hk hki hi0 => ?_⟩
  · rw [e, e]
    by_cases k1 : k = j
    · subst k1
      rw [if_pos rfl, ← hi, if_neg (by omega), if_pos rfl]; omega
    · rw [if_neg k1, if_neg hne]
      by_cases p1 : (k - 1) / 2 = j
      · rw [if_pos p1]; have := h.g k k0 hk p1 h0; rw [← hi] at this; exact this
      · rw [if_neg p1]
        by_cases p2 : (k - 1) / 2 = i
        · rw [if_pos p2]; have := h.h k k0 hk k1; rw [p2] at this; omega
        · rw [if_neg p2]; exact h.h k k0 hk k1
  · rw [e, e, if_neg (by omega), if_neg (by omega)]
    by_cases k1 : k = j
    · subst k1; rw [if_pos rfl]; exact h.h i hi0 (by omega) (by omega)
    · rw [if_neg k1, if_neg (by omega)]
      have h1 := h.h i hi0 (by omega) (by omega)
      have h2 := h.h k k0 hk k1
      rw [hki] at h2; omega
structure HpD (xs : List Int) (n i : Nat) : Prop where
  h : ∀ k, 0 < k → k < n → (k - 1) / 2 ≠ i → lAt xs ((k - 1) / 2) ≤ lAt xs k
  g : ∀ k, 0 < k → k < n → (k - 1) / 2 = i → 0 < i → lAt xs ((i - 1) / 2) ≤ lAt xs k
theorem HpD.done {xs : List Int} {n i : Nat} (h : HpD xs n i) (h1 : 2 * i + 1 < n → lAt xs i ≤ lAt xs (2 * i + 1)) (h2 : 2 * i + 2 < n → lAt xs i ≤ lAt xs (2 * i + 2)) : Hp xs n := fun k h0 hk => by
  by_cases e : (k - 1) / 2 = i
  · rw [e]
    rcases (by omega : k = 2 * i + 1 ∨ k = 2 * i + 2) with rfl | rfl
    · exact h1 hk
    · exact h2 hk
  · exact h.h k h0 hk e
theorem HpD.step {xs : List Int} {n i j : Nat} (h : HpD xs n i) (hj : j = 2 * i + 1 ∨ j = 2 * i + 2) (hjn : j < n) (hn : n ≤ xs.length) (hl : lAt xs j < lAt xs i) (ho : ∀ k, (k = 2 * i + 1 ∨ k = 2 * i + 2) → k < n → lAt xs j ≤ lAt xs k) : HpD (swapL xs i j) n j := by
  have e : ∀ k, lAt (swapL xs i j) k = if k = j then lAt xs i else if k = i then lAt xs j else lAt xs k := lAt_swap (by omega) (by omega)
  refine ⟨fun k k0 hk hne => ?_, fun k k0 hk hkj hj0 => ?_⟩
  · rw [e, e, if_neg hne]
    by_cases k1 : k = j
    · subst k1
      rw [if_pos rfl, if_pos (by omega)]; omega
    · rw [if_neg k1]
      by_cases p2 : (k - 1) / 2 = i
      · rw [if_pos p2, if_neg (by omega)]; exact ho k (by omega) hk
      · rw [if_neg p2]
        by_cases k2 : k = i
        · subst k2; rw [if_pos rfl]; exact h.g j (by omega) hjn (by omega) k0
        · rw [if_neg k2]; exact h.h k k0 hk p2
  · rw [e, e, if_neg (by omega), if_pos (by omega), if_neg (by omega), if_neg (by omega)]
    have := h.h k k0 hk (by omega)
    rw [hkj] at this; exact this
end Go.Proofs.YtlmdjghcmofdlaaGreat
