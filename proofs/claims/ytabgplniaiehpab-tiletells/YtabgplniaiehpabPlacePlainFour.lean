/- More of the plain mathematics of layer 1: how far goes both ways; no way over a third cell is shorter; those beside a cell rise, and how many they are. -/
import Derived.Test.YtabgplniaiehpabPlacePlainThree
namespace Go.Proofs.Ytabgplniaiehpab.Pl

theorem away_comm (W H a b : Int) : awayN W H a b = awayN W H b a := by
  cases ha : inB W H a with
  | false => rw [away_no1 ha, away_no2 ha]
  | true =>
    cases hb : inB W H b with
    | false => rw [away_no2 hb, away_no1 hb]
    | true => rw [away_of ha hb, away_of hb ha, apartN_comm, apartN_comm (b / W)]
theorem away_zero {W H a b : Int} (h : awayN W H a b = 0) : a = b := by
  obtain ⟨ha, hb⟩ := away_in (by omega : 0 ≤ awayN W H a b)
  rw [away_of ha hb] at h
  obtain ⟨a1, a2, a3, a4, a5, a6, a7, a8, a9, a10, a11⟩ := at_bd ha
  obtain ⟨_, _, _, _, _, _, b7, b8, b9, b10, b11⟩ := at_bd hb
  unfold apartN at h
  have h1 : a % W = b % W := by omega
  have h2 : a / W = b / W := by omega
  rw [← a11, ← b11, h1, h2]
theorem away_tri {W H a b c : Int} (h1 : 0 ≤ awayN W H a b) (h2 : 0 ≤ awayN W H b c) : 0 ≤ awayN W H a c ∧ awayN W H a c ≤ awayN W H a b + awayN W H b c := by
  obtain ⟨ha, hb⟩ := away_in h1
  obtain ⟨_, hc⟩ := away_in h2
  rw [away_of ha hb, away_of hb hc, away_of ha hc]
  unfold apartN
  omega

/-- The last of a list; -1 of none. -/
def lastI (l : List Int) : Int := l.getLast?.getD (-1)
theorem lastI_snoc (l : List Int) (x : Int) : lastI (l ++ [x]) = x := by simp [lastI]
theorem lastI_nil : lastI [] = -1 := rfl
theorem lastI_mem (l : List Int) : lastI l = -1 ∨ lastI l ∈ l := by
  unfold lastI
  cases h : l.getLast? with
  | none => left; rfl
  | some v => right; exact List.mem_of_getLast? h

theorem near_sorted {W H a : Int} (ha : inB W H a = true) : (nearL W H a).Pairwise (· < ·) ∧ ∀ x ∈ nearL W H a, 0 ≤ x := by
  refine ⟨?_, fun x hx => (inB_iff.1 ((near_iff ha).1 hx).1).2.1⟩
  obtain ⟨a1, a2, a3, a4, a5, a6, a7, a8, a9, a10, a11⟩ := at_bd ha
  unfold nearL
  rw [if_pos ha]
  (repeat' split) <;> simp <;> omega
theorem near_next {W H a x : Int} {p : List Int} (ha : inB W H a = true) (h : p ++ [x] <+: nearL W H a) : lastI p < x ∧ awayN W H a x = 1 := by
  obtain ⟨h1, h2⟩ := near_sorted ha
  have hx : x ∈ nearL W H a := h.subset (by simp)
  refine ⟨?_, ((near_iff ha).1 hx).2⟩
  rcases lastI_mem p with e | e
  · rw [e]; have := h2 x hx; omega
  · obtain ⟨t, ht⟩ := h
    rw [← ht, List.append_assoc] at h1
    exact (List.pairwise_append.1 h1).2.2 _ e x (by simp)
theorem near_many {W H a : Int} (ha : inB W H a = true) (hW : W ≠ 1) (hH : H ≠ 1) : 2 ≤ (nearL W H a).length := by
  obtain ⟨a1, a2, a3, a4, a5, a6, a7, a8, a9, a10, a11⟩ := at_bd ha
  unfold nearL
  rw [if_pos ha]
  (repeat' split) <;> simp <;> omega
end Go.Proofs.Ytabgplniaiehpab.Pl
