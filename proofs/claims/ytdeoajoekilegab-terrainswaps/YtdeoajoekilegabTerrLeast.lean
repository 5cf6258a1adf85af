/- The least cost, in plain mathematics: what it is, and that it is one number whatever the order. -/
import Derived.Test.YtdeoajoekilegabTerrPlain
namespace Go.Proofs.Ytdeoajoekilegab

/-- n is the least cost of a kind on which class c may stand; 0: there is none. -/
def IsLeast (l : List Kd) (c n : Int) : Prop := (n = 0 ∧ ∀ x ∈ l, bitB x.2 c = false) ∨ (1 ≤ n ∧ (∃ x ∈ l, bitB x.2 c = true ∧ x.1 = n) ∧ ∀ x ∈ l, bitB x.2 c = true → n ≤ x.1)
theorem IsLeast.snoc {l : List Kd} {c n : Int} {x : Kd} (h : IsLeast l c n) (hx : 1 ≤ x.1) : IsLeast (l ++ [x]) c (pickN c n x) := by
  unfold pickN
  cases hb : bitB x.2 c with
  | false =>
    simp only [Bool.false_and, Bool.false_eq_true, if_false]
    rcases h with ⟨h1, h2⟩ | ⟨h1, ⟨y, hy, hy1, hy2⟩, h3⟩
    · refine .inl ⟨h1, fun z hz => ?_⟩
      rcases List.mem_append.1 hz with hz | hz
      · exact h2 z hz
      · rw [List.mem_singleton.1 hz]; exact hb
    · refine .inr ⟨h1, ⟨y, List.mem_append.2 (.inl hy), hy1, hy2⟩, fun z hz hz1 => ?_⟩
      rcases List.mem_append.1 hz with hz | hz
      · exact h3 z hz hz1
      · rw [List.mem_singleton.1 hz, hb] at hz1; cases hz1
  | true =>
    rcases h with ⟨h1, h2⟩ | ⟨h1, ⟨y, hy, hy1, hy2⟩, h3⟩
    · subst h1
      simp only [Bool.true_and, beq_self_eq_true, Bool.true_or, if_true]
      refine .inr ⟨hx, ⟨x, List.mem_append.2 (.inr (List.mem_singleton.2 rfl)), hb, rfl⟩, fun z hz hz1 => ?_⟩
      rcases List.mem_append.1 hz with hz | hz
      · rw [h2 z hz] at hz1; cases hz1
      · rw [List.mem_singleton.1 hz]; omega
    · have h0 : (n == 0) = false := by simp; omega
      simp only [Bool.true_and, h0, Bool.false_or, decide_eq_true_eq]
      by_cases hlt : x.1 < n
      · rw [if_pos hlt]
        refine .inr ⟨hx, ⟨x, List.mem_append.2 (.inr (List.mem_singleton.2 rfl)), hb, rfl⟩, fun z hz hz1 => ?_⟩
        rcases List.mem_append.1 hz with hz | hz
        · have := h3 z hz hz1; omega
        · rw [List.mem_singleton.1 hz]; omega
      · rw [if_neg hlt]
        refine .inr ⟨h1, ⟨y, List.mem_append.2 (.inl hy), hy1, hy2⟩, fun z hz hz1 => ?_⟩
        rcases List.mem_append.1 hz with hz | hz
        · exact h3 z hz hz1
        · rw [List.mem_singleton.1 hz]; omega
theorem leastL_is {l : List Kd} {c : Int} (h : ∀ x ∈ l, 1 ≤ x.1) : IsLeast l c (leastL l c) := by
  have key : ∀ k, k ≤ l.length → IsLeast (l.take k) c (leastL (l.take k) c) := by
    intro k
    induction k with
    | zero => intro _; exact .inl ⟨by simp [leastL], by simp⟩
    | succ k ih =>
      intro hk
      rw [leastL_snoc c (by omega), take_snoc (by omega)]
      exact (ih (by omega)).snoc (h _ (kAt_mem (by omega)))
  have := key l.length (Nat.le_refl _)
  rwa [List.take_length] at this
theorem IsLeast.unique {l l' : List Kd} {c n m : Int} (h : IsLeast l c n) (h' : IsLeast l' c m) (hs : ∀ x, x ∈ l ↔ x ∈ l') : n = m := by
  rcases h with ⟨h1, h2⟩ | ⟨h1, ⟨y, hy, hy1, hy2⟩, h3⟩
  · rcases h' with ⟨h1', _⟩ | ⟨_, ⟨y, hy, hy1, _⟩, _⟩
    · omega
    · rw [h2 y ((hs y).2 hy)] at hy1; cases hy1
  · rcases h' with ⟨_, h2'⟩ | ⟨_, ⟨z, hz, hz1, hz2⟩, h3'⟩
    · rw [h2' y ((hs y).1 hy)] at hy1; cases hy1
    · have := h3 z ((hs z).2 hz) hz1
      have := h3' y ((hs y).1 hy) hy1
      omega

theorem okT_cost {ks : List Kd} {cl : Int} (h : okT ks cl = true) : ∀ x ∈ ks, 1 ≤ x.1 ∧ x.1 ≤ 255 := by
  intro x hx
  have := (List.all_eq_true.1 (okT_iff.1 h).2.2.2.2) x hx
  simp only [okK, Bool.and_eq_true, decide_eq_true_eq] at this
  exact ⟨this.1, this.2.1⟩
theorem mayB_iff {ks : List Kd} {cl c k : Int} : mayB ks cl c k = true ↔ (0 ≤ c ∧ c < cl) ∧ (0 ≤ k ∧ k < ks.length) ∧ bitB (kAt ks k.toNat).2 c = true := by
  unfold mayB; rw [Bool.and_eq_true, Bool.and_eq_true, hasN_iff, hasN_iff]
theorem costN_at {ks : List Kd} {k : Int} (h : 0 ≤ k ∧ k < ks.length) : costN ks k = (kAt ks k.toNat).1 := by
  unfold costN; rw [hasN_iff.2 h]; rfl
theorem leastN_at {ks : List Kd} {cl c : Int} (h : 0 ≤ c ∧ c < cl) : leastN ks cl c = leastL ks c := by
  unfold leastN; rw [hasN_iff.2 h]; rfl
/-- Where a class may stand, the least is positive and no more than that cost. -/
theorem least_le {ks : List Kd} {cl c k : Int} (h : okT ks cl = true) (hm : mayB ks cl c k = true) : 0 < leastN ks cl c ∧ leastN ks cl c ≤ costN ks k := by
  obtain ⟨hc, hk, hb⟩ := mayB_iff.1 hm
  rw [leastN_at hc, costN_at hk]
  have hmem := kAt_mem (ks := ks) (i := k.toNat) (by omega)
  rcases leastL_is (c := c) (fun x hx => (okT_cost h x hx).1) with ⟨_, h2⟩ | ⟨h1, _, h3⟩
  · rw [h2 _ hmem] at hb; cases hb
  · exact ⟨by omega, h3 _ hmem hb⟩
/-- A positive least is the cost of a kind on which the class may stand. -/
theorem least_met {ks : List Kd} {cl c : Int} (h : okT ks cl = true) (hp : 0 < leastN ks cl c) : ∃ i : Nat, i < ks.length ∧ mayB ks cl c i = true ∧ costN ks i = leastN ks cl c := by
  cases hc : hasN cl c with
  | false => unfold leastN at hp; rw [hc] at hp; simp at hp
  | true =>
    have hc' := hasN_iff.1 hc
    rw [leastN_at hc'] at hp ⊢
    rcases leastL_is (c := c) (fun x hx => (okT_cost h x hx).1) with ⟨h1, _⟩ | ⟨_, ⟨y, hy, hy1, hy2⟩, _⟩
    · omega
    · obtain ⟨i, hi, rfl⟩ := List.getElem_of_mem hy
      refine ⟨i, hi, mayB_iff.2 ⟨hc', by omega, ?_⟩, ?_⟩
      · simp only [Int.toNat_natCast]; rw [kAt_eq hi]; exact hy1
      · rw [costN_at (by omega)]; simp only [Int.toNat_natCast]; rw [kAt_eq hi]; exact hy2

/-- Is there a kind ahead of j that the class may stand on, of cost n? -/
def metB (ks : List Kd) (cl c n j : Int) : Bool := (List.range j.toNat).any fun i => mayB ks cl c i && costN ks i == n
theorem metB_step {ks : List Kd} {cl c n j : Int} (h : -1 ≤ j) : metB ks cl c n (j + 1) = (metB ks cl c n j || (mayB ks cl c j && costN ks j == n)) := by
  unfold metB
  by_cases h0 : j = -1
  · subst h0
    have : mayB ks cl c (-1) = false := by
      cases hm : mayB ks cl c (-1) with
      | false => rfl
      | true => have := (mayB_iff.1 hm).2.1; omega
    rw [this]; rfl
  · rw [show (j + 1).toNat = j.toNat + 1 by omega, List.range_succ, List.any_append]
    simp only [List.any_cons, List.any_nil, Bool.or_false]
    rw [show ((j.toNat : Nat) : Int) = j by omega]
theorem metB_end {ks : List Kd} {cl c : Int} (h : okT ks cl = true) : metB ks cl c (leastN ks cl c) (ks.length + 1) = decide (0 < leastN ks cl c) := by
  by_cases hp : 0 < leastN ks cl c
  · obtain ⟨i, hi, hm, hc⟩ := least_met h hp
    have e1 : metB ks cl c (leastN ks cl c) (ks.length + 1) = true := by
      unfold metB
      refine List.any_eq_true.2 ⟨i, List.mem_range.2 (by omega), ?_⟩
      rw [hm, hc]; simp
    rw [e1]; simp [hp]
  · have e1 : metB ks cl c (leastN ks cl c) (ks.length + 1) = false := by
      unfold metB
      refine List.any_eq_false.2 fun i _ => ?_
      cases hm : mayB ks cl c i with
      | false => simp
      | true => exact absurd (least_le h hm).1 hp
    rw [e1]; simp [hp]
end Go.Proofs.Ytdeoajoekilegab
