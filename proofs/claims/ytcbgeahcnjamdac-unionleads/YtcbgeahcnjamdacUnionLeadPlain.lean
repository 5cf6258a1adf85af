/- Layer 11, plain: a flood over pairs meets just who is joined. -/
import Derived.Test.YtcbgeahcnjamdacUnionDuo
namespace Go.Proofs.Ytcbgeahcnjamdac
open Go.RowKit
set_option linter.unusedVariables false

def setB (S : Nat → Bool) (x : Nat) : Nat → Bool := fun j => if j = x then true else S j
theorem setB_at (S : Nat → Bool) (x : Nat) : setB S x x = true := if_pos rfl
theorem setB_ne (S : Nat → Bool) {x j : Nat} (h : j ≠ x) : setB S x j = S j := if_neg h
theorem setB_up (S : Nat → Bool) (x : Nat) {j : Nat} (h : S j = true) : setB S x j = true := by
  unfold setB; split
  · rfl
  · exact h
/-- How many are not met. -/
def unm (n : Nat) (S : Nat → Bool) : Nat := (List.range n).countP fun i => !S i
theorem unm_set2 {n : Nat} {S : Nat → Bool} {x y : Nat} (hx : x < n) (hy : y < n) (h : S x ≠ S y) : unm n (setB (setB S x) y) < unm n S := by
  have key : ∀ z, z < n → S z = false → (z = x ∨ z = y) → unm n (setB (setB S x) y) < unm n S := fun z hz hf hxy => by
    unfold unm
    rw [range_drop (fun i => !S i) z n hz (by rw [hf]; rfl)]
    refine Nat.lt_succ_of_le (List.countP_mono_left fun i _ hi => ?_)
    have hi' : setB (setB S x) y i = false := by simpa using hi
    have h1 : i ≠ y := fun e => by subst e; rw [setB_at] at hi'; cases hi'
    rw [setB_ne _ h1] at hi'
    have h2 : i ≠ x := fun e => by subst e; rw [setB_at] at hi'; cases hi'
    rw [setB_ne _ h2] at hi'
    simp [hi']
    rcases hxy with rfl | rfl
    · exact h2
    · exact h1
  cases ex : S x with
  | false => exact key x hx ex (.inl rfl)
  | true =>
    have : S y = false := by
      cases ey : S y with
      | false => rfl
      | true => rw [ex, ey] at h; exact absurd rfl h
    exact key y hy this (.inr rfl)
/-- Who is met is joined to a. -/
def Sound (n : Nat) (qs : List A11.Ac) (a : Nat) (S : Nat → Bool) : Prop := S a = true ∧ ∀ i, i < n → S i = true → Cn n (prs qs qs.length) a i
def inN (n : Nat) (i : Int) : Bool := decide (0 ≤ i) && decide (i < (n : Int))
theorem inN_iff {n : Nat} {i : Int} : inN n i = true ↔ 0 ≤ i ∧ i < n := by simp [inN]
/-- The first k pairs lead nowhere else. -/
def ClosedTo (n : Nat) (qs : List A11.Ac) (S : Nat → Bool) (k : Nat) : Prop := ∀ j, j < k → j < qs.length → inN n (A11.aAt qs j).a = true → inN n (A11.aAt qs j).b = true → S (A11.aAt qs j).a.toNat = S (A11.aAt qs j).b.toNat
theorem ClosedTo.zero (n : Nat) (qs : List A11.Ac) (S : Nat → Bool) : ClosedTo n qs S 0 := fun j hj => by omega
theorem ClosedTo.succ {n : Nat} {qs : List A11.Ac} {S : Nat → Bool} {k : Nat} (h : ClosedTo n qs S k) (hk : inN n (A11.aAt qs k).a = true → inN n (A11.aAt qs k).b = true → S (A11.aAt qs k).a.toNat = S (A11.aAt qs k).b.toNat) : ClosedTo n qs S (k + 1) := fun j hj hl => by
  by_cases e : j = k
  · subst e; exact hk
  · exact h j (by omega) hl
theorem prs_mem {qs : List A11.Ac} {k : Nat} (h : k < qs.length) : ((A11.aAt qs k).a, (A11.aAt qs k).b) ∈ prs qs qs.length := by
  unfold prs
  rw [List.take_length, A11.aAt_eq h]
  exact List.mem_map.2 ⟨_, List.getElem_mem h, rfl⟩
theorem prs_at {qs : List A11.Ac} {p : Int × Int} (h : p ∈ prs qs qs.length) : ∃ k, k < qs.length ∧ p = ((A11.aAt qs k).a, (A11.aAt qs k).b) := by
  unfold prs at h
  rw [List.take_length] at h
  obtain ⟨q, hq, rfl⟩ := List.mem_map.1 h
  obtain ⟨k, hk, rfl⟩ := List.getElem_of_mem hq
  exact ⟨k, hk, by rw [A11.aAt_eq hk]⟩
theorem Sound.step {n : Nat} {qs : List A11.Ac} {a k : Nat} {S : Nat → Bool} (h : Sound n qs a S) (hk : k < qs.length) (hx : inN n (A11.aAt qs k).a = true) (hy : inN n (A11.aAt qs k).b = true) (hne : S (A11.aAt qs k).a.toNat ≠ S (A11.aAt qs k).b.toNat) :
    Sound n qs a (setB (setB S (A11.aAt qs k).a.toNat) (A11.aAt qs k).b.toNat) := by
  obtain ⟨x0, x1⟩ := inN_iff.1 hx
  obtain ⟨y0, y1⟩ := inN_iff.1 hy
  have hm := prs_mem hk
  generalize (A11.aAt qs k).a = x at *
  generalize (A11.aAt qs k).b = y at *
  have hp : Cn n (prs qs qs.length) x.toNat y.toNat := .pair (by omega) (by omega) (by rw [Int.toNat_of_nonneg x0, Int.toNat_of_nonneg y0]; exact hm)
  have both : Cn n (prs qs qs.length) a x.toNat ∧ Cn n (prs qs qs.length) a y.toNat := by
    cases ex : S x.toNat with
    | true => have := h.2 _ (by omega) ex; exact ⟨this, this.trans hp⟩
    | false =>
      cases ey : S y.toNat with
      | true => have := h.2 _ (by omega) ey; exact ⟨this.trans hp.symm, this⟩
      | false => rw [ex, ey] at hne; exact absurd rfl hne
  refine ⟨setB_up _ _ (setB_up _ _ h.1), fun i hi hs => ?_⟩
  by_cases e1 : i = y.toNat
  · rw [e1]; exact both.2
  · rw [setB_ne _ e1] at hs
    by_cases e2 : i = x.toNat
    · rw [e2]; exact both.1
    · rw [setB_ne _ e2] at hs; exact h.2 i hi hs
theorem Sound.start (n : Nat) (qs : List A11.Ac) (a : Nat) : Sound n qs a (setB (fun _ => false) a) := by
  refine ⟨setB_at _ _, fun i hi hs => ?_⟩
  by_cases e : i = a
  · subst e; exact .refl
  · rw [setB_ne _ e] at hs; cases hs
theorem closed_cn {n : Nat} {qs : List A11.Ac} {S : Nat → Bool} (h : ClosedTo n qs S qs.length) {i j : Nat} (hc : Cn n (prs qs qs.length) i j) : i < n → j < n → S i = S j := by
  induction hc with
  | refl => exact fun _ _ => rfl
  | symm _ ih => exact fun a b => (ih b a).symm
  | trans h1 h2 ih1 ih2 => exact fun a b => (ih1 a (h1.lt.1 a)).trans (ih2 (h1.lt.1 a) b)
  | pair h1 h2 h3 =>
    intro _ _
    obtain ⟨k, hk, e⟩ := prs_at h3
    have e1 : (A11.aAt qs k).a = _ := (congrArg Prod.fst e).symm
    have e2 : (A11.aAt qs k).b = _ := (congrArg Prod.snd e).symm
    simp only at e1 e2
    have := h k hk hk (by rw [e1]; exact inN_iff.2 ⟨by omega, by omega⟩) (by rw [e2]; exact inN_iff.2 ⟨by omega, by omega⟩)
    rw [e1, e2] at this
    simpa using this
/-- Who is met at the end: just those of one set with a. -/
theorem met_same {n : Nat} {qs : List A11.Ac} {S : Nat → Bool} {a b : Nat} (ha : a < n) (hb : b < n) (hs : Sound n qs a S) (hc : ClosedTo n qs S qs.length) : sameN (unL n (prs qs qs.length)) a b = S b := by
  have hl := (unL_nm n (prs qs qs.length)).2
  have h1 : sameN (unL n (prs qs qs.length)) a b = decide (lAt (unL n (prs qs qs.length)) a = lAt (unL n (prs qs qs.length)) b) := by
    unfold sameN
    rw [memN_iff.2 ⟨by omega, by rw [hl]; omega⟩, memN_iff.2 ⟨by omega, by rw [hl]; omega⟩]
    simp
  rw [h1]
  have h2 := unL_cn n (prs qs qs.length) a b ha hb
  cases e : S b with
  | true => exact decide_eq_true (h2.2 (hs.2 b hb e))
  | false =>
    refine decide_eq_false fun k => ?_
    have := closed_cn hc (h2.1 k) ha hb
    rw [hs.1, e] at this; cases this
theorem count_range (L : List Int) (x : Int) : L.count x = (List.range L.length).countP fun i => decide (lAt L i = x) := by
  have h : ∀ k, k ≤ L.length → (L.take k).count x = (List.range k).countP fun i => decide (lAt L i = x) := by
    intro k
    induction k with
    | zero => intro _; rfl
    | succ k ih =>
      intro hk
      rw [ltake_snoc (by omega), List.count_append, ih (by omega), List.range_succ, List.countP_append, List.countP_cons, List.countP_nil, List.count_cons, List.count_nil]
      by_cases e : lAt L k = x
      · simp [e]
      · simp [e]
  have := h L.length (Nat.le_refl _)
  rwa [List.take_length] at this
/-- How many of the first k are met. -/
def metN (S : Nat → Bool) (k : Nat) : Nat := (List.range k).countP S
theorem metN_succ (S : Nat → Bool) (k : Nat) : metN S (k + 1) = metN S k + if S k then 1 else 0 := by
  unfold metN
  rw [List.range_succ, List.countP_append, List.countP_cons, List.countP_nil]
  omega
theorem metN_le (S : Nat → Bool) (k : Nat) : metN S k ≤ k := by
  unfold metN
  have := List.countP_le_length (p := S) (l := List.range k)
  simpa using this
theorem met_size {n : Nat} {qs : List A11.Ac} {S : Nat → Bool} {a : Nat} (ha : a < n) (hs : Sound n qs a S) (hc : ClosedTo n qs S qs.length) : sizeN (unL n (prs qs qs.length)) a = metN S n := by
  have hl := (unL_nm n (prs qs qs.length)).2
  unfold sizeN metN
  rw [memN_iff.2 ⟨by omega, by rw [hl]; omega⟩]
  simp only [if_true, Int.toNat_natCast]
  rw [count_range, hl]
  congr 1
  refine List.countP_congr fun b hb => ?_
  have hb := List.mem_range.1 hb
  have := met_same ha hb hs hc
  rw [← this]
  unfold sameN
  rw [memN_iff.2 ⟨by omega, by rw [hl]; omega⟩, memN_iff.2 ⟨by omega, by rw [hl]; omega⟩]
  simp
  exact eq_comm
theorem allN_succ (L : List Int) (k : Nat) : allN L (k + 1) = allN L k + if lAt L k = k then (L.count (k : Int) : Int) else 0 := rfl
theorem allN_step {n : Nat} {qs : List A11.Ac} {a : Nat} (ha : a < n) {k : Int} (hk : sizeN (unL n (prs qs qs.length)) a = k) : allN (unL n (prs qs qs.length)) (a + 1) = allN (unL n (prs qs qs.length)) a + if nameN (unL n (prs qs qs.length)) a = a then k else 0 := by
  have hl := (unL_nm n (prs qs qs.length)).2
  have hm : memN (unL n (prs qs qs.length)) (a : Int) = true := memN_iff.2 ⟨by omega, by rw [hl]; omega⟩
  rw [allN_succ]
  unfold nameN sizeN at *
  rw [hm] at hk ⊢
  simp only [if_true, Int.toNat_natCast] at hk ⊢
  by_cases e : lAt (unL n (prs qs qs.length)) a = (a : Int)
  · rw [if_pos e, if_pos e]
    rw [e] at hk
    rw [hk]
  · rw [if_neg e, if_neg e]
theorem allN_le {L : List Int} (h : Nm L) : ∀ k, k ≤ L.length → 0 ≤ allN L k ∧ allN L k ≤ L.length := by
  have up : ∀ k, allN L k ≤ allN L (k + 1) := fun k => by rw [allN_succ]; split <;> omega
  have h0 : ∀ k, 0 ≤ allN L k := fun k => by
    induction k with
    | zero => exact Int.le_refl _
    | succ k ih => have := up k; omega
  have mono : ∀ d k, allN L k ≤ allN L (k + d) := fun d k => by
    induction d with
    | zero => exact Int.le_refl _
    | succ d ih => have h2 : allN L (k + d) ≤ allN L (k + (d + 1)) := up (k + d); omega
  intro k hk
  refine ⟨h0 k, ?_⟩
  have := mono (L.length - k) k
  rw [show k + (L.length - k) = L.length by omega, allN_all h] at this
  exact this
end Go.Proofs.Ytcbgeahcnjamdac
