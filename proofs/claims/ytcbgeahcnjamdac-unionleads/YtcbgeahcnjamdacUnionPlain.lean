/- Layer 11 (union), plain: the names of members, what a join makes of them; trees whose tops bear sizes; who leads to whom. -/
import Derived.Test.YtcbgeahcnjamdacKit
namespace Go.Proofs.Ytcbgeahcnjamdac
set_option linter.unusedVariables false

/-- Each member's name: the least of its set. -/
structure Nm (L : List Int) : Prop where
  lo : ∀ i, i < L.length → 0 ≤ lAt L i ∧ lAt L i ≤ i
  id : ∀ i, i < L.length → lAt L (lAt L i).toNat = lAt L i
def memN (L : List Int) (a : Int) : Bool := decide (0 ≤ a) && decide (a < L.length)
theorem memN_iff {L : List Int} {a : Int} : memN L a = true ↔ 0 ≤ a ∧ a < L.length := by simp [memN]
def nameN (L : List Int) (a : Int) : Int := if memN L a then lAt L a.toNat else -1
def sizeN (L : List Int) (a : Int) : Int := if memN L a then (L.count (lAt L a.toNat) : Int) else 0
def isNm (L : List Int) (i : Nat) : Bool := decide (lAt L i = (i : Int))
def setsN (L : List Int) : Int := ((List.range L.length).countP (isNm L) : Int)
def sameN (L : List Int) (a b : Int) : Bool := memN L a && memN L b && decide (lAt L a.toNat = lAt L b.toNat)
def joinB (L : List Int) (a b : Int) : Bool := memN L a && memN L b && !decide (lAt L a.toNat = lAt L b.toNat)
def subN (x y z : Int) : Int := if z = max x y then min x y else z
def joinL (L : List Int) (a b : Int) : List Int := if joinB L a b then L.map (subN (lAt L a.toNat) (lAt L b.toNat)) else L
theorem joinL_no {L : List Int} {a b : Int} (h : joinB L a b = false) : joinL L a b = L := by unfold joinL; rw [h]; rfl
theorem joinL_yes {L : List Int} {a b : Int} (h : joinB L a b = true) : joinL L a b = L.map (subN (lAt L a.toNat) (lAt L b.toNat)) := by unfold joinL; rw [h]; rfl
theorem joinL_len (L : List Int) (a b : Int) : (joinL L a b).length = L.length := by unfold joinL; split <;> simp
theorem lAt_map (f : Int → Int) {L : List Int} {i : Nat} (h : i < L.length) : lAt (L.map f) i = f (lAt L i) := by
  rw [lAt_eq (by simpa using h), lAt_eq h, List.getElem_map]
theorem joinB_iff {L : List Int} {a b : Int} : joinB L a b = true ↔ memN L a = true ∧ memN L b = true ∧ lAt L a.toNat ≠ lAt L b.toNat := by simp [joinB, and_assoc]
theorem subN_comm (x y z : Int) : subN x y z = subN y x z := by unfold subN; rw [Int.max_comm, Int.min_comm]
theorem subN_cases (x y z : Int) : (z = max x y ∧ subN x y z = min x y) ∨ (z ≠ max x y ∧ subN x y z = z) := by
  unfold subN; by_cases h : z = max x y
  · exact .inl ⟨h, if_pos h⟩
  · exact .inr ⟨h, if_neg h⟩
theorem joinL_at {L : List Int} {a b : Int} (h : joinB L a b = true) {i : Nat} (hi : i < L.length) : lAt (joinL L a b) i = subN (lAt L a.toNat) (lAt L b.toNat) (lAt L i) := by
  rw [joinL_yes h, lAt_map _ hi]
theorem memN_join (L : List Int) (a b c : Int) : memN (joinL L a b) c = memN L c := by unfold memN; rw [joinL_len]
theorem joinB_comm (L : List Int) (a b : Int) : joinB L a b = joinB L b a := by
  unfold joinB; rw [Bool.and_comm (memN L a)]; congr 2; exact decide_eq_decide.2 eq_comm
theorem joinL_comm (L : List Int) (a b : Int) : joinL L a b = joinL L b a := by
  unfold joinL; rw [joinB_comm L a b]; congr 2; funext z; exact subN_comm _ _ _

theorem Nm.join {L : List Int} (h : Nm L) (a b : Int) : Nm (joinL L a b) := by
  cases hj : joinB L a b with
  | false => rw [joinL_no hj]; exact h
  | true =>
    obtain ⟨ha, hb, hne⟩ := joinB_iff.1 hj
    obtain ⟨a0, a1⟩ := memN_iff.1 ha
    obtain ⟨b0, b1⟩ := memN_iff.1 hb
    have la := h.lo a.toNat (by omega)
    have lb := h.lo b.toNat (by omega)
    have ia := h.id a.toNat (by omega)
    have ib := h.id b.toNat (by omega)
    have hJ := fun i hi => joinL_at hj (i := i) hi
    generalize lAt L a.toNat = x at *
    generalize lAt L b.toNat = y at *
    refine ⟨fun i hi => ?_, fun i hi => ?_⟩
    · rw [joinL_len] at hi
      have := h.lo i hi
      rw [hJ i hi]
      rcases subN_cases x y (lAt L i) with ⟨e, s⟩ | ⟨_, s⟩
      · rw [s]; omega
      · rw [s]; omega
    · rw [joinL_len] at hi
      have li := h.lo i hi
      have ii := h.id i hi
      rw [hJ i hi]
      rcases subN_cases x y (lAt L i) with ⟨e, s⟩ | ⟨n, s⟩
      · have hm : lAt L (min x y).toNat = min x y := by
          rcases Int.le_total x y with hxy | hxy
          · rw [Int.min_eq_left hxy]; exact ia
          · rw [Int.min_eq_right hxy]; exact ib
        rw [s, hJ _ (by omega), hm]
        rcases subN_cases x y (min x y) with ⟨e2, s2⟩ | ⟨_, s2⟩
        · exact s2
        · exact s2
      · rw [s, hJ _ (by omega), ii, s]

/-- Each alone. -/
def idN (n : Nat) : List Int := (List.range n).map Int.ofNat
theorem idN_len (n : Nat) : (idN n).length = n := by simp [idN]
theorem idN_at {n i : Nat} (h : i < n) : lAt (idN n) i = i := by
  rw [lAt_eq (by rw [idN_len]; exact h)]; simp [idN]
theorem Nm.idN (n : Nat) : Nm (idN n) :=
  ⟨fun i hi => by rw [idN_len] at hi; rw [idN_at hi]; omega, fun i hi => by rw [idN_len] at hi; rw [idN_at hi]; simpa using idN_at hi⟩
theorem setsN_id (n : Nat) : setsN (idN n) = n := by
  unfold setsN
  rw [idN_len, List.countP_eq_length.2 (fun i hi => by simp [isNm, idN_at (List.mem_range.1 hi)])]
  simp
theorem idN_succ (n : Nat) : idN (n + 1) = idN n ++ [(n : Int)] := by simp [idN, List.range_succ]
theorem count_at {L : List Int} {i : Nat} (h : i < L.length) : 1 ≤ L.count (lAt L i) := List.count_pos_iff.2 (lAt_mem h)
theorem setsN_nil : setsN [] = 0 := rfl
theorem setsN_bd (L : List Int) : 0 ≤ setsN L ∧ setsN L ≤ L.length := by
  unfold setsN
  have := List.countP_le_length (p := isNm L) (l := List.range L.length)
  simp at this
  omega
theorem sizeN_bd (L : List Int) (a : Int) : 0 ≤ sizeN L a ∧ sizeN L a ≤ L.length := by
  unfold sizeN
  split
  · have := List.count_le_length (a := lAt L a.toNat) (l := L); omega
  · omega

theorem range_drop (p : Nat → Bool) (m : Nat) : ∀ n, m < n → p m = true → (List.range n).countP p = (List.range n).countP (fun i => p i && decide (i ≠ m)) + 1 := by
  intro n
  induction n with
  | zero => intro h; omega
  | succ n ih =>
    intro hm hp
    rw [List.range_succ, List.countP_append, List.countP_append]
    by_cases e : m = n
    · subst e
      have : (List.range m).countP (fun i => p i && decide (i ≠ m)) = (List.range m).countP p := List.countP_congr fun i hi => by
        have := List.mem_range.1 hi
        simp; omega
      rw [this]
      simp [hp]
    · rw [ih (by omega) hp]
      have : (!decide (n = m)) = true := by simp; omega
      simp [List.countP_cons, this]
      omega
theorem setsN_join {L : List Int} (h : Nm L) {a b : Int} (hj : joinB L a b = true) : setsN (joinL L a b) = setsN L - 1 := by
  obtain ⟨ha, hb, hne⟩ := joinB_iff.1 hj
  obtain ⟨a0, a1⟩ := memN_iff.1 ha
  obtain ⟨b0, b1⟩ := memN_iff.1 hb
  have la := h.lo a.toNat (by omega)
  have lb := h.lo b.toNat (by omega)
  have ia := h.id a.toNat (by omega)
  have ib := h.id b.toNat (by omega)
  have hJ := fun i hi => joinL_at hj (i := i) hi
  generalize lAt L a.toNat = x at *
  generalize lAt L b.toNat = y at *
  have hm : lAt L (max x y).toNat = max x y := by
    rcases Int.le_total x y with hxy | hxy
    · rw [Int.max_eq_right hxy]; exact ib
    · rw [Int.max_eq_left hxy]; exact ia
  unfold setsN
  rw [joinL_len, range_drop (isNm L) (max x y).toNat L.length (by omega) (by unfold isNm; rw [hm]; simp; omega)]
  have : (List.range L.length).countP (isNm (joinL L a b)) = (List.range L.length).countP (fun i => isNm L i && decide (i ≠ (max x y).toNat)) := List.countP_congr fun i hi => by
    have hi := List.mem_range.1 hi
    have li := h.lo i hi
    unfold isNm
    rw [hJ i hi]
    rcases subN_cases x y (lAt L i) with ⟨e, s⟩ | ⟨n, s⟩
    · rw [s]; simp; omega
    · rw [s]; simp; omega
  rw [this]
  omega
theorem count_sub {x y : Int} (hne : x ≠ y) (L : List Int) : (L.map (subN x y)).count (min x y) = L.count x + L.count y := by
  induction L with
  | nil => simp
  | cons z L ih =>
    rw [List.map_cons, List.count_cons, List.count_cons, List.count_cons, ih]
    rcases subN_cases x y z with ⟨e, s⟩ | ⟨n, s⟩
    · rw [s]
      have h1 : (min x y == min x y) = true := by simp
      rw [h1]
      rcases Int.le_total x y with hxy | hxy
      · have hz : z = y := by omega
        have e1 : (z == x) = false := by simp; omega
        have e2 : (z == y) = true := by simp [hz]
        rw [e1, e2]; simp; omega
      · have hz : z = x := by omega
        have e1 : (z == x) = true := by simp [hz]
        have e2 : (z == y) = false := by simp; omega
        rw [e1, e2]; simp; omega
    · rw [s]
      rcases Int.le_total x y with hxy | hxy
      · have e2 : (z == y) = false := by simp; omega
        have e1 : (z == min x y) = (z == x) := by rw [Int.min_eq_left hxy]
        rw [e1, e2]; simp; omega
      · have e2 : (z == x) = false := by simp; omega
        have e1 : (z == min x y) = (z == y) := by rw [Int.min_eq_right hxy]
        rw [e1, e2]; simp; omega
theorem count_sub_ne {x y u : Int} (hx : u ≠ x) (hy : u ≠ y) (L : List Int) : (L.map (subN x y)).count u = L.count u := by
  induction L with
  | nil => simp
  | cons z L ih =>
    rw [List.map_cons, List.count_cons, List.count_cons, ih]
    congr 1
    rcases subN_cases x y z with ⟨e, s⟩ | ⟨n, s⟩
    · rw [s]
      have e1 : (min x y == u) = false := by simp; omega
      have e2 : (z == u) = false := by simp; omega
      rw [e1, e2]
    · rw [s]

/-- Up the tree: k steps from t to the top r. -/
inductive Up (n : Nat) (A : Nat → Int) : Nat → Nat → Nat → Prop
  | here {t : Nat} : t < n → A t < 0 → Up n A 0 t t
  | step {k t r : Nat} : t < n → 0 ≤ A t → Up n A k (A t).toNat r → Up n A (k + 1) t r
theorem Up.lt {n : Nat} {A : Nat → Int} {k t r : Nat} (h : Up n A k t r) : t < n := by cases h <;> assumption
theorem Up.top {n : Nat} {A : Nat → Int} {k t r : Nat} (h : Up n A k t r) : r < n ∧ A r < 0 := by
  induction h with
  | here h1 h2 => exact ⟨h1, h2⟩
  | step _ _ _ ih => exact ih
theorem Up.one {n : Nat} {A : Nat → Int} {k t r : Nat} (h : Up n A k t r) : ∀ {k' r'}, Up n A k' t r' → k' = k ∧ r' = r := by
  induction h with
  | here h1 h2 =>
    intro k' r' h'
    cases h' with
    | here _ _ => exact ⟨rfl, rfl⟩
    | step _ h3 _ => omega
  | step h1 h2 h3 ih =>
    intro k' r' h'
    cases h' with
    | here _ h4 => omega
    | step _ _ h5 =>
      obtain ⟨e1, e2⟩ := ih h5
      exact ⟨by omega, e2⟩
theorem Up.inv {n : Nat} {A : Nat → Int} {k t r : Nat} (h : Up n A k t r) : (k = 0 ∧ r = t ∧ A t < 0) ∨ ∃ q, k = q + 1 ∧ 0 ≤ A t ∧ Up n A q (A t).toNat r := by
  cases h with
  | here h1 h2 => exact .inl ⟨rfl, rfl, h2⟩
  | step h1 h2 h3 => exact .inr ⟨_, rfl, h2, h3⟩
def updA (A : Nat → Int) (i : Nat) (v : Int) : Nat → Int := fun j => if j = i then v else A j
theorem updA_at (A : Nat → Int) (i : Nat) (v : Int) : updA A i v i = v := if_pos rfl
theorem updA_ne (A : Nat → Int) {i j : Nat} (v : Int) (h : j ≠ i) : updA A i v j = A j := if_neg h

/-- Trees of n members that stand for the names L. -/
structure Ut (n : Nat) (A M : Nat → Int) (L : List Int) : Prop where
  len : L.length = n
  nm : Nm L
  up : ∀ i, i < n → ∃ k r, Up n A k i r ∧ lAt L r = lAt L i
  one : ∀ r r', r < n → r' < n → A r < 0 → A r' < 0 → lAt L r = lAt L r' → r = r'
  cnt : ∀ r, r < n → A r < 0 → A r = -(L.count (lAt L r) : Int)
  least : ∀ r, r < n → A r < 0 → M r = lAt L r
  bd : ∀ i, i < n → -(n : Int) ≤ A i ∧ A i < n
theorem Ut.new (n : Nat) (A M : Nat → Int) (hA : ∀ i, i < n → A i = -1) (hM : ∀ i, i < n → M i = i) : Ut n A M (idN n) := by
  refine ⟨idN_len n, Nm.idN n, fun i hi => ⟨0, i, .here hi (by rw [hA i hi]; omega), rfl⟩, fun r r' h1 h2 _ _ e => ?_, fun r h1 _ => ?_, fun r h1 _ => ?_, fun i hi => by rw [hA i hi]; omega⟩
  · rw [idN_at h1, idN_at h2] at e; omega
  · rw [hA r h1, idN_at h1]
    have : (idN n).count (r : Int) = 1 := by
      have hz : ∀ m : Nat, (idN m).count (r : Int) = if r < m then 1 else 0 := by
        intro m
        induction m with
        | zero => rfl
        | succ m ih =>
          rw [idN_succ, List.count_append, ih, List.count_cons, List.count_nil]
          by_cases e : m = r
          · subst e; simp
          · have : ((m : Int) == (r : Int)) = false := by simp; omega
            rw [this]; simp; split <;> split <;> omega
      rw [hz n, if_pos h1]
    rw [this]; rfl
  · rw [hM r h1, idN_at h1]
theorem Ut.join {n : Nat} {A M : Nat → Int} {L : List Int} (h : Ut n A M L) {a b : Int} {g s : Nat} (hj : joinB L a b = true) (hg : g < n) (hs : s < n) (hAg : A g < 0) (hAs : A s < 0) (hgs : g ≠ s)
    (hn : (lAt L g = lAt L a.toNat ∧ lAt L s = lAt L b.toNat) ∨ (lAt L g = lAt L b.toNat ∧ lAt L s = lAt L a.toNat)) :
    Ut n (updA (updA A g (A g + A s)) s g) (updA M g (min (M g) (M s))) (joinL L a b) := by
  obtain ⟨hm1, hm2, hne⟩ := joinB_iff.1 hj
  have hlen := h.len
  have hJ : ∀ i, i < n → lAt (joinL L a b) i = subN (lAt L g) (lAt L s) (lAt L i) := fun i hi => by
    rw [joinL_at hj (by omega)]
    rcases hn with ⟨e1, e2⟩ | ⟨e1, e2⟩
    · rw [e1, e2]
    · rw [e1, e2, subN_comm]
  have hL : joinL L a b = L.map (subN (lAt L g) (lAt L s)) := by
    rw [joinL_yes hj]
    rcases hn with ⟨e1, e2⟩ | ⟨e1, e2⟩
    · rw [e1, e2]
    · rw [e1, e2]; congr 1; funext z; exact subN_comm _ _ _
  have hxy : lAt L g ≠ lAt L s := fun e => hgs (h.one g s hg hs hAg hAs e)
  have hcg := h.cnt g hg hAg
  have hcs := h.cnt s hs hAs
  have hNg : ∀ i, i < n → lAt L i = lAt L g ∨ lAt L i = lAt L s → lAt (joinL L a b) i = min (lAt L g) (lAt L s) := fun i hi hc => by
    rw [hJ i hi]
    rcases subN_cases (lAt L g) (lAt L s) (lAt L i) with ⟨e, s⟩ | ⟨_, s⟩
    · exact s
    · rw [s]; omega
  have hNo : ∀ i, i < n → lAt L i ≠ lAt L g → lAt L i ≠ lAt L s → lAt (joinL L a b) i = lAt L i := fun i hi h1 h2 => by
    rw [hJ i hi]
    rcases subN_cases (lAt L g) (lAt L s) (lAt L i) with ⟨e, s⟩ | ⟨_, s⟩
    · omega
    · exact s
  have hsum : (joinL L a b).count (min (lAt L g) (lAt L s)) = L.count (lAt L g) + L.count (lAt L s) := by rw [hL, count_sub hxy]
  have hle := List.count_le_length (a := min (lAt L g) (lAt L s)) (l := joinL L a b)
  rw [joinL_len, hsum, hlen] at hle
  have Ag : updA (updA A g (A g + A s)) s g g = A g + A s := by rw [updA_ne _ _ hgs, updA_at]
  have As : updA (updA A g (A g + A s)) s g s = g := updA_at _ _ _
  have Ao : ∀ i, i ≠ g → i ≠ s → updA (updA A g (A g + A s)) s g i = A i := fun i h1 h2 => by rw [updA_ne _ _ h2, updA_ne _ _ h1]
  refine ⟨by rw [joinL_len]; exact hlen, h.nm.join a b, fun i hi => ?_, fun r r' h1 h2 a1 a2 e => ?_, fun r h1 a1 => ?_, fun r h1 a1 => ?_, fun i hi => ?_⟩
  · obtain ⟨k, r, hu, he⟩ := h.up i hi
    have top := hu.top
    have hup : ∀ k i r, Up n A k i r → ∃ k' , Up n (updA (updA A g (A g + A s)) s g) k' i (if r = s then g else r) := by
      intro k i r hu
      induction hu with
      | here h1 h2 =>
        rename_i t
        by_cases e : t = s
        · subst e
          rw [if_pos rfl]
          exact ⟨1, .step h1 (by rw [As]; omega) (by rw [As]; exact .here (by simpa using hg) (by simp; rw [Ag]; omega))⟩
        · rw [if_neg e]
          by_cases e2 : t = g
          · subst e2; exact ⟨0, .here h1 (by rw [Ag]; omega)⟩
          · exact ⟨0, .here h1 (by rw [Ao t e2 e]; exact h2)⟩
      | step h1 h2 h3 ih =>
        rename_i t r
        obtain ⟨k', hk⟩ := ih
        have e1 : t ≠ g := fun e => by subst e; omega
        have e2 : t ≠ s := fun e => by subst e; omega
        exact ⟨k' + 1, .step h1 (by rw [Ao t e1 e2]; exact h2) (by rw [Ao t e1 e2]; exact hk)⟩
    obtain ⟨k', hk⟩ := hup k i r hu
    refine ⟨k', _, hk, ?_⟩
    by_cases e : r = s
    · subst e
      rw [if_pos rfl, hNg g hg (.inl rfl), hNg i hi (.inr he.symm)]
    · rw [if_neg e, hJ r top.1, hJ i hi, he]
  · have n1 : r ≠ s := fun e => by subst e; rw [As] at a1; omega
    have n2 : r' ≠ s := fun e => by subst e; rw [As] at a2; omega
    have b1 : A r < 0 := by by_cases e : r = g
                            · subst e; exact hAg
                            · rw [Ao r e n1] at a1; exact a1
    have b2 : A r' < 0 := by by_cases e : r' = g
                             · subst e; exact hAg
                             · rw [Ao r' e n2] at a2; exact a2
    have m1 : lAt L r ≠ lAt L s := fun e => n1 (h.one r s h1 hs b1 hAs e)
    have m2 : lAt L r' ≠ lAt L s := fun e => n2 (h.one r' s h2 hs b2 hAs e)
    have o1 : r ≠ g → lAt L r ≠ lAt L g := fun n e => n (h.one r g h1 hg b1 hAg e)
    have o2 : r' ≠ g → lAt L r' ≠ lAt L g := fun n e => n (h.one r' g h2 hg b2 hAg e)
    by_cases e1 : r = g
    · by_cases e2 : r' = g
      · omega
      · subst e1
        rw [hNg r h1 (.inl rfl), hNo r' h2 (o2 e2) m2] at e
        have := o2 e2
        omega
    · by_cases e2 : r' = g
      · subst e2
        rw [hNg r' h2 (.inl rfl), hNo r h1 (o1 e1) m1] at e
        have := o1 e1
        omega
      · rw [hNo r h1 (o1 e1) m1, hNo r' h2 (o2 e2) m2] at e
        exact h.one r r' h1 h2 b1 b2 e
  · have n1 : r ≠ s := fun e => by subst e; rw [As] at a1; omega
    by_cases e1 : r = g
    · subst e1
      rw [Ag, hNg r h1 (.inl rfl), hsum]; omega
    · rw [Ao r e1 n1] at a1 ⊢
      have m1 : lAt L r ≠ lAt L s := fun e => n1 (h.one r s h1 hs a1 hAs e)
      have o1 : lAt L r ≠ lAt L g := fun e => e1 (h.one r g h1 hg a1 hAg e)
      rw [hNo r h1 o1 m1, hL, count_sub_ne o1 m1]
      exact h.cnt r h1 a1
  · have n1 : r ≠ s := fun e => by subst e; rw [As] at a1; omega
    by_cases e1 : r = g
    · subst e1
      rw [updA_at, hNg r h1 (.inl rfl), h.least r hg hAg, h.least s hs hAs]
    · rw [Ao r e1 n1] at a1
      have m1 : lAt L r ≠ lAt L s := fun e => n1 (h.one r s h1 hs a1 hAs e)
      have o1 : lAt L r ≠ lAt L g := fun e => e1 (h.one r g h1 hg a1 hAg e)
      rw [updA_ne _ _ e1, hNo r h1 o1 m1]
      exact h.least r h1 a1
  · by_cases e1 : i = s
    · subst e1; rw [As]; omega
    · by_cases e2 : i = g
      · subst e2; rw [Ag]; omega
      · rw [Ao i e2 e1]; exact h.bd i hi

/-- What a list of joins makes of n members, each alone. -/
def unL (n : Nat) (l : List (Int × Int)) : List Int := l.foldl (fun L q => joinL L q.1 q.2) (idN n)
theorem unL_snoc (n : Nat) (l : List (Int × Int)) (q : Int × Int) : unL n (l ++ [q]) = joinL (unL n l) q.1 q.2 := by simp [unL]
theorem unL_nm (n : Nat) (l : List (Int × Int)) : Nm (unL n l) ∧ (unL n l).length = n := by
  have : ∀ (l : List (Int × Int)) L, Nm L ∧ L.length = n → Nm (l.foldl (fun L q => joinL L q.1 q.2) L) ∧ (l.foldl (fun L q => joinL L q.1 q.2) L).length = n := by
    intro l
    induction l with
    | nil => exact fun L h => h
    | cons q l ih => exact fun L h => ih _ ⟨h.1.join _ _, by rw [joinL_len]; exact h.2⟩
  exact this l _ ⟨Nm.idN n, idN_len n⟩
/-- Joins lead from one to the other. -/
inductive Cn (n : Nat) (l : List (Int × Int)) : Nat → Nat → Prop
  | refl {i : Nat} : Cn n l i i
  | symm {i j : Nat} : Cn n l i j → Cn n l j i
  | trans {i j k : Nat} : Cn n l i j → Cn n l j k → Cn n l i k
  | pair {i j : Nat} : i < n → j < n → ((i : Int), (j : Int)) ∈ l → Cn n l i j
theorem Cn.mono {n : Nat} {l l' : List (Int × Int)} (hs : ∀ i j : Nat, ((i : Int), (j : Int)) ∈ l → ((i : Int), (j : Int)) ∈ l' ∨ ((j : Int), (i : Int)) ∈ l') {i j : Nat} (h : Cn n l i j) : Cn n l' i j := by
  induction h with
  | refl => exact .refl
  | symm _ ih => exact .symm ih
  | trans _ _ ih1 ih2 => exact .trans ih1 ih2
  | pair h1 h2 h3 => exact (hs _ _ h3).elim (fun h => .pair h1 h2 h) (fun h => .symm (.pair h2 h1 h))
theorem Cn.lt {n : Nat} {l : List (Int × Int)} {i j : Nat} (h : Cn n l i j) : (i < n ↔ j < n) := by
  induction h with
  | refl => exact Iff.rfl
  | symm _ ih => exact ih.symm
  | trans _ _ ih1 ih2 => exact ih1.trans ih2
  | pair h1 h2 _ => exact ⟨fun _ => h2, fun _ => h1⟩
theorem rev_ind {α : Type} {P : List α → Prop} (h0 : P []) (h1 : ∀ l q, P l → P (l ++ [q])) : ∀ l, P l := by
  intro l
  have : ∀ r : List α, P r.reverse := by
    intro r
    induction r with
    | nil => exact h0
    | cons q r ih => rw [List.reverse_cons]; exact h1 _ _ ih
  simpa using this l.reverse
theorem unL_cn (n : Nat) : ∀ (l : List (Int × Int)) (i j : Nat), i < n → j < n → (lAt (unL n l) i = lAt (unL n l) j ↔ Cn n l i j) := by
  refine rev_ind (fun i j hi hj => ?_) (fun l q ih i j hi hj => ?_)
  · show lAt (idN n) i = lAt (idN n) j ↔ _
    rw [idN_at hi, idN_at hj]
    refine ⟨fun h => by have : i = j := by omega
                        subst this; exact .refl, fun h => ?_⟩
    have : i = j := by
      clear hi hj
      induction h with
      | refl => rfl
      | symm _ ih => exact ih.symm
      | trans _ _ ih1 ih2 => exact ih1.trans ih2
      | pair _ _ h => cases h
    rw [this]
  · obtain ⟨hN, hl⟩ := unL_nm n l
    rw [unL_snoc]
    have hsub : ∀ {i j}, Cn n l i j → Cn n (l ++ [q]) i j := fun h => h.mono (fun i j h => .inl (by simp [h]))
    constructor
    · intro he
      cases hjb : joinB (unL n l) q.1 q.2 with
      | false => rw [joinL_no hjb] at he; exact hsub ((ih i j hi hj).1 he)
      | true =>
        obtain ⟨m1, m2, hne⟩ := joinB_iff.1 hjb
        obtain ⟨a0, a1⟩ := memN_iff.1 m1
        obtain ⟨b0, b1⟩ := memN_iff.1 m2
        rw [joinL_at hjb (by omega), joinL_at hjb (by omega)] at he
        have hp : Cn n (l ++ [q]) q.1.toNat q.2.toNat := .pair (by omega) (by omega) (by rw [Int.toNat_of_nonneg a0, Int.toNat_of_nonneg b0]; simp)
        have hc : ∀ u v, u < n → v < n → lAt (unL n l) u = lAt (unL n l) v → Cn n (l ++ [q]) u v := fun u v hu hv e => hsub ((ih u v hu hv).1 e)
        have hk := hc i j hi hj
        have hia := hc i q.1.toNat hi (by omega)
        have hib := hc i q.2.toNat hi (by omega)
        have hja := hc j q.1.toNat hj (by omega)
        have hjb' := hc j q.2.toNat hj (by omega)
        have hcase : lAt (unL n l) i = lAt (unL n l) j ∨ (lAt (unL n l) i = lAt (unL n l) q.1.toNat ∧ lAt (unL n l) j = lAt (unL n l) q.2.toNat) ∨ (lAt (unL n l) i = lAt (unL n l) q.2.toNat ∧ lAt (unL n l) j = lAt (unL n l) q.1.toNat) := by
          generalize lAt (unL n l) q.1.toNat = x at *
          generalize lAt (unL n l) q.2.toNat = y at *
          rcases subN_cases x y (lAt (unL n l) i) with ⟨e1, s1⟩ | ⟨e1, s1⟩ <;> rcases subN_cases x y (lAt (unL n l) j) with ⟨e2, s2⟩ | ⟨e2, s2⟩ <;> rw [s1, s2] at he <;> omega
        rcases hcase with h | ⟨h1, h2⟩ | ⟨h1, h2⟩
        · exact hk h
        · exact .trans (hia h1) (.trans hp (.symm (hjb' h2)))
        · exact .trans (hib h1) (.trans (.symm hp) (.symm (hja h2)))
    · intro hc
      have hkeep : ∀ u v, u < n → v < n → lAt (unL n l) u = lAt (unL n l) v → lAt (joinL (unL n l) q.1 q.2) u = lAt (joinL (unL n l) q.1 q.2) v := fun u v hu hv e => by
        cases hjb : joinB (unL n l) q.1 q.2 with
        | false => rw [joinL_no hjb]; exact e
        | true => rw [joinL_at hjb (by omega), joinL_at hjb (by omega), e]
      have main : ∀ u v, Cn n (l ++ [q]) u v → u < n → v < n → lAt (joinL (unL n l) q.1 q.2) u = lAt (joinL (unL n l) q.1 q.2) v := by
        intro u v hc
        induction hc with
        | refl => exact fun _ _ => rfl
        | symm _ ih => exact fun h1 h2 => (ih h2 h1).symm
        | trans h1 h2 ih1 ih2 => exact fun a b => (ih1 a (h1.lt.1 a)).trans (ih2 (h1.lt.1 a) b)
        | pair h1 h2 h3 =>
          rename_i u v
          intro _ _
          rcases List.mem_append.1 h3 with h3 | h3
          · exact hkeep u v h1 h2 ((ih u v h1 h2).2 (.pair h1 h2 h3))
          · have hq : q = ((u : Int), (v : Int)) := by simpa using (List.mem_singleton.1 h3).symm
            by_cases e : lAt (unL n l) u = lAt (unL n l) v
            · exact hkeep u v h1 h2 e
            · have hjb : joinB (unL n l) q.1 q.2 = true := by
                rw [hq]; exact joinB_iff.2 ⟨memN_iff.2 ⟨by omega, by simp; omega⟩, memN_iff.2 ⟨by omega, by simp; omega⟩, by simpa using e⟩
              rw [joinL_at hjb (by omega), joinL_at hjb (by omega), hq]
              simp only [Int.toNat_natCast]
              generalize lAt (unL n l) u = x at *
              generalize lAt (unL n l) v = y at *
              rcases subN_cases x y x with ⟨e1, s1⟩ | ⟨e1, s1⟩ <;> rcases subN_cases x y y with ⟨e2, s2⟩ | ⟨e2, s2⟩ <;> rw [s1, s2] <;> omega
      exact main i j hc hi hj
/-- Names are told by who is with whom. -/
theorem nm_ext {L M : List Int} (hL : Nm L) (hM : Nm M) (hl : L.length = M.length) (h : ∀ i j, i < L.length → j < L.length → (lAt L i = lAt L j ↔ lAt M i = lAt M j)) : L = M := by
  refine list_ext hl fun i hi => ?_
  have a := hL.lo i hi
  have b := hM.lo i (by omega)
  have c := hL.id i hi
  have d := hM.id i (by omega)
  have e1 := (h (lAt L i).toNat i (by omega) hi).1 c
  have e2 := (h (lAt M i).toNat i (by omega) hi).2 d
  have f1 := hM.lo (lAt L i).toNat (by omega)
  have f2 := hL.lo (lAt M i).toNat (by omega)
  omega
def swapP (q : Int × Int) : Int × Int := (q.2, q.1)
theorem unL_order (n : Nat) (l : List (Int × Int)) : unL n (l.reverse.map swapP) = unL n l := by
  obtain ⟨h1, l1⟩ := unL_nm n (l.reverse.map swapP)
  obtain ⟨h2, l2⟩ := unL_nm n l
  refine nm_ext h1 h2 (by omega) fun i j hi hj => ?_
  rw [unL_cn n _ i j (by omega) (by omega), unL_cn n _ i j (by omega) (by omega)]
  constructor
  · exact Cn.mono fun i j h => .inr (by simp [swapP] at h; obtain ⟨a, b, h1, rfl, rfl⟩ := h; exact h1)
  · exact Cn.mono fun i j h => .inr (by simp [swapP]; exact ⟨_, _, h, rfl, rfl⟩)
/-- How many of the first k joins were made. -/
def madeN (n : Nat) : List (Int × Int) → Int := fun l => (n : Int) - setsN (unL n l)
theorem madeN_nil (n : Nat) : madeN n [] = 0 := by show (n : Int) - setsN (idN n) = 0; rw [setsN_id]; omega
theorem madeN_snoc (n : Nat) (l : List (Int × Int)) (q : Int × Int) : madeN n (l ++ [q]) = madeN n l + if joinB (unL n l) q.1 q.2 then 1 else 0 := by
  unfold madeN
  rw [unL_snoc]
  cases hj : joinB (unL n l) q.1 q.2 with
  | false => rw [joinL_no hj]; simp
  | true => rw [setsN_join (unL_nm n l).1 hj]; simp; omega
theorem nameN_name {L : List Int} (h : Nm L) (i : Nat) (hi : i < L.length) : nameN L (nameN L i) = nameN L i ∧ nameN L i ≤ i := by
  have a := h.lo i hi
  have m : memN L (i : Int) = true := memN_iff.2 ⟨by omega, by omega⟩
  have e : nameN L i = lAt L i := by unfold nameN; rw [m]; simp
  rw [e]
  have m2 : memN L (lAt L i) = true := memN_iff.2 ⟨by omega, by omega⟩
  exact ⟨by unfold nameN; rw [m2]; simpa using h.id i hi, a.2⟩

/-- The sets of which the names are below k, together. -/
def allN (L : List Int) : Nat → Int
  | 0 => 0
  | k + 1 => allN L k + if lAt L k = k then (L.count (k : Int) : Int) else 0
theorem allN_eq (L : List Int) (k : Nat) : allN L k = (L.countP (fun z : Int => decide (0 ≤ z) && decide (z < (k : Int)) && decide (lAt L z.toNat = z)) : Int) := by
  induction k with
  | zero =>
    have : L.countP (fun z : Int => decide (0 ≤ z) && decide (z < ((0 : Nat) : Int)) && decide (lAt L z.toNat = z)) = 0 := List.countP_eq_zero.2 fun z _ => by simp; omega
    simp only [allN]; rw [this]; rfl
  | succ k ih =>
    simp only [allN]
    rw [ih]
    have : ∀ M : List Int, (M.countP (fun z => decide (0 ≤ z) && decide (z < ((k + 1 : Nat) : Int)) && decide (lAt L z.toNat = z)) : Int) = (M.countP (fun z => decide (0 ≤ z) && decide (z < (k : Int)) && decide (lAt L z.toNat = z)) : Int) + if lAt L k = k then (M.count (k : Int) : Int) else 0 := by
      intro M
      induction M with
      | nil => simp
      | cons z M ihM =>
        rw [List.countP_cons, List.countP_cons, List.count_cons]
        have h1 : (decide (0 ≤ z) && decide (z < ((k + 1 : Nat) : Int)) && decide (lAt L z.toNat = z)) = ((decide (0 ≤ z) && decide (z < (k : Int)) && decide (lAt L z.toNat = z)) || (decide (z = k) && decide (lAt L k = k))) := by
          by_cases e : z = k
          · subst e; simp; omega
          · have e1 : (decide (z < ((k + 1 : Nat) : Int))) = decide (z < (k : Int)) := by simp; omega
            rw [e1]; simp [e]
        rw [h1]
        clear h1
        generalize List.countP (fun z : Int => decide (0 ≤ z) && decide (z < ((k + 1 : Nat) : Int)) && decide (lAt L z.toNat = z)) M = c1 at ihM ⊢
        generalize List.countP (fun z : Int => decide (0 ≤ z) && decide (z < (k : Int)) && decide (lAt L z.toNat = z)) M = c2 at ihM ⊢
        by_cases e : z = k
        · subst e
          by_cases e2 : lAt L k = k
          · rw [if_pos e2] at ihM ⊢; simp [e2]; omega
          · rw [if_neg e2] at ihM ⊢; simp [e2]; omega
        · have e3 : (z == (k : Int)) = false := by simpa using e
          simp only [e, decide_false, Bool.false_and, Bool.or_false, e3]
          split at ihM <;> split <;> simp_all <;> omega
    rw [this L]
theorem allN_all {L : List Int} (h : Nm L) : allN L L.length = L.length := by
  rw [allN_eq, List.countP_eq_length.2]
  intro z hz
  obtain ⟨i, hi, rfl⟩ := List.getElem_of_mem hz
  have a := h.lo i hi
  have b := h.id i hi
  rw [lAt_eq hi] at a b
  simp; exact ⟨⟨a.1, by omega⟩, b⟩
end Go.Proofs.Ytcbgeahcnjamdac
