/- Layer 9 (edges), plain: all that stands in one list (the document's machine), and what it says of each vertex and level. -/
import Derived.Test.YthdmmjboaoonbaaEdgesPlain
namespace Go.Proofs.Ythdmmjboaoonbaa
open Go.RowKit
set_option linter.unusedVariables false

abbrev On := Int × Int × Int
def onK (x : On) : Int × Int := (x.1, x.2.1)
/-- The numbers at a vertex and a level. -/
def ofW (ws : List On) (a : Int × Int) : List Int := (ws.filter fun x => decide (onK x = a)).map fun x => x.2.2
theorem ofW_append (p q : List On) (a : Int × Int) : ofW (p ++ q) a = ofW p a ++ ofW q a := by unfold ofW; rw [List.filter_append, List.map_append]
theorem ofW_cons (x : On) (q : List On) (a : Int × Int) : ofW (x :: q) a = (if onK x = a then [x.2.2] else []) ++ ofW q a := by
  unfold ofW
  by_cases h : onK x = a <;> simp [h]
theorem mem_ofW {ws : List On} {v l e : Int} : e ∈ ofW ws (v, l) ↔ (v, l, e) ∈ ws := by
  unfold ofW
  rw [List.mem_map]
  constructor
  · rintro ⟨⟨v', l', e'⟩, h1, rfl⟩
    rw [List.mem_filter] at h1
    simp [onK] at h1
    obtain ⟨h1, rfl, rfl⟩ := h1
    exact h1
  · intro h
    exact ⟨(v, l, e), List.mem_filter.2 ⟨h, by simp [onK]⟩, rfl⟩
/-- Where a thing stands; below 0: nowhere. -/
def atW (ws : List On) (x : On) : Int := if x ∈ ws then ws.idxOf x else -1
theorem atW_no {ws : List On} {x : On} (h : x ∉ ws) : atW ws x = -1 := if_neg h
theorem atW_yes {ws : List On} {x : On} (h : x ∈ ws) : atW ws x = ws.idxOf x := if_pos h
theorem atW_pos {ws : List On} {x : On} : 0 ≤ atW ws x ↔ x ∈ ws := by
  by_cases h : x ∈ ws
  · rw [atW_yes h]; simp [h]
  · rw [atW_no h]; simp [h]
theorem atW_hit {ws : List On} {x : On} : ∀ {i : Nat}, ws[i]? = some x → (∀ j, j < i → ws[j]? ≠ some x) → ws.idxOf x = i := by
  induction ws with
  | nil => intro i h; cases h
  | cons y l ih =>
    intro i h hno
    cases i with
    | zero => simp at h; subst h; simp
    | succ i =>
      have h0 := hno 0 (by omega)
      simp at h0 h
      have := ih h (fun j hj => by have := hno (j + 1) (by omega); simpa using this)
      rw [List.idxOf_cons, show (y == x) = false by simpa using h0]
      simp [this]
/-- The last place, of the first i ones, of those with a key. -/
def lastTo (ws : List On) (a : Int × Int) (at0 : Nat) : Nat → Nat
  | 0 => at0
  | i + 1 => if (ws[i]?).map onK = some a then i else lastTo ws a at0 i
theorem lastTo_spec (ws : List On) (a : Int × Int) (at0 : Nat) : ∀ i, (∃ j, j < i ∧ (ws[j]?).map onK = some a) → lastTo ws a at0 i < i ∧ (ws[lastTo ws a at0 i]?).map onK = some a ∧ ∀ j, lastTo ws a at0 i < j → j < i → (ws[j]?).map onK ≠ some a := by
  intro i
  induction i with
  | zero => rintro ⟨j, hj, _⟩; omega
  | succ i ih =>
    rintro ⟨j, hj, hk⟩
    unfold lastTo
    by_cases h : (ws[i]?).map onK = some a
    · rw [if_pos h]; exact ⟨by omega, h, fun j h1 h2 => by omega⟩
    · rw [if_neg h]
      obtain ⟨h1, h2, h3⟩ := ih ⟨j, by rcases Nat.lt_or_ge j i with k | k; exact k; (obtain rfl : j = i := by omega); exact absurd hk h, hk⟩
      exact ⟨by omega, h2, fun q g1 g2 => by rcases Nat.lt_or_ge q i with k | k; exact h3 q g1 k; (obtain rfl : q = i := by omega); exact h⟩
/-- What is taken leaves its place to the last one of its vertex and level. -/
def takeW (ws : List On) (x : On) : List On :=
  let out := ws.set (ws.idxOf x) (ws.getD (lastTo ws (onK x) (ws.idxOf x) ws.length) x)
  out.take (lastTo ws (onK x) (ws.idxOf x) ws.length) ++ out.drop (lastTo ws (onK x) (ws.idxOf x) ws.length + 1)
theorem split_at {α : Type} {l : List α} {i : Nat} {x : α} (h : l[i]? = some x) : ∃ p q, l = p ++ x :: q ∧ p.length = i := by
  have hi := (List.getElem?_eq_some_iff.1 h).1
  refine ⟨l.take i, l.drop (i + 1), ?_, by simp; omega⟩
  rw [show x = l[i] from ((List.getElem?_eq_some_iff.1 h).2).symm, ← List.drop_eq_getElem_cons hi, List.take_append_drop]
theorem ofW_none {ws : List On} {a : Int × Int} (h : ∀ x ∈ ws, onK x ≠ a) : ofW ws a = [] := by
  unfold ofW
  rw [List.filter_eq_nil_iff.2 (fun x hx => by simpa using h x hx)]; rfl
/-- The two ways in which one is taken. -/
theorem take_ways {ws : List On} {x : On} (h : x ∈ ws) (hn : ws.Nodup) : (∃ P R, ws = P ++ x :: R ∧ takeW ws x = P ++ R ∧ (∀ z ∈ R, onK z ≠ onK x) ∧ x ∉ P) ∨
    ∃ P M y R, ws = P ++ x :: (M ++ y :: R) ∧ takeW ws x = P ++ y :: (M ++ R) ∧ onK y = onK x ∧ (∀ z ∈ R, onK z ≠ onK x) ∧ x ∉ P := by
  obtain ⟨P, T, rfl⟩ := List.append_of_mem h
  have hP : x ∉ P := fun hp => by rw [List.nodup_append] at hn; exact hn.2.2 x hp x (by simp) rfl
  have hix : (P ++ x :: T).idxOf x = P.length := by rw [List.idxOf_append, if_neg hP]; simp
  obtain ⟨j, hj⟩ : ∃ j, j = lastTo (P ++ x :: T) (onK x) P.length (P ++ x :: T).length := ⟨_, rfl⟩
  obtain ⟨s1, s2, s3⟩ := lastTo_spec (P ++ x :: T) (onK x) P.length (P ++ x :: T).length ⟨P.length, by simp, by simp⟩
  rw [← hj] at s1 s2 s3
  have hge : P.length ≤ j := by
    rcases Nat.lt_or_ge j P.length with k | k
    · exact absurd (by simp) (s3 P.length k (by simp))
    · exact k
  rcases Nat.eq_or_lt_of_le hge with e | hlt
  · left
    refine ⟨P, T, rfl, ?_, fun z hz => ?_, hP⟩
    · unfold takeW
      rw [hix, ← hj, ← e]
      simp only
      rw [List.set_append_right _ _ (Nat.le_refl _)]
      simp
    · obtain ⟨i, hi, e2⟩ := List.getElem_of_mem hz
      intro hk
      refine s3 (P.length + 1 + i) (by omega) (by simp; omega) ?_
      rw [List.getElem?_append_right (by omega), show P.length + 1 + i - P.length = i + 1 by omega, List.getElem?_cons_succ, List.getElem?_eq_getElem hi, e2]
      simp [hk]
  · right
    obtain ⟨m, rfl⟩ : ∃ m, j = P.length + (m + 1) := ⟨j - P.length - 1, by omega⟩
    rw [List.getElem?_append_right (by omega), show P.length + (m + 1) - P.length = m + 1 by omega, List.getElem?_cons_succ] at s2
    obtain ⟨y, hy, hyk⟩ : ∃ y, T[m]? = some y ∧ onK y = onK x := by
      cases hT : T[m]? with
      | none => rw [hT] at s2; cases s2
      | some y => rw [hT] at s2; exact ⟨y, rfl, by simpa using s2⟩
    obtain ⟨M, R, rfl, hM⟩ := split_at hy
    refine ⟨P, M, y, R, rfl, ?_, hyk, fun z hz hk => ?_, hP⟩
    · unfold takeW
      rw [hix, ← hj]
      simp only
      have e1 : (P ++ x :: (M ++ y :: R)).getD (P.length + (m + 1)) x = y := by
        rw [List.getD_eq_getElem?_getD, List.getElem?_append_right (by omega), show P.length + (m + 1) - P.length = m + 1 by omega, List.getElem?_cons_succ, hy]; rfl
      rw [e1, List.set_append_right _ _ (Nat.le_refl _), Nat.sub_self, List.set_cons_zero, List.take_append, List.drop_append]
      rw [show P.length + (m + 1) - P.length = m + 1 by omega, show P.length + (m + 1) + 1 - P.length = m + 2 by omega, List.take_of_length_le (l := P) (by omega), List.drop_eq_nil_of_le (show P.length ≤ P.length + (m + 1) + 1 by omega)]
      rw [List.take_succ_cons, List.take_append, show m - M.length = 0 by omega, List.take_of_length_le (l := M) (by omega)]
      rw [show m + 2 = (m + 1) + 1 from rfl, List.drop_succ_cons, List.drop_append, List.drop_eq_nil_of_le (show M.length ≤ m + 1 by omega), show m + 1 - M.length = 1 by omega]
      simp
    · obtain ⟨i, hi, e2⟩ := List.getElem_of_mem hz
      refine s3 (P.length + (m + 1) + 1 + i) (by omega) (by simp; omega) ?_
      rw [List.getElem?_append_right (by omega), show P.length + (m + 1) + 1 + i - P.length = (m + 1 + i) + 1 by omega, List.getElem?_cons_succ, List.getElem?_append_right (by omega), show m + 1 + i - M.length = i + 1 by omega, List.getElem?_cons_succ, List.getElem?_eq_getElem hi, e2]
      simp [hk]
/-- The bag's state and the list tell the same. -/
structure Rel9 (s : Bg) (ws : List On) : Prop where
  of : ∀ a, s.L a = ofW ws a
  n : s.n = ws.length
  nodup : ws.Nodup
theorem Rel9.nil : Rel9 bg0 [] := ⟨fun a => rfl, rfl, List.nodup_nil⟩
theorem Rel9.mem {s : Bg} {ws : List On} (h : Rel9 s ws) {v l e : Int} : e ∈ s.L (v, l) ↔ (v, l, e) ∈ ws := by rw [h.of]; exact mem_ofW
theorem Rel9.put {s : Bg} {ws : List On} (h : Rel9 s ws) {v l e : Int} (hm : e ∉ s.L (v, l)) : Rel9 (s.put (v, l) e) (ws ++ [(v, l, e)]) := by
  refine ⟨fun a => ?_, by simp [Bg.put, h.n], ?_⟩
  · rw [ofW_append, ofW_cons]
    by_cases ha : (v, l) = a
    · subst ha
      simp only [Bg.put, updQ_at]
      rw [h.of]; simp [onK, ofW]
    · simp only [Bg.put]
      rw [updQ_ne (Ne.symm ha), h.of]; simp [onK, ha, ofW]
  · rw [List.nodup_append]
    exact ⟨h.nodup, by simp, fun x hx y hy => by simp at hy; subst hy; rintro rfl; exact hm (h.mem.2 hx)⟩
theorem Rel9.take {s : Bg} {ws : List On} (h : Rel9 s ws) {v l e : Int} (hm : e ∈ s.L (v, l)) : Rel9 (s.take (v, l) e) (takeW ws (v, l, e)) := by
  have hx := h.mem.1 hm
  rcases take_ways hx h.nodup with ⟨P, R, e1, e2, hR, hP⟩ | ⟨P, M, y, R, e1, e2, hy, hR, hP⟩
  · have hn := h.nodup
    rw [e1] at hn
    have hk : ∀ a, ofW ws a = ofW P a ++ ((if (v, l) = a then [e] else []) ++ ofW R a) := fun a => by rw [e1, ofW_append, ofW_cons]; rfl
    refine ⟨fun a => ?_, ?_, ?_⟩
    · rw [e2, ofW_append]
      by_cases ha : (v, l) = a
      · subst ha
        simp only [Bg.take, updQ_at]
        have hRn : ofW R (v, l) = [] := ofW_none (fun z hz => hR z hz)
        rw [h.of, hk, if_pos rfl, hRn, List.append_nil, List.append_nil]
        exact delL_end (fun hp => hP (mem_ofW.1 hp))
      · simp only [Bg.take]
        rw [updQ_ne (Ne.symm ha), h.of, hk, if_neg ha]; rfl
    · rw [e2]; simp only [Bg.take]; rw [h.n, e1]; simp
    · rw [e2]
      rw [List.nodup_append, List.nodup_cons] at hn
      rw [List.nodup_append]
      exact ⟨hn.1, hn.2.1.2, fun a ha b hb => hn.2.2 a ha b (by simp [hb])⟩
  · have hn := h.nodup
    rw [e1] at hn
    have hk : ∀ a, ofW ws a = ofW P a ++ ((if (v, l) = a then [e] else []) ++ (ofW M a ++ ((if onK y = a then [y.2.2] else []) ++ ofW R a))) := fun a => by rw [e1, ofW_append, ofW_cons, ofW_append, ofW_cons]; rfl
    have hyk : onK y = (v, l) := hy
    refine ⟨fun a => ?_, ?_, ?_⟩
    · rw [e2, ofW_append, ofW_cons, ofW_append]
      by_cases ha : (v, l) = a
      · subst ha
        simp only [Bg.take, updQ_at]
        have hRn : ofW R (v, l) = [] := ofW_none (fun z hz => hR z hz)
        rw [h.of, hk, if_pos rfl, if_pos hyk, hRn, List.append_nil, List.append_nil]
        exact delL_mid (fun hp => hP (mem_ofW.1 hp))
      · simp only [Bg.take]
        rw [updQ_ne (Ne.symm ha), h.of, hk, if_neg ha, if_neg (by rw [hyk]; exact ha)]; rfl
    · rw [e2]; simp only [Bg.take]; rw [h.n, e1]; simp; omega
    · rw [e2]
      have hp : (P ++ y :: (M ++ R)).Perm (P ++ (M ++ y :: R)) := List.Perm.append_left P (List.perm_middle.symm)
      rw [hp.nodup_iff]
      rw [List.nodup_append, List.nodup_cons] at hn
      rw [List.nodup_append]
      exact ⟨hn.1, hn.2.1.2, fun a ha b hb => hn.2.2 a ha b (List.mem_cons_of_mem _ hb)⟩
end Go.Proofs.Ythdmmjboaoonbaa
