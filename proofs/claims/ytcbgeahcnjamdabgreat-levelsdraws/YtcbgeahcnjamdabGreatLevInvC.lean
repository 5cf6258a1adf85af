/- Layer 10, plain: a tree edge rises, is bound, is cut; what is held then. -/
import Derived.Test.YtcbgeahcnjamdabGreatLevInvB
namespace Go.Proofs.YtcbgeahcnjamdabGreat
open Go.RowKit
set_option linter.unusedVariables false
section
variable {g : Gs} {on : Int → Prop} {sv lv : Int → Int} {S : Int → Prop} {go : Eg} {gl : Int}
/-- The forests' edges when one is told anew as a tree edge. -/
theorem qd_set {E : EM} {e : Int} {y0 : Eg} (hS : ¬ S e) (ht : y0.t = true) (j : Int) (y : Ex) : Qd (updQ E e (some y0)) S j y ↔ (y.e ≠ e ∧ Qd E S j y) ∨ (j ≤ y0.l ∧ y = ⟨e, y0.a, y0.b, if y0.l = j then 1 else 0⟩) := by
  constructor
  · rintro ⟨x, h1, h2, h3, h4, h5⟩
    by_cases he : y.e = e
    · rw [he, updQ_at] at h2; cases h2
      exact .inr ⟨h4, by rw [he] at h5; exact h5⟩
    · rw [updQ_ne he] at h2
      exact .inl ⟨he, x, h1, h2, h3, h4, h5⟩
  · rintro (⟨he, x, h1, h2, h3, h4, h5⟩ | ⟨h1, h2⟩)
    · exact ⟨x, h1, by rw [updQ_ne he]; exact h2, h3, h4, h5⟩
    · have he : y.e = e := by rw [h2]
      refine ⟨y0, by rw [he]; exact hS, by rw [he, updQ_at], ht, h1, ?_⟩
      rw [he]; exact h2
theorem qd_e {E : EM} {j : Int} {y : Ex} {x : Eg} (h : Qd E S j y) (hx : E y.e = some x) : x.t = true ∧ j ≤ x.l ∧ y = ⟨y.e, x.a, x.b, if x.l = j then 1 else 0⟩ := by
  obtain ⟨x', h1, h2, h3, h4, h5⟩ := h
  rw [hx] at h2; cases h2; exact ⟨h3, h4, h5⟩
def riseTreeG (g : Gs) (e : Int) (x : Eg) (i : Nat) : Gs := linkG (riseG (g.setF i (g.P i) (emarkQ (g.Q i) e 0)) e x) e x.up (i + 1)
theorem Gi.upTree (h : Gi g on sv lv S go gl) {e : Int} {x : Eg} (hS : ¬ S e) (he : g.E e = some x) (ht : x.t = true) {i : Nat} (hi : i + 1 < g.m) (hl : x.l = i) (hz : ∀ v, ¬ VS on g.E S go gl (i + 1) v → mkS g.s ((i + 1 : Nat) : Int) v = 0) : Gi (riseTreeG g e x i) on sv lv S go gl := by
  have hu : x.up.t = true := ht
  have Esame : (riseTreeG g e x i).E = updQ g.E e (some x.up) := rfl
  have xe : Qd g.E S i ⟨e, x.a, x.b, 1⟩ := ⟨x, hS, he, ht, by omega, by rw [if_pos hl]⟩
  have Qi1 : (riseTreeG g e x i).Q (i + 1) = linkM (g.Q (i + 1)) e x.a x.b 1 := by
    show updF (updF g.Q i _) (i + 1) (linkM (updF g.Q i _ (i + 1)) e x.a x.b (if x.l + 1 = ((i + 1 : Nat) : Int) then 1 else 0)) (i + 1) = _
    rw [updF_at, updF_ne (by omega), if_pos (by omega)]
  have Qi : (riseTreeG g e x i).Q i = emarkQ (g.Q i) e 0 := by
    show updF (updF g.Q i _) (i + 1) _ i = _
    rw [updF_ne (by omega), updF_at]
  have Qo : ∀ j, j ≠ i → j ≠ i + 1 → (riseTreeG g e x i).Q j = g.Q j := fun j h1 h2 => by
    show updF (updF g.Q i _) (i + 1) _ j = _
    rw [updF_ne h2, updF_ne h1]
  have hq : ∀ j, j < g.m → (riseTreeG g e x i).Q j = Qd (updQ g.E e (some x.up)) S j := fun j hj => by
    funext y
    apply propext
    rw [qd_set hS hu]
    by_cases h1 : j = i + 1
    · subst h1
      rw [Qi1, h.q _ hj]
      unfold linkM
      have e1 : x.up.l = ((i + 1 : Nat) : Int) := by show x.l + 1 = _; omega
      rw [e1, if_pos rfl]
      constructor
      · rintro (k | k)
        · refine .inl ⟨fun ey => ?_, k⟩
          have := (qd_e k (by rw [ey]; exact he)).2.1
          omega
        · exact .inr ⟨Int.le_refl _, k⟩
      · rintro (⟨_, k⟩ | ⟨_, k⟩)
        · exact .inl k
        · exact .inr k
    · by_cases h2 : j = i
      · subst h2
        rw [Qi, h.q _ hj]
        unfold emarkQ
        have e1 : ¬ x.up.l = (j : Int) := by show ¬ x.l + 1 = _; omega
        rw [if_neg e1]
        constructor
        · rintro (⟨k1, k2⟩ | ⟨y0, k1, k2, rfl⟩)
          · exact .inl ⟨k2, k1⟩
          · obtain ⟨_, _, k5⟩ := qd_e k1 (by rw [k2]; exact he)
            refine .inr ⟨by show (j : Int) ≤ x.l + 1; omega, ?_⟩
            rw [k5]; rfl
        · rintro (⟨k1, k2⟩ | ⟨_, rfl⟩)
          · exact .inl ⟨k2, k1⟩
          · exact .inr ⟨_, xe, rfl, rfl⟩
      · rw [Qo j h2 h1, h.q j hj]
        by_cases ey : y.e = e
        · constructor
          · intro k
            obtain ⟨_, k4, k5⟩ := qd_e k (by rw [ey]; exact he)
            refine .inr ⟨by show (j : Int) ≤ x.l + 1; omega, ?_⟩
            rw [if_neg (show ¬ x.up.l = (j : Int) from by show ¬ x.l + 1 = _; omega)]
            rw [k5, if_neg (by omega), ey]; rfl
          · rintro (⟨k, _⟩ | ⟨k1, k2⟩)
            · exact absurd ey k
            · have k1' : (j : Int) ≤ x.l + 1 := k1
              rw [if_neg (show ¬ x.up.l = (j : Int) from by show ¬ x.l + 1 = _; omega)] at k2
              rw [k2]
              exact ⟨x, hS, he, ht, by omega, by rw [if_neg (by omega)]; rfl⟩
        · constructor
          · exact fun k => .inl ⟨ey, k⟩
          · rintro (⟨_, k⟩ | ⟨_, k⟩)
            · exact k
            · exact absurd (by rw [k]) ey
  -- who has an edge
  have hh : ∀ j : Nat, ∀ v, Hase (Qd (updQ g.E e (some x.up)) S j) v ↔ Hase (Qd g.E S j) v ∨ (j = i + 1 ∧ (v = x.a ∨ v = x.b)) := fun j v => by
    rw [qd_hase, qd_hase]
    constructor
    · rintro ⟨f, y, k1, k2, k3, k4, k5⟩
      by_cases ef : f = e
      · subst ef
        rw [updQ_at] at k2; cases k2
        have k4' : (j : Int) ≤ x.l + 1 := k4
        by_cases hj : j = i + 1
        · exact .inr ⟨hj, k5.imp Eq.symm Eq.symm⟩
        · exact .inl ⟨f, x, k1, he, ht, by omega, k5⟩
      · rw [updQ_ne ef] at k2; exact .inl ⟨f, y, k1, k2, k3, k4, k5⟩
    · rintro (⟨f, y, k1, k2, k3, k4, k5⟩ | ⟨hj, k⟩)
      · by_cases ef : f = e
        · subst ef
          rw [he] at k2; cases k2
          exact ⟨f, x.up, k1, updQ_at _ _ _, hu, by show (j : Int) ≤ x.l + 1; omega, k5⟩
        · exact ⟨f, y, k1, by rw [updQ_ne ef]; exact k2, k3, k4, k5⟩
      · exact ⟨e, x.up, hS, updQ_at _ _ _, hu, by show (j : Int) ≤ x.l + 1; omega, k.imp Eq.symm Eq.symm⟩
  refine ⟨hq, fun j hj => ?_, fun v j f => ?_, fun f y hy => ?_, h.ob, h.nd, h.m⟩
  · show (riseTreeG g e x i).P j = Pf (VS on (updQ g.E e (some x.up)) S go gl j) (sv0 sv j) (sv0 lv j) (mkS g.s j)
    by_cases hj1 : j = i + 1
    · subst hj1
      have e1 : (riseTreeG g e x i).P (i + 1) = addP (addP (g.P (i + 1)) x.a 0 0) x.b 0 0 := by
        show updF (updF g.P i _) (i + 1) (addP (addP (updF g.P i _ (i + 1)) x.a 0 0) x.b 0 0) (i + 1) = _
        rw [updF_at, updF_ne (by omega)]
      rw [e1, h.p _ hj, show sv0 sv (i + 1) = n0 from if_neg (by omega), show sv0 lv (i + 1) = n0 from if_neg (by omega), addP_pf (fun k => hz _ k), addP_pf (fun k => hz _ (fun q => k (.inl q)))]
      refine pf_ext (fun u => ?_) (fun _ _ => ⟨rfl, rfl⟩) (fun _ _ => rfl)
      unfold VS
      rw [if_neg (by omega), if_neg (by omega), hh]
      constructor
      · rintro ((k | k) | k)
        · exact k.elim (fun k => .inl (.inl k)) .inr
        · exact .inl (.inr ⟨rfl, .inl k⟩)
        · exact .inl (.inr ⟨rfl, .inr k⟩)
      · rintro ((k | ⟨_, k | k⟩) | k)
        · exact .inl (.inl (.inl k))
        · exact .inl (.inr k)
        · exact .inr k
        · exact .inl (.inl (.inr k))
    · have e1 : (riseTreeG g e x i).P j = g.P j := by
        show updF (updF g.P i (g.P i)) (i + 1) _ j = _
        rw [updF_ne hj1]
        by_cases h2 : j = i
        · subst h2; exact updF_at _ _ _
        · exact updF_ne h2
      rw [e1, h.p j hj]
      refine pf_ext (fun u => ?_) (fun _ _ => ⟨rfl, rfl⟩) (fun _ _ => rfl)
      unfold VS
      split
      · exact Iff.rfl
      · rw [hh]
        exact ⟨fun k => k.imp .inl id, fun k => k.imp (fun k => k.elim id (fun k => absurd k.1 hj1)) id⟩
  · show f ∈ g.s.L (v, j) ↔ ∃ y, ¬ S f ∧ updQ g.E e (some x.up) f = some y ∧ _
    rw [h.lo]
    constructor
    · rintro ⟨y, k1, k2, k3, k4⟩
      have ef : f ≠ e := fun k => by subst k; rw [he] at k2; cases k2; rw [ht] at k3; cases k3
      exact ⟨y, k1, by rw [updQ_ne ef]; exact k2, k3, k4⟩
    · rintro ⟨y, k1, k2, k3, k4⟩
      have ef : f ≠ e := fun k => by subst k; rw [updQ_at] at k2; cases k2; rw [hu] at k3; cases k3
      exact ⟨y, k1, by rw [updQ_ne ef] at k2; exact k2, k3, k4⟩
  · have hy' : updQ g.E e (some x.up) f = some y := hy
    by_cases ef : f = e
    · subst ef
      rw [updQ_at] at hy'; cases hy'
      obtain ⟨a1, a2, a3, a4, a5, a6⟩ := h.eb f x he
      exact ⟨a1, a2, a3, a4, by show 0 ≤ x.l + 1; omega, by show x.l + 1 < (g.m : Int); omega⟩
    · rw [updQ_ne ef] at hy'; exact h.eb f y hy'
/-- An edge is linked at k levels. -/
def bindGk (g : Gs) (e : Int) (x : Eg) (k : Nat) : Gs := ⟨g.n, g.m, fun j => if j < k then addP (addP (g.P j) x.a 0 0) x.b 0 0 else g.P j, fun j => if j < k then linkM (g.Q j) e x.a x.b (if x.l = j then 1 else 0) else g.Q j, g.E, g.ne, g.s, g.vl, g.vb, g.el, g.eb⟩
theorem bindGk_zero (g : Gs) (e : Int) (x : Eg) : bindGk g e x 0 = g := by cases g; simp [bindGk]
theorem bindGk_succ (g : Gs) (e : Int) (x : Eg) (k : Nat) : linkG (bindGk g e x k) e x k = bindGk g e x (k + 1) := by
  have e1 : (bindGk g e x k).P k = g.P k := if_neg (by omega)
  have e2 : (bindGk g e x k).Q k = g.Q k := if_neg (by omega)
  unfold linkG
  rw [e1, e2]
  show Gs.mk g.n g.m (updF (bindGk g e x k).P k _) (updF (bindGk g e x k).Q k _) g.E g.ne g.s g.vl g.vb g.el g.eb = Gs.mk g.n g.m (bindGk g e x (k + 1)).P (bindGk g e x (k + 1)).Q g.E g.ne g.s g.vl g.vb g.el g.eb
  congr 1
  · funext j
    by_cases h : j = k
    · subst h; rw [updF_at]; exact (if_pos (by omega)).symm
    · rw [updF_ne h]
      show (if j < k then _ else _) = (if j < k + 1 then _ else _)
      by_cases h2 : j < k
      · rw [if_pos h2, if_pos (show j < k + 1 by omega)]
      · rw [if_neg h2, if_neg (show ¬ j < k + 1 by omega)]
  · funext j
    by_cases h : j = k
    · subst h; rw [updF_at]; exact (if_pos (by omega)).symm
    · rw [updF_ne h]
      show (if j < k then _ else _) = (if j < k + 1 then _ else _)
      by_cases h2 : j < k
      · rw [if_pos h2, if_pos (show j < k + 1 by omega)]
      · rw [if_neg h2, if_neg (show ¬ j < k + 1 by omega)]
theorem Gi.bindG {e : Int} (h : Gi g on sv lv (fun k => S k ∨ k = e) go gl) {x : Eg} (hS : ¬ S e) (he : g.E e = some x) (ht : x.t = true) {i : Nat} (hi : i < g.m) (hl : x.l = i) (hv : ∀ j : Nat, j ≤ i → VS on g.E (fun k => S k ∨ k = e) go gl j x.a ∧ VS on g.E (fun k => S k ∨ k = e) go gl j x.b) : Gi (bindGk g e x (i + 1)) on sv lv S go gl := by
  have split : ∀ (j : Int) (y : Ex), Qd g.E S j y ↔ Qd g.E (fun k => S k ∨ k = e) j y ∨ (j ≤ x.l ∧ y = ⟨e, x.a, x.b, if x.l = j then 1 else 0⟩) := fun j y => by
    constructor
    · rintro ⟨z, k1, k2, k3, k4, k5⟩
      by_cases ey : y.e = e
      · rw [ey, he] at k2; cases k2
        exact .inr ⟨k4, by rw [ey] at k5; exact k5⟩
      · exact .inl ⟨z, fun k => k.elim k1 ey, k2, k3, k4, k5⟩
    · rintro (⟨z, k1, k2, k3, k4, k5⟩ | ⟨k1, k2⟩)
      · exact ⟨z, fun k => k1 (.inl k), k2, k3, k4, k5⟩
      · have ey : y.e = e := by rw [k2]
        exact ⟨x, by rw [ey]; exact hS, by rw [ey]; exact he, ht, k1, by rw [ey]; exact k2⟩
  have hh : ∀ (j : Int) v, Hase (Qd g.E S j) v ↔ Hase (Qd g.E (fun k => S k ∨ k = e) j) v ∨ (j ≤ x.l ∧ (v = x.a ∨ v = x.b)) := fun j v => by
    constructor
    · rintro ⟨y, k1, k2⟩
      rcases (split j y).1 k1 with k | ⟨k, rfl⟩
      · exact .inl ⟨y, k, k2⟩
      · exact .inr ⟨k, k2.imp Eq.symm Eq.symm⟩
    · rintro (⟨y, k1, k2⟩ | ⟨k, k2⟩)
      · exact ⟨y, (split j y).2 (.inl k1), k2⟩
      · exact ⟨_, (split j _).2 (.inr ⟨k, rfl⟩), k2.imp Eq.symm Eq.symm⟩
  refine ⟨fun j hj => ?_, fun j hj => ?_, fun v j f => ?_, h.eb, h.ob, h.nd, h.m⟩
  · show (if j < i + 1 then linkM (g.Q j) e x.a x.b (if x.l = j then 1 else 0) else g.Q j) = Qd g.E S j
    funext y
    apply propext
    rw [split]
    by_cases hji : j < i + 1
    · rw [if_pos hji, h.q j hj]
      exact ⟨fun k => k.imp id (fun k => ⟨by omega, k⟩), fun k => k.imp id (fun k => k.2)⟩
    · rw [if_neg hji, h.q j hj]
      exact ⟨.inl, fun k => k.elim id (fun k => by omega)⟩
  · show (if j < i + 1 then addP (addP (g.P j) x.a 0 0) x.b 0 0 else g.P j) = Pf (VS on g.E S go gl j) _ _ (mkS g.s j)
    have hP : (if j < i + 1 then addP (addP (g.P j) x.a 0 0) x.b 0 0 else g.P j) = g.P j := by
      split
      · rw [h.p j hj, addP_pf_in (hv j (by omega)).1, addP_pf_in (hv j (by omega)).2]
      · rfl
    rw [hP, h.p j hj]
    refine pf_ext (fun u => ?_) (fun _ _ => ⟨rfl, rfl⟩) (fun _ _ => rfl)
    constructor
    · intro k
      unfold VS at k ⊢
      by_cases h0 : j = 0
      · rw [if_pos h0] at k ⊢; exact k
      · rw [if_neg h0] at k ⊢; rw [hh]; exact k.imp .inl id
    · intro k
      by_cases hji : j ≤ i
      · by_cases hu : u = x.a ∨ u = x.b
        · rcases hu with rfl | rfl
          · exact (hv j hji).1
          · exact (hv j hji).2
        · unfold VS at k ⊢
          by_cases h0 : j = 0
          · rw [if_pos h0] at k ⊢; exact k
          · rw [if_neg h0] at k ⊢; rw [hh] at k; exact k.imp (fun k => k.elim id (fun k => absurd k.2 hu)) id
      · unfold VS at k ⊢
        by_cases h0 : j = 0
        · rw [if_pos h0] at k ⊢; exact k
        · rw [if_neg h0] at k ⊢; rw [hh] at k; exact k.imp (fun k => k.elim id (fun k => by omega)) id
  · show f ∈ g.s.L (v, j) ↔ _
    rw [h.lo]
    constructor
    · rintro ⟨y, k1, k2⟩; exact ⟨y, fun k => k1 (.inl k), k2⟩
    · rintro ⟨y, k1, k2, k3, k4⟩
      have k2' : g.E f = some y := k2
      exact ⟨y, fun k => k.elim k1 (fun k => by subst k; rw [he] at k2'; cases k2'; rw [ht] at k3; cases k3), k2, k3, k4⟩
/-- A tree edge is cut. -/
theorem Gi.cutG (h : Gi g on sv lv (fun _ => False) go gl) (hgl : gl ≤ 0) {x0 : Int} {x : Eg} (he : g.E x0 = some x) (ht : x.t = true) {L : Nat} (hL : L < g.m) (hl : x.l = L) : Gi (cutGk g x0 (L + 1)) on sv lv (fun k => k = x0) x L := by
  have hQ : ∀ (j : Nat) (y : Ex), Qd g.E (fun k => k = x0) j y ↔ cutQ (Qd g.E (fun _ => False) j) x0 y := fun j y => by
    constructor
    · rintro ⟨z, k1, k2⟩; exact ⟨⟨z, fun k => k, k2⟩, k1⟩
    · rintro ⟨⟨z, k1, k2⟩, k3⟩; exact ⟨z, k3, k2⟩
  have hh : ∀ (j : Nat) v, Hase (Qd g.E (fun _ => False) j) v ↔ Hase (Qd g.E (fun k => k = x0) j) v ∨ ((j : Int) ≤ L ∧ (v = x.a ∨ v = x.b)) := fun j v => by
    rw [qd_hase, qd_hase]
    constructor
    · rintro ⟨f, y, k1, k2, k3, k4, k5⟩
      by_cases ef : f = x0
      · subst ef; rw [he] at k2; cases k2; exact .inr ⟨by omega, k5.imp Eq.symm Eq.symm⟩
      · exact .inl ⟨f, y, ef, k2, k3, k4, k5⟩
    · rintro (⟨f, y, k1, k2⟩ | ⟨k, k2⟩)
      · exact ⟨f, y, fun k => k, k2⟩
      · exact ⟨x0, x, fun k => k, he, ht, by omega, k2.imp Eq.symm Eq.symm⟩
  refine ⟨fun j hj => ?_, fun j hj => ?_, fun v j f => ?_, h.eb, h.ob, h.nd, h.m⟩
  · show (if j < L + 1 then cutQ (g.Q j) x0 else g.Q j) = Qd g.E _ j
    funext y
    apply propext
    rw [hQ, h.q j hj]
    by_cases hj1 : j < L + 1
    · rw [if_pos hj1]
    · rw [if_neg hj1]
      refine ⟨fun k => ⟨k, fun ey => ?_⟩, fun k => k.1⟩
      have := (qd_e k (by rw [ey]; exact he)).2.1
      omega
  · show g.P j = Pf (VS on g.E _ x L j) _ _ (mkS g.s j)
    rw [h.p j hj]
    refine pf_ext (fun u => ?_) (fun _ _ => ⟨rfl, rfl⟩) (fun _ _ => rfl)
    unfold VS
    by_cases h0 : j = 0
    · rw [if_pos h0, if_pos h0]
    · rw [if_neg h0, if_neg h0, hh]
      exact ⟨fun k => k.elim id (fun k => by omega), .inl⟩
  · show f ∈ g.s.L (v, j) ↔ _
    rw [h.lo]
    constructor
    · rintro ⟨y, k1, k2, k3, k4⟩
      exact ⟨y, (fun k => by subst k; rw [he] at k2; cases k2; rw [ht] at k3; cases k3), k2, k3, k4⟩
    · rintro ⟨y, k1, k2⟩; exact ⟨y, fun k => k, k2⟩
/-- Its ends leave the forests where they have no edge any more; it goes. -/
theorem Gi.leaveG {x0 : Int} {L : Nat} (h : Gi g on sv lv (fun k => k = x0) go L) (hL : L < g.m) : Gi (leaveGk g go.a go.b L) on sv lv (fun k => k = x0) go 0 := by
  refine ⟨h.q, fun j hj => ?_, h.lo, h.eb, h.ob, h.nd, h.m⟩
  show (if 1 ≤ j ∧ j < L + 1 then dropP (dropP (g.P j) (g.Q j) go.a) (g.Q j) go.b else g.P j) = Pf (VS on g.E _ go 0 j) _ _ (mkS g.s j)
  by_cases hj1 : 1 ≤ j ∧ j < L + 1
  · rw [if_pos hj1, h.p j hj, dropP_pf, dropP_pf, h.q j hj]
    refine pf_ext (fun u => ?_) (fun _ _ => ⟨rfl, rfl⟩) (fun _ _ => rfl)
    unfold VS
    rw [if_neg (by omega), if_neg (by omega)]
    constructor
    · rintro ⟨⟨k | k, k2⟩, k3⟩
      · exact .inl k
      · rcases k.2 with rfl | rfl
        · exact k2.elim (fun q => absurd rfl q) .inl
        · exact k3.elim (fun q => absurd rfl q) .inl
    · rintro (k | k)
      · refine ⟨⟨.inl k, ?_⟩, ?_⟩
        · by_cases e : u = go.a
          · subst e; exact .inr k
          · exact .inl e
        · by_cases e : u = go.b
          · subst e; exact .inr k
          · exact .inl e
      · omega
  · rw [if_neg hj1, h.p j hj]
    refine pf_ext (fun u => ?_) (fun _ _ => ⟨rfl, rfl⟩) (fun _ _ => rfl)
    unfold VS
    by_cases h0 : j = 0
    · rw [if_pos h0, if_pos h0]
    · rw [if_neg h0, if_neg h0]
      exact ⟨fun k => k.imp id (fun k => by omega), fun k => k.imp id (fun k => by omega)⟩
theorem Gi.goneE {x0 : Int} (h : Gi g on sv lv (fun k => k = x0) go gl) (ne : Nat) : Gi (g.setE (updQ g.E x0 none) ne) on sv lv (fun _ => False) go gl := by
  have key : ∀ f y, (¬ f = x0 ∧ g.E f = some y) ↔ (¬ False ∧ updQ g.E x0 none f = some y) := fun f y => by
    by_cases ef : f = x0
    · subst ef; rw [updQ_at]; simp
    · rw [updQ_ne ef]; simp [ef]
  have hQ : ∀ j : Int, Qd g.E (fun k => k = x0) j = Qd (updQ g.E x0 none) (fun _ => False) j := fun j => qd_ext fun f y _ _ => key f y
  refine ⟨fun j hj => (h.q j hj).trans (hQ j), fun j hj => ?_, fun v j f => ?_, fun f y hy => ?_, h.ob, h.nd, h.m⟩
  · refine (h.p j hj).trans ?_
    show _ = Pf (VS on (updQ g.E x0 none) _ go gl j) _ _ _
    rw [vs_ext (fun j _ => hQ j) j]; rfl
  · rw [show (g.setE (updQ g.E x0 none) ne).s.L (v, j) = g.s.L (v, j) from rfl, h.lo]
    constructor
    · rintro ⟨y, k1, k2, k3⟩
      obtain ⟨q1, q2⟩ := (key f y).1 ⟨k1, k2⟩
      exact ⟨y, q1, q2, k3⟩
    · rintro ⟨y, k1, k2, k3⟩
      obtain ⟨q1, q2⟩ := (key f y).2 ⟨k1, k2⟩
      exact ⟨y, q1, q2, k3⟩
  · have : updQ g.E x0 none f = some y := hy
    exact h.eb f y ((key f y).2 ⟨fun k => k, this⟩).2
/-- Where no edge is gone, its name is no matter. -/
theorem Gi.rest (h : Gi g on sv lv S go gl) (hgl : gl ≤ 0) (go' : Eg) : Gi g on sv lv S go' 0 := by
  refine ⟨h.q, fun j hj => ?_, h.lo, h.eb, h.ob, h.nd, h.m⟩
  rw [h.p j hj]
  refine pf_ext (fun u => ?_) (fun _ _ => ⟨rfl, rfl⟩) (fun _ _ => rfl)
  unfold VS
  by_cases h0 : j = 0
  · rw [if_pos h0, if_pos h0]
  · rw [if_neg h0, if_neg h0]
    exact ⟨fun k => k.imp id (fun k => by omega), fun k => k.imp id (fun k => by omega)⟩
end
end Go.Proofs.YtcbgeahcnjamdabGreat
