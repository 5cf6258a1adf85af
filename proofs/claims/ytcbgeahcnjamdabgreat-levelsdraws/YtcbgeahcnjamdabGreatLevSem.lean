/- Layer 10, plain: tree edges and loose ones by level; what rises and what is bound (Holm, de Lichtenberg, Thorup). -/
import Derived.Test.YtcbgeahcnjamdabGreatLevView
namespace Go.Proofs.YtcbgeahcnjamdabGreat
open Go.RowKit
set_option linter.unusedVariables false

abbrev EM := Int → Option Eg
/-- A tree edge, none of those that are passed over, of level i or more, leads from a to b. -/
def Te (E : EM) (S : Int → Prop) (i : Int) (a b : Int) : Prop := ∃ e x, ¬ S e ∧ E e = some x ∧ x.t = true ∧ i ≤ x.l ∧ x.a = a ∧ x.b = b
/-- An edge, whichever, leads from a to b. -/
def Ae (E : EM) (a b : Int) : Prop := ∃ e x, E e = some x ∧ x.a = a ∧ x.b = b
theorem Te.low {E : EM} {S : Int → Prop} {i j : Int} (h : j ≤ i) {a b : Int} (k : Te E S i a b) : Te E S j a b := by
  obtain ⟨e, x, h1, h2, h3, h4, h5⟩ := k
  exact ⟨e, x, h1, h2, h3, by omega, h5⟩
theorem Jn.sub {R R' : Int → Int → Prop} (h : ∀ a b, R a b → R' a b) {a b : Int} (k : Jn R a b) : Jn R' a b := k.mono fun x y r => .inl (h x y r)
theorem Jn.lift {R R' : Int → Int → Prop} (h : ∀ a b, R a b → Jn R' a b) {a b : Int} (k : Jn R a b) : Jn R' a b := by
  induction k with
  | refl => exact .refl _
  | step _ e ih => exact ih.trans (e.elim (h _ _) (fun r => (h _ _ r).symm))
theorem Jn.one {R : Int → Int → Prop} {a b : Int} (h : R a b) : Jn R a b := .step (.refl _) (.inl h)
theorem Jn.low {E : EM} {S : Int → Prop} {i j : Int} (h : j ≤ i) {a b : Int} (k : Jn (Te E S i) a b) : Jn (Te E S j) a b := k.sub fun _ _ => Te.low h
theorem two_le {T : List Int} {a b : Int} (h : a ∈ T) (k : b ∈ T) (hne : a ≠ b) : 2 ≤ T.length := by
  match T, h, k with
  | [x], h, k => simp at h k; exact absurd (h.trans k.symm) hne
  | x :: y :: l, _, _ => simp
/-- No circle. -/
def Acy (E : EM) (S : Int → Prop) : Prop := ∀ e x, ¬ S e → E e = some x → x.t = true → ¬ Jn (Te E (fun k => S k ∨ k = e) 0) x.a x.b
/-- No tree of a level has more vertices than n / 2^i. -/
def Sz (E : EM) (S : Int → Prop) (n : Int) (m : Nat) : Prop := ∀ i : Nat, i < m → ∀ v (T : List Int), T.Nodup → (∀ u ∈ T, Jn (Te E S i) v u) → (T.length : Int) * 2 ^ i ≤ n
/-- A loose edge has both ends in one tree of its level. -/
def Bb (E : EM) (S : Int → Prop) : Prop := ∀ e x, ¬ S e → E e = some x → x.t = false → Jn (Te E S x.l) x.a x.b
/-- With the edge that is gone. -/
def Tg (E : EM) (S : Int → Prop) (go : Eg) (i : Int) (a b : Int) : Prop := Te E S i a b ∨ (a = go.a ∧ b = go.b)
/-- While another edge is looked for, at level i. -/
structure Rp (E : EM) (S : Int → Prop) (n : Int) (m : Nat) (go : Eg) (i : Int) : Prop where
  acy : Acy E S
  sz : Sz E S n m
  nj : ¬ Jn (Te E S 0) go.a go.b
  b : ∀ e x, ¬ S e → E e = some x → x.t = false → Jn (Te E S x.l) x.a x.b ∨ (x.l ≤ i ∧ Jn (Tg E S go x.l) x.a x.b)
  c : ∀ j : Nat, (j : Int) ≤ i → j < m → ∀ Ta Tb : List Int, Ta.Nodup → Tb.Nodup → (∀ u ∈ Ta, Jn (Te E S j) go.a u) → (∀ u ∈ Tb, Jn (Te E S j) go.b u) → ((Ta.length : Int) + Tb.length) * 2 ^ j ≤ n
  l0 : ∀ e x, E e = some x → 0 ≤ x.l
theorem two_pow_pos (i : Nat) : (0 : Int) < 2 ^ i := Int.pow_pos (by decide)
theorem two_pow_succ (i : Nat) : (2 : Int) ^ (i + 1) = 2 ^ i * 2 := Int.pow_succ 2 i
theorem Tg.jn {E : EM} {S : Int → Prop} {go : Eg} {i a b : Int} : Jn (Tg E S go i) a b ↔ Jn (Te E S i) a b ∨ (Jn (Te E S i) a go.a ∧ Jn (Te E S i) go.b b) ∨ (Jn (Te E S i) a go.b ∧ Jn (Te E S i) go.a b) := Jn.more
/-- A tree edge is cut. -/
theorem Rp.start {E : EM} {n : Int} {m : Nat} {x0 : Int} {go : Eg} (hx : E x0 = some go) (ht : go.t = true) (hl : 0 ≤ go.l) (h0 : ∀ e x, E e = some x → 0 ≤ x.l) (ha : Acy E (fun _ => False)) (hs : Sz E (fun _ => False) n m) (hb : Bb E (fun _ => False)) : Rp E (fun k => k = x0) n m go go.l := by
  have sub : ∀ i a b, Te E (fun k => k = x0) i a b → Te E (fun _ => False) i a b := fun i a b ⟨e, x, h1, h2⟩ => ⟨e, x, fun k => k, h2⟩
  have nj : ¬ Jn (Te E (fun k => k = x0) 0) go.a go.b := fun k => ha x0 go (fun k => k) hx ht (k.sub fun a b ⟨e, x, h1, h2⟩ => ⟨e, x, fun k => k.elim id h1, h2⟩)
  have add : ∀ i a b, Te E (fun _ => False) i a b → Tg E (fun k => k = x0) go i a b ∧ (go.l < i → Te E (fun k => k = x0) i a b) := fun i a b ⟨e, x, h1, h2, h3, h4, h5, h6⟩ => by
    by_cases e1 : e = x0
    · subst e1
      rw [hx] at h2; cases h2
      exact ⟨.inr ⟨h5.symm, h6.symm⟩, fun k => by omega⟩
    · exact ⟨.inl ⟨e, x, e1, h2, h3, h4, h5, h6⟩, fun _ => ⟨e, x, e1, h2, h3, h4, h5, h6⟩⟩
  refine ⟨fun e x h1 h2 h3 k => ha e x (fun k => k) h2 h3 (k.sub fun a b ⟨f, y, g1, g2⟩ => ⟨f, y, fun k => g1 (k.elim False.elim .inr), g2⟩), fun i hi v T h1 h2 => hs i hi v T h1 (fun u hu => (h2 u hu).sub (sub i)), nj, fun e x h1 h2 h3 => ?_, fun j hj hm Ta Tb d1 d2 k1 k2 => ?_, h0⟩
  · have k := hb e x (fun k => k) h2 h3
    by_cases hle : x.l ≤ go.l
    · exact .inr ⟨hle, k.sub fun a b r => (add _ a b r).1⟩
    · exact .inl (k.sub fun a b r => (add _ a b r).2 (by omega))
  · have hnd : (Ta ++ Tb).Nodup := by
      refine List.nodup_append.2 ⟨d1, d2, fun a ha b hb e => ?_⟩
      subst e
      exact nj (((k1 a ha).trans (k2 a hb).symm).low (by omega))
    have := hs j hm go.a (Ta ++ Tb) hnd (fun u hu => by
      rcases List.mem_append.1 hu with h | h
      · exact (k1 u h).sub (sub j)
      · have e1 : Jn (Te E (fun _ => False) j) go.a go.b := Jn.one ⟨x0, go, fun k => k, hx, ht, hj, rfl, rfl⟩
        exact e1.trans ((k2 u h).sub (sub j)))
    rw [List.length_append] at this
    simpa using this
section
variable {E : EM} {S : Int → Prop} {n : Int} {m : Nat} {go : Eg}
/-- The side v of an edge that is gone has at most half as many vertices. -/
def Half (E : EM) (S : Int → Prop) (n : Int) (i : Nat) (v : Int) : Prop := ∀ T : List Int, T.Nodup → (∀ u ∈ T, Jn (Te E S i) v u) → 2 * (T.length : Int) * 2 ^ i ≤ n
theorem Half.room {i : Nat} {v a b : Int} (h : Half E S n i v) (hm : n < 2 ^ m) (ha : Jn (Te E S i) v a) (hb : Jn (Te E S i) v b) (hab : a ≠ b) : i + 1 < m := by
  have := h [a, b] (by simp [hab]) (fun u hu => by simp at hu; rcases hu with rfl | rfl; exact ha; exact hb)
  simp at this
  rcases Nat.lt_or_ge (i + 1) m with h1 | h1
  · exact h1
  · have h2 : (2 : Int) ^ m ≤ 2 ^ (i + 1) := by
      have := Nat.pow_le_pow_right (show 0 < 2 by decide) h1
      exact_mod_cast this
    rw [two_pow_succ] at h2
    have := two_pow_pos i
    omega
def upE (E : EM) (e : Int) (x : Eg) : EM := updQ E e (some ⟨x.a, x.b, x.l + 1, x.t⟩)
/-- A tree edge rises. -/
theorem te_up {e : Int} {x : Eg} (hx : E e = some x) (ht : x.t = true) (hS : ¬ S e) (j : Int) (a b : Int) : Te (upE E e x) S j a b ↔ Te E S j a b ∨ (j = x.l + 1 ∧ a = x.a ∧ b = x.b) := by
  constructor
  · rintro ⟨f, y, h1, h2, h3, h4, h5, h6⟩
    unfold upE at h2
    by_cases ef : f = e
    · subst ef
      rw [updQ_at] at h2; cases h2
      by_cases hj : j = x.l + 1
      · exact .inr ⟨hj, h5.symm, h6.symm⟩
      · exact .inl ⟨f, x, h1, hx, ht, by simp at h4; omega, h5, h6⟩
    · rw [updQ_ne ef] at h2
      exact .inl ⟨f, y, h1, h2, h3, h4, h5, h6⟩
  · rintro (⟨f, y, h1, h2, h3, h4, h5, h6⟩ | ⟨rfl, rfl, rfl⟩)
    · by_cases ef : f = e
      · subst ef
        rw [hx] at h2; cases h2
        exact ⟨f, _, h1, updQ_at _ _ _, h3, by show j ≤ x.l + 1; omega, h5, h6⟩
      · exact ⟨f, y, h1, by unfold upE; rw [updQ_ne ef]; exact h2, h3, h4, h5, h6⟩
    · exact ⟨e, _, hS, updQ_at _ _ _, ht, Int.le_refl _, rfl, rfl⟩
theorem te_up_ne {e : Int} {x : Eg} (hx : E e = some x) (S' : Int → Prop) {j : Int} (hj : j ≠ x.l + 1) (a b : Int) : Te (upE E e x) S' j a b ↔ Te E S' j a b := by
  constructor
  · rintro ⟨f, y, h1, h2, h3, h4, h5, h6⟩
    unfold upE at h2
    by_cases ef : f = e
    · subst ef
      rw [updQ_at] at h2; cases h2
      exact ⟨f, x, h1, hx, h3, by simp at h4; omega, h5, h6⟩
    · rw [updQ_ne ef] at h2
      exact ⟨f, y, h1, h2, h3, h4, h5, h6⟩
  · rintro ⟨f, y, h1, h2, h3, h4, h5, h6⟩
    by_cases ef : f = e
    · subst ef
      rw [hx] at h2; cases h2
      exact ⟨f, _, h1, updQ_at _ _ _, h3, by show j ≤ x.l + 1; omega, h5, h6⟩
    · exact ⟨f, y, h1, by unfold upE; rw [updQ_ne ef]; exact h2, h3, h4, h5, h6⟩
theorem upE_l0 {e : Int} {x : Eg} (hx : E e = some x) (h : ∀ e x, E e = some x → 0 ≤ x.l) : ∀ f y, upE E e x f = some y → 0 ≤ y.l := fun f y hy => by
  unfold upE at hy
  by_cases ef : f = e
  · subst ef; rw [updQ_at] at hy; cases hy; have := h f x hx; show 0 ≤ x.l + 1; omega
  · rw [updQ_ne ef] at hy; exact h f y hy
theorem Rp.upTree {i : Nat} (h : Rp E S n m go i) {v : Int} (hv : Half E S n i v) {e : Int} {x : Eg} (hx : E e = some x) (ht : x.t = true) (hS : ¬ S e) (hl : x.l = i) (hj : Jn (Te E S i) v x.a) : Rp (upE E e x) S n m go i ∧ Half (upE E e x) S n i v := by
  have same : ∀ (S' : Int → Prop) (j : Int), j ≤ i → ∀ a b, Te (upE E e x) S' j a b ↔ Te E S' j a b := fun S' j hj a b => te_up_ne hx S' (by omega) a b
  have jsame : ∀ (S' : Int → Prop) (j : Int), j ≤ i → ∀ a b, Jn (Te (upE E e x) S' j) a b ↔ Jn (Te E S' j) a b := fun S' j hj a b => jn_iff (same S' j hj)
  have mono : ∀ j a b, Te E S j a b → Te (upE E e x) S j a b := fun j a b k => (te_up hx ht hS j a b).2 (.inl k)
  have old : ∀ f y, upE E e x f = some y → ∃ y', E f = some y' ∧ y'.a = y.a ∧ y'.b = y.b ∧ y'.t = y.t ∧ (f ≠ e → y' = y) := fun f y hy => by
    unfold upE at hy
    by_cases ef : f = e
    · subst ef; rw [updQ_at] at hy; cases hy; exact ⟨x, hx, rfl, rfl, rfl, fun k => absurd rfl k⟩
    · rw [updQ_ne ef] at hy; exact ⟨y, hy, rfl, rfl, rfl, fun _ => rfl⟩
  refine ⟨⟨fun f y h1 h2 h3 => ?_, fun j hjm u T d1 d2 => ?_, fun k => h.nj ((jsame S 0 (by omega) _ _).1 k), fun f y h1 h2 h3 => ?_, fun j hji hjm Ta Tb d1 d2 k1 k2 => h.c j hji hjm Ta Tb d1 d2 (fun u hu => (jsame S j hji _ _).1 (k1 u hu)) (fun u hu => (jsame S j hji _ _).1 (k2 u hu)), upE_l0 hx h.l0⟩, fun T d1 d2 => hv T d1 (fun u hu => (jsame S i (by omega) _ _).1 (d2 u hu))⟩
  · obtain ⟨y', e1, e2, e3, e4, _⟩ := old f y h2
    rw [← e2, ← e3, jsame _ 0 (by omega)]
    exact h.acy f y' h1 e1 (e4.trans h3)
  · by_cases hji : (j : Int) = i + 1
    · have hj1 : j = i + 1 := by omega
      subst hj1
      by_cases hvu : Jn (Te E S i) v u
      · have := hv T d1 (fun z hz => by
          have k := d2 z hz
          have k2 : Jn (Te (upE E e x) S i) u z := k.low (by omega)
          exact hvu.trans ((jsame S i (by omega) _ _).1 k2))
        rw [two_pow_succ]
        rw [show (2 : Int) * T.length * 2 ^ i = T.length * (2 ^ i * 2) by rw [Int.mul_comm (2 : Int), Int.mul_assoc, Int.mul_comm (2 : Int)]] at this
        exact this
      · refine h.sz (i + 1) hjm u T d1 (fun z hz => ?_)
        have k := d2 z hz
        have k' : Jn (fun a b => Te E S ((i + 1 : Nat) : Int) a b ∨ (a = x.a ∧ b = x.b)) u z := k.sub fun a b r => by
          rcases (te_up hx ht hS _ a b).1 r with r | ⟨_, r1, r2⟩
          · exact .inl r
          · exact .inr ⟨r1, r2⟩
        have edge : Jn (Te E S i) x.a x.b := Jn.one ⟨e, x, hS, hx, ht, by omega, rfl, rfl⟩
        rcases Jn.more.1 k' with k1 | ⟨k1, _⟩ | ⟨k1, _⟩
        · exact k1
        · exact absurd (hj.trans (k1.low (by omega)).symm) hvu
        · exact absurd ((hj.trans edge).trans (k1.low (by omega)).symm) hvu
    · refine h.sz j hjm u T d1 (fun z hz => ?_)
      have k := d2 z hz
      exact k.sub fun a b r => (te_up_ne hx S (by omega) a b).1 r
  · obtain ⟨y', e1, e2, e3, e4, e5⟩ := old f y h2
    have hfe : f ≠ e := fun k => by
      subst k
      rw [hx] at e1; cases e1
      rw [ht, h3] at e4; cases e4
    obtain rfl := e5 hfe
    rcases h.b f y' h1 e1 h3 with k | ⟨k1, k2⟩
    · exact .inl (k.sub (mono _))
    · exact .inr ⟨k1, k2.sub fun a b r => r.imp (mono _ a b) id⟩
end
end Go.Proofs.YtcbgeahcnjamdabGreat
