/- Layer 10, plain: what a graph's forests and bag hold, by its vertices and edges. -/
import Derived.Test.YtcbgeahcnjamdabGreatLevSemB
import Derived.Test.YtcbgeahcnjamdabGreatLevCut
namespace Go.Proofs.YtcbgeahcnjamdabGreat
open Go.RowKit
set_option linter.unusedVariables false
/-- Vertices of A, their sums, ranks and marks by functions. -/
def Pf (A : Int → Prop) (sv lv mk : Int → Int) : Vx → Prop := fun x => A x.v ∧ x.s = sv x.v ∧ x.l = lv x.v ∧ x.m = mk x.v
theorem pf_vp {A : Int → Prop} {sv lv mk : Int → Int} {v : Int} : Vp (Pf A sv lv mk) v ↔ A v := ⟨fun ⟨x, h1, h2⟩ => h2 ▸ h1.1, fun h => ⟨⟨v, sv v, lv v, mk v⟩, ⟨h, rfl, rfl, rfl⟩, rfl⟩⟩
theorem pf_ext {A A' : Int → Prop} {sv lv sv' lv' mk mk' : Int → Int} (hA : ∀ v, A v ↔ A' v) (hs : ∀ v, A v → sv v = sv' v ∧ lv v = lv' v) (hm : ∀ v, A v → mk v = mk' v) : Pf A sv lv mk = Pf A' sv' lv' mk' := by
  funext x
  apply propext
  constructor
  · rintro ⟨h1, h2, h3, h4⟩
    exact ⟨(hA _).1 h1, by rw [h2, (hs _ h1).1], by rw [h3, (hs _ h1).2], by rw [h4, hm _ h1]⟩
  · rintro ⟨h1, h2, h3, h4⟩
    have h0 := (hA _).2 h1
    exact ⟨h0, by rw [h2, (hs _ h0).1], by rw [h3, (hs _ h0).2], by rw [h4, hm _ h0]⟩
theorem markP_pf {A : Int → Prop} {sv lv mk : Int → Int} {v : Int} (hv : A v) (b : Int) : markP (Pf A sv lv mk) v b = Pf A sv lv (updI mk v b) := by
  funext x
  apply propext
  constructor
  · rintro (⟨⟨h1, h2, h3, h4⟩, hne⟩ | ⟨x0, ⟨h1, h2, h3, h4⟩, e, rfl⟩)
    · exact ⟨h1, h2, h3, by rw [updI_ne hne]; exact h4⟩
    · subst e; exact ⟨h1, h2, h3, (updI_at _ _ _).symm⟩
  · rintro ⟨h1, h2, h3, h4⟩
    by_cases e : x.v = v
    · refine .inr ⟨⟨v, sv v, lv v, mk v⟩, ⟨hv, rfl, rfl, rfl⟩, rfl, ?_⟩
      obtain ⟨a, b', c, d⟩ := x
      simp only at e h2 h3 h4
      subst e
      rw [updI_at] at h4
      rw [h2, h3, h4]
    · rw [updI_ne e] at h4; exact .inl ⟨⟨h1, h2, h3, h4⟩, e⟩
theorem addP_pf_in {A : Int → Prop} {sv lv mk : Int → Int} {v : Int} (hv : A v) (s l : Int) : addP (Pf A sv lv mk) v s l = Pf A sv lv mk := by
  funext x
  apply propext
  exact ⟨fun h => h.elim id fun k => absurd (pf_vp.2 hv) k.1, .inl⟩
theorem addP_pf_new {A : Int → Prop} {sv lv mk : Int → Int} {v : Int} (hv : ¬ A v) (hm : mk v = 0) (s l : Int) : addP (Pf A sv lv mk) v s l = Pf (fun u => A u ∨ u = v) (updI sv v s) (updI lv v l) mk := by
  funext x
  apply propext
  constructor
  · rintro (⟨h1, h2, h3, h4⟩ | ⟨_, rfl⟩)
    · have hne : x.v ≠ v := fun e => hv (e ▸ h1)
      exact ⟨.inl h1, by rw [updI_ne hne]; exact h2, by rw [updI_ne hne]; exact h3, h4⟩
    · exact ⟨.inr rfl, (updI_at _ _ _).symm, (updI_at _ _ _).symm, hm.symm⟩
  · rintro ⟨h1, h2, h3, h4⟩
    by_cases e : x.v = v
    · refine .inr ⟨fun k => hv (pf_vp.1 k), ?_⟩
      obtain ⟨a, b', c, d⟩ := x
      simp only at e h2 h3 h4
      subst e
      rw [updI_at] at h2 h3
      rw [h2, h3, h4, hm]
    · rw [updI_ne e] at h2 h3
      exact .inl ⟨h1.resolve_right e, h2, h3, h4⟩
/-- Vertices of a level above the lowest: all noughts. -/
theorem addP_pf {A : Int → Prop} {mk : Int → Int} {v : Int} (hm : ¬ A v → mk v = 0) : addP (Pf A n0 n0 mk) v 0 0 = Pf (fun u => A u ∨ u = v) n0 n0 mk := by
  by_cases hv : A v
  · rw [addP_pf_in hv]
    exact pf_ext (fun u => ⟨.inl, fun k => k.elim id fun e => e ▸ hv⟩) (fun _ _ => ⟨rfl, rfl⟩) (fun _ _ => rfl)
  · rw [addP_pf_new hv (hm hv)]
    have e : updI n0 v 0 = n0 := by funext u; unfold updI n0; split <;> rfl
    rw [e]
theorem dropP_pf {A : Int → Prop} {sv lv mk : Int → Int} (Q : Ex → Prop) (v : Int) : dropP (Pf A sv lv mk) Q v = Pf (fun u => A u ∧ (u ≠ v ∨ Hase Q v)) sv lv mk := by
  funext x
  apply propext
  exact ⟨fun ⟨⟨h1, h2⟩, h3⟩ => ⟨⟨h1, h3⟩, h2⟩, fun ⟨⟨h1, h3⟩, h2⟩ => ⟨⟨h1, h2⟩, h3⟩⟩
/-- The edges of the forest of level i. -/
def Qd (E : EM) (S : Int → Prop) (i : Int) : Ex → Prop := fun y => ∃ x, ¬ S y.e ∧ E y.e = some x ∧ x.t = true ∧ i ≤ x.l ∧ y = ⟨y.e, x.a, x.b, if x.l = i then 1 else 0⟩
theorem qd_jq {E : EM} {S : Int → Prop} {i a b : Int} : Jq (Qd E S i) a b ↔ Jn (Te E S i) a b := by
  refine jn_iff fun a b => ⟨?_, ?_⟩
  · rintro ⟨z, ⟨x, h1, h2, h3, h4, h5⟩, h6, h7⟩
    have e1 : z.a = x.a := by rw [h5]
    have e2 : z.b = x.b := by rw [h5]
    exact ⟨z.e, x, h1, h2, h3, h4, by rw [← e1, h6], by rw [← e2, h7]⟩
  · rintro ⟨e, x, h1, h2, h3, h4, h5, h6⟩
    exact ⟨⟨e, x.a, x.b, if x.l = i then 1 else 0⟩, ⟨x, h1, h2, h3, h4, rfl⟩, h5, h6⟩
theorem qd_ep {E : EM} {S : Int → Prop} {i e : Int} : Ep (Qd E S i) e ↔ ∃ x, ¬ S e ∧ E e = some x ∧ x.t = true ∧ i ≤ x.l := by
  constructor
  · rintro ⟨y, ⟨x, h1, h2, h3, h4, h5⟩, rfl⟩; exact ⟨x, h1, h2, h3, h4⟩
  · rintro ⟨x, h1, h2, h3, h4⟩; exact ⟨⟨e, x.a, x.b, if x.l = i then 1 else 0⟩, ⟨x, h1, h2, h3, h4, rfl⟩, rfl⟩
theorem qd_hase {E : EM} {S : Int → Prop} {i v : Int} : Hase (Qd E S i) v ↔ ∃ e x, ¬ S e ∧ E e = some x ∧ x.t = true ∧ i ≤ x.l ∧ (x.a = v ∨ x.b = v) := by
  constructor
  · rintro ⟨y, ⟨x, h1, h2, h3, h4, h5⟩, h6⟩
    have e1 : y.a = x.a := by rw [h5]
    have e2 : y.b = x.b := by rw [h5]
    exact ⟨y.e, x, h1, h2, h3, h4, by rw [← e1, ← e2]; exact h6⟩
  · rintro ⟨e, x, h1, h2, h3, h4, h5⟩
    exact ⟨⟨e, x.a, x.b, if x.l = i then 1 else 0⟩, ⟨x, h1, h2, h3, h4, rfl⟩, h5⟩
theorem qd_ext {E E' : EM} {S S' : Int → Prop} {i : Int} (h : ∀ e x, x.t = true → i ≤ x.l → ((¬ S e ∧ E e = some x) ↔ (¬ S' e ∧ E' e = some x))) : Qd E S i = Qd E' S' i := by
  funext y
  apply propext
  constructor
  · rintro ⟨x, h1, h2, h3, h4, h5⟩
    obtain ⟨k1, k2⟩ := (h y.e x h3 h4).1 ⟨h1, h2⟩
    exact ⟨x, k1, k2, h3, h4, h5⟩
  · rintro ⟨x, h1, h2, h3, h4, h5⟩
    obtain ⟨k1, k2⟩ := (h y.e x h3 h4).2 ⟨h1, h2⟩
    exact ⟨x, k1, k2, h3, h4, h5⟩
/-- The mark of a vertex: does a loose edge of that level stand there? -/
def mkS (s : Bg) (i : Int) (v : Int) : Int := if s.L (v, i) = [] then 0 else 1
/-- Who is in the forest of a level: all in that of level 0, else who has an edge there, and who had (go's ends, up to level gl). -/
def VS (on : Int → Prop) (E : EM) (S : Int → Prop) (go : Eg) (gl : Int) (i : Nat) (v : Int) : Prop := if i = 0 then on v else Hase (Qd E S i) v ∨ ((i : Int) ≤ gl ∧ (v = go.a ∨ v = go.b))
def sv0 (sv : Int → Int) (i : Nat) : Int → Int := if i = 0 then sv else n0
/-- What a graph holds: on its vertices, sv and lv their sums and ranks; S passes edges over; go's ends are in the forests up to level gl. -/
structure Gi (g : Gs) (on : Int → Prop) (sv lv : Int → Int) (S : Int → Prop) (go : Eg) (gl : Int) : Prop where
  q : ∀ i, i < g.m → g.Q i = Qd g.E S i
  p : ∀ i, i < g.m → g.P i = Pf (VS on g.E S go gl i) (sv0 sv i) (sv0 lv i) (mkS g.s i)
  lo : ∀ v i e, e ∈ g.s.L (v, i) ↔ ∃ x, ¬ S e ∧ g.E e = some x ∧ x.t = false ∧ x.l = i ∧ (x.a = v ∨ x.b = v)
  eb : ∀ e x, g.E e = some x → (1 ≤ e ∧ e ≤ 1000000) ∧ x.a ≠ x.b ∧ on x.a ∧ on x.b ∧ 0 ≤ x.l ∧ x.l < g.m
  ob : ∀ v, on v → 1 ≤ v ∧ v ≤ 1000000
  nd : ∀ a, (g.s.L a).Nodup
  m : 1 ≤ g.m ∧ g.m ≤ 23
section
variable {g : Gs} {on : Int → Prop} {sv lv : Int → Int} {S : Int → Prop} {go : Eg} {gl : Int}
theorem Gi.b64 (h : Gi g on sv lv S go gl) {v : Int} (hv : on v) : B64 v := by have := h.ob v hv; unfold B64; omega
theorem Gi.e64 (h : Gi g on sv lv S go gl) {e : Int} {x : Eg} (he : g.E e = some x) : B64 e := by have := (h.eb e x he).1; unfold B64; omega
theorem Gi.mk01 (h : Gi g on sv lv S go gl) {i : Nat} (hi : i < g.m) : ∀ x, g.P i x → x.m = 0 ∨ x.m = 1 := fun x hx => by
  rw [h.p i hi] at hx
  rw [hx.2.2.2]
  unfold mkS
  split
  · exact .inl rfl
  · exact .inr rfl
theorem Gi.em01 (h : Gi g on sv lv S go gl) {i : Nat} (hi : i < g.m) : ∀ y, g.Q i y → y.m = 0 ∨ y.m = 1 := fun y hy => by
  rw [h.q i hi] at hy
  obtain ⟨x, _, _, _, _, e⟩ := hy
  rw [e]
  simp only
  split
  · exact .inr rfl
  · exact .inl rfl
/-- An edge's ends are in the forests up to its level. -/
theorem Gi.ends (h : Gi g on sv lv S go gl) {e : Int} {x : Eg} (hS : ¬ S e) (he : g.E e = some x) (ht : x.t = true) {i : Nat} (hi : i < g.m) (hl : (i : Int) ≤ x.l) : Vp (g.P i) x.a ∧ Vp (g.P i) x.b := by
  rw [h.p i hi, pf_vp, pf_vp]
  unfold VS
  by_cases h0 : i = 0
  · rw [if_pos h0, if_pos h0]; exact ⟨(h.eb e x he).2.2.1, (h.eb e x he).2.2.2.1⟩
  · rw [if_neg h0, if_neg h0]
    exact ⟨.inl (qd_hase.2 ⟨e, x, hS, he, ht, hl, .inl rfl⟩), .inl (qd_hase.2 ⟨e, x, hS, he, ht, hl, .inr rfl⟩)⟩
/-- Who is joined to another one is in the forest. -/
theorem Gi.vp_of_jn (h : Gi g on sv lv S go gl) {i : Nat} (hi : i < g.m) {a b : Int} (hj : Jn (Te g.E S i) a b) (hne : a ≠ b) : Vp (g.P i) a ∧ Vp (g.P i) b := by
  have key : ∀ a b, Jn (Te g.E S i) a b → a ≠ b → Vp (g.P i) b := fun a b hj => by
    induction hj with
    | refl => exact fun k => absurd rfl k
    | step _ r _ =>
      intro _
      rcases r with ⟨e, x, h1, h2, h3, h4, h5, h6⟩ | ⟨e, x, h1, h2, h3, h4, h5, h6⟩
      · rw [← h6]; exact (h.ends h1 h2 h3 hi h4).2
      · rw [← h5]; exact (h.ends h1 h2 h3 hi h4).1
  exact ⟨key b a hj.symm (Ne.symm hne), key a b hj hne⟩
end
end Go.Proofs.YtcbgeahcnjamdabGreat
