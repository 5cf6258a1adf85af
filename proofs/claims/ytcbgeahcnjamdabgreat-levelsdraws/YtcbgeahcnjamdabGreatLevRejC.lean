/- Layer 10: rejoin's states, plain: at a level's start; none found; another one found. -/
import Derived.Test.YtcbgeahcnjamdabGreatLevRejA
namespace Go.Proofs.YtcbgeahcnjamdabGreat
open Go.RowKit
set_option linter.unusedVariables false
section
variable {g : Gs} {K : Nat} {on : Int → Prop} {sv lv : Int → Int} {S : Int → Prop} {go : Eg} {gl : Int} {n : Int} {D : List Int} {C : Nat} {g0 : Gs}
/-- While another edge is looked for, ahead of level i. -/
structure So (on : Int → Prop) (sv lv : Int → Int) (S : Int → Prop) (go : Eg) (gl n : Int) (D : List Int) (C : Nat) (i : Int) (g0 g : Gs) (K : Nat) : Prop where
  gi : Gi g on sv lv S go gl
  rp : Rp g.E S n g.m go i
  ck : Ck g0 g
  ev : Ev g0.E g.E
  pk : K + 3 * potL g.E g.m D ≤ C
  dd : ∀ e x, g.E e = some x → e ∈ D
/-- What rejoin leaves. -/
structure Sf (on : Int → Prop) (sv lv : Int → Int) (S : Int → Prop) (go : Eg) (gl n : Int) (D : List Int) (C : Nat) (g0 g : Gs) (K : Nat) : Prop where
  gi : Gi g on sv lv S go gl
  acy : Acy g.E S
  sz : Sz g.E S n g.m
  b : Bb g.E S
  ck : Ck g0 g
  ev : Ev g0.E g.E
  pk : K + 3 * potL g.E g.m D ≤ C + 69
theorem vs_go {E : EM} {i : Nat} (hgl : (i : Int) ≤ gl) (hon : on go.a ∧ on go.b) {u : Int} (hu : u = go.a ∨ u = go.b) : VS on E S go gl i u := by
  unfold VS
  split
  · rcases hu with rfl | rfl
    · exact hon.1
    · exact hon.2
  · exact .inr ⟨hgl, hu⟩
theorem So.done (h : So on sv lv S go gl n D C (-1) g0 g K) : Sf on sv lv S go gl n D C g0 g K := ⟨h.gi, h.rp.acy, h.rp.sz, h.rp.done, h.ck, h.ev, by have := h.pk; omega⟩
/-- The lesser side has at most half. -/
theorem So.half {i : Nat} (h : So on sv lv S go gl n D C i g0 g K) (hi : i < g.m) (hgl : (i : Int) ≤ gl) (hon : on go.a ∧ on go.b) {v : Int} (hv : LesserV (g.P i) (g.Q i) go v) :
    Sg on sv lv S go gl n D C i v g0 g K ∧ VS on g.E S go gl i v ∧ (v = go.a ∨ v = go.b) := by
  have vs : ∀ u, u = go.a ∨ u = go.b → VS on g.E S go gl i u := fun u hu => vs_go hgl hon hu
  obtain ⟨na, nb, s1, s2, hv⟩ := hv
  obtain ⟨Ta, ta, ea⟩ := s1.2 ((h.gi.vs hi).2 (vs _ (.inl rfl)))
  obtain ⟨Tb, tb, eb⟩ := s2.2 ((h.gi.vs hi).2 (vs _ (.inr rfl)))
  have jq : ∀ a b, Jq (g.Q i) a b ↔ Jn (Te g.E S i) a b := fun a b => by rw [h.gi.q i hi, qd_jq]
  have max : ∀ u T, (u = go.a ∨ u = go.b) → Tree (g.P i) (g.Q i) u T → ∀ T' : List Int, T'.Nodup → (∀ z ∈ T', Jn (Te g.E S i) u z) → T'.length ≤ T.length := fun u T hu ht T' d1 d2 => by
    refine d1.length_le_of_subset fun z hz => ?_
    refine (ht.mem z).2 ⟨?_, (jq _ _).2 (d2 z hz)⟩
    by_cases e : z = u
    · rw [e]; exact (h.gi.vs hi).2 (vs u hu)
    · exact (h.gi.vp_of_jn hi (d2 z hz) (Ne.symm e)).2
  have hv' : v = if Tb.length < Ta.length then go.b else go.a := by
    rw [hv, ea, eb]
    by_cases q : (Tb.length : Int) < Ta.length
    · rw [if_pos q, if_pos (by omega)]
    · rw [if_neg q, if_neg (by omega)]
  have hvv : v = go.a ∨ v = go.b := by
    rw [hv]
    split
    · exact .inr rfl
    · exact .inl rfl
  refine ⟨⟨h.gi, h.rp, h.rp.half hi ⟨Ta, ta.nd, fun u hu => (jq _ _).1 ((ta.mem u).1 hu).2, rfl⟩ ⟨Tb, tb.nd, fun u hu => (jq _ _).1 ((tb.mem u).1 hu).2, rfl⟩ (max _ _ (.inl rfl) ta) (max _ _ (.inr rfl) tb) hv', h.ck, h.ev, h.pk, h.dd⟩, vs v hvv, hvv⟩
/-- No vertex of v's tree has a loose edge of the level: on to the next one. -/
theorem Sg.fail {i : Nat} {v u : Int} (h : Sg on sv lv S go gl n D C i v g0 g K) (hi : i < g.m) (hgl : (i : Int) ≤ gl) (hon : on go.a ∧ on go.b) (hv : v = go.a ∨ v = go.b) (hf : FoundV (g.P i) (g.Q i) v u false) : So on sv lv S go gl n D C ((i : Int) - 1) g0 g K := by
  have key : ∀ e x z, ¬ S e → g.E e = some x → x.t = false → x.l = i → (x.a = z ∨ x.b = z) → VS on g.E S go gl i z → ¬ Jn (Te g.E S i) v z := fun e x z h1 h2 h3 h4 h5 h6 k => by
    have hm : e ∈ g.s.L (z, (i : Int)) := (h.gi.lo _ _ _).2 ⟨x, h1, h2, h3, h4, h5⟩
    have := hf.2 rfl ⟨z, sv0 sv i z, sv0 lv i z, mkS g.s i z⟩ (by rw [h.gi.p i hi]; exact ⟨h6, rfl, rfl, rfl⟩) (by rw [h.gi.q i hi, qd_jq]; exact k)
    have e1 : mkS g.s i z = 1 := by unfold mkS; rw [if_neg (fun q => by rw [q] at hm; cases hm)]
    rw [show mkS g.s i z = 0 from this] at e1
    cases e1
  have vs : ∀ z, Jn (Te g.E S i) v z → VS on g.E S go gl i v → VS on g.E S go gl i z := fun z k hvs => by
    by_cases e : v = z
    · rw [← e]; exact hvs
    · exact (h.gi.vs hi).1 (h.gi.vp_of_jn hi k e).2
  refine ⟨h.gi, h.rp.fail hv fun e x h1 h2 h3 h4 => ?_, h.ck, h.ev, h.pk, h.dd⟩
  have hvs : VS on g.E S go gl i v := vs_go hgl hon hv
  exact ⟨fun k => key e x x.a h1 h2 h3 h4 (.inl rfl) (vs _ k hvs) k, fun k => key e x x.b h1 h2 h3 h4 (.inr rfl) (vs _ k hvs) k⟩
/-- The ends of an edge that leads to the other side stand in the forests. -/
theorem Sg.vs_bind {i : Nat} {v : Int} (h : Sg on sv lv S go gl n D C i v g0 g K) (hi : i < g.m) (hgl : (i : Int) ≤ gl) {e : Int} {x : Eg} (h1 : ¬ S e) (h2 : g.E e = some x) (h3 : x.t = false) (h4 : x.l = i) (hj : ¬ Jn (Te g.E S i) x.a x.b) : ∀ j : Nat, j ≤ i → VS on g.E S go gl j x.a ∧ VS on g.E S go gl j x.b := by
  obtain ⟨a1, a2, a3, a4, a5, a6⟩ := h.gi.eb e x h2
  have one : ∀ (j : Nat) u z, j ≤ i → (z = go.a ∨ z = go.b) → on u → Jn (Te g.E S i) u z → VS on g.E S go gl j u := fun j u z hji hz hu k => by
    by_cases e : u = z
    · unfold VS
      split
      · exact hu
      · exact .inr ⟨by omega, by rw [e]; exact hz⟩
    · exact (h.gi.vs (by omega)).1 (h.gi.vp_of_jn (i := j) (by omega) (k.low (by omega)) e).1
  intro j hji
  rcases h.rp.b e x h1 h2 h3 with k | ⟨_, k⟩
  · rw [h4] at k; exact absurd k hj
  · rw [h4] at k
    rcases Tg.jn.1 k with k | ⟨c1, c2⟩ | ⟨c1, c2⟩
    · exact absurd k hj
    · exact ⟨one j _ _ hji (.inl rfl) a3 c1, one j _ _ hji (.inr rfl) a4 c2.symm⟩
    · exact ⟨one j _ _ hji (.inr rfl) a3 c1, one j _ _ hji (.inl rfl) a4 c2.symm⟩
theorem bindGk_ck (g : Gs) (e : Int) (x : Eg) (k : Nat) : Ck g (bindGk g e x k) ∧ (bindGk g e x k).E = g.E := ⟨⟨rfl, rfl, rfl, rfl, rfl, rfl, rfl⟩, rfl⟩
theorem setE_ck (g : Gs) (E : EM) : Ck g (g.setE E g.ne) ∧ (g.setE E g.ne).E = E := ⟨⟨rfl, rfl, rfl, rfl, rfl, rfl, rfl⟩, rfl⟩
/-- Another one was found. -/
theorem Sg.found {i : Nat} {v : Int} (h : Sg on sv lv S go gl n D C i v g0 g K) (hi : i < g.m) {e : Int} {x : Eg} (h1 : ¬ S e) (h2 : g.E e = some x) (h3 : x.t = false) (h4 : x.l = i) (hj : ¬ Jn (Te g.E S i) x.a x.b) {g' : Gs} (hg : Gi g' on sv lv S go gl) (he : g' = bindGk ((takeG g e x i).setE (updQ g.E e (some ⟨x.a, x.b, x.l, true⟩)) g.ne) e ⟨x.a, x.b, x.l, true⟩ (i + 1)) : Sf on sv lv S go gl n D C g0 g' (K + 3 * (i + 1)) := by
  obtain ⟨_, r1, r2, r3⟩ := h.rp.bind h2 h3 h1 h4 hj
  have hck : Ck g g' := by
    rw [he]
    refine ((takeG_ck g e x i).1.trans ?_).trans (bindGk_ck _ _ _ _).1
    exact (setE_ck (takeG g e x i) _).1
  have hE : g'.E = updQ g.E e (some ⟨x.a, x.b, x.l, true⟩) := by rw [he, (bindGk_ck _ _ _ _).2]; rfl
  have hm := h.gi.m
  refine ⟨hg, by rw [hE]; exact r1, by rw [hE, hck.m]; exact r2, by rw [hE]; exact r3, h.ck.trans hck, by rw [hE]; exact h.ev.trans (Ev.set g.E h2 rfl rfl (Int.le_refl _) (fun _ => rfl)), ?_⟩
  have := h.pk
  have hp : potL g'.E g'.m D = potL g.E g.m D := by
    rw [hck.m, hE]
    refine potL_congr fun f _ => ?_
    by_cases ef : f = e
    · subst ef; rw [updQ_at, h2]
    · rw [updQ_ne ef]
  rw [hp]
  omega
end
end Go.Proofs.YtcbgeahcnjamdabGreat
