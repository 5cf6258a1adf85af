/- Lemmas. -/
import Derived.Test.YtlmdjghcmofdlaaGreatS22
import Derived.Deep.LoopGhost
import Derived.Test.YtlmdjghcmofdlaaGreatS01
import Derived.Test.YtlmdjghcmofdlaaGreatS17
set_option maxRecDepth 100000
set_option maxHeartbeats 64000000
namespace Go.Proofs.YtlmdjghcmofdlaaGreat
open Go.RowKit
set_option linter.unusedVariables false
def Pf (A : Int → Prop) (sv lv mk : Int → Int) : Vx → Prop := fun x => A x.v ∧ x.s = sv x.v ∧ x.l = lv x.v ∧ x.m = mk x.v
theorem pf_vp {A : Int → Prop} {sv lv mk : Int → Int} {v : Int} : Vp (Pf A sv lv mk) v ↔ A v := ⟨fun ⟨x, h1, h2⟩ => h2 ▸ h1.1, fun h => ⟨⟨v, sv v, lv v, mk v⟩, ⟨h, rfl, rfl, rfl⟩, rfl⟩⟩
theorem pf_ext {A A' : Int → Prop} {sv lv sv' lv' mk mk' : Int → Int} (hA : ∀ v, A v ↔ A' v) (hs : ∀ v, A v → sv v = sv' v ∧ lv v = lv' v) (hm : ∀ v, A v → mk v = mk' v) : Pf A sv lv mk = Pf A' sv' lv' mk' := by
  funext x
  apply propext
  constructor
  · rintro ⟨h1, h2, h3, h4⟩
    exact ⟨(hA _).1 h1, by rw [h2, (hs _ h1).1], by rw [h3, (hs _ h1).2], by rw [h4, hm _ h1]⟩
  · rintro ⟨h1, h2, h3, h4⟩
    have h0 := (hA _).2 h1
    exact ⟨h0, by rw [h2, (hs _ h0).1], by rw [h3, (hs _ h0).2], by rw [h4, hm _ h0]⟩
theorem markP_pf {A : Int → Prop} {sv lv mk : Int → Int} {v : Int} (hv : A v) (b : Int) : markP (Pf A sv lv mk) v b = Pf A sv lv (updI mk v b) := by
  funext x
  apply propext
  constructor
  · rintro (⟨⟨h1, h2, h3, h4⟩, hne⟩ | ⟨x0, ⟨h1, h2, h3, h4⟩, e, rfl⟩)
    · exact ⟨h1, h2, h3, by rw [updI_ne hne]; exact h4⟩
    · subst e; exact ⟨h1, h2, h3, (updI_at _ _ _).symm⟩
  · rintro ⟨h1, h2, h3, h4⟩
    by_cases e : x.v = v
    · refine .inr ⟨⟨v, sv v, lv v, mk v⟩, ⟨hv, rfl, rfl, rfl⟩, rfl, ?_⟩
      obtain ⟨a, b', c, d⟩ := x
      simp only at e h2 h3 h4
      subst e
      rw [updI_at] at h4
      rw [h2, h3, h4]
    · rw [updI_ne e] at h4; exact .inl ⟨⟨h1, h2, h3, h4⟩, e⟩
theorem addP_pf_in {A : Int → Prop} {sv lv mk : Int → Int} {v : Int} (hv : A v) (s l : Int) : addP (Pf A sv lv mk) v s l = Pf A sv lv mk := by
  funext x
  apply propext
  exact ⟨fun h => h.elim id fun k => absurd (pf_vp.2 hv) k.1, .inl⟩
theorem addP_pf_new {A : Int → Prop} {sv lv mk : Int → Int} {v : Int} (hv : ¬ A v) (hm : mk v = 0) (s l : Int) : addP (Pf A sv lv mk) v s l = Pf (fun u => A u ∨ u = v) (updI sv v s) (updI lv v l) mk := by
  funext x
  apply propext
  constructor
  · rintro (⟨h1, h2, h3, h4⟩ | ⟨_, rfl⟩)
    · have hne : x.v ≠ v := fun e => hv (e ▸ h1)
      exact ⟨.inl h1, by rw [updI_ne hne]; exact h2, by rw [updI_ne hne]; exact h3, h4⟩
    · exact ⟨.inr rfl, (updI_at _ _ _).symm, (updI_at _ _ _).symm, hm.symm⟩
  · rintro ⟨h1, h2, h3, h4⟩
    by_cases e : x.v = v
    · refine .inr ⟨fun k => hv (pf_vp.1 k), ?_⟩
      obtain ⟨a, b', c, d⟩ := x
      simp only at e h2 h3 h4
      subst e
      rw [updI_at] at h2 h3
      rw [h2, h3, h4, hm]
    · rw [updI_ne e] at h2 h3
      exact .inl ⟨h1.resolve_right e, h2, h3, h4⟩
theorem addP_pf {A : Int → Prop} {mk : Int → Int} {v : Int} (hm : ¬ A v → mk v = 0) : addP (Pf A n0 n0 mk) v 0 0 = Pf (fun u => A u ∨ u = v) n0 n0 mk := by
  by_cases hv : A v
  · rw [addP_pf_in hv]
    exact pf_ext (fun u => ⟨.inl, fun k => k.elim id fun e => e ▸ hv⟩) (fun _ _ => ⟨rfl, rfl⟩) (fun _ _ => rfl)
  · rw [addP_pf_new hv (hm hv)]
    have e : updI n0 v 0 = n0 := by funext u; unfold updI n0; split <;> rfl
    rw [e]
theorem dropP_pf {A : Int → Prop} {sv lv mk : Int → Int} (Q : Ex → Prop) (v : Int) : dropP (Pf A sv lv mk) Q v = Pf (fun u => A u ∧ (u ≠ v ∨ Hase Q v)) sv lv mk := by
  funext x
  apply propext
  exact ⟨fun ⟨⟨h1, h2⟩, h3⟩ => ⟨⟨h1, h3⟩, h2⟩, fun ⟨⟨h1, h3⟩, h2⟩ => ⟨⟨h1, h2⟩, h3⟩⟩
def Qd (E : EM) (S : Int → Prop) (i : Int) : Ex → Prop := fun y => ∃ x, ¬ S y.e ∧ E y.e = some x ∧ x.t = true ∧ i ≤ x.l ∧ y = ⟨y.e, x.a, x.b, if x.l = i then 1 else 0⟩
theorem qd_jq {E : EM} {S : Int → Prop} {i a b : Int} : Jq (Qd E S i) a b ↔ Jn (Te E S i) a b := by
  refine jn_iff fun a b => ⟨?_, ?_⟩
  · rintro ⟨z, ⟨x, h1, h2, h3, h4, h5⟩, h6, h7⟩
    have e1 : z.a = x.a := by rw [h5]
    have e2 : z.b = x.b := by rw [h5]
    exact ⟨z.e, x, h1, h2, h3, h4, by rw [← e1, h6], by rw [← e2, h7]⟩
  · rintro ⟨e, x, h1, h2, h3, h4, h5, h6⟩
    exact ⟨⟨e, x.a, x.b, if x.l = i then 1 else 0⟩, ⟨x, h1, h2, h3, h4, rfl⟩, h5, h6⟩
theorem qd_ep {E : EM} {S : Int → Prop} {i e : Int} : Ep (Qd E S i) e ↔ ∃ x, ¬ S e ∧ E e = some x ∧ x.t = true ∧ i ≤ x.l := by
  constructor
  · rintro ⟨y, ⟨x, h1, h2, h3, h4, h5⟩, rfl⟩; exact ⟨x, h1, h2, h3, h4⟩
  · rintro ⟨x, h1, h2, h3, h4⟩; exact ⟨⟨e, x.a, x.b, if x.l = i then 1 else 0⟩, ⟨x, h1, h2, h3, h4, rfl⟩, rfl⟩
theorem qd_hase {E : EM} {S : Int → Prop} {i v : Int} : Hase (Qd E S i) v ↔ ∃ e x, ¬ S e ∧ E e = some x ∧ x.t = true ∧ i ≤ x.l ∧ (x.a = v ∨ x.b = v) := by
  constructor
  · rintro ⟨y, ⟨x, h1, h2, h3, h4, h5⟩, h6⟩
    have e1 : y.a = x.a := by rw [h5]
    have e2 : y.b = x.b := by rw [h5]
    exact ⟨y.e, x, h1, h2, h3, h4, by rw [← e1, ← e2]; exact h6⟩
  · rintro ⟨e, x, h1, h2, h3, h4, h5⟩
    exact ⟨⟨e, x.a, x.b, if x.l = i then 1 else 0⟩, ⟨x, h1, h2, h3, h4, rfl⟩, h5⟩
theorem qd_ext {E E' : EM} {S S' : Int → Prop} {i : Int} (h : ∀ e x, x.t = true → i ≤ x.l → ((¬ S e ∧ E e = some x) ↔ (¬ S' e ∧ E' e = some x))) : Qd E S i = Qd E' S' i := by
  funext y
  apply propext
  constructor
  · rintro ⟨x, h1, h2, h3, h4, h5⟩
    obtain ⟨k1, k2⟩ := (h y.e x h3 h4).1 ⟨h1, h2⟩
    exact ⟨x, k1, k2, h3, h4, h5⟩
  · rintro ⟨x, h1, h2, h3, h4, h5⟩
    obtain ⟨k1, k2⟩ := (h y.e x h3 h4).2 ⟨h1, h2⟩
    exact ⟨x, k1, k2, h3, h4, h5⟩
def mkS (s : Bg) (i : Int) (v : Int) : Int := if s.L (v, i) = [] then 0 else 1
def VS (on : Int → Prop) (E : EM) (S : Int → Prop) (go : Eg) (gl : Int) (i : Nat) (v : Int) : Prop := if i = 0 then on v else Hase (Qd E S i) v ∨ ((i : Int) ≤ gl ∧ (v = go.a ∨ v = go.b))
def sv0 (sv : Int → Int) (i : Nat) : Int → Int := if i = 0 then sv else n0
structure Gi (g : Gs) (on : Int → Prop) (sv lv : Int → Int) (S : Int → Prop) (go : Eg) (gl : Int) : Prop where
  q : ∀ i, i < g.m → g.Q i = Qd g.E S i
  p : ∀ i, i < g.m → g.P i = Pf (VS on g.E S go gl i) (sv0 sv i) (sv0 lv i) (mkS g.s i)
  lo : ∀ v i e, e ∈ g.s.L (v, i) ↔ ∃ x, ¬ S e ∧ g.E e = some x ∧ x.t = false ∧ x.l = i ∧ (x.a = v ∨ x.b = v)
  eb : ∀ e x, g.E e = some x → (1 ≤ e ∧ e ≤ 1000000) ∧ x.a ≠ x.b ∧ on x.a ∧ on x.b ∧ 0 ≤ x.l ∧ x.l < g.m
  ob : ∀ v, on v → 1 ≤ v ∧ v ≤ 1000000
  nd : ∀ a, (g.s.L a).Nodup
  m : 1 ≤ g.m ∧ g.m ≤ 23
section
variable {g : Gs} {on : Int → Prop} {sv lv : Int → Int} {S : Int → Prop} {go : Eg} {gl : Int}
theorem Gi.b64 (h : Gi g on sv lv S go gl) {v : Int} (hv : on v) : B64 v := by have := h.ob v hv; unfold B64; omega
theorem Gi.e64 (h : Gi g on sv lv S go gl) {e : Int} {x : Eg} (he : g.E e = some x) : B64 e := by have := (h.eb e x he).1; unfold B64; omega
theorem Gi.mk01 (h : Gi g on sv lv S go gl) {i : Nat} (hi : i < g.m) : ∀ x, g.P i x → x.m = 0 ∨ x.m = 1 := fun x hx => by
  rw [h.p i hi] at hx
  rw [hx.2.2.2]
  unfold mkS
  split
  · exact .inl rfl
  · exact .inr rfl
theorem Gi.em01 (h : Gi g on sv lv S go gl) {i : Nat} (hi : i < g.m) : ∀ y, g.Q i y → y.m = 0 ∨ y.m = 1 := fun y hy => by
  rw [h.q i hi] at hy
  obtain ⟨x, _, _, _, _, e⟩ := hy
  rw [e]
  simp only
  split
  · exact .inr rfl
  · exact .inl rfl
theorem Gi.ends (h : Gi g on sv lv S go gl) {e : Int} {x : Eg} (hS : ¬ S e) (he : g.E e = some x) (ht : x.t = true) {i : Nat} (hi : i < g.m) (hl : (i : Int) ≤ x.l) : Vp (g.P i) x.a ∧ Vp (g.P i) x.b := by
  rw [h.p i hi, pf_vp, pf_vp]
  unfold VS
  by_cases h0 : i = 0
  · rw [if_pos h0, if_pos h0]; exact ⟨(h.eb e x he).2.2.1, (h.eb e x he).2.2.2.1⟩
  · rw [if_neg h0, if_neg h0]
    exact ⟨.inl (qd_hase.2 ⟨e, x, hS, he, ht, hl, .inl rfl⟩), .inl (qd_hase.2 ⟨e, x, hS, he, ht, hl, .inr rfl⟩)⟩
theorem Gi.vp_of_jn (h : Gi g on sv lv S go gl) {i : Nat} (hi : i < g.m) {a b : Int} (hj : Jn (Te g.E S i) a b) (hne : a ≠ b) : Vp (g.P i) a ∧ Vp (g.P i) b := by
  have key : ∀ a b, Jn (Te g.E S i) a b → a ≠ b → Vp (g.P i) b := fun a b hj => by
    induction hj with
    | refl => exact fun k => absurd rfl k
    | step _ r _ =>
      intro _
      rcases r with ⟨e, x, h1, h2, h3, h4, h5, h6⟩ | ⟨e, x, h1, h2, h3, h4, h5, h6⟩
      · rw [← h6]; exact (h.ends h1 h2 h3 hi h4).2
      · rw [← h5]; exact (h.ends h1 h2 h3 hi h4).1
  exact ⟨key b a hj.symm (Ne.symm hne), key a b hj hne⟩
end
section
variable {A : Int → Prop} {sv lv : Int → Int} {s : Bg} {i v n : Int}
theorem put1_P (hA : A v) : (if ((s.put (v, i) n).L (v, i)).length = 1 then markP (Pf A sv lv (mkS s i)) v 1 else Pf A sv lv (mkS s i)) = Pf A sv lv (mkS (s.put (v, i) n) i) := by
  have e1 : ∀ u, u ≠ v → mkS (s.put (v, i) n) i u = mkS s i u := fun u hu => by unfold mkS; rw [put_other s (by simp [hu])]
  have e2 : mkS (s.put (v, i) n) i v = 1 := by unfold mkS; rw [put_same, if_neg (by simp)]
  split
  · rw [markP_pf hA]
    refine pf_ext (fun _ => Iff.rfl) (fun _ _ => ⟨rfl, rfl⟩) (fun u _ => ?_)
    by_cases hu : u = v
    · subst hu; rw [updI_at, e2]
    · rw [updI_ne hu, e1 u hu]
  · rename_i hl
    refine pf_ext (fun _ => Iff.rfl) (fun _ _ => ⟨rfl, rfl⟩) (fun u _ => ?_)
    by_cases hu : u = v
    · subst hu
      rw [e2]
      unfold mkS
      rw [if_neg (fun h => hl (by rw [put_same, h]; rfl))]
    · rw [e1 u hu]
theorem take1_P (hA : A v) (hn : n ∈ s.L (v, i)) : (if ((s.take (v, i) n).L (v, i)).length = 0 then markP (Pf A sv lv (mkS s i)) v 0 else Pf A sv lv (mkS s i)) = Pf A sv lv (mkS (s.take (v, i) n) i) := by
  have e1 : ∀ u, u ≠ v → mkS (s.take (v, i) n) i u = mkS s i u := fun u hu => by unfold mkS; rw [take_other s (by simp [hu])]
  split
  · rename_i hl
    rw [markP_pf hA]
    refine pf_ext (fun _ => Iff.rfl) (fun _ _ => ⟨rfl, rfl⟩) (fun u _ => ?_)
    by_cases hu : u = v
    · subst hu
      rw [updI_at]
      unfold mkS
      rw [if_pos (List.eq_nil_of_length_eq_zero hl)]
    · rw [updI_ne hu, e1 u hu]
  · rename_i hl
    refine pf_ext (fun _ => Iff.rfl) (fun _ _ => ⟨rfl, rfl⟩) (fun u _ => ?_)
    by_cases hu : u = v
    · subst hu
      unfold mkS
      rw [if_neg (fun h => by rw [h] at hn; cases hn), if_neg (fun h => hl (by rw [h]; rfl))]
    · rw [e1 u hu]
end
section
variable {g : Gs} {on : Int → Prop} {sv lv : Int → Int} {S : Int → Prop} {go : Eg} {gl : Int}
theorem vs_ext {E E' : EM} {S S' : Int → Prop} (h : ∀ i : Nat, 1 ≤ i → Qd E S i = Qd E' S' i) (i : Nat) : VS on E S go gl i = VS on E' S' go gl i := by
  funext v
  unfold VS
  split
  · rfl
  · rw [h i (by omega)]
theorem putG1_P (g : Gs) {n v : Int} {i : Nat} {A : Int → Prop} {sv lv : Int → Int} (hp : g.P i = Pf A sv lv (mkS g.s i)) (hA : A v) : (putG1 g n v i).P i = Pf A sv lv (mkS (putG1 g n v i).s i) := by
  unfold putG1
  rw [setF_P, hp]
  exact put1_P hA
theorem putG1_o (g : Gs) {n v : Int} {i j : Nat} (hj : j ≠ i) : (putG1 g n v i).P j = g.P j := updF_ne hj
theorem putG1_Q (g : Gs) (n v : Int) (i : Nat) : (putG1 g n v i).Q = g.Q := by
  funext j
  by_cases e : j = i
  · subst e; exact updF_at _ _ _
  · exact updF_ne e
theorem putG_L (g : Gs) (n : Int) (x : Eg) (i : Nat) (hne : x.a ≠ x.b) (a : Int × Int) : (putG g n x i).s.L a = if a.2 = i ∧ (a.1 = x.a ∨ a.1 = x.b) then g.s.L a ++ [n] else g.s.L a := by
  obtain ⟨v, j⟩ := a
  show ((g.s.put (x.a, (i : Int)) n).put (x.b, (i : Int)) n).L (v, j) = _
  by_cases hj : j = i
  · subst hj
    by_cases ha : v = x.a
    · subst ha
      rw [put_other _ (by simp [hne]), put_same, if_pos ⟨rfl, .inl rfl⟩]
    · by_cases hb : v = x.b
      · subst hb
        rw [put_same, put_other _ (by simp [ha]), if_pos ⟨rfl, .inr rfl⟩]
      · rw [put_other _ (by simp [hb]), put_other _ (by simp [ha]), if_neg (fun k => k.2.elim ha hb)]
  · rw [put_other _ (by simp [hj]), put_other _ (by simp [hj]), if_neg (fun k => hj k.1)]
theorem takeG1_P (g : Gs) {n v : Int} {i : Nat} {A : Int → Prop} {sv lv : Int → Int} (hp : g.P i = Pf A sv lv (mkS g.s i)) (hA : A v) (hn : n ∈ g.s.L (v, (i : Int))) : (takeG1 g n v i).P i = Pf A sv lv (mkS (takeG1 g n v i).s i) := by
  unfold takeG1
  rw [setF_P, hp]
  exact take1_P hA hn
theorem takeG1_o (g : Gs) {n v : Int} {i j : Nat} (hj : j ≠ i) : (takeG1 g n v i).P j = g.P j := updF_ne hj
theorem takeG1_Q (g : Gs) (n v : Int) (i : Nat) : (takeG1 g n v i).Q = g.Q := by
  funext j
  by_cases e : j = i
  · subst e; exact updF_at _ _ _
  · exact updF_ne e
theorem takeG_L (g : Gs) (n : Int) (x : Eg) (i : Nat) (hne : x.a ≠ x.b) (a : Int × Int) : (takeG g n x i).s.L a = if a.2 = i ∧ (a.1 = x.a ∨ a.1 = x.b) then delL (g.s.L a) n else g.s.L a := by
  obtain ⟨v, j⟩ := a
  show ((g.s.take (x.a, (i : Int)) n).take (x.b, (i : Int)) n).L (v, j) = _
  by_cases hj : j = i
  · subst hj
    by_cases ha : v = x.a
    · subst ha
      rw [take_other _ (by simp [hne]), take_same, if_pos ⟨rfl, .inl rfl⟩]
    · by_cases hb : v = x.b
      · subst hb
        rw [take_same, take_other _ (by simp [ha]), if_pos ⟨rfl, .inr rfl⟩]
      · rw [take_other _ (by simp [hb]), take_other _ (by simp [ha]), if_neg (fun k => k.2.elim ha hb)]
  · rw [take_other _ (by simp [hj]), take_other _ (by simp [hj]), if_neg (fun k => hj k.1)]
theorem Gi.takeL (h : Gi g on sv lv S go gl) {e : Int} {x : Eg} (hS : ¬ S e) (he : g.E e = some x) (ht : x.t = false) {i : Nat} (hi : i < g.m) (hl : x.l = i) (ha : VS on g.E S go gl i x.a) (hb : VS on g.E S go gl i x.b) :
    Gi (takeG g e x i) on sv lv (fun k => S k ∨ k = e) go gl ∧ e ∈ g.s.L (x.a, (i : Int)) ∧ e ∈ g.s.L (x.b, (i : Int)) := by
  have hne := (h.eb e x he).2.1
  have ma : e ∈ g.s.L (x.a, (i : Int)) := (h.lo _ _ _).2 ⟨x, hS, he, ht, hl, .inl rfl⟩
  have mb : e ∈ g.s.L (x.b, (i : Int)) := (h.lo _ _ _).2 ⟨x, hS, he, ht, hl, .inr rfl⟩
  have mb1 : e ∈ (takeG1 g e x.a i).s.L (x.b, (i : Int)) := by
    show e ∈ (g.s.take (x.a, (i : Int)) e).L (x.b, (i : Int))
    rw [take_other _ (by simp [Ne.symm hne])]; exact mb
  have hQ : ∀ j : Int, Qd g.E S j = Qd g.E (fun k => S k ∨ k = e) j := fun j => qd_ext fun f y h3 h4 => ⟨fun ⟨k1, k2⟩ => ⟨fun k => k.elim k1 (fun k => by subst k; rw [he] at k2; cases k2; rw [ht] at h3; cases h3), k2⟩, fun ⟨k1, k2⟩ => ⟨fun k => k1 (.inl k), k2⟩⟩
  have hV : ∀ j : Nat, VS on g.E (fun k => S k ∨ k = e) go gl j = VS on g.E S go gl j := fun j => vs_ext (fun j _ => (hQ j).symm) j
  refine ⟨⟨fun j hj => ?_, fun j hj => ?_, fun v j f => ?_, h.eb, h.ob, fun a => ?_, h.m⟩, ma, mb⟩
  · show (takeG1 (takeG1 g e x.a i) e x.b i).Q j = Qd g.E _ j
    rw [takeG1_Q, takeG1_Q, h.q j hj]; exact hQ j
  · show (takeG g e x i).P j = Pf (VS on g.E _ go gl j) _ _ _
    rw [hV]
    by_cases e1 : j = i
    · subst e1
      exact takeG1_P (takeG1 g e x.a j) (takeG1_P g (h.p j hj) ha ma) hb mb1
    · unfold takeG
      rw [takeG1_o _ e1, takeG1_o _ e1, h.p j hj]
      refine pf_ext (fun _ => Iff.rfl) (fun _ _ => ⟨rfl, rfl⟩) (fun u _ => ?_)
      unfold mkS
      rw [show (takeG1 (takeG1 g e x.a i) e x.b i).s.L (u, (j : Int)) = g.s.L (u, (j : Int)) from (takeG_L g e x i hne _).trans (if_neg (fun k => by have := k.1; simp at this; omega))]
  · rw [takeG_L g e x i hne]
    by_cases hc : j = i ∧ (v = x.a ∨ v = x.b)
    · rw [if_pos hc]
      have hm : e ∈ g.s.L (v, j) := by rcases hc with ⟨rfl, rfl | rfl⟩; exact ma; exact mb
      rw [delL_mem hm (h.nd _), h.lo]
      constructor
      · rintro ⟨⟨y, k1, k2⟩, k3⟩; exact ⟨y, fun k => k.elim k1 k3, k2⟩
      · rintro ⟨y, k1, k2⟩; exact ⟨⟨y, fun k => k1 (.inl k), k2⟩, fun k => k1 (.inr k)⟩
    · rw [if_neg hc, h.lo]
      constructor
      · rintro ⟨y, k1, k2, k3, k4, k5⟩
        refine ⟨y, fun k => k.elim k1 (fun k => ?_), k2, k3, k4, k5⟩
        subst k
        rw [he] at k2; cases k2
        exact hc ⟨by omega, k5.imp Eq.symm Eq.symm⟩
      · rintro ⟨y, k1, k2⟩; exact ⟨y, fun k => k1 (.inl k), k2⟩
  · rw [takeG_L g e x i hne]
    split
    · rename_i hc
      have hm : e ∈ g.s.L a := by
        obtain ⟨v, j⟩ := a
        rcases hc with ⟨h1, h2⟩
        simp only at h1 h2
        subst h1
        rcases h2 with rfl | rfl
        · exact ma
        · exact mb
      exact delL_nodup hm (h.nd _)
    · exact h.nd _
theorem Gi.putL {e : Int} (h : Gi g on sv lv (fun k => S k ∨ k = e) go gl) {x : Eg} (hS : ¬ S e) (he : g.E e = some x) (ht : x.t = false) {i : Nat} (hi : i < g.m) (hl : x.l = i) (ha : VS on g.E S go gl i x.a) (hb : VS on g.E S go gl i x.b) :
    Gi (putG g e x i) on sv lv S go gl ∧ e ∉ g.s.L (x.a, (i : Int)) ∧ e ∉ g.s.L (x.b, (i : Int)) := by
  have hne := (h.eb e x he).2.1
  have nm : ∀ a, e ∉ g.s.L a := fun a k => by
    obtain ⟨v, j⟩ := a
    obtain ⟨y, k1, _⟩ := (h.lo v j e).1 k
    exact k1 (.inr rfl)
  have hQ : ∀ j : Int, Qd g.E (fun k => S k ∨ k = e) j = Qd g.E S j := fun j => (qd_ext fun f y h3 h4 => ⟨fun ⟨k1, k2⟩ => ⟨fun k => k.elim k1 (fun k => by subst k; rw [he] at k2; cases k2; rw [ht] at h3; cases h3), k2⟩, fun ⟨k1, k2⟩ => ⟨fun k => k1 (.inl k), k2⟩⟩).symm
  have hV : ∀ j : Nat, VS on g.E S go gl j = VS on g.E (fun k => S k ∨ k = e) go gl j := fun j => vs_ext (fun j _ => (hQ j).symm) j
  refine ⟨⟨fun j hj => ?_, fun j hj => ?_, fun v j f => ?_, h.eb, h.ob, fun a => ?_, h.m⟩, nm _, nm _⟩
  · show (putG1 (putG1 g e x.a i) e x.b i).Q j = Qd g.E _ j
    rw [putG1_Q, putG1_Q, h.q j hj]; exact hQ j
  · show (putG g e x i).P j = Pf (VS on g.E _ go gl j) _ _ _
    by_cases e1 : j = i
    · subst e1
      exact putG1_P (putG1 g e x.a j) (putG1_P g (by rw [hV]; exact h.p j hj) ha) hb
    · unfold putG
      rw [hV, putG1_o _ e1, putG1_o _ e1, h.p j hj]
      refine pf_ext (fun _ => Iff.rfl) (fun _ _ => ⟨rfl, rfl⟩) (fun u _ => ?_)
      unfold mkS
      rw [show (putG1 (putG1 g e x.a i) e x.b i).s.L (u, (j : Int)) = g.s.L (u, (j : Int)) from (putG_L g e x i hne _).trans (if_neg (fun k => by have := k.1; simp at this; omega))]
  · rw [putG_L g e x i hne]
    by_cases hc : j = i ∧ (v = x.a ∨ v = x.b)
    · rw [if_pos hc, List.mem_append, h.lo]
      constructor
      · rintro (⟨y, k1, k2⟩ | k)
        · exact ⟨y, fun k => k1 (.inl k), k2⟩
        · simp at k; subst k
          exact ⟨x, hS, he, ht, by rw [hl]; exact hc.1.symm, hc.2.imp Eq.symm Eq.symm⟩
      · rintro ⟨y, k1, k2⟩
        by_cases ef : f = e
        · exact .inr (by simp [ef])
        · exact .inl ⟨y, fun k => k.elim k1 ef, k2⟩
    · rw [if_neg hc, h.lo]
      constructor
      · rintro ⟨y, k1, k2⟩; exact ⟨y, fun k => k1 (.inl k), k2⟩
      · rintro ⟨y, k1, k2, k3, k4, k5⟩
        refine ⟨y, fun k => k.elim k1 (fun k => ?_), k2, k3, k4, k5⟩
        subst k
        have k2' : g.E f = some y := k2
        rw [he] at k2'; cases k2'
        exact hc ⟨by omega, k5.imp Eq.symm Eq.symm⟩
  · rw [putG_L g e x i hne]
    split
    · refine List.nodup_append.2 ⟨h.nd _, by simp, fun b hb c hc k => ?_⟩
      simp at hc; subst hc; subst k; exact nm _ hb
    · exact h.nd _
theorem Gi.skipE (h : Gi g on sv lv S go gl) {e : Int} {x : Eg} (hS : S e) (hx : (1 ≤ e ∧ e ≤ 1000000) ∧ x.a ≠ x.b ∧ on x.a ∧ on x.b ∧ 0 ≤ x.l ∧ x.l < g.m) (ne : Nat) : Gi (g.setE (updQ g.E e (some x)) ne) on sv lv S go gl := by
  have key : ∀ f (y : Eg), ¬ S f → (updQ g.E e (some x) f = some y ↔ g.E f = some y) := fun f y hf => by rw [updQ_ne (fun k : f = e => hf (by rw [k]; exact hS))]
  have hQ : ∀ j : Int, Qd g.E S j = Qd (updQ g.E e (some x)) S j := fun j => qd_ext fun f y _ _ => ⟨fun ⟨k1, k2⟩ => ⟨k1, (key f y k1).2 k2⟩, fun ⟨k1, k2⟩ => ⟨k1, (key f y k1).1 k2⟩⟩
  refine ⟨fun j hj => ?_, fun j hj => ?_, fun v j f => ?_, fun f y hy => ?_, h.ob, h.nd, h.m⟩
  · exact (h.q j hj).trans (hQ j)
  · refine (h.p j hj).trans ?_
    show _ = Pf (VS on (updQ g.E e (some x)) S go gl j) _ _ _
    rw [vs_ext (fun j _ => hQ j) j]; rfl
  · rw [show (g.setE (updQ g.E e (some x)) ne).s.L (v, j) = g.s.L (v, j) from rfl, h.lo]
    exact ⟨fun ⟨y, k1, k2, k3⟩ => ⟨y, k1, (key f y k1).2 k2, k3⟩, fun ⟨y, k1, k2, k3⟩ => ⟨y, k1, (key f y k1).1 k2, k3⟩⟩
  · by_cases ef : f = e
    · subst ef
      have : updQ g.E f (some x) f = some y := hy
      rw [updQ_at] at this; cases this; exact hx
    · have : updQ g.E e (some x) f = some y := hy
      rw [updQ_ne ef] at this; exact h.eb f y this
end
section
variable {g : Gs} {on : Int → Prop} {sv lv : Int → Int} {S : Int → Prop} {go : Eg} {gl : Int}
theorem qd_set {E : EM} {e : Int} {y0 : Eg} (hS : ¬ S e) (ht : y0.t = true) (j : Int) (y : Ex) : Qd (updQ E e (some y0)) S j y ↔ (y.e ≠ e ∧ Qd E S j y) ∨ (j ≤ y0.l ∧ y = ⟨e, y0.a, y0.b, if y0.l = j then 1 else 0⟩) := by
  constructor
  · rintro ⟨x, h1, h2, h3, h4, h5⟩
    by_cases he : y.e = e
    · rw [he, updQ_at] at h2; cases h2
      exact .inr ⟨h4, by rw [he] at h5; exact h5⟩
    · rw [updQ_ne he] at h2
      exact .inl ⟨he, x, h1, h2, h3, h4, h5⟩
  · rintro (⟨he, x, h1, h2, h3, h4, h5⟩ | ⟨h1, h2⟩)
    · exact ⟨x, h1, by rw [updQ_ne he]; exact h2, h3, h4, h5⟩
    · have he : y.e = e := by rw [h2]
      refine ⟨y0, by rw [he]; exact hS, by rw [he, updQ_at], ht, h1, ?_⟩
      rw [he]; exact h2
theorem qd_e {E : EM} {j : Int} {y : Ex} {x : Eg} (h : Qd E S j y) (hx : E y.e = some x) : x.t = true ∧ j ≤ x.l ∧ y = ⟨y.e, x.a, x.b, if x.l = j then 1 else 0⟩ := by
  obtain ⟨x', h1, h2, h3, h4, h5⟩ := h
  rw [hx] at h2; cases h2; exact ⟨h3, h4, h5⟩
def riseTreeG (g : Gs) (e : Int) (x : Eg) (i : Nat) : Gs := linkG (riseG (g.setF i (g.P i) (emarkQ (g.Q i) e 0)) e x) e x.up (i + 1)
theorem Gi.upTree (h : Gi g on sv lv S go gl) {e : Int} {x : Eg} (hS : ¬ S e) (he : g.E e = some x) (ht : x.t = true) {i : Nat} (hi : i + 1 < g.m) (hl : x.l = i) (hz : ∀ v, ¬ VS on g.E S go gl (i + 1) v → mkS g.s ((i + 1 : Nat) : Int) v = 0) : Gi (riseTreeG g e x i) on sv lv S go gl := by
  have hu : x.up.t = true := ht
  have Esame : (riseTreeG g e x i).E = updQ g.E e (some x.up) := rfl
  have xe : Qd g.E S i ⟨e, x.a, x.b, 1⟩ := ⟨x, hS, he, ht, by omega, by rw [if_pos hl]⟩
  have Qi1 : (riseTreeG g e x i).Q (i + 1) = linkM (g.Q (i + 1)) e x.a x.b 1 := by
    show updF (updF g.Q i _) (i + 1) (linkM (updF g.Q i _ (i + 1)) e x.a x.b (if x.l + 1 = ((i + 1 : Nat) : Int) then 1 else 0)) (i + 1) = _
    rw [updF_at, updF_ne (by omega), if_pos (by omega)]
  have Qi : (riseTreeG g e x i).Q i = emarkQ (g.Q i) e 0 := by
    show updF (updF g.Q i _) (i + 1) _ i = _
    rw [updF_ne (by omega), updF_at]
  have Qo : ∀ j, j ≠ i → j ≠ i + 1 → (riseTreeG g e x i).Q j = g.Q j := fun j h1 h2 => by
    show updF (updF g.Q i _) (i + 1) _ j = _
    rw [updF_ne h2, updF_ne h1]
  have hq : ∀ j, j < g.m → (riseTreeG g e x i).Q j = Qd (updQ g.E e (some x.up)) S j := fun j hj => by
    funext y
    apply propext
    rw [qd_set hS hu]
    by_cases h1 : j = i + 1
    · subst h1
      rw [Qi1, h.q _ hj]
      unfold linkM
      have e1 : x.up.l = ((i + 1 : Nat) : Int) := by show x.l + 1 = _; omega
      rw [e1, if_pos rfl]
      constructor
      · rintro (k | k)
        · refine .inl ⟨fun ey => ?_, k⟩
          have := (qd_e k (by rw [ey]; exact he)).2.1
          omega
        · exact .inr ⟨Int.le_refl _, k⟩
      · rintro (⟨_, k⟩ | ⟨_, k⟩)
        · exact .inl k
        · exact .inr k
    · by_cases h2 : j = i
      · subst h2
        rw [Qi, h.q _ hj]
        unfold emarkQ
        have e1 : ¬ x.up.l = (j : Int) := by show ¬ x.l + 1 = _; omega
        rw [if_neg e1]
        constructor
        · rintro (⟨k1, k2⟩ | ⟨y0, k1, k2, rfl⟩)
          · exact .inl ⟨k2, k1⟩
          · obtain ⟨_, _, k5⟩ := qd_e k1 (by rw [k2]; exact he)
            refine .inr ⟨by show (j : Int) ≤ x.l + 1; omega, ?_⟩
            rw [k5]; rfl
        · rintro (⟨k1, k2⟩ | ⟨_, rfl⟩)
          · exact .inl ⟨k2, k1⟩
          · exact .inr ⟨_, xe, rfl, rfl⟩
      · rw [Qo j h2 h1, h.q j hj]
        by_cases ey : y.e = e
        · constructor
          · intro k
            obtain ⟨_, k4, k5⟩ := qd_e k (by rw [ey]; exact he)
            refine .inr ⟨by show (j : Int) ≤ x.l + 1; omega, ?_⟩
            rw [if_neg (show ¬ x.up.l = (j : Int) from by show ¬ x.l + 1 = _; omega)]
            rw [k5, if_neg (by omega), ey]; rfl
          · rintro (⟨k, _⟩ | ⟨k1, k2⟩)
            · exact absurd ey k
            · have k1' : (j : Int) ≤ x.l + 1 := k1
              rw [if_neg (show ¬ x.up.l = (j : Int) from by show ¬ x.l + 1 = _; omega)] at k2
              rw [k2]
              exact ⟨x, hS, he, ht, by omega, by rw [if_neg (by omega)]; rfl⟩
        · constructor
          · exact fun k => .inl ⟨ey, k⟩
          · rintro (⟨_, k⟩ | ⟨_, k⟩)
            · exact k
            · exact absurd (by rw [k]) ey
  have hh : ∀ j : Nat, ∀ v, Hase (Qd (updQ g.E e (some x.up)) S j) v ↔ Hase (Qd g.E S j) v ∨ (j = i + 1 ∧ (v = x.a ∨ v = x.b)) := fun j v => by
    rw [qd_hase, qd_hase]
    constructor
    · rintro ⟨f, y, k1, k2, k3, k4, k5⟩
      by_cases ef : f = e
      · subst ef
        rw [updQ_at] at k2; cases k2
        have k4' : (j : Int) ≤ x.l + 1 := k4
        by_cases hj : j = i + 1
        · exact .inr ⟨hj, k5.imp Eq.symm Eq.symm⟩
        · exact .inl ⟨f, x, k1, he, ht, by omega, k5⟩
      · rw [updQ_ne ef] at k2; exact .inl ⟨f, y, k1, k2, k3, k4, k5⟩
    · rintro (⟨f, y, k1, k2, k3, k4, k5⟩ | ⟨hj, k⟩)
      · by_cases ef : f = e
        · subst ef
          rw [he] at k2; cases k2
          exact ⟨f, x.up, k1, updQ_at _ _ _, hu, by show (j : Int) ≤ x.l + 1; omega, k5⟩
        · exact ⟨f, y, k1, by rw [updQ_ne ef]; exact k2, k3, k4, k5⟩
      · exact ⟨e, x.up, hS, updQ_at _ _ _, hu, by show (j : Int) ≤ x.l + 1; omega, k.imp Eq.symm Eq.symm⟩
  refine ⟨hq, fun j hj => ?_, fun v j f => ?_, fun f y hy => ?_, h.ob, h.nd, h.m⟩
  · show (riseTreeG g e x i).P j = Pf (VS on (updQ g.E e (some x.up)) S go gl j) (sv0 sv j) (sv0 lv j) (mkS g.s j)
    by_cases hj1 : j = i + 1
    · subst hj1
      have e1 : (riseTreeG g e x i).P (i + 1) = addP (addP (g.P (i + 1)) x.a 0 0) x.b 0 0 := by
        show updF (updF g.P i _) (i + 1) (addP (addP (updF g.P i _ (i + 1)) x.a 0 0) x.b 0 0) (i + 1) = _
        rw [updF_at, updF_ne (by omega)]
      rw [e1, h.p _ hj, show sv0 sv (i + 1) = n0 from if_neg (by omega), show sv0 lv (i + 1) = n0 from if_neg (by omega), addP_pf (fun k => hz _ k), addP_pf (fun k => hz _ (fun q => k (.inl q)))]
      refine pf_ext (fun u => ?_) (fun _ _ => ⟨rfl, rfl⟩) (fun _ _ => rfl)
      unfold VS
      rw [if_neg (by omega), if_neg (by omega), hh]
      constructor
      · rintro ((k | k) | k)
        · exact k.elim (fun k => .inl (.inl k)) .inr
        · exact .inl (.inr ⟨rfl, .inl k⟩)
        · exact .inl (.inr ⟨rfl, .inr k⟩)
      · rintro ((k | ⟨_, k | k⟩) | k)
        · exact .inl (.inl (.inl k))
        · exact .inl (.inr k)
        · exact .inr k
        · exact .inl (.inl (.inr k))
    · have e1 : (riseTreeG g e x i).P j = g.P j := by
        show updF (updF g.P i (g.P i)) (i + 1) _ j = _
        rw [updF_ne hj1]
        by_cases h2 : j = i
        · subst h2; exact updF_at _ _ _
        · exact updF_ne h2
      rw [e1, h.p j hj]
      refine pf_ext (fun u => ?_) (fun _ _ => ⟨rfl, rfl⟩) (fun _ _ => rfl)
      unfold VS
      split
      · exact Iff.rfl
      · rw [hh]
        exact ⟨fun k => k.imp .inl id, fun k => k.imp (fun k => k.elim id (fun k => absurd k.1 hj1)) id⟩
  · show f ∈ g.s.L (v, j) ↔ ∃ y, ¬ S f ∧ updQ g.E e (some x.up) f = some y ∧ _
    rw [h.lo]
    constructor
    · rintro ⟨y, k1, k2, k3, k4⟩
      have ef : f ≠ e := fun k => by subst k; rw [he] at k2; cases k2; rw [ht] at k3; cases k3
      exact ⟨y, k1, by rw [updQ_ne ef]; exact k2, k3, k4⟩
    · rintro ⟨y, k1, k2, k3, k4⟩
      have ef : f ≠ e := fun k => by subst k; rw [updQ_at] at k2; cases k2; rw [hu] at k3; cases k3
      exact ⟨y, k1, by rw [updQ_ne ef] at k2; exact k2, k3, k4⟩
  · have hy' : updQ g.E e (some x.up) f = some y := hy
    by_cases ef : f = e
    · subst ef
      rw [updQ_at] at hy'; cases hy'
      obtain ⟨a1, a2, a3, a4, a5, a6⟩ := h.eb f x he
      exact ⟨a1, a2, a3, a4, by show 0 ≤ x.l + 1; omega, by show x.l + 1 < (g.m : Int); omega⟩
    · rw [updQ_ne ef] at hy'; exact h.eb f y hy'
def bindGk (g : Gs) (e : Int) (x : Eg) (k : Nat) : Gs := ⟨g.n, g.m, fun j => if j < k then addP (addP (g.P j) x.a 0 0) x.b 0 0 else g.P j, fun j => if j < k then linkM (g.Q j) e x.a x.b (if x.l = j then 1 else 0) else g.Q j, g.E, g.ne, g.s, g.vl, g.vb, g.el, g.eb⟩
theorem bindGk_zero (g : Gs) (e : Int) (x : Eg) : bindGk g e x 0 = g := by cases g; simp [bindGk]
theorem bindGk_succ (g : Gs) (e : Int) (x : Eg) (k : Nat) : linkG (bindGk g e x k) e x k = bindGk g e x (k + 1) := by
  have e1 : (bindGk g e x k).P k = g.P k := if_neg (by omega)
  have e2 : (bindGk g e x k).Q k = g.Q k := if_neg (by omega)
  unfold linkG
  rw [e1, e2]
  show Gs.mk g.n g.m (updF (bindGk g e x k).P k _) (updF (bindGk g e x k).Q k _) g.E g.ne g.s g.vl g.vb g.el g.eb = Gs.mk g.n g.m (bindGk g e x (k + 1)).P (bindGk g e x (k + 1)).Q g.E g.ne g.s g.vl g.vb g.el g.eb
  congr 1
  · funext j
    by_cases h : j = k
    · subst h; rw [updF_at]; exact (if_pos (by omega)).symm
    · rw [updF_ne h]
      show (if j < k then _ else _) = (if j < k + 1 then _ else _)
      by_cases h2 : j < k
      · rw [if_pos h2, if_pos (show j < k + 1 by omega)]
      · rw [if_neg h2, if_neg (show ¬ j < k + 1 by omega)]
  · funext j
    by_cases h : j = k
    · subst h; rw [updF_at]; exact (if_pos (by omega)).symm
    · rw [updF_ne h]
      show (if j < k then _ else _) = (if j < k + 1 then _ else _)
      by_cases h2 : j < k
      · rw [if_pos h2, if_pos (show j < k + 1 by omega)]
      · rw [if_neg h2, if_neg (show ¬ j < k + 1 by omega)]
theorem Gi.bindG {e : Int} (h : Gi g on sv lv (fun k => S k ∨ k = e) go gl) {x : Eg} (hS : ¬ S e) (he : g.E e = some x) (ht : x.t = true) {i : Nat} (hi : i < g.m) (hl : x.l = i) (hv : ∀ j : Nat, j ≤ i → VS on g.E (fun k => S k ∨ k = e) go gl j x.a ∧ VS on g.E (fun k => S k ∨ k = e) go gl j x.b) : Gi (bindGk g e x (i + 1)) on sv lv S go gl := by
  have split : ∀ (j : Int) (y : Ex), Qd g.E S j y ↔ Qd g.E (fun k => S k ∨ k = e) j y ∨ (j ≤ x.l ∧ y = ⟨e, x.a, x.b, if x.l = j then 1 else 0⟩) := fun j y => by
    constructor
    · rintro ⟨z, k1, k2, k3, k4, k5⟩
      by_cases ey : y.e = e
      · rw [ey, he] at k2; cases k2
        exact .inr ⟨k4, by rw [ey] at k5; exact k5⟩
      · exact .inl ⟨z, fun k => k.elim k1 ey, k2, k3, k4, k5⟩
    · rintro (⟨z, k1, k2, k3, k4, k5⟩ | ⟨k1, k2⟩)
      · exact ⟨z, fun k => k1 (.inl k), k2, k3, k4, k5⟩
      · have ey : y.e = e := by rw [k2]
        exact ⟨x, by rw [ey]; exact hS, by rw [ey]; exact he, ht, k1, by rw [ey]; exact k2⟩
  have hh : ∀ (j : Int) v, Hase (Qd g.E S j) v ↔ Hase (Qd g.E (fun k => S k ∨ k = e) j) v ∨ (j ≤ x.l ∧ (v = x.a ∨ v = x.b)) := fun j v => by
    constructor
    · rintro ⟨y, k1, k2⟩
      rcases (split j y).1 k1 with k | ⟨k, rfl⟩
      · exact .inl ⟨y, k, k2⟩
      · exact .inr ⟨k, k2.imp Eq.symm Eq.symm⟩
    · rintro (⟨y, k1, k2⟩ | ⟨k, k2⟩)
      · exact ⟨y, (split j y).2 (.inl k1), k2⟩
      · exact ⟨_, (split j _).2 (.inr ⟨k, rfl⟩), k2.imp Eq.symm Eq.symm⟩
  refine ⟨fun j hj => ?_, fun j hj => ?_, fun v j f => ?_, h.eb, h.ob, h.nd, h.m⟩
  · show (if j < i + 1 then linkM (g.Q j) e x.a x.b (if x.l = j then 1 else 0) else g.Q j) = Qd g.E S j
    funext y
    apply propext
    rw [split]
    by_cases hji : j < i + 1
    · rw [if_pos hji, h.q j hj]
      exact ⟨fun k => k.imp id (fun k => ⟨by omega, k⟩), fun k => k.imp id (fun k => k.2)⟩
    · rw [if_neg hji, h.q j hj]
      exact ⟨.inl, fun k => k.elim id (fun k => by omega)⟩
  · show (if j < i + 1 then addP (addP (g.P j) x.a 0 0) x.b 0 0 else g.P j) = Pf (VS on g.E S go gl j) _ _ (mkS g.s j)
    have hP : (if j < i + 1 then addP (addP (g.P j) x.a 0 0) x.b 0 0 else g.P j) = g.P j := by
      split
      · rw [h.p j hj, addP_pf_in (hv j (by omega)).1, addP_pf_in (hv j (by omega)).2]
      · rfl
    rw [hP, h.p j hj]
    refine pf_ext (fun u => ?_) (fun _ _ => ⟨rfl, rfl⟩) (fun _ _ => rfl)
    constructor
    · intro k
      unfold VS at k ⊢
      by_cases h0 : j = 0
      · rw [if_pos h0] at k ⊢; exact k
      · rw [if_neg h0] at k ⊢; rw [hh]; exact k.imp .inl id
    · intro k
      by_cases hji : j ≤ i
      · by_cases hu : u = x.a ∨ u = x.b
        · rcases hu with rfl | rfl
          · exact (hv j hji).1
          · exact (hv j hji).2
        · unfold VS at k ⊢
          by_cases h0 : j = 0
          · rw [if_pos h0] at k ⊢; exact k
          · rw [if_neg h0] at k ⊢; rw [hh] at k; exact k.imp (fun k => k.elim id (fun k => absurd k.2 hu)) id
      · unfold VS at k ⊢
        by_cases h0 : j = 0
        · rw [if_pos h0] at k ⊢; exact k
        · rw [if_neg h0] at k ⊢; rw [hh] at k; exact k.imp (fun k => k.elim id (fun k => by omega)) id
  · show f ∈ g.s.L (v, j) ↔ _
    rw [h.lo]
    constructor
    · rintro ⟨y, k1, k2⟩; exact ⟨y, fun k => k1 (.inl k), k2⟩
    · rintro ⟨y, k1, k2, k3, k4⟩
      have k2' : g.E f = some y := k2
      exact ⟨y, fun k => k.elim k1 (fun k => by subst k; rw [he] at k2'; cases k2'; rw [ht] at k3; cases k3), k2, k3, k4⟩
theorem Gi.cutG (h : Gi g on sv lv (fun _ => False) go gl) (hgl : gl ≤ 0) {x0 : Int} {x : Eg} (he : g.E x0 = some x) (ht : x.t = true) {L : Nat} (hL : L < g.m) (hl : x.l = L) : Gi (cutGk g x0 (L + 1)) on sv lv (fun k => k = x0) x L := by
  have hQ : ∀ (j : Nat) (y : Ex), Qd g.E (fun k => k = x0) j y ↔ cutQ (Qd g.E (fun _ => False) j) x0 y := fun j y => by
    constructor
    · rintro ⟨z, k1, k2⟩; exact ⟨⟨z, fun k => k, k2⟩, k1⟩
    · rintro ⟨⟨z, k1, k2⟩, k3⟩; exact ⟨z, k3, k2⟩
  have hh : ∀ (j : Nat) v, Hase (Qd g.E (fun _ => False) j) v ↔ Hase (Qd g.E (fun k => k = x0) j) v ∨ ((j : Int) ≤ L ∧ (v = x.a ∨ v = x.b)) := fun j v => by
    rw [qd_hase, qd_hase]
    constructor
    · rintro ⟨f, y, k1, k2, k3, k4, k5⟩
      by_cases ef : f = x0
      · subst ef; rw [he] at k2; cases k2; exact .inr ⟨by omega, k5.imp Eq.symm Eq.symm⟩
      · exact .inl ⟨f, y, ef, k2, k3, k4, k5⟩
    · rintro (⟨f, y, k1, k2⟩ | ⟨k, k2⟩)
      · exact ⟨f, y, fun k => k, k2⟩
      · exact ⟨x0, x, fun k => k, he, ht, by omega, k2.imp Eq.symm Eq.symm⟩
  refine ⟨fun j hj => ?_, fun j hj => ?_, fun v j f => ?_, h.eb, h.ob, h.nd, h.m⟩
  · show (if j < L + 1 then cutQ (g.Q j) x0 else g.Q j) = Qd g.E _ j
    funext y
    apply propext
    rw [hQ, h.q j hj]
    by_cases hj1 : j < L + 1
    · rw [if_pos hj1]
    · rw [if_neg hj1]
      refine ⟨fun k => ⟨k, fun ey => ?_⟩, fun k => k.1⟩
      have := (qd_e k (by rw [ey]; exact he)).2.1
      omega
  · show g.P j = Pf (VS on g.E _ x L j) _ _ (mkS g.s j)
    rw [h.p j hj]
    refine pf_ext (fun u => ?_) (fun _ _ => ⟨rfl, rfl⟩) (fun _ _ => rfl)
    unfold VS
    by_cases h0 : j = 0
    · rw [if_pos h0, if_pos h0]
    · rw [if_neg h0, if_neg h0, hh]
      exact ⟨fun k => k.elim id (fun k => by omega), .inl⟩
  · show f ∈ g.s.L (v, j) ↔ _
    rw [h.lo]
    constructor
    · rintro ⟨y, k1, k2, k3, k4⟩
      exact ⟨y, (fun k => by subst k; rw [he] at k2; cases k2; rw [ht] at k3; cases k3), k2, k3, k4⟩
    · rintro ⟨y, k1, k2⟩; exact ⟨y, fun k => k, k2⟩
theorem Gi.leaveG {x0 : Int} {L : Nat} (h : Gi g on sv lv (fun k => k = x0) go L) (hL : L < g.m) : Gi (leaveGk g go.a go.b L) on sv lv (fun k => k = x0) go 0 := by
  refine ⟨h.q, fun j hj => ?_, h.lo, h.eb, h.ob, h.nd, h.m⟩
  show (if 1 ≤ j ∧ j < L + 1 then dropP (dropP (g.P j) (g.Q j) go.a) (g.Q j) go.b else g.P j) = Pf (VS on g.E _ go 0 j) _ _ (mkS g.s j)
  by_cases hj1 : 1 ≤ j ∧ j < L + 1
  · rw [if_pos hj1, h.p j hj, dropP_pf, dropP_pf, h.q j hj]
    refine pf_ext (fun u => ?_) (fun _ _ => ⟨rfl, rfl⟩) (fun _ _ => rfl)
    unfold VS
    rw [if_neg (by omega), if_neg (by omega)]
    constructor
    · rintro ⟨⟨k | k, k2⟩, k3⟩
      · exact .inl k
      · rcases k.2 with rfl | rfl
        · exact k2.elim (fun q => absurd rfl q) .inl
        · exact k3.elim (fun q => absurd rfl q) .inl
    · rintro (k | k)
      · refine ⟨⟨.inl k, ?_⟩, ?_⟩
        · by_cases e : u = go.a
          · subst e; exact .inr k
          · exact .inl e
        · by_cases e : u = go.b
          · subst e; exact .inr k
          · exact .inl e
      · omega
  · rw [if_neg hj1, h.p j hj]
    refine pf_ext (fun u => ?_) (fun _ _ => ⟨rfl, rfl⟩) (fun _ _ => rfl)
    unfold VS
    by_cases h0 : j = 0
    · rw [if_pos h0, if_pos h0]
    · rw [if_neg h0, if_neg h0]
      exact ⟨fun k => k.imp id (fun k => by omega), fun k => k.imp id (fun k => by omega)⟩
theorem Gi.goneE {x0 : Int} (h : Gi g on sv lv (fun k => k = x0) go gl) (ne : Nat) : Gi (g.setE (updQ g.E x0 none) ne) on sv lv (fun _ => False) go gl := by
  have key : ∀ f y, (¬ f = x0 ∧ g.E f = some y) ↔ (¬ False ∧ updQ g.E x0 none f = some y) := fun f y => by
    by_cases ef : f = x0
    · subst ef; rw [updQ_at]; simp
    · rw [updQ_ne ef]; simp [ef]
  have hQ : ∀ j : Int, Qd g.E (fun k => k = x0) j = Qd (updQ g.E x0 none) (fun _ => False) j := fun j => qd_ext fun f y _ _ => key f y
  refine ⟨fun j hj => (h.q j hj).trans (hQ j), fun j hj => ?_, fun v j f => ?_, fun f y hy => ?_, h.ob, h.nd, h.m⟩
  · refine (h.p j hj).trans ?_
    show _ = Pf (VS on (updQ g.E x0 none) _ go gl j) _ _ _
    rw [vs_ext (fun j _ => hQ j) j]; rfl
  · rw [show (g.setE (updQ g.E x0 none) ne).s.L (v, j) = g.s.L (v, j) from rfl, h.lo]
    constructor
    · rintro ⟨y, k1, k2, k3⟩
      obtain ⟨q1, q2⟩ := (key f y).1 ⟨k1, k2⟩
      exact ⟨y, q1, q2, k3⟩
    · rintro ⟨y, k1, k2, k3⟩
      obtain ⟨q1, q2⟩ := (key f y).2 ⟨k1, k2⟩
      exact ⟨y, q1, q2, k3⟩
  · have : updQ g.E x0 none f = some y := hy
    exact h.eb f y ((key f y).2 ⟨fun k => k, this⟩).2
theorem Gi.rest (h : Gi g on sv lv S go gl) (hgl : gl ≤ 0) (go' : Eg) : Gi g on sv lv S go' 0 := by
  refine ⟨h.q, fun j hj => ?_, h.lo, h.eb, h.ob, h.nd, h.m⟩
  rw [h.p j hj]
  refine pf_ext (fun u => ?_) (fun _ _ => ⟨rfl, rfl⟩) (fun _ _ => rfl)
  unfold VS
  by_cases h0 : j = 0
  · rw [if_pos h0, if_pos h0]
  · rw [if_neg h0, if_neg h0]
    exact ⟨fun k => k.imp id (fun k => by omega), fun k => k.imp id (fun k => by omega)⟩
end
section
variable {p : Gp} {w : World} {F : Nat → Prop} {B : Nat} {g : Gs} {K : Nat} {on : Int → Prop} {sv lv : Int → Int} {S : Int → Prop} {go : Eg} {gl : Int}
theorem Gi.vs (h : Gi g on sv lv S go gl) {i : Nat} (hi : i < g.m) {v : Int} : Vp (g.P i) v ↔ VS on g.E S go gl i v := by rw [h.p i hi, pf_vp]
def riseLooseG (g : Gs) (e : Int) (x : Eg) (i : Nat) : Gs := putG (riseG (takeG g e x i) e x) e x.up (i + 1)
theorem Gi.upLoose (h : Gi g on sv lv S go gl) {e : Int} {x : Eg} (hS : ¬ S e) (he : g.E e = some x) (ht : x.t = false) {i : Nat} (hi : i + 1 < g.m) (hl : x.l = i) (ha : VS on g.E S go gl i x.a ∧ VS on g.E S go gl i x.b) (hb : VS on g.E S go gl (i + 1) x.a ∧ VS on g.E S go gl (i + 1) x.b) :
    Gi (riseLooseG g e x i) on sv lv S go gl ∧ (e ∈ g.s.L (x.a, (i : Int)) ∧ e ∈ g.s.L (x.b, (i : Int))) ∧ (e ∉ (riseG (takeG g e x i) e x).s.L (x.a, ((i + 1 : Nat) : Int)) ∧ e ∉ (riseG (takeG g e x i) e x).s.L (x.b, ((i + 1 : Nat) : Int))) ∧ (Vp ((riseG (takeG g e x i) e x).P (i + 1)) x.a ∧ Vp ((riseG (takeG g e x i) e x).P (i + 1)) x.b) := by
  obtain ⟨t1, t2, t3⟩ := h.takeL hS he ht (by omega) hl ha.1 ha.2
  obtain ⟨a1, a2, a3, a4, a5, a6⟩ := h.eb e x he
  have r1 : Gi (riseG (takeG g e x i) e x) on sv lv (fun k => S k ∨ k = e) go gl := t1.skipE (.inr rfl) (x := x.up) ⟨a1, a2, a3, a4, by show 0 ≤ x.l + 1; omega, by show x.l + 1 < ((g.m : Nat) : Int); omega⟩ g.ne
  have hE : (riseG (takeG g e x i) e x).E e = some x.up := updQ_at _ _ _
  have hQ : ∀ j : Int, Qd g.E S j = Qd (riseG (takeG g e x i) e x).E S j := fun j => qd_ext fun f y h3 h4 => by
    show _ ↔ (¬ S f ∧ updQ g.E e (some x.up) f = some y)
    by_cases ef : f = e
    · subst ef
      rw [updQ_at, he]
      constructor
      · rintro ⟨_, k⟩; cases k; rw [ht] at h3; cases h3
      · rintro ⟨_, k⟩; cases k; rw [show x.up.t = x.t from rfl, ht] at h3; cases h3
    · rw [updQ_ne ef]
  have hV : VS on g.E S go gl (i + 1) = VS on (riseG (takeG g e x i) e x).E S go gl (i + 1) := vs_ext (fun j _ => hQ j) _
  obtain ⟨u1, u2, u3⟩ := r1.putL hS hE (show x.up.t = false from ht) (i := i + 1) hi (by show x.l + 1 = _; omega) (by rw [← hV]; exact hb.1) (by rw [← hV]; exact hb.2)
  refine ⟨u1, ⟨t2, t3⟩, ⟨u2, u3⟩, ?_⟩
  have hV2 : VS on (riseG (takeG g e x i) e x).E (fun k => S k ∨ k = e) go gl (i + 1) = VS on (riseG (takeG g e x i) e x).E S go gl (i + 1) := vs_ext (fun j _ => (qd_ext fun f y h3 h4 => ⟨fun ⟨k1, k2⟩ => ⟨fun k => k1 (.inl k), k2⟩, fun ⟨k1, k2⟩ => ⟨fun k => k.elim k1 (fun k => by subst k; rw [hE] at k2; cases k2; rw [show x.up.t = x.t from rfl, ht] at h3; cases h3), k2⟩⟩)) _
  rw [r1.vs (show i + 1 < g.m from hi), r1.vs (show i + 1 < g.m from hi), hV2, ← hV]
  exact hb
theorem riseLoose_any (h : Gm p w F B g K) (hK : K + 4 ≤ 30000) (h' : Gi g on sv lv S go gl) {e : Int} {x : Eg} (hS : ¬ S e) (he : g.E e = some x) (ht : x.t = false) {i : Nat} (hi : i + 1 < g.m) (hl : x.l = i) (ha : VS on g.E S go gl i x.a ∧ VS on g.E S go gl i x.b) (hb : VS on g.E S go gl (i + 1) x.a ∧ VS on g.E S go gl (i + 1) x.b) (hne : g.ne ≤ 1000000) :
    Calls Tryz.prog 60 #[.pointer (some ⟨B, 0, none⟩), .int .i64 e] w fun r w' => r = .returned (.tuple #[]) ∧ ∃ F', Gm p w' F' B (riseLooseG g e x i) (K + 2) ∧ Step F F' w w' := by
  obtain ⟨_, ⟨m1, m2⟩, ⟨n1, n2⟩, ⟨v1, v2⟩⟩ := h'.upLoose hS he ht hi hl ha hb
  obtain ⟨a1, a2, a3, a4, a5, a6⟩ := h'.eb e x he
  have hm := h'.m
  obtain ⟨vv0, ev0, hc0⟩ := h.cells
  have c2 := hc0.at (j := 2) rfl
  simp only [List.getElem_toArray, List.getElem_cons_zero, List.getElem_cons_succ] at c2
  have he64 := h'.e64 he
  have hlk := h.edgeL.1.look KE he64
  simp only [he, Option.map_some, Option.getD_some] at hlk
  have HT := mkH (takeLoose_any h (by omega) (i := i) (by omega) (by omega) hl he64 a1.1 (h'.b64 a3) (h'.b64 a4) a2 m1 m2 ((h'.vs (by omega)).2 ha.1) ((h'.vs (by omega)).2 ha.2))
  have HRi : Hid (∀ w1 F1, Gm p w1 F1 B (takeG g e x i) (K + 0) → Calls Tryz.prog 84 #[.pointer (some ⟨B, 0, none⟩), .int .i64 e] w1 fun r w' => r = .returned (egv x.up) ∧ Gm p w' F1 B (riseG (takeG g e x i) e x) (K + 0) ∧ Step F1 F1 w1 w') := fun w1 F1 k => rise_any k he64 he ⟨a5, by omega⟩ hne
  have HPu : Hid (∀ w1 F1, Gm p w1 F1 B (riseG (takeG g e x i) e x) (K + 0) → Calls Tryz.prog 49 #[.pointer (some ⟨B, 0, none⟩), .int .i64 e, egv x.up] w1 fun r w' => r = .returned (.tuple #[]) ∧ ∃ F', Gm p w' F' B (riseLooseG g e x i) (K + 0 + 2) ∧ Step F1 F' w1 w') := fun w1 F1 k =>
    putLoose_any k (by omega) (i := i + 1) hi (by omega) (x := x.up) (by show x.l + 1 = _; omega) he64 a1.1 (h'.b64 a3) (h'.b64 a4) a2 n1 n2 v1 v2
  have HB' := mkH hc0
  clear h h' hc0 he m1 m2 n1 n2 v1 v2
  go_enter Tryz.func60, Tryz.ntmps60
  go_wp2_with fail
  refine HT.out.mono ?_
  rintro r w1 ⟨rfl, F1, hG1, hS1⟩
  have HC1 := mkH (HRi.out w1 F1 hG1)
  have HS1 := mkH hS1
  clear hG1 hS1 HT HRi c2 hlk HB'
  go_wp2_with fail
  refine HC1.out.mono ?_
  rintro r w2 ⟨rfl, hG2, hS2⟩
  have HC2 := mkH (HPu.out w2 F1 hG2)
  have HS2 := mkH (HS1.out.trans hS2)
  clear hG2 hS2 HPu HS1 HC1
  go_wp2_with fail
  refine HC2.out.mono ?_
  rintro r w3 ⟨rfl, F3, hG3, hS3⟩
  have HF : Hid (∃ F', Gm p w3 F' B (riseLooseG g e x i) (K + 2) ∧ Step F F' w w3) := ⟨F3, hG3, HS2.out.trans hS3⟩
  clear hG3 hS3 HS2 HC2
  go_wp2
  go_returns
  exact ⟨rfl, HF.out⟩
theorem Gm.storeE (h : Gm p w F B g K) {e : Int} (he : B64 e) {x0 : Eg} (hx : g.E e = some x0) (hne : g.ne ≤ 1000000) (x : Eg) : ∃ w', (Instr.mapUpdate 49 (.map (some p.bM)) (.int .i64 e) (egv x)).run Tryz.prog w = .ok () w' ∧ Gm p w' F B (g.setE (updQ g.E e (some x)) g.ne) K ∧ w.grownBy w' (some p.bM) ∧ Step F F w w' := by
  obtain ⟨m1, m2, m3⟩ := h.edgeL
  obtain ⟨w', k1, k2, k3⟩ := m1.store KE (by unfold maxLen; omega) he (egv x)
  rw [map_upd, hx] at k2
  simp only [Option.map_some, Option.isSome_some, if_true] at k2
  obtain ⟨q1, q2⟩ := m3 w' _ _ k2 k3
  exact ⟨w', k1, q1, k3, q2⟩
theorem bind_any (h : Gm p w F B g K) {i : Nat} (hK : K + 3 * (i + 1) + 4 ≤ 30000) (h' : Gi g on sv lv S go gl) {e : Int} {x : Eg} (hS : ¬ S e) (he : g.E e = some x) (ht : x.t = false) (hi : i < g.m) (hl : x.l = i) (hv : ∀ j : Nat, j ≤ i → VS on g.E S go gl j x.a ∧ VS on g.E S go gl j x.b) (hj : ∀ j : Int, 0 ≤ j → j ≤ i → ¬ Jn (Te g.E S j) x.a x.b) (hne : g.ne ≤ 1000000) :
    Calls Tryz.prog 59 #[.pointer (some ⟨B, 0, none⟩), .int .i64 e] w fun r w' => r = .returned (.tuple #[]) ∧ ∃ F' g', Gm p w' F' B g' (K + 3 * (i + 1)) ∧ Step F F' w w' ∧ Gi g' on sv lv S go gl ∧ g' = bindGk ((takeG g e x i).setE (updQ g.E e (some ⟨x.a, x.b, x.l, true⟩)) g.ne) e ⟨x.a, x.b, x.l, true⟩ (i + 1) := by
  obtain ⟨t1, t2, t3⟩ := h'.takeL hS he ht hi hl (hv i (Nat.le_refl _)).1 (hv i (Nat.le_refl _)).2
  obtain ⟨a1, a2, a3, a4, a5, a6⟩ := h'.eb e x he
  have hm := h'.m
  obtain ⟨xa, xb, xl, xt⟩ := x
  simp only at a2 a3 a4 a5 a6 hl ht hv hj t2 t3
  subst ht
  have he64 := h'.e64 he
  obtain ⟨g2, hg2⟩ : ∃ g2, g2 = (takeG g e ⟨xa, xb, xl, false⟩ i).setE (updQ g.E e (some ⟨xa, xb, xl, true⟩)) g.ne := ⟨_, rfl⟩
  have G2 : Gi g2 on sv lv (fun k => S k ∨ k = e) go gl := by rw [hg2]; exact t1.skipE (.inr rfl) (x := ⟨xa, xb, xl, true⟩) ⟨a1, a2, a3, a4, a5, a6⟩ g.ne
  have hE2 : g2.E e = some ⟨xa, xb, xl, true⟩ := by rw [hg2]; exact updQ_at _ _ _
  have hQ : ∀ j : Int, Qd g.E S j = Qd g2.E (fun k => S k ∨ k = e) j := fun j => qd_ext fun f y h3 h4 => by
    rw [hg2]
    show _ ↔ (¬ (S f ∨ f = e) ∧ updQ g.E e (some _) f = some y)
    by_cases ef : f = e
    · subst ef
      rw [updQ_at, he]
      constructor
      · rintro ⟨_, k⟩; cases k; cases h3
      · rintro ⟨k, _⟩; exact absurd (.inr rfl) k
    · rw [updQ_ne ef]; simp [ef]
  have hV : ∀ j : Nat, VS on g2.E (fun k => S k ∨ k = e) go gl j = VS on g.E S go gl j := fun j => vs_ext (fun j _ => (hQ j).symm) j
  have GB := G2.bindG hS hE2 rfl (i := i) (by rw [hg2]; exact hi) hl (fun j hji => by rw [hV]; exact hv j hji)
  have hm2 : g2.m = g.m := by rw [hg2]; rfl
  have LK : ∀ k : Nat, k < i + 1 → ¬ Ep ((bindGk g2 e ⟨xa, xb, xl, true⟩ k).Q k) e ∧ ¬ Jq ((bindGk g2 e ⟨xa, xb, xl, true⟩ k).Q k) xa xb := fun k hk => by
    have e2 : (bindGk g2 e ⟨xa, xb, xl, true⟩ k).Q k = g2.Q k := if_neg (by omega)
    rw [e2, G2.q k (by rw [hm2]; omega)]
    refine ⟨fun q => ?_, fun q => ?_⟩
    · obtain ⟨y, k1, _⟩ := qd_ep.1 q
      exact k1 (.inr rfl)
    · rw [← hQ, qd_jq] at q
      exact hj k (by omega) (by omega) q
  obtain ⟨vv0, ev0, hc0⟩ := h.cells
  have c2 := hc0.at (j := 2) rfl
  simp only [List.getElem_toArray, List.getElem_cons_zero, List.getElem_cons_succ] at c2
  have hlk := h.edgeL.1.look KE he64
  simp only [he, Option.map_some, Option.getD_some] at hlk
  have hbw : Below w.heap.size w (w.alloc (.cells #[.int .i64 xa, .int .i64 xb, .int .i64 xl, .bool false] 63)) := (Below.refl _ _).alloc (Nat.le_refl _) _
  have hX : Bx (w.alloc (.cells #[.int .i64 xa, .int .i64 xb, .int .i64 xl, .bool false] 63)) F w.heap.size 63 #[.int .i64 xa, .int .i64 xb, .int .i64 xl, .bool false] := ⟨Blk.new w _ _, fun k => by have := h.lt _ k; omega⟩
  have HT := mkH (takeLoose_any (h.below hbw) (by omega) (i := i) (by omega) (by omega) (x := ⟨xa, xb, xl, false⟩) hl he64 a1.1 (h'.b64 a3) (h'.b64 a4) a2 t2 t3 ((h'.vs (by omega)).2 (hv i (Nat.le_refl _)).1) ((h'.vs (by omega)).2 (hv i (Nat.le_refl _)).2))
  have HS : Hid (Step F F w (w.alloc (.cells #[.int .i64 xa, .int .i64 xb, .int .i64 xl, .bool false] 63))) := Step.of_below hbw
  have HX := mkH hX
  have HLK := mkH LK
  have HGB := mkH GB
  have HE2 := mkH hE2
  have HG2 := mkH hg2
  have HE := mkH he
  have HI := mkH hi
  have HM2 := mkH hm2
  have HBs := mkH (show B64 xa ∧ B64 xb from ⟨h'.b64 a3, h'.b64 a4⟩)
  have hwr : IntKind.i64.wrap (xl + 1) = xl + 1 := by simp [IntKind.wrap, IntKind.bits, IntKind.signed]; omega
  have HL := mkH hl
  obtain ⟨M, hM⟩ : ∃ M, M = w.heap.size := ⟨_, rfl⟩
  rw [← hM] at HX
  unfold egv at hlk HT
  clear h h' hc0 he t1 t2 t3 hv hj G2 hE2 hQ hV GB LK hX hbw hg2 hi hm2 hl
  go_enter Tryz.func59, Tryz.ntmps59
  go_wp2_with fail
  refine HT.out.mono ?_
  rintro r w1 ⟨rfl, F1, hG1, hS1⟩
  rw [← hM]
  have hX1 := HX.out.step hS1
  have hS2 := HS.out.trans hS1
  obtain ⟨w2, hw2⟩ : ∃ w2, w2 = w1.setCell ⟨M, 3, none⟩ (.bool true) := ⟨_, rfl⟩
  have hb2 : ∀ k, k ≠ M → w2.heap[k]? = w1.heap[k]? := fun k hk => by rw [hw2]; exact Below.heap_setCell w1 ⟨M, 3, none⟩ _ k hk
  have hs2 : w2.heap.size = w1.heap.size := by rw [hw2]; exact size_setCell _ _ _
  have hG2 : Gm p w2 F1 B (takeG g e ⟨xa, xb, xl, false⟩ i) (K + 0) := hG1.kept (fun k hk => hb2 k (fun q => hX1.out (q ▸ hk))) (by omega)
  have hX2 : Bx w2 F1 M 63 #[.int .i64 xa, .int .i64 xb, .int .i64 xl, .bool true] := ⟨by rw [hw2]; simpa using hX1.blk.setAt 3 (.bool true), hX1.out⟩
  have hwM : w.heap.size ≤ M := by omega
  have hSw2 : Step F F1 w w2 := ⟨⟨by rw [hw2]; exact hS2.only.os, by rw [hw2]; exact hS2.only.tape, by rw [hw2]; exact hS2.only.output, by rw [hs2]; exact hS2.size, fun k hk hn => (hb2 k (by omega)).trans (hS2.only.block k hk hn)⟩, hS2.ext⟩
  have hd2 := (Below.refl w2.heap.size w2).drew
  obtain ⟨w3, hrun3, hG3, hg3, hS3⟩ := (hG2.below hd2).storeE he64 (x0 := ⟨xa, xb, xl, false⟩) HE.out hne ⟨xa, xb, xl, true⟩
  obtain ⟨vv1, ev1, hc1⟩ := hG2.cells
  have c2b := hc1.at (j := 2) rfl
  obtain ⟨vv3, ev3, hc3⟩ := hG3.cells
  have c2c := hc3.at (j := 2) rfl
  simp only [List.getElem_toArray, List.getElem_cons_zero, List.getElem_cons_succ] at c2b c2c
  have f3 := hX1.blk.frozen 3
  have u3 := hX1.blk.at (j := 3) rfl
  have e0 := hX2.blk.at (j := 0) rfl
  have e1 := hX2.blk.at (j := 1) rfl
  have e2 := hX2.blk.at (j := 2) rfl
  have e3 := hX2.blk.at (j := 3) rfl
  have hX3 := (hX2.below hd2).step hS3
  have k0 := hX3.blk.at (j := 0) rfl
  have k1 := hX3.blk.at (j := 1) rfl
  have k2 := hX3.blk.at (j := 2) rfl
  have k3 := hX3.blk.at (j := 3) rfl
  simp only [List.getElem_toArray, List.getElem_cons_zero, List.getElem_cons_succ] at u3 e0 e1 e2 e3 k0 k1 k2 k3
  unfold egv at hrun3
  have HG3 := mkH hG3
  have HX3 := mkH hX3
  have HS3 := mkH ((hSw2.trans (Step.of_below (F := F1) hd2)).trans hS3)
  clear hG1 hS1 hX1 hS2 hb2 hs2 hG2 hX2 hSw2 hd2 hG3 hg3 hS3 hc1 hc3 hX3 HT HX HS c2 hlk hwM
  subst hw2
  clear hM
  go_wp2_with fail
  go_region_held3 (fun w' => w'.cell? ⟨B, 2, none⟩ = some (.map (some p.bM)) ∧ w'.cell? ⟨M, 0, none⟩ = some (.int .i64 xa) ∧ w'.cell? ⟨M, 1, none⟩ = some (.int .i64 xb) ∧ w'.cell? ⟨M, 2, none⟩ = some (.int .i64 xl) ∧ w'.cell? ⟨M, 3, none⟩ = some (.bool true))
    (first | go_keep | (go_split_ands; refine ⟨?_, ?_, ?_, ?_, ?_⟩ <;> assumption))
    (fail)
  rename_i hHeld
  clear hHeld hrun3 c2b e0 e1 e2 e3 f3 u3
  go_wp2_with fail
  have hG3' : Gm p w3 F1 B g2 (K + 0) := by rw [HG2.out]; exact HG3.out
  have HG3' := mkH hG3'
  clear HG3 hG3'
  go_loopw [26] (fun vk wr => ∃ k : Nat, k ≤ i + 1 ∧ vk = .int .i64 k ∧ Hid (∃ F', Gm p wr F' B (bindGk g2 e ⟨xa, xb, xl, true⟩ k) (K + 3 * k) ∧ Step F F' w wr ∧ Bx wr F' M 63 #[.int .i64 xa, .int .i64 xb, .int .i64 xl, .bool true])) (fun vk _ => i + 1 - (intOf vk).toNat)
  case atStart => exact ⟨0, by omega, rfl, F1, by rw [bindGk_zero]; exact HG3'.out, HS3.out, HX3.out⟩
  case round =>
    clear k0 k1 k2 k3 c2c
    obtain ⟨k, hk, rfl, HR⟩ := hrel
    have hxl := HL.out
    by_cases hlt : k < i + 1
    · obtain ⟨F4, hG, hS4, hX⟩ := HR.out
      have k0 := hX.blk.at (j := 0) rfl
      have k1 := hX.blk.at (j := 1) rfl
      have k2 := hX.blk.at (j := 2) rfl
      have k3 := hX.blk.at (j := 3) rfl
      simp only [List.getElem_toArray, List.getElem_cons_zero, List.getElem_cons_succ] at k0 k1 k2 k3
      have hkm : k < (bindGk g2 e ⟨xa, xb, xl, true⟩ k).m := by show k < g2.m; have := HM2.out; have := HI.out; omega
      have HC := mkH (link_any hG (by omega) hkm (x := ⟨xa, xb, xl, true⟩) he64 a1.1 HBs.out.1 HBs.out.2 (HLK.out k hlt).1 (HLK.out k hlt).2)
      rw [bindGk_succ] at HC
      unfold egv at HC
      have HS4 := mkH hS4
      have HX4 := mkH hX
      have hlt' : (k : Int) < xl + 1 := by omega
      clear hG hS4 hX HR hxl
      go_wp2_with fail
      refine HC.out.mono ?_
      rintro r w5 ⟨rfl, F5, hG5, hS5⟩
      have HR2 : Hid (∃ F', Gm p w5 F' B (bindGk g2 e ⟨xa, xb, xl, true⟩ (k + 1)) (K + 3 * (k + 1)) ∧ Step F F' w w5 ∧ Bx w5 F' M 63 #[.int .i64 xa, .int .i64 xb, .int .i64 xl, .bool true]) := ⟨F5, hG5, HS4.out.trans hS5, HX4.out.step hS5⟩
      clear hG5 hS5 HC HS4 HX4 k0 k1 k2 k3
      go_wp2
      go_roundw
      case rel => exact ⟨k + 1, by omega, by go_num, HR2.out⟩
      case measure => simp [intOf]; omega
    · obtain rfl : k = i + 1 := by omega
      obtain ⟨F4, hG, hS4, hX⟩ := HR.out
      have hlt' : ¬ ((i : Int) + 1) < xl + 1 := by omega
      have HF : Hid (∃ F' g', Gm p wr F' B g' (K + 3 * (i + 1)) ∧ Step F F' w wr ∧ Gi g' on sv lv S go gl ∧ g' = bindGk ((takeG g e ⟨xa, xb, xl, false⟩ i).setE (updQ g.E e (some ⟨xa, xb, xl, true⟩)) g.ne) e ⟨xa, xb, xl, true⟩ (i + 1)) := ⟨F4, _, hG, hS4, HGB.out, by rw [HG2.out]⟩
      clear HR hG hS4 hX hxl
      go_wp2
      go_returns
      exact ⟨rfl, HF.out⟩
end
structure Ck (g0 g : Gs) : Prop where
  n : g.n = g0.n
  m : g.m = g0.m
  ne : g.ne = g0.ne
  vl : g.vl = g0.vl
  vb : g.vb = g0.vb
  el : g.el = g0.el
  eb : g.eb = g0.eb
theorem Ck.refl (g : Gs) : Ck g g := ⟨rfl, rfl, rfl, rfl, rfl, rfl, rfl⟩
theorem Ck.trans {a b c : Gs} (h : Ck a b) (k : Ck b c) : Ck a c := ⟨k.n.trans h.n, k.m.trans h.m, k.ne.trans h.ne, k.vl.trans h.vl, k.vb.trans h.vb, k.el.trans h.el, k.eb.trans h.eb⟩
def Ev (E0 E : EM) : Prop := ∀ e, (E0 e = none ∧ E e = none) ∨ ∃ x0 x, E0 e = some x0 ∧ E e = some x ∧ x.a = x0.a ∧ x.b = x0.b ∧ x0.l ≤ x.l ∧ (x0.t = true → x.t = true)
theorem Ev.refl (E : EM) : Ev E E := fun e => by
  cases h : E e with
  | none => exact .inl ⟨rfl, rfl⟩
  | some x => exact .inr ⟨x, x, rfl, rfl, rfl, rfl, Int.le_refl _, id⟩
theorem Ev.trans {A B C : EM} (h : Ev A B) (k : Ev B C) : Ev A C := fun e => by
  rcases h e with ⟨h1, h2⟩ | ⟨x, y, h1, h2, h3, h4, h5, h6⟩
  · rcases k e with ⟨k1, k2⟩ | ⟨x', y', k1, k2, _⟩
    · exact .inl ⟨h1, k2⟩
    · rw [h2] at k1; cases k1
  · rcases k e with ⟨k1, k2⟩ | ⟨x', y', k1, k2, k3, k4, k5, k6⟩
    · rw [h2] at k1; cases k1
    · rw [h2] at k1; cases k1
      exact .inr ⟨x, y', h1, k2, k3.trans h3, k4.trans h4, by omega, fun q => k6 (h6 q)⟩
theorem Ev.set (E : EM) {e : Int} {x y : Eg} (hx : E e = some x) (ha : y.a = x.a) (hb : y.b = x.b) (hl : x.l ≤ y.l) (ht : x.t = true → y.t = true) : Ev E (updQ E e (some y)) := fun f => by
  by_cases ef : f = e
  · subst ef; exact .inr ⟨x, y, hx, updQ_at _ _ _, ha, hb, hl, ht⟩
  · rw [updQ_ne ef]; exact Ev.refl E f
def potL (E : EM) (m : Nat) : List Int → Nat
  | [] => 0
  | e :: D => (match E e with | some x => m - x.l.toNat | none => 0) + potL E m D
theorem potL_congr {E E' : EM} {m : Nat} {D : List Int} (h : ∀ e ∈ D, (match E e with | some x => m - x.l.toNat | none => 0) = (match E' e with | some x => m - x.l.toNat | none => 0)) : potL E m D = potL E' m D := by
  induction D with
  | nil => rfl
  | cons a D ih => show _ + _ = _ + _; rw [h a (by simp), ih (fun e he => h e (by simp [he]))]
theorem potL_up {E : EM} {m : Nat} {e : Int} {x y : Eg} (hx : E e = some x) (hy : y.l = x.l + 1) (h0 : 0 ≤ x.l) (hm : x.l + 1 ≤ m) : ∀ {D : List Int}, D.Nodup → e ∈ D → potL (updQ E e (some y)) m D + 1 = potL E m D := by
  intro D
  induction D with
  | nil => intro _ h; cases h
  | cons a D ih =>
    intro hD he
    obtain ⟨h1, h2⟩ := List.nodup_cons.1 hD
    by_cases ea : a = e
    · subst ea
      have : potL (updQ E a (some y)) m D = potL E m D := potL_congr fun f hf => by rw [updQ_ne (fun k : f = a => h1 (by rw [← k]; exact hf))]
      show (match updQ E a (some y) a with | some x => m - x.l.toNat | none => 0) + _ + 1 = (match E a with | some x => m - x.l.toNat | none => 0) + _
      rw [updQ_at, this, hx]
      simp only
      omega
    · have hm' : e ∈ D := by rcases List.mem_cons.1 he with k | k; exact absurd k.symm ea; exact k
      have := ih h2 hm'
      show (match updQ E e (some y) a with | some x => m - x.l.toNat | none => 0) + _ + 1 = (match E a with | some x => m - x.l.toNat | none => 0) + _
      rw [updQ_ne ea]
      omega
section
variable {p : Gp} {w : World} {F : Nat → Prop} {B : Nat} {g : Gs} {K : Nat} {on : Int → Prop} {sv lv : Int → Int} {S : Int → Prop} {go : Eg} {gl : Int} {n : Int}
theorem Gi.noLoose (h : Gi g on sv lv S go gl) {m : Nat} {i : Nat} (hR : Rp g.E S n m go i) {j : Nat} (hj : j < g.m) (hij : i < j) {v : Int} (hv : ¬ VS on g.E S go gl j v) : mkS g.s j v = 0 := by
  unfold mkS
  split
  · rfl
  · rename_i hne
    exfalso
    obtain ⟨e, he⟩ := List.exists_mem_of_ne_nil _ hne
    obtain ⟨x, k1, k2, k3, k4, k5⟩ := (h.lo _ _ _).1 he
    have hj' : Jn (Te g.E S j) x.a x.b := by
      rcases hR.b e x k1 k2 k3 with q | ⟨q, _⟩
      · rw [k4] at q; exact q
      · omega
    obtain ⟨v1, v2⟩ := h.vp_of_jn hj hj' (h.eb e x k2).2.1
    rw [h.vs hj] at v1 v2
    rcases k5 with rfl | rfl
    · exact hv v1
    · exact hv v2
structure Sg (on : Int → Prop) (sv lv : Int → Int) (S : Int → Prop) (go : Eg) (gl n : Int) (D : List Int) (C i : Nat) (v : Int) (g0 g : Gs) (K : Nat) : Prop where
  gi : Gi g on sv lv S go gl
  rp : Rp g.E S n g.m go i
  hf : Half g.E S n i v
  ck : Ck g0 g
  ev : Ev g0.E g.E
  pk : K + 3 * potL g.E g.m D ≤ C
  dd : ∀ e x, g.E e = some x → e ∈ D
theorem Sg.upTree {D : List Int} (hD : D.Nodup) {C i : Nat} {v : Int} {g0 : Gs} (h : Sg on sv lv S go gl n D C i v g0 g K) (hi : i < g.m) (hn : n < 2 ^ g.m) {y : Ex} (hy : g.Q i y) (hj : Jq (g.Q i) v y.a) (hm1 : y.m = 1) :
    ∃ x, g.E y.e = some x ∧ 0 ≤ x.l ∧ x.l = i ∧ i + 1 < g.m ∧ ¬ Ep (g.Q (i + 1)) y.e ∧ ¬ Jq (g.Q (i + 1)) x.a x.b ∧ on x.a ∧ on x.b ∧ 1 ≤ y.e ∧ Sg on sv lv S go gl n D C i v g0 (riseTreeG g y.e x i) (K + 3) ∧ potL (riseTreeG g y.e x i).E g.m D < potL g.E g.m D := by
  have hyQ := hy
  rw [h.gi.q i hi] at hy hj
  obtain ⟨x, k1, k2, k3, k4, k5⟩ := hy
  have hl : x.l = i := by
    by_cases e : x.l = i
    · exact e
    · rw [if_neg e] at k5; rw [k5] at hm1; simp at hm1
  have ya : y.a = x.a := by rw [k5]
  rw [qd_jq, ya] at hj
  obtain ⟨a1, a2, a3, a4, a5, a6⟩ := h.gi.eb y.e x k2
  have edge : Jn (Te g.E S i) x.a x.b := Jn.one ⟨y.e, x, k1, k2, k3, by omega, rfl, rfl⟩
  have room := h.hf.room hn hj (hj.trans edge) a2
  obtain ⟨r1, r2⟩ := h.rp.upTree h.hf k2 k3 k1 hl hj
  have hz : ∀ u, ¬ VS on g.E S go gl (i + 1) u → mkS g.s ((i + 1 : Nat) : Int) u = 0 := fun u hu => h.gi.noLoose h.rp room (by omega) hu
  have G := h.gi.upTree k1 k2 k3 room hl hz
  have hp := potL_up (m := g.m) (y := x.up) k2 rfl a5 (by omega) hD (h.dd _ _ k2)
  refine ⟨x, k2, a5, hl, room, fun q => ?_, fun q => ?_, a3, a4, a1.1, ⟨G, r1, r2, h.ck.trans ⟨rfl, rfl, rfl, rfl, rfl, rfl, rfl⟩, h.ev.trans (Ev.set g.E k2 rfl rfl (by show x.l ≤ x.l + 1; omega) (fun q => q)), ?_, fun e x' he => ?_⟩, ?_⟩
  · rw [h.gi.q _ room] at q
    obtain ⟨x', q1, q2, q3, q4⟩ := qd_ep.1 q
    rw [k2] at q2; cases q2; omega
  · rw [h.gi.q _ room, qd_jq] at q
    refine h.rp.acy y.e x k1 k2 k3 (q.sub fun a b ⟨f, z, f1, f2, f3, f4, f5⟩ => ⟨f, z, fun k => k.elim f1 (fun k => ?_), f2, f3, h.rp.l0 f z f2, f5⟩)
    subst k
    rw [k2] at f2; cases f2; omega
  · have := h.pk
    show K + 3 + 3 * potL (updQ g.E y.e (some x.up)) g.m D ≤ C
    omega
  · have he' : updQ g.E y.e (some x.up) e = some x' := he
    by_cases ee : e = y.e
    · subst ee; exact h.dd _ _ k2
    · rw [updQ_ne ee] at he'; exact h.dd _ _ he'
  · show potL (updQ g.E y.e (some x.up)) g.m D < _
    omega
theorem riseTree_any {D : List Int} (hD : D.Nodup) {C i : Nat} {v : Int} {g0 : Gs} (h : Gm p w F B g K) (hs : Sg on sv lv S go gl n D C i v g0 g K) (hC : C + 10 ≤ 30000) (hi : i < g.m) (hn : n < 2 ^ g.m) (hv : VS on g.E S go gl i v) (hv64 : B64 v) (hne : g.ne ≤ 1000000) :
    Calls Tryz.prog 55 #[.pointer (some ⟨B, 0, none⟩), .int .i64 v, .int .i64 i] w fun r w' => r = .returned (.tuple #[]) ∧ ∃ F' g' K', Gm p w' F' B g' K' ∧ Step F F' w w' ∧ Sg on sv lv S go gl n D C i v g0 g' K' ∧ NoTree g'.E S i v := by
  obtain ⟨vv, ev, hc⟩ := h.cells
  have c1 := hc.at (j := 1) rfl
  simp only [List.getElem_toArray, List.getElem_cons_zero, List.getElem_cons_succ] at c1
  obtain ⟨q, cap, e1, cq, hql, hcap1, hcap2⟩ := h.ptr hi
  rw [e1] at c1
  have hi' : (i : Int) < (g.m : Int) := by omega
  have hm' : (g.m : Int) ≤ 9223372036854775807 := by unfold maxLen at hcap2; omega
  have FE : Hid (∀ w1 F1 g1 K1, Gm p w1 F1 B g1 K1 → Sg on sv lv S go gl n D C i v g0 g1 K1 → g1.m = g.m → VS on g1.E S go gl i v → Calls Tryz.prog 83 #[.pointer (some ⟨p.Bf i, 0, none⟩), .int .i64 v, .int .u8 1] w1 fun e w' => (∃ k ok, e = .returned (.tuple #[.int .i64 k, .bool ok]) ∧ FoundE (g1.Q i) v k ok) ∧ Below w1.heap.size w1 w') := fun w1 F1 g1 K1 k1 k2 k3 k4 =>
    gfindE_any k1 (by have := k2.pk; omega) (by rw [k3]; exact hi) v hv64 ((k2.gi.vs (by rw [k3]; exact hi)).2 k4) (k2.gi.em01 (by rw [k3]; exact hi))
  have HF0 := mkH (FE.out w F g K h hs rfl hv)
  have HG := mkH h
  have HSg := mkH hs
  have HV := mkH hv
  have HI := mkH hi
  have HN := mkH hn
  clear h hs hc e1 hv hi hn
  go_enter Tryz.func55, Tryz.ntmps55
  go_wp2_with fail
  refine HF0.out.mono ?_
  rintro r w1 ⟨⟨k0, ok0, rfl, hfd⟩, hb1⟩
  have HG1 := mkH (HG.out.below hb1)
  have HS1 : Hid (Step F F w w1) := Step.of_below hb1
  have HFd := mkH hfd
  clear hb1 hfd HF0 HG c1 cq
  go_wp2_with fail
  go_loopg [7, 8] (potL g.E g.m D) (fun qq vk vok wr => ∃ (k : Int) (ok : Bool), vk = .int .i64 k ∧ vok = .bool ok ∧ Hid (∃ F' g' K', potL g'.E g'.m D = qq ∧ Gm p wr F' B g' K' ∧ Step F F' w wr ∧ Sg on sv lv S go gl n D C i v g0 g' K' ∧ g'.m = g.m ∧ g'.ne = g.ne ∧ VS on g'.E S go gl i v ∧ FoundE (g'.Q i) v k ok))
  case atStart => exact ⟨k0, ok0, rfl, rfl, F, g, K, rfl, HG1.out, HS1.out, HSg.out, rfl, rfl, HV.out, HFd.out⟩
  case round =>
    obtain ⟨k, ok, rfl, rfl, HR⟩ := hrel
    obtain ⟨F2, g2, K2, hq2, hG2, hS2, hSg2, hm2, hne2, hV2, hFd2⟩ := HR.out
    cases ok with
    | false =>
      have HF : Hid (∃ F' g' K', Gm p wr F' B g' K' ∧ Step F F' w wr ∧ Sg on sv lv S go gl n D C i v g0 g' K' ∧ NoTree g'.E S i v) := ⟨F2, g2, K2, hG2, hS2, hSg2, fun e x f1 f2 f3 f4 f5 => by
        have := hFd2.2 rfl ⟨e, x.a, x.b, 1⟩ (by rw [hSg2.gi.q i (by rw [hm2]; exact HI.out)]; exact ⟨x, f1, f2, f3, by omega, by rw [if_pos f4]⟩) (by rw [hSg2.gi.q i (by rw [hm2]; exact HI.out), qd_jq]; exact f5)
        simp at this⟩
      clear HR hG2 hS2 hSg2 hV2 hFd2 hm2 hne2
      go_wp2
      go_returns
      exact ⟨rfl, HF.out⟩
    | true =>
      obtain ⟨y, hy1, hy2, hy3, rfl⟩ := hFd2.1 rfl
      obtain ⟨x, x1, x2, x3, x4, x5, x6, x7, x8, x9, x10, x11⟩ := hSg2.upTree hD (by rw [hm2]; exact HI.out) (by rw [hm2]; exact HN.out) hy1 hy2 hy3
      have hK2 := hSg2.pk
      have he64 := hSg2.gi.e64 x1
      have HM := mkH (gemark_any hG2 (by omega) (by rw [hm2]; exact HI.out) y.e 0 he64 (by omega) (by omega) ⟨y, hy1, rfl⟩)
      have HRi : Hid (∀ w3 F3, Gm p w3 F3 B (g2.setF i (g2.P i) (emarkQ (g2.Q i) y.e 0)) K2 → Calls Tryz.prog 84 #[.pointer (some ⟨B, 0, none⟩), .int .i64 y.e] w3 fun r w' => r = .returned (egv x.up) ∧ Gm p w' F3 B (riseG (g2.setF i (g2.P i) (emarkQ (g2.Q i) y.e 0)) y.e x) K2 ∧ Step F3 F3 w3 w') := fun w3 F3 kk => rise_any kk he64 x1 ⟨x2, by have := hSg2.gi.m; omega⟩ (by show g2.ne ≤ _; rw [hne2]; exact hne)
      have HLi : Hid (∀ w3 F3, Gm p w3 F3 B (riseG (g2.setF i (g2.P i) (emarkQ (g2.Q i) y.e 0)) y.e x) K2 → Calls Tryz.prog 48 #[.pointer (some ⟨B, 0, none⟩), .int .i64 y.e, egv x.up, .int .i64 ((i : Int) + 1)] w3 fun r w' => r = .returned (.tuple #[]) ∧ ∃ F', Gm p w' F' B (riseTreeG g2 y.e x i) (K2 + 3) ∧ Step F3 F' w3 w') := fun w3 F3 kk => by
        have eq1 : (riseG (g2.setF i (g2.P i) (emarkQ (g2.Q i) y.e 0)) y.e x).Q (i + 1) = g2.Q (i + 1) := updF_ne (by omega)
        exact link_any kk (by omega) (i := i + 1) x4 (x := x.up) he64 x9 (hSg2.gi.b64 x7) (hSg2.gi.b64 x8) (by rw [eq1]; exact x5) (by rw [eq1]; exact x6)
      have HV3 : Hid (VS on (riseTreeG g2 y.e x i).E S go gl i v) := by
        have hV2' := hV2
        show VS on (updQ g2.E y.e (some x.up)) S go gl i v
        unfold VS at hV2' ⊢
        by_cases h0 : i = 0
        · rw [if_pos h0] at hV2' ⊢; exact hV2'
        · rw [if_neg h0] at hV2' ⊢
          refine hV2'.imp (fun hh => ?_) id
          obtain ⟨f, z, z1, z2, z3, z4, z5⟩ := qd_hase.1 hh
          refine qd_hase.2 ?_
          by_cases ef : f = y.e
          · subst ef
            rw [x1] at z2; cases z2
            exact ⟨y.e, x.up, z1, updQ_at _ _ _, z3, by show (i : Int) ≤ x.l + 1; omega, z5⟩
          · exact ⟨f, z, z1, by rw [updQ_ne ef]; exact z2, z3, z4, z5⟩
      have HFn : Hid (∀ w3 F3, Gm p w3 F3 B (riseTreeG g2 y.e x i) (K2 + 3) → Calls Tryz.prog 83 #[.pointer (some ⟨p.Bf i, 0, none⟩), .int .i64 v, .int .u8 1] w3 fun e w' => (∃ k ok, e = .returned (.tuple #[.int .i64 k, .bool ok]) ∧ FoundE ((riseTreeG g2 y.e x i).Q i) v k ok) ∧ Below w3.heap.size w3 w') := fun w3 F3 kk => FE.out w3 F3 _ _ kk x10 hm2 HV3.out
      have HQ : Hid (potL (riseTreeG g2 y.e x i).E (riseTreeG g2 y.e x i).m D < gk ∧ (riseTreeG g2 y.e x i).m = g.m ∧ (riseTreeG g2 y.e x i).ne = g.ne ∧ Sg on sv lv S go gl n D C i v g0 (riseTreeG g2 y.e x i) (K2 + 3)) := ⟨by rw [← hq2]; exact x11, hm2, hne2, x10⟩
      have HS2 := mkH hS2
      obtain ⟨xa, xb, xl, xt⟩ := x
      obtain rfl : xl = i := x3
      generalize y.e = ye at *
      unfold Eg.up egv at HRi HLi
      clear HR hG2 hS2 hSg2 hV2 hFd2 hm2 hne2 hq2 hK2 x1 x2 x4 x5 x6 x7 x8 x9 x10 x11 hy1 hy2 hy3
      go_wp2_with fail
      refine HM.out.mono ?_
      rintro r w3 ⟨⟨r3, rfl⟩, F3, hG3, hS3⟩
      have HC3 := mkH (HRi.out w3 F3 hG3)
      have HS3 := mkH (HS2.out.trans hS3)
      clear hG3 hS3 HM HRi HS2
      go_wp2_with fail
      refine HC3.out.mono ?_
      rintro r w4 ⟨rfl, hG4, hS4⟩
      have hb4 : Below w4.heap.size w4 (w4.alloc (.cells #[.int .i64 xa, .int .i64 xb, .int .i64 ((i : Int) + 1), .bool xt] 63)) := (Below.refl _ _).alloc (Nat.le_refl _) _
      have HC4 := mkH (HLi.out _ F3 (hG4.below hb4))
      have HS4 := mkH ((HS3.out.trans hS4).trans (Step.of_below (F := F3) hb4))
      clear hG4 hS4 hb4 HC3 HS3 HLi
      go_wp2_with fail
      refine HC4.out.mono ?_
      rintro r w5 ⟨rfl, F5, hG5, hS5⟩
      have HC5 := mkH (HFn.out w5 F5 hG5)
      have HG5 := mkH hG5
      have HS5 := mkH (HS4.out.trans hS5)
      clear hG5 hS5 HC4 HS4 HFn
      go_wp2_with fail
      refine HC5.out.mono ?_
      rintro r w6 ⟨⟨k6, ok6, rfl, hfd6⟩, hb6⟩
      have HR6 : Hid (∃ F' g' K', potL g'.E g'.m D = potL (riseTreeG g2 ye ⟨xa, xb, i, xt⟩ i).E (riseTreeG g2 ye ⟨xa, xb, i, xt⟩ i).m D ∧ Gm p w6 F' B g' K' ∧ Step F F' w w6 ∧ Sg on sv lv S go gl n D C i v g0 g' K' ∧ g'.m = g.m ∧ g'.ne = g.ne ∧ VS on g'.E S go gl i v ∧ FoundE (g'.Q i) v k6 ok6) := ⟨F5, _, K2 + 3, rfl, HG5.out.below hb6, HS5.out.trans (Step.of_below hb6), HQ.out.2.2.2, HQ.out.2.1, HQ.out.2.2.1, HV3.out, hfd6⟩
      clear hb6 hfd6 HC5 HG5 HS5
      go_wp2
      go_roundg (potL (riseTreeG g2 ye ⟨xa, xb, i, xt⟩ i).E (riseTreeG g2 ye ⟨xa, xb, i, xt⟩ i).m D)
      case rel => exact ⟨k6, ok6, rfl, rfl, HR6.out⟩
      case measure => exact HQ.out.1
end
section
variable {g : Gs} {K : Nat} {on : Int → Prop} {sv lv : Int → Int} {S : Int → Prop} {go : Eg} {gl : Int} {n : Int}
theorem rej_arith {K p0 p1 C : Nat} (h : K + 3 * p0 ≤ C) (k : p1 + 1 = p0) : K + 2 + 3 * p1 ≤ C := by omega
theorem putG1_ck (g : Gs) (n v : Int) (i : Nat) : Ck g (putG1 g n v i) ∧ (putG1 g n v i).E = g.E := ⟨⟨rfl, rfl, rfl, rfl, rfl, rfl, rfl⟩, rfl⟩
theorem takeG1_ck (g : Gs) (n v : Int) (i : Nat) : Ck g (takeG1 g n v i) ∧ (takeG1 g n v i).E = g.E := ⟨⟨rfl, rfl, rfl, rfl, rfl, rfl, rfl⟩, rfl⟩
theorem riseG_ck (g : Gs) (e : Int) (x : Eg) : Ck g (riseG g e x) ∧ (riseG g e x).E = updQ g.E e (some x.up) := ⟨⟨rfl, rfl, rfl, rfl, rfl, rfl, rfl⟩, rfl⟩
theorem putG_ck (g : Gs) (n : Int) (x : Eg) (i : Nat) : Ck g (putG g n x i) ∧ (putG g n x i).E = g.E := ⟨(putG1_ck _ _ _ _).1.trans (putG1_ck _ _ _ _).1, (putG1_ck _ _ _ _).2.trans (putG1_ck _ _ _ _).2⟩
theorem takeG_ck (g : Gs) (n : Int) (x : Eg) (i : Nat) : Ck g (takeG g n x i) ∧ (takeG g n x i).E = g.E := ⟨(takeG1_ck _ _ _ _).1.trans (takeG1_ck _ _ _ _).1, (takeG1_ck _ _ _ _).2.trans (takeG1_ck _ _ _ _).2⟩
theorem riseLooseG_ck (g : Gs) (e : Int) (x : Eg) (i : Nat) : Ck g (riseLooseG g e x i) := ((takeG_ck g e x i).1.trans (riseG_ck (takeG g e x i) e x).1).trans (putG_ck (riseG (takeG g e x i) e x) e x.up (i + 1)).1
theorem riseLooseG_E (g : Gs) (e : Int) (x : Eg) (i : Nat) : (riseLooseG g e x i).E = updQ g.E e (some x.up) := by
  unfold riseLooseG
  rw [(putG_ck _ _ _ _).2, (riseG_ck _ _ _).2, (takeG_ck _ _ _ _).2]
theorem riseLooseG_m (g : Gs) (e : Int) (x : Eg) (i : Nat) : (riseLooseG g e x i).m = g.m := (riseLooseG_ck g e x i).m
theorem Sg.upLoose {D : List Int} (hD : D.Nodup) {C i : Nat} {v : Int} {g0 : Gs} (h : Sg on sv lv S go gl n D C i v g0 g K) (hN : NoTree g.E S i v) (hi : i < g.m) (hn : n < 2 ^ g.m) {e u : Int} (he : e ∈ g.s.L (u, (i : Int))) (hu : Jn (Te g.E S i) v u) :
    ∃ x, ¬ S e ∧ g.E e = some x ∧ x.t = false ∧ x.l = i ∧ x.a ≠ x.b ∧ on x.a ∧ on x.b ∧ 1 ≤ e ∧ (x.a = u ∨ x.b = u) ∧ (Jn (Te g.E S i) x.a x.b → i + 1 < g.m ∧ (VS on g.E S go gl i x.a ∧ VS on g.E S go gl i x.b) ∧ (VS on g.E S go gl (i + 1) x.a ∧ VS on g.E S go gl (i + 1) x.b) ∧
      Sg on sv lv S go gl n D C i v g0 (riseLooseG g e x i) (K + 2) ∧ NoTree (riseLooseG g e x i).E S i v ∧ potL (riseLooseG g e x i).E g.m D < potL g.E g.m D ∧ (∀ w, Jn (Te g.E S i) v w → Jn (Te (riseLooseG g e x i).E S i) v w) ∧ ∀ f, f ∈ (riseLooseG g e x i).s.L (u, (i : Int)) ↔ f ∈ g.s.L (u, (i : Int)) ∧ f ≠ e) := by
  obtain ⟨x, hS, k2, k3, k4, k5⟩ := (h.gi.lo _ _ _).1 he
  obtain ⟨a1, a2, a3, a4, a5, a6⟩ := h.gi.eb e x k2
  refine ⟨x, hS, k2, k3, k4, a2, a3, a4, a1.1, k5, fun hj => ?_⟩
  have ja : Jn (Te g.E S i) v x.a := by
    rcases k5 with k | k
    · rw [k]; exact hu
    · rw [← k] at hu; exact hu.trans hj.symm
  have jb : Jn (Te g.E S i) v x.b := ja.trans hj
  have room := h.hf.room hn ja jb a2
  have va := h.gi.vp_of_jn hi hj a2
  rw [h.gi.vs hi, h.gi.vs hi] at va
  have hj1 : Jn (Te g.E S ((i + 1 : Nat) : Int)) x.a x.b := (hN.rise ja).symm.trans (hN.rise jb)
  have vb := h.gi.vp_of_jn room hj1 a2
  rw [h.gi.vs room, h.gi.vs room] at vb
  obtain ⟨r1, r2, r3⟩ := h.rp.upLoose h.hf hN k2 k3 hS k4 ja jb
  obtain ⟨G, _⟩ := h.gi.upLoose hS k2 k3 room k4 va vb
  have hck : Ck g (riseLooseG g e x i) := riseLooseG_ck g e x i
  have hp := potL_up (m := g.m) (y := x.up) k2 rfl a5 (by omega) hD (h.dd _ _ k2)
  refine ⟨room, va, vb, ⟨G, by rw [riseLooseG_E, riseLooseG_m]; exact r1, by rw [riseLooseG_E]; exact r2, h.ck.trans hck, by rw [riseLooseG_E]; exact h.ev.trans (Ev.set g.E k2 rfl rfl (by show x.l ≤ x.l + 1; omega) (fun q => q)), ?_, fun e' x' he' => ?_⟩, by rw [riseLooseG_E]; exact r3, ?_, fun w k => ?_, fun f => ?_⟩
  · rw [riseLooseG_E, riseLooseG_m]
    exact rej_arith h.pk hp
  · have he2 : updQ g.E e (some x.up) e' = some x' := by rw [riseLooseG_E] at he'; exact he'
    by_cases ee : e' = e
    · subst ee; exact h.dd _ _ k2
    · rw [updQ_ne ee] at he2; exact h.dd _ _ he2
  · rw [riseLooseG_E]
    exact Nat.lt_of_succ_le (Nat.le_of_eq hp)
  · rw [riseLooseG_E]; exact k.sub fun a b q => (te_loose k2 k3 S i a b).2 q
  · have e1 : (riseLooseG g e x i).s.L (u, (i : Int)) = (takeG g e x i).s.L (u, (i : Int)) := by
      unfold riseLooseG
      rw [putG_L _ _ _ _ (show x.up.a ≠ x.up.b from a2), if_neg (by simp; omega)]
      rfl
    have e2 : (takeG g e x i).s.L (u, (i : Int)) = delL (g.s.L (u, (i : Int))) e := by
      rw [takeG_L _ _ _ _ a2, if_pos ⟨rfl, k5.imp Eq.symm Eq.symm⟩]
    rw [e1, e2]
    exact delL_mem he (h.gi.nd _)
end
section
variable {g : Gs} {K : Nat} {on : Int → Prop} {sv lv : Int → Int} {S : Int → Prop} {go : Eg} {gl : Int} {n : Int} {D : List Int} {C : Nat} {g0 : Gs}
structure So (on : Int → Prop) (sv lv : Int → Int) (S : Int → Prop) (go : Eg) (gl n : Int) (D : List Int) (C : Nat) (i : Int) (g0 g : Gs) (K : Nat) : Prop where
  gi : Gi g on sv lv S go gl
  rp : Rp g.E S n g.m go i
  ck : Ck g0 g
  ev : Ev g0.E g.E
  pk : K + 3 * potL g.E g.m D ≤ C
  dd : ∀ e x, g.E e = some x → e ∈ D
structure Sf (on : Int → Prop) (sv lv : Int → Int) (S : Int → Prop) (go : Eg) (gl n : Int) (D : List Int) (C : Nat) (g0 g : Gs) (K : Nat) : Prop where
  gi : Gi g on sv lv S go gl
  acy : Acy g.E S
  sz : Sz g.E S n g.m
  b : Bb g.E S
  ck : Ck g0 g
  ev : Ev g0.E g.E
  pk : K + 3 * potL g.E g.m D ≤ C + 69
theorem vs_go {E : EM} {i : Nat} (hgl : (i : Int) ≤ gl) (hon : on go.a ∧ on go.b) {u : Int} (hu : u = go.a ∨ u = go.b) : VS on E S go gl i u := by
  unfold VS
  split
  · rcases hu with rfl | rfl
    · exact hon.1
    · exact hon.2
  · exact .inr ⟨hgl, hu⟩
theorem So.done (h : So on sv lv S go gl n D C (-1) g0 g K) : Sf on sv lv S go gl n D C g0 g K := ⟨h.gi, h.rp.acy, h.rp.sz, h.rp.done, h.ck, h.ev, by have := h.pk; omega⟩
theorem So.half {i : Nat} (h : So on sv lv S go gl n D C i g0 g K) (hi : i < g.m) (hgl : (i : Int) ≤ gl) (hon : on go.a ∧ on go.b) {v : Int} (hv : LesserV (g.P i) (g.Q i) go v) :
    Sg on sv lv S go gl n D C i v g0 g K ∧ VS on g.E S go gl i v ∧ (v = go.a ∨ v = go.b) := by
  have vs : ∀ u, u = go.a ∨ u = go.b → VS on g.E S go gl i u := fun u hu => vs_go hgl hon hu
  obtain ⟨na, nb, s1, s2, hv⟩ := hv
  obtain ⟨Ta, ta, ea⟩ := s1.2 ((h.gi.vs hi).2 (vs _ (.inl rfl)))
  obtain ⟨Tb, tb, eb⟩ := s2.2 ((h.gi.vs hi).2 (vs _ (.inr rfl)))
  have jq : ∀ a b, Jq (g.Q i) a b ↔ Jn (Te g.E S i) a b := fun a b => by rw [h.gi.q i hi, qd_jq]
  have max : ∀ u T, (u = go.a ∨ u = go.b) → Tree (g.P i) (g.Q i) u T → ∀ T' : List Int, T'.Nodup → (∀ z ∈ T', Jn (Te g.E S i) u z) → T'.length ≤ T.length := fun u T hu ht T' d1 d2 => by
    refine d1.length_le_of_subset fun z hz => ?_
    refine (ht.mem z).2 ⟨?_, (jq _ _).2 (d2 z hz)⟩
    by_cases e : z = u
    · rw [e]; exact (h.gi.vs hi).2 (vs u hu)
    · exact (h.gi.vp_of_jn hi (d2 z hz) (Ne.symm e)).2
  have hv' : v = if Tb.length < Ta.length then go.b else go.a := by
    rw [hv, ea, eb]
    by_cases q : (Tb.length : Int) < Ta.length
    · rw [if_pos q, if_pos (by omega)]
    · rw [if_neg q, if_neg (by omega)]
  have hvv : v = go.a ∨ v = go.b := by
    rw [hv]
    split
    · exact .inr rfl
    · exact .inl rfl
  refine ⟨⟨h.gi, h.rp, h.rp.half hi ⟨Ta, ta.nd, fun u hu => (jq _ _).1 ((ta.mem u).1 hu).2, rfl⟩ ⟨Tb, tb.nd, fun u hu => (jq _ _).1 ((tb.mem u).1 hu).2, rfl⟩ (max _ _ (.inl rfl) ta) (max _ _ (.inr rfl) tb) hv', h.ck, h.ev, h.pk, h.dd⟩, vs v hvv, hvv⟩
theorem Sg.fail {i : Nat} {v u : Int} (h : Sg on sv lv S go gl n D C i v g0 g K) (hi : i < g.m) (hgl : (i : Int) ≤ gl) (hon : on go.a ∧ on go.b) (hv : v = go.a ∨ v = go.b) (hf : FoundV (g.P i) (g.Q i) v u false) : So on sv lv S go gl n D C ((i : Int) - 1) g0 g K := by
  have key : ∀ e x z, ¬ S e → g.E e = some x → x.t = false → x.l = i → (x.a = z ∨ x.b = z) → VS on g.E S go gl i z → ¬ Jn (Te g.E S i) v z := fun e x z h1 h2 h3 h4 h5 h6 k => by
    have hm : e ∈ g.s.L (z, (i : Int)) := (h.gi.lo _ _ _).2 ⟨x, h1, h2, h3, h4, h5⟩
    have := hf.2 rfl ⟨z, sv0 sv i z, sv0 lv i z, mkS g.s i z⟩ (by rw [h.gi.p i hi]; exact ⟨h6, rfl, rfl, rfl⟩) (by rw [h.gi.q i hi, qd_jq]; exact k)
    have e1 : mkS g.s i z = 1 := by unfold mkS; rw [if_neg (fun q => by rw [q] at hm; cases hm)]
    rw [show mkS g.s i z = 0 from this] at e1
    cases e1
  have vs : ∀ z, Jn (Te g.E S i) v z → VS on g.E S go gl i v → VS on g.E S go gl i z := fun z k hvs => by
    by_cases e : v = z
    · rw [← e]; exact hvs
    · exact (h.gi.vs hi).1 (h.gi.vp_of_jn hi k e).2
  refine ⟨h.gi, h.rp.fail hv fun e x h1 h2 h3 h4 => ?_, h.ck, h.ev, h.pk, h.dd⟩
  have hvs : VS on g.E S go gl i v := vs_go hgl hon hv
  exact ⟨fun k => key e x x.a h1 h2 h3 h4 (.inl rfl) (vs _ k hvs) k, fun k => key e x x.b h1 h2 h3 h4 (.inr rfl) (vs _ k hvs) k⟩
theorem Sg.vs_bind {i : Nat} {v : Int} (h : Sg on sv lv S go gl n D C i v g0 g K) (hi : i < g.m) (hgl : (i : Int) ≤ gl) {e : Int} {x : Eg} (h1 : ¬ S e) (h2 : g.E e = some x) (h3 : x.t = false) (h4 : x.l = i) (hj : ¬ Jn (Te g.E S i) x.a x.b) : ∀ j : Nat, j ≤ i → VS on g.E S go gl j x.a ∧ VS on g.E S go gl j x.b := by
  obtain ⟨a1, a2, a3, a4, a5, a6⟩ := h.gi.eb e x h2
  have one : ∀ (j : Nat) u z, j ≤ i → (z = go.a ∨ z = go.b) → on u → Jn (Te g.E S i) u z → VS on g.E S go gl j u := fun j u z hji hz hu k => by
    by_cases e : u = z
    · unfold VS
      split
      · exact hu
      · exact .inr ⟨by omega, by rw [e]; exact hz⟩
    · exact (h.gi.vs (by omega)).1 (h.gi.vp_of_jn (i := j) (by omega) (k.low (by omega)) e).1
  intro j hji
  rcases h.rp.b e x h1 h2 h3 with k | ⟨_, k⟩
  · rw [h4] at k; exact absurd k hj
  · rw [h4] at k
    rcases Tg.jn.1 k with k | ⟨c1, c2⟩ | ⟨c1, c2⟩
    · exact absurd k hj
    · exact ⟨one j _ _ hji (.inl rfl) a3 c1, one j _ _ hji (.inr rfl) a4 c2.symm⟩
    · exact ⟨one j _ _ hji (.inr rfl) a3 c1, one j _ _ hji (.inl rfl) a4 c2.symm⟩
theorem bindGk_ck (g : Gs) (e : Int) (x : Eg) (k : Nat) : Ck g (bindGk g e x k) ∧ (bindGk g e x k).E = g.E := ⟨⟨rfl, rfl, rfl, rfl, rfl, rfl, rfl⟩, rfl⟩
theorem setE_ck (g : Gs) (E : EM) : Ck g (g.setE E g.ne) ∧ (g.setE E g.ne).E = E := ⟨⟨rfl, rfl, rfl, rfl, rfl, rfl, rfl⟩, rfl⟩
theorem Sg.found {i : Nat} {v : Int} (h : Sg on sv lv S go gl n D C i v g0 g K) (hi : i < g.m) {e : Int} {x : Eg} (h1 : ¬ S e) (h2 : g.E e = some x) (h3 : x.t = false) (h4 : x.l = i) (hj : ¬ Jn (Te g.E S i) x.a x.b) {g' : Gs} (hg : Gi g' on sv lv S go gl) (he : g' = bindGk ((takeG g e x i).setE (updQ g.E e (some ⟨x.a, x.b, x.l, true⟩)) g.ne) e ⟨x.a, x.b, x.l, true⟩ (i + 1)) : Sf on sv lv S go gl n D C g0 g' (K + 3 * (i + 1)) := by
  obtain ⟨_, r1, r2, r3⟩ := h.rp.bind h2 h3 h1 h4 hj
  have hck : Ck g g' := by
    rw [he]
    refine ((takeG_ck g e x i).1.trans ?_).trans (bindGk_ck _ _ _ _).1
    exact (setE_ck (takeG g e x i) _).1
  have hE : g'.E = updQ g.E e (some ⟨x.a, x.b, x.l, true⟩) := by rw [he, (bindGk_ck _ _ _ _).2]; rfl
  have hm := h.gi.m
  refine ⟨hg, by rw [hE]; exact r1, by rw [hE, hck.m]; exact r2, by rw [hE]; exact r3, h.ck.trans hck, by rw [hE]; exact h.ev.trans (Ev.set g.E h2 rfl rfl (Int.le_refl _) (fun _ => rfl)), ?_⟩
  have := h.pk
  have hp : potL g'.E g'.m D = potL g.E g.m D := by
    rw [hck.m, hE]
    refine potL_congr fun f _ => ?_
    by_cases ef : f = e
    · subst ef; rw [updQ_at, h2]
    · rw [updQ_ne ef]
  rw [hp]
  omega
end
structure Jm (p : Gp) (B : Nat) (w0 : World) (F0 : Nat → Prop) (bs : List (Nat × TypeId × Array Value)) (Ds : List Nat) (W : World) (F : Nat → Prop) (g : Gs) (K : Nat) : Prop where
  gm : Gm p W F B g K
  st : Step F0 F w0 W
  bx : ∀ b ∈ bs, Bx W F b.1 b.2.1 b.2.2
  nd : Ds.Nodup
  ms : ∀ D ∈ Ds, Mark W D ∧ ¬ F D ∧ w0.heap.size ≤ D
section
variable {p : Gp} {B : Nat} {w0 W W' : World} {F0 F F' : Nat → Prop} {bs : List (Nat × TypeId × Array Value)} {Ds : List Nat} {g g' : Gs} {K K' : Nat}
theorem Mark.lt {D : Nat} (h : Mark W D) : D < W.heap.size := (Array.getElem?_eq_some_iff.1 h).1
theorem Jm.step (h : Jm p B w0 F0 bs Ds W F g K) (hG : Gm p W' F' B g' K') (hS : Step F F' W W') : Jm p B w0 F0 bs Ds W' F' g' K' :=
  ⟨hG, h.st.trans hS, fun b hb => (h.bx b hb).step hS, h.nd, fun D hD => by
    obtain ⟨k1, k2, k3⟩ := h.ms D hD
    exact ⟨(hS.only.block D k1.lt k2).trans k1, fun k => (hS.ext D k).elim k2 (fun e => by have := k1.lt; omega), k3⟩⟩
theorem Jm.below (h : Jm p B w0 F0 bs Ds W F g K) (hb : Below W.heap.size W W') : Jm p B w0 F0 bs Ds W' F g K := h.step (h.gm.below hb) (Step.of_below hb)
theorem Jm.box (h : Jm p B w0 F0 bs Ds W F g K) {M : Nat} {T : TypeId} {cs : Array Value} (hM : Blk W M T cs) (hn : ¬ F M) : Jm p B w0 F0 ((M, T, cs) :: bs) Ds W F g K :=
  ⟨h.gm, h.st, fun b hb => by rcases List.mem_cons.1 hb with rfl | k; exact ⟨hM, hn⟩; exact h.bx b k, h.nd, h.ms⟩
theorem Jm.bx_of (h : Jm p B w0 F0 bs Ds W F g K) {bs' : List (Nat × TypeId × Array Value)} (hb : ∀ b ∈ bs', Bx W F b.1 b.2.1 b.2.2) : Jm p B w0 F0 bs' Ds W F g K := ⟨h.gm, h.st, hb, h.nd, h.ms⟩
theorem Jm.mark (h : Jm p B w0 F0 bs Ds W F g K) {D : Nat} (hD : Mark W D) (hn : ¬ F D) (hw : w0.heap.size ≤ D) (hnew : D ∉ Ds) : Jm p B w0 F0 bs (D :: Ds) W F g K :=
  ⟨h.gm, h.st, h.bx, List.nodup_cons.2 ⟨hnew, h.nd⟩, fun E hE => by rcases List.mem_cons.1 hE with rfl | k; exact ⟨hD, hn, hw⟩; exact h.ms E k⟩
theorem Jm.taken {D : Nat} (h : Gm p W F B g K ∧ Step F0 F w0 W) (hn : ¬ F D) (hw : w0.heap.size ≤ D) : Gm p (W.putObj D (.deferred none)) F B g K ∧ Step F0 F w0 (W.putObj D (.deferred none)) := by
  refine ⟨h.1.kept (fun k hk => World.putObj_heap_other (fun e => hn (e ▸ hk))) (by simp), ⟨⟨h.2.only.os, h.2.only.tape, h.2.only.output, by have := h.2.only.size; simpa using this, fun k hk hf => ?_⟩, h.2.ext⟩⟩
  exact (World.putObj_heap_other (by omega)).trans (h.2.only.block k hk hf)
structure Jz (p : Gp) (B : Nat) (w0 : World) (F0 : Nat → Prop) (bs : List (Nat × TypeId × Array Value)) (Ds : List Nat) (X Z : Nat) (W : World) (F : Nat → Prop) (g : Gs) (K : Nat) : Prop where
  j : Jm p B w0 F0 bs Ds W F g K
  f : ∀ k, F k → k < X ∨ Z ≤ k
  b : ∀ b ∈ bs, b.1 < X ∨ Z ≤ b.1
  d : ∀ D ∈ Ds, D < X
  x : w0.heap.size ≤ X
theorem Jz.start {X Z : Nat} (h : Jm p B w0 F0 bs Ds W F g K) (hX : X = W.heap.size) : Jz p B w0 F0 bs Ds X Z W F g K :=
  ⟨h, fun k hk => .inl (by have := h.gm.lt k hk; omega), fun b hb => .inl (by have := (h.bx b hb).blk.lt; omega), fun D hD => by have := (h.ms D hD).1.lt; omega, by have := h.st.size; omega⟩
theorem Jz.grown {X Z : Nat} {row : Option Nat} (h : Jz p B w0 F0 bs Ds X Z W F g K) (hg : W.grownBy W' row) (hr : ∀ r, row = some r → X ≤ r ∧ r < Z ∧ ∃ o : Obj, W.heap[r]? = some o ∧ o.isCells = false) : Jz p B w0 F0 bs Ds X Z W' F g K := by
  have same : ∀ k, k < W.heap.size → (k < X ∨ Z ≤ k) → W'.heap[k]? = W.heap[k]? := fun k hk hx => hg.block k hk (fun e => by obtain ⟨q1, q2, _⟩ := hr k e.symm; omega)
  refine ⟨⟨h.j.gm.kept (fun k hk => same k (h.j.gm.lt k hk) (h.f k hk)) hg.size, ⟨⟨hg.os.trans h.j.st.only.os, hg.tape.trans h.j.st.only.tape, hg.output.trans h.j.st.only.output, Nat.le_trans h.j.st.only.size hg.size, fun k hk hn => ?_⟩, h.j.st.ext⟩, fun b hb => ?_, h.j.nd, fun D hD => ?_⟩, h.f, h.b, h.d, h.x⟩
  · have := h.x
    exact (same k (Nat.lt_of_lt_of_le hk h.j.st.only.size) (.inl (by omega))).trans (h.j.st.only.block k hk hn)
  · exact ⟨(same _ (h.j.bx b hb).blk.lt (h.b b hb)).trans (h.j.bx b hb).blk, (h.j.bx b hb).out⟩
  · obtain ⟨k1, k2, k3⟩ := h.j.ms D hD
    exact ⟨(same D k1.lt (.inl (h.d D hD))).trans k1, k2, k3⟩
theorem Jz.step {X Z : Nat} (h : Jz p B w0 F0 bs Ds X Z W F g K) (hZ : Z ≤ W.heap.size) (hG : Gm p W' F' B g' K') (hS : Step F F' W W') : Jz p B w0 F0 bs Ds X Z W' F' g' K' ∧ BK X Z W W' :=
  ⟨⟨h.j.step hG hS, fun k hk => (hS.ext k hk).elim (h.f k) (fun e => .inr (by omega)), h.b, h.d, h.x⟩, ⟨hS.size, fun k h1 h2 => hS.only.block k (by omega) (fun e => by rcases h.f k e with q | q <;> omega)⟩⟩
end
structure Rk where
  p : Gp
  B : Nat
  w0 : World
  F0 : Nat → Prop
  on : Int → Prop
  sv : Int → Int
  lv : Int → Int
  S : Int → Prop
  go : Eg
  gl : Int
  n : Int
  D : List Int
  C : Nat
  g0 : Gs
structure RkOk (r : Rk) : Prop where
  d : r.D.Nodup
  c : r.C + 100 ≤ 30000
  n : r.n < 2 ^ r.g0.m
  ne : r.g0.ne ≤ 1000000
  on : r.on r.go.a ∧ r.on r.go.b
  gl : r.gl < r.g0.m
def Rr (r : Rk) (bs : List (Nat × TypeId × Array Value)) (Ds : List Nat) (X : Nat) (i : Nat) (v u : Int) (L : List Int) (P Z : Nat) (pre : List Int) (A : World) : Prop :=
  ∃ F g K, Jz r.p r.B r.w0 r.F0 bs Ds X Z A F g K ∧ Sg r.on r.sv r.lv r.S r.go r.gl r.n r.D r.C i v r.g0 g K ∧ NoTree g.E r.S i v ∧ Jn (Te g.E r.S i) v u ∧ potL g.E g.m r.D + pre.length ≤ P ∧ ∀ f, f ∈ g.s.L (u, (i : Int)) ↔ f ∈ L ∧ f ∉ pre
def Rz (r : Rk) (bs : List (Nat × TypeId × Array Value)) (Ds : List Nat) (X Z : Nat) (A : World) : Prop :=
  ∃ F g K, Jz r.p r.B r.w0 r.F0 bs Ds X Z A F g K ∧ Sf r.on r.sv r.lv r.S r.go r.gl r.n r.D r.C r.g0 g K
section
variable {r : Rk} {bs : List (Nat × TypeId × Array Value)} {Ds : List Nat} {X i : Nat} {v u : Int} {L pre : List Int} {P Z : Nat} {A : World}
theorem Rr.own (r : Rk) (bs : List (Nat × TypeId × Array Value)) (Ds : List Nat) (X i : Nat) (v u : Int) (L : List Int) (P Z : Nat) : OwnIn X Z (Rr r bs Ds X i v u L P Z) := fun pre A A' row ⟨F, g, K, h1, h2⟩ hg hr => ⟨F, g, K, h1.grown hg hr, h2⟩
theorem Rz.own (r : Rk) (bs : List (Nat × TypeId × Array Value)) (Ds : List Nat) (X Z : Nat) : OwnIn X Z (fun (_ : List Int) => Rz r bs Ds X Z) := fun pre A A' row ⟨F, g, K, h1, h2⟩ hg hr => ⟨F, g, K, h1.grown hg hr, h2⟩
theorem Rr.next (ok : RkOk r) (hi : i < r.g0.m) (hgl : (i : Int) ≤ r.gl) (hL : L.Nodup) (h : Rr r bs Ds X i v u L P Z pre A) (hZ : Z ≤ A.heap.size) {x : Int} (hx : PartOf L (pre ++ [x])) :
    Calls Tryz.prog 58 #[.pointer (some ⟨r.B, 0, none⟩), .int .i64 x, .int .i64 i] A fun e W => ∃ t : Bool, e = .returned (.bool t) ∧ Hid (Rr r bs Ds X i v u L P Z pre W ∧ BK X Z A W) ∧ Z ≤ W.heap.size ∧
      (t = true → Hid (Calls Tryz.prog 59 #[.pointer (some ⟨r.B, 0, none⟩), .int .i64 x] W fun e W' => e = .returned (.tuple #[]) ∧ Rz r bs Ds X Z W' ∧ BK X Z A W')) ∧
      (t = false → Hid (Calls Tryz.prog 60 #[.pointer (some ⟨r.B, 0, none⟩), .int .i64 x] W fun e W' => e = .returned (.tuple #[]) ∧ Rr r bs Ds X i v u L P Z (pre ++ [x]) W' ∧ BK X Z A W')) := by
  obtain ⟨F, g, K, hJ, hS, hN, hj, hp, hl⟩ := h
  have hm : g.m = r.g0.m := hS.ck.m
  have hne : g.ne ≤ 1000000 := by rw [hS.ck.ne]; exact ok.ne
  obtain ⟨t, ht⟩ := hx
  have hnd : (pre ++ [x]).Nodup := by rw [← ht] at hL; exact (List.nodup_append.1 hL).1
  have hxp : x ∉ pre := fun k => by
    have := (List.nodup_append.1 hnd).2.2 x k x (by simp)
    exact this rfl
  have hxL : x ∈ L := by rw [← ht]; simp
  have hxg := (hl x).2 ⟨hxL, hxp⟩
  obtain ⟨y, y1, y2, y3, y4, y5, y6, y7, y8, y9, up⟩ := hS.upLoose ok.d hN (by omega) (by rw [hm]; exact ok.n) hxg hj
  have hpk := hS.pk
  have hc := ok.c
  have he64 := hS.gi.e64 y2
  refine (leads_any hJ.j.gm (by omega) (i := i) (by omega) he64 y2 (hS.gi.b64 y6) (hS.gi.b64 y7)).mono ?_
  rintro e W ⟨⟨t, rfl, ht'⟩, hb⟩
  obtain ⟨hJ1, hk1⟩ := hJ.step hZ (hJ.j.gm.below hb) (Step.of_below hb)
  have hZ1 : Z ≤ W.heap.size := Nat.le_trans hZ hb.size
  refine ⟨t, rfl, ⟨⟨F, g, K, hJ1, hS, hN, hj, hp, hl⟩, hk1⟩, hZ1, fun et => ?_, fun et => ?_⟩
  · have hnj : ¬ Jn (Te g.E r.S i) y.a y.b := fun k => by
      have q := hS.gi.vp_of_jn (i := i) (by omega) k y5
      have := ht'.2 ⟨q.1, q.2, by rw [hS.gi.q i (by omega), qd_jq]; exact k⟩
      rw [et] at this; cases this
    have hm23 := hS.gi.m
    refine (bind_any hJ1.j.gm (by omega) hS.gi y1 y2 y3 (i := i) (by omega) y4 (hS.vs_bind (by omega) hgl y1 y2 y3 y4 hnj) (hS.rp.bind y2 y3 y1 y4 hnj).1 hne).mono ?_
    rintro e W' ⟨rfl, F', g', k1, k2, k3, k4⟩
    obtain ⟨j1, j2⟩ := hJ1.step hZ1 k1 k2
    exact ⟨rfl, ⟨F', g', _, j1, hS.found (by omega) y1 y2 y3 y4 hnj k3 k4⟩, hk1.trans j2⟩
  · obtain ⟨q1, q2, q3⟩ := ht'.1 et
    rw [hS.gi.q i (by omega), qd_jq] at q3
    obtain ⟨u1, u2, u3, u4, u5, u6, u7, u8⟩ := up q3
    refine (riseLoose_any hJ1.j.gm (by omega) hS.gi y1 y2 y3 u1 y4 u2 u3 hne).mono ?_
    rintro e W' ⟨rfl, F', k1, k2⟩
    obtain ⟨j1, j2⟩ := hJ1.step hZ1 k1 k2
    refine ⟨rfl, ⟨F', _, _, j1, u4, u5, u7 u hj, ?_, fun f => ?_⟩, hk1.trans j2⟩
    · rw [riseLooseG_m, List.length_append]
      simp only [List.length_singleton]
      omega
    · rw [u8, hl]
      simp only [List.mem_append, List.mem_singleton, not_or]
      exact and_assoc
end
end Go.Proofs.YtlmdjghcmofdlaaGreat
