/- Layer 10: a loose edge's rise, in the state that rejoin keeps. -/
import Derived.Test.YtcbgeahcnjamdabGreatLevTree
namespace Go.Proofs.YtcbgeahcnjamdabGreat
open Go.RowKit
set_option linter.unusedVariables false
section
variable {g : Gs} {K : Nat} {on : Int → Prop} {sv lv : Int → Int} {S : Int → Prop} {go : Eg} {gl : Int} {n : Int}
theorem rej_arith {K p0 p1 C : Nat} (h : K + 3 * p0 ≤ C) (k : p1 + 1 = p0) : K + 2 + 3 * p1 ≤ C := by omega
theorem putG1_ck (g : Gs) (n v : Int) (i : Nat) : Ck g (putG1 g n v i) ∧ (putG1 g n v i).E = g.E := ⟨⟨rfl, rfl, rfl, rfl, rfl, rfl, rfl⟩, rfl⟩
theorem takeG1_ck (g : Gs) (n v : Int) (i : Nat) : Ck g (takeG1 g n v i) ∧ (takeG1 g n v i).E = g.E := ⟨⟨rfl, rfl, rfl, rfl, rfl, rfl, rfl⟩, rfl⟩
theorem riseG_ck (g : Gs) (e : Int) (x : Eg) : Ck g (riseG g e x) ∧ (riseG g e x).E = updQ g.E e (some x.up) := ⟨⟨rfl, rfl, rfl, rfl, rfl, rfl, rfl⟩, rfl⟩
theorem putG_ck (g : Gs) (n : Int) (x : Eg) (i : Nat) : Ck g (putG g n x i) ∧ (putG g n x i).E = g.E := ⟨(putG1_ck _ _ _ _).1.trans (putG1_ck _ _ _ _).1, (putG1_ck _ _ _ _).2.trans (putG1_ck _ _ _ _).2⟩
theorem takeG_ck (g : Gs) (n : Int) (x : Eg) (i : Nat) : Ck g (takeG g n x i) ∧ (takeG g n x i).E = g.E := ⟨(takeG1_ck _ _ _ _).1.trans (takeG1_ck _ _ _ _).1, (takeG1_ck _ _ _ _).2.trans (takeG1_ck _ _ _ _).2⟩
theorem riseLooseG_ck (g : Gs) (e : Int) (x : Eg) (i : Nat) : Ck g (riseLooseG g e x i) := ((takeG_ck g e x i).1.trans (riseG_ck (takeG g e x i) e x).1).trans (putG_ck (riseG (takeG g e x i) e x) e x.up (i + 1)).1
theorem riseLooseG_E (g : Gs) (e : Int) (x : Eg) (i : Nat) : (riseLooseG g e x i).E = updQ g.E e (some x.up) := by
  unfold riseLooseG
  rw [(putG_ck _ _ _ _).2, (riseG_ck _ _ _).2, (takeG_ck _ _ _ _).2]
theorem riseLooseG_m (g : Gs) (e : Int) (x : Eg) (i : Nat) : (riseLooseG g e x i).m = g.m := (riseLooseG_ck g e x i).m
set_option maxHeartbeats 800000 in
/-- What is known of an edge that stands loose at u, and what its rise makes. -/
theorem Sg.upLoose {D : List Int} (hD : D.Nodup) {C i : Nat} {v : Int} {g0 : Gs} (h : Sg on sv lv S go gl n D C i v g0 g K) (hN : NoTree g.E S i v) (hi : i < g.m) (hn : n < 2 ^ g.m) {e u : Int} (he : e ∈ g.s.L (u, (i : Int))) (hu : Jn (Te g.E S i) v u) :
    ∃ x, ¬ S e ∧ g.E e = some x ∧ x.t = false ∧ x.l = i ∧ x.a ≠ x.b ∧ on x.a ∧ on x.b ∧ 1 ≤ e ∧ (x.a = u ∨ x.b = u) ∧ (Jn (Te g.E S i) x.a x.b → i + 1 < g.m ∧ (VS on g.E S go gl i x.a ∧ VS on g.E S go gl i x.b) ∧ (VS on g.E S go gl (i + 1) x.a ∧ VS on g.E S go gl (i + 1) x.b) ∧
      Sg on sv lv S go gl n D C i v g0 (riseLooseG g e x i) (K + 2) ∧ NoTree (riseLooseG g e x i).E S i v ∧ potL (riseLooseG g e x i).E g.m D < potL g.E g.m D ∧ (∀ w, Jn (Te g.E S i) v w → Jn (Te (riseLooseG g e x i).E S i) v w) ∧ ∀ f, f ∈ (riseLooseG g e x i).s.L (u, (i : Int)) ↔ f ∈ g.s.L (u, (i : Int)) ∧ f ≠ e) := by
  obtain ⟨x, hS, k2, k3, k4, k5⟩ := (h.gi.lo _ _ _).1 he
  obtain ⟨a1, a2, a3, a4, a5, a6⟩ := h.gi.eb e x k2
  refine ⟨x, hS, k2, k3, k4, a2, a3, a4, a1.1, k5, fun hj => ?_⟩
  have ja : Jn (Te g.E S i) v x.a := by
    rcases k5 with k | k
    · rw [k]; exact hu
    · rw [← k] at hu; exact hu.trans hj.symm
  have jb : Jn (Te g.E S i) v x.b := ja.trans hj
  have room := h.hf.room hn ja jb a2
  have va := h.gi.vp_of_jn hi hj a2
  rw [h.gi.vs hi, h.gi.vs hi] at va
  have hj1 : Jn (Te g.E S ((i + 1 : Nat) : Int)) x.a x.b := (hN.rise ja).symm.trans (hN.rise jb)
  have vb := h.gi.vp_of_jn room hj1 a2
  rw [h.gi.vs room, h.gi.vs room] at vb
  obtain ⟨r1, r2, r3⟩ := h.rp.upLoose h.hf hN k2 k3 hS k4 ja jb
  obtain ⟨G, _⟩ := h.gi.upLoose hS k2 k3 room k4 va vb
  have hck : Ck g (riseLooseG g e x i) := riseLooseG_ck g e x i
  have hp := potL_up (m := g.m) (y := x.up) k2 rfl a5 (by omega) hD (h.dd _ _ k2)
  refine ⟨room, va, vb, ⟨G, by rw [riseLooseG_E, riseLooseG_m]; exact r1, by rw [riseLooseG_E]; exact r2, h.ck.trans hck, by rw [riseLooseG_E]; exact h.ev.trans (Ev.set g.E k2 rfl rfl (by show x.l ≤ x.l + 1; omega) (fun q => q)), ?_, fun e' x' he' => ?_⟩, by rw [riseLooseG_E]; exact r3, ?_, fun w k => ?_, fun f => ?_⟩
  · rw [riseLooseG_E, riseLooseG_m]
    exact rej_arith h.pk hp
  · have he2 : updQ g.E e (some x.up) e' = some x' := by rw [riseLooseG_E] at he'; exact he'
    by_cases ee : e' = e
    · subst ee; exact h.dd _ _ k2
    · rw [updQ_ne ee] at he2; exact h.dd _ _ he2
  · rw [riseLooseG_E]
    exact Nat.lt_of_succ_le (Nat.le_of_eq hp)
  · rw [riseLooseG_E]; exact k.sub fun a b q => (te_loose k2 k3 S i a b).2 q
  · have e1 : (riseLooseG g e x i).s.L (u, (i : Int)) = (takeG g e x i).s.L (u, (i : Int)) := by
      unfold riseLooseG
      rw [putG_L _ _ _ _ (show x.up.a ≠ x.up.b from a2), if_neg (by simp; omega)]
      rfl
    have e2 : (takeG g e x i).s.L (u, (i : Int)) = delL (g.s.L (u, (i : Int))) e := by
      rw [takeG_L _ _ _ _ a2, if_pos ⟨rfl, k5.imp Eq.symm Eq.symm⟩]
    rw [e1, e2]
    exact delL_mem he (h.gi.nd _)
end
end Go.Proofs.YtcbgeahcnjamdabGreat
