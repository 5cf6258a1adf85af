/- Layer 10, plain: a graph's steps keep what it holds. -/
import Derived.Test.YtcbgeahcnjamdabGreatLevInv
namespace Go.Proofs.YtcbgeahcnjamdabGreat
open Go.RowKit
set_option linter.unusedVariables false
section
variable {A : Int → Prop} {sv lv : Int → Int} {s : Bg} {i v n : Int}
theorem put1_P (hA : A v) : (if ((s.put (v, i) n).L (v, i)).length = 1 then markP (Pf A sv lv (mkS s i)) v 1 else Pf A sv lv (mkS s i)) = Pf A sv lv (mkS (s.put (v, i) n) i) := by
  have e1 : ∀ u, u ≠ v → mkS (s.put (v, i) n) i u = mkS s i u := fun u hu => by unfold mkS; rw [put_other s (by simp [hu])]
  have e2 : mkS (s.put (v, i) n) i v = 1 := by unfold mkS; rw [put_same, if_neg (by simp)]
  split
  · rw [markP_pf hA]
    refine pf_ext (fun _ => Iff.rfl) (fun _ _ => ⟨rfl, rfl⟩) (fun u _ => ?_)
    by_cases hu : u = v
    · subst hu; rw [updI_at, e2]
    · rw [updI_ne hu, e1 u hu]
  · rename_i hl
    refine pf_ext (fun _ => Iff.rfl) (fun _ _ => ⟨rfl, rfl⟩) (fun u _ => ?_)
    by_cases hu : u = v
    · subst hu
      rw [e2]
      unfold mkS
      rw [if_neg (fun h => hl (by rw [put_same, h]; rfl))]
    · rw [e1 u hu]
theorem take1_P (hA : A v) (hn : n ∈ s.L (v, i)) : (if ((s.take (v, i) n).L (v, i)).length = 0 then markP (Pf A sv lv (mkS s i)) v 0 else Pf A sv lv (mkS s i)) = Pf A sv lv (mkS (s.take (v, i) n) i) := by
  have e1 : ∀ u, u ≠ v → mkS (s.take (v, i) n) i u = mkS s i u := fun u hu => by unfold mkS; rw [take_other s (by simp [hu])]
  split
  · rename_i hl
    rw [markP_pf hA]
    refine pf_ext (fun _ => Iff.rfl) (fun _ _ => ⟨rfl, rfl⟩) (fun u _ => ?_)
    by_cases hu : u = v
    · subst hu
      rw [updI_at]
      unfold mkS
      rw [if_pos (List.eq_nil_of_length_eq_zero hl)]
    · rw [updI_ne hu, e1 u hu]
  · rename_i hl
    refine pf_ext (fun _ => Iff.rfl) (fun _ _ => ⟨rfl, rfl⟩) (fun u _ => ?_)
    by_cases hu : u = v
    · subst hu
      unfold mkS
      rw [if_neg (fun h => by rw [h] at hn; cases hn), if_neg (fun h => hl (by rw [h]; rfl))]
    · rw [e1 u hu]
end
section
variable {g : Gs} {on : Int → Prop} {sv lv : Int → Int} {S : Int → Prop} {go : Eg} {gl : Int}
theorem vs_ext {E E' : EM} {S S' : Int → Prop} (h : ∀ i : Nat, 1 ≤ i → Qd E S i = Qd E' S' i) (i : Nat) : VS on E S go gl i = VS on E' S' go gl i := by
  funext v
  unfold VS
  split
  · rfl
  · rw [h i (by omega)]
theorem putG1_P (g : Gs) {n v : Int} {i : Nat} {A : Int → Prop} {sv lv : Int → Int} (hp : g.P i = Pf A sv lv (mkS g.s i)) (hA : A v) : (putG1 g n v i).P i = Pf A sv lv (mkS (putG1 g n v i).s i) := by
  unfold putG1
  rw [setF_P, hp]
  exact put1_P hA
theorem putG1_o (g : Gs) {n v : Int} {i j : Nat} (hj : j ≠ i) : (putG1 g n v i).P j = g.P j := updF_ne hj
theorem putG1_Q (g : Gs) (n v : Int) (i : Nat) : (putG1 g n v i).Q = g.Q := by
  funext j
  by_cases e : j = i
  · subst e; exact updF_at _ _ _
  · exact updF_ne e
theorem putG_L (g : Gs) (n : Int) (x : Eg) (i : Nat) (hne : x.a ≠ x.b) (a : Int × Int) : (putG g n x i).s.L a = if a.2 = i ∧ (a.1 = x.a ∨ a.1 = x.b) then g.s.L a ++ [n] else g.s.L a := by
  obtain ⟨v, j⟩ := a
  show ((g.s.put (x.a, (i : Int)) n).put (x.b, (i : Int)) n).L (v, j) = _
  by_cases hj : j = i
  · subst hj
    by_cases ha : v = x.a
    · subst ha
      rw [put_other _ (by simp [hne]), put_same, if_pos ⟨rfl, .inl rfl⟩]
    · by_cases hb : v = x.b
      · subst hb
        rw [put_same, put_other _ (by simp [ha]), if_pos ⟨rfl, .inr rfl⟩]
      · rw [put_other _ (by simp [hb]), put_other _ (by simp [ha]), if_neg (fun k => k.2.elim ha hb)]
  · rw [put_other _ (by simp [hj]), put_other _ (by simp [hj]), if_neg (fun k => hj k.1)]
theorem takeG1_P (g : Gs) {n v : Int} {i : Nat} {A : Int → Prop} {sv lv : Int → Int} (hp : g.P i = Pf A sv lv (mkS g.s i)) (hA : A v) (hn : n ∈ g.s.L (v, (i : Int))) : (takeG1 g n v i).P i = Pf A sv lv (mkS (takeG1 g n v i).s i) := by
  unfold takeG1
  rw [setF_P, hp]
  exact take1_P hA hn
theorem takeG1_o (g : Gs) {n v : Int} {i j : Nat} (hj : j ≠ i) : (takeG1 g n v i).P j = g.P j := updF_ne hj
theorem takeG1_Q (g : Gs) (n v : Int) (i : Nat) : (takeG1 g n v i).Q = g.Q := by
  funext j
  by_cases e : j = i
  · subst e; exact updF_at _ _ _
  · exact updF_ne e
theorem takeG_L (g : Gs) (n : Int) (x : Eg) (i : Nat) (hne : x.a ≠ x.b) (a : Int × Int) : (takeG g n x i).s.L a = if a.2 = i ∧ (a.1 = x.a ∨ a.1 = x.b) then delL (g.s.L a) n else g.s.L a := by
  obtain ⟨v, j⟩ := a
  show ((g.s.take (x.a, (i : Int)) n).take (x.b, (i : Int)) n).L (v, j) = _
  by_cases hj : j = i
  · subst hj
    by_cases ha : v = x.a
    · subst ha
      rw [take_other _ (by simp [hne]), take_same, if_pos ⟨rfl, .inl rfl⟩]
    · by_cases hb : v = x.b
      · subst hb
        rw [take_same, take_other _ (by simp [ha]), if_pos ⟨rfl, .inr rfl⟩]
      · rw [take_other _ (by simp [hb]), take_other _ (by simp [ha]), if_neg (fun k => k.2.elim ha hb)]
  · rw [take_other _ (by simp [hj]), take_other _ (by simp [hj]), if_neg (fun k => hj k.1)]
/-- A loose edge's ends are taken out of the bag. -/
theorem Gi.takeL (h : Gi g on sv lv S go gl) {e : Int} {x : Eg} (hS : ¬ S e) (he : g.E e = some x) (ht : x.t = false) {i : Nat} (hi : i < g.m) (hl : x.l = i) (ha : VS on g.E S go gl i x.a) (hb : VS on g.E S go gl i x.b) :
    Gi (takeG g e x i) on sv lv (fun k => S k ∨ k = e) go gl ∧ e ∈ g.s.L (x.a, (i : Int)) ∧ e ∈ g.s.L (x.b, (i : Int)) := by
  have hne := (h.eb e x he).2.1
  have ma : e ∈ g.s.L (x.a, (i : Int)) := (h.lo _ _ _).2 ⟨x, hS, he, ht, hl, .inl rfl⟩
  have mb : e ∈ g.s.L (x.b, (i : Int)) := (h.lo _ _ _).2 ⟨x, hS, he, ht, hl, .inr rfl⟩
  have mb1 : e ∈ (takeG1 g e x.a i).s.L (x.b, (i : Int)) := by
    show e ∈ (g.s.take (x.a, (i : Int)) e).L (x.b, (i : Int))
    rw [take_other _ (by simp [Ne.symm hne])]; exact mb
  have hQ : ∀ j : Int, Qd g.E S j = Qd g.E (fun k => S k ∨ k = e) j := fun j => qd_ext fun f y h3 h4 => ⟨fun ⟨k1, k2⟩ => ⟨fun k => k.elim k1 (fun k => by subst k; rw [he] at k2; cases k2; rw [ht] at h3; cases h3), k2⟩, fun ⟨k1, k2⟩ => ⟨fun k => k1 (.inl k), k2⟩⟩
  have hV : ∀ j : Nat, VS on g.E (fun k => S k ∨ k = e) go gl j = VS on g.E S go gl j := fun j => vs_ext (fun j _ => (hQ j).symm) j
  refine ⟨⟨fun j hj => ?_, fun j hj => ?_, fun v j f => ?_, h.eb, h.ob, fun a => ?_, h.m⟩, ma, mb⟩
  · show (takeG1 (takeG1 g e x.a i) e x.b i).Q j = Qd g.E _ j
    rw [takeG1_Q, takeG1_Q, h.q j hj]; exact hQ j
  · show (takeG g e x i).P j = Pf (VS on g.E _ go gl j) _ _ _
    rw [hV]
    by_cases e1 : j = i
    · subst e1
      exact takeG1_P (takeG1 g e x.a j) (takeG1_P g (h.p j hj) ha ma) hb mb1
    · unfold takeG
      rw [takeG1_o _ e1, takeG1_o _ e1, h.p j hj]
      refine pf_ext (fun _ => Iff.rfl) (fun _ _ => ⟨rfl, rfl⟩) (fun u _ => ?_)
      unfold mkS
      rw [show (takeG1 (takeG1 g e x.a i) e x.b i).s.L (u, (j : Int)) = g.s.L (u, (j : Int)) from (takeG_L g e x i hne _).trans (if_neg (fun k => by have := k.1; simp at this; omega))]
  · rw [takeG_L g e x i hne]
    by_cases hc : j = i ∧ (v = x.a ∨ v = x.b)
    · rw [if_pos hc]
      have hm : e ∈ g.s.L (v, j) := by rcases hc with ⟨rfl, rfl | rfl⟩; exact ma; exact mb
      rw [delL_mem hm (h.nd _), h.lo]
      constructor
      · rintro ⟨⟨y, k1, k2⟩, k3⟩; exact ⟨y, fun k => k.elim k1 k3, k2⟩
      · rintro ⟨y, k1, k2⟩; exact ⟨⟨y, fun k => k1 (.inl k), k2⟩, fun k => k1 (.inr k)⟩
    · rw [if_neg hc, h.lo]
      constructor
      · rintro ⟨y, k1, k2, k3, k4, k5⟩
        refine ⟨y, fun k => k.elim k1 (fun k => ?_), k2, k3, k4, k5⟩
        subst k
        rw [he] at k2; cases k2
        exact hc ⟨by omega, k5.imp Eq.symm Eq.symm⟩
      · rintro ⟨y, k1, k2⟩; exact ⟨y, fun k => k1 (.inl k), k2⟩
  · rw [takeG_L g e x i hne]
    split
    · rename_i hc
      have hm : e ∈ g.s.L a := by
        obtain ⟨v, j⟩ := a
        rcases hc with ⟨h1, h2⟩
        simp only at h1 h2
        subst h1
        rcases h2 with rfl | rfl
        · exact ma
        · exact mb
      exact delL_nodup hm (h.nd _)
    · exact h.nd _
/-- They are put there. -/
theorem Gi.putL {e : Int} (h : Gi g on sv lv (fun k => S k ∨ k = e) go gl) {x : Eg} (hS : ¬ S e) (he : g.E e = some x) (ht : x.t = false) {i : Nat} (hi : i < g.m) (hl : x.l = i) (ha : VS on g.E S go gl i x.a) (hb : VS on g.E S go gl i x.b) :
    Gi (putG g e x i) on sv lv S go gl ∧ e ∉ g.s.L (x.a, (i : Int)) ∧ e ∉ g.s.L (x.b, (i : Int)) := by
  have hne := (h.eb e x he).2.1
  have nm : ∀ a, e ∉ g.s.L a := fun a k => by
    obtain ⟨v, j⟩ := a
    obtain ⟨y, k1, _⟩ := (h.lo v j e).1 k
    exact k1 (.inr rfl)
  have hQ : ∀ j : Int, Qd g.E (fun k => S k ∨ k = e) j = Qd g.E S j := fun j => (qd_ext fun f y h3 h4 => ⟨fun ⟨k1, k2⟩ => ⟨fun k => k.elim k1 (fun k => by subst k; rw [he] at k2; cases k2; rw [ht] at h3; cases h3), k2⟩, fun ⟨k1, k2⟩ => ⟨fun k => k1 (.inl k), k2⟩⟩).symm
  have hV : ∀ j : Nat, VS on g.E S go gl j = VS on g.E (fun k => S k ∨ k = e) go gl j := fun j => vs_ext (fun j _ => (hQ j).symm) j
  refine ⟨⟨fun j hj => ?_, fun j hj => ?_, fun v j f => ?_, h.eb, h.ob, fun a => ?_, h.m⟩, nm _, nm _⟩
  · show (putG1 (putG1 g e x.a i) e x.b i).Q j = Qd g.E _ j
    rw [putG1_Q, putG1_Q, h.q j hj]; exact hQ j
  · show (putG g e x i).P j = Pf (VS on g.E _ go gl j) _ _ _
    by_cases e1 : j = i
    · subst e1
      exact putG1_P (putG1 g e x.a j) (putG1_P g (by rw [hV]; exact h.p j hj) ha) hb
    · unfold putG
      rw [hV, putG1_o _ e1, putG1_o _ e1, h.p j hj]
      refine pf_ext (fun _ => Iff.rfl) (fun _ _ => ⟨rfl, rfl⟩) (fun u _ => ?_)
      unfold mkS
      rw [show (putG1 (putG1 g e x.a i) e x.b i).s.L (u, (j : Int)) = g.s.L (u, (j : Int)) from (putG_L g e x i hne _).trans (if_neg (fun k => by have := k.1; simp at this; omega))]
  · rw [putG_L g e x i hne]
    by_cases hc : j = i ∧ (v = x.a ∨ v = x.b)
    · rw [if_pos hc, List.mem_append, h.lo]
      constructor
      · rintro (⟨y, k1, k2⟩ | k)
        · exact ⟨y, fun k => k1 (.inl k), k2⟩
        · simp at k; subst k
          exact ⟨x, hS, he, ht, by rw [hl]; exact hc.1.symm, hc.2.imp Eq.symm Eq.symm⟩
      · rintro ⟨y, k1, k2⟩
        by_cases ef : f = e
        · exact .inr (by simp [ef])
        · exact .inl ⟨y, fun k => k.elim k1 ef, k2⟩
    · rw [if_neg hc, h.lo]
      constructor
      · rintro ⟨y, k1, k2⟩; exact ⟨y, fun k => k1 (.inl k), k2⟩
      · rintro ⟨y, k1, k2, k3, k4, k5⟩
        refine ⟨y, fun k => k.elim k1 (fun k => ?_), k2, k3, k4, k5⟩
        subst k
        have k2' : g.E f = some y := k2
        rw [he] at k2'; cases k2'
        exact hc ⟨by omega, k5.imp Eq.symm Eq.symm⟩
  · rw [putG_L g e x i hne]
    split
    · refine List.nodup_append.2 ⟨h.nd _, by simp, fun b hb c hc k => ?_⟩
      simp at hc; subst hc; subst k; exact nm _ hb
    · exact h.nd _
/-- An edge that is passed over is told anew. -/
theorem Gi.skipE (h : Gi g on sv lv S go gl) {e : Int} {x : Eg} (hS : S e) (hx : (1 ≤ e ∧ e ≤ 1000000) ∧ x.a ≠ x.b ∧ on x.a ∧ on x.b ∧ 0 ≤ x.l ∧ x.l < g.m) (ne : Nat) : Gi (g.setE (updQ g.E e (some x)) ne) on sv lv S go gl := by
  have key : ∀ f (y : Eg), ¬ S f → (updQ g.E e (some x) f = some y ↔ g.E f = some y) := fun f y hf => by rw [updQ_ne (fun k : f = e => hf (by rw [k]; exact hS))]
  have hQ : ∀ j : Int, Qd g.E S j = Qd (updQ g.E e (some x)) S j := fun j => qd_ext fun f y _ _ => ⟨fun ⟨k1, k2⟩ => ⟨k1, (key f y k1).2 k2⟩, fun ⟨k1, k2⟩ => ⟨k1, (key f y k1).1 k2⟩⟩
  refine ⟨fun j hj => ?_, fun j hj => ?_, fun v j f => ?_, fun f y hy => ?_, h.ob, h.nd, h.m⟩
  · exact (h.q j hj).trans (hQ j)
  · refine (h.p j hj).trans ?_
    show _ = Pf (VS on (updQ g.E e (some x)) S go gl j) _ _ _
    rw [vs_ext (fun j _ => hQ j) j]; rfl
  · rw [show (g.setE (updQ g.E e (some x)) ne).s.L (v, j) = g.s.L (v, j) from rfl, h.lo]
    exact ⟨fun ⟨y, k1, k2, k3⟩ => ⟨y, k1, (key f y k1).2 k2, k3⟩, fun ⟨y, k1, k2, k3⟩ => ⟨y, k1, (key f y k1).1 k2, k3⟩⟩
  · by_cases ef : f = e
    · subst ef
      have : updQ g.E f (some x) f = some y := hy
      rw [updQ_at] at this; cases this; exact hx
    · have : updQ g.E e (some x) f = some y := hy
      rw [updQ_ne ef] at this; exact h.eb f y this
end
end Go.Proofs.YtcbgeahcnjamdabGreat
