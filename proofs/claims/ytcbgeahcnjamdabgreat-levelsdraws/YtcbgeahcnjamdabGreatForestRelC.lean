/- Layer 8, plain: what is found, which vertices are told. -/
import Derived.Test.YtcbgeahcnjamdabGreatForestRelB
namespace Go.Proofs.YtcbgeahcnjamdabGreat
open Go.RowKit
set_option linter.unusedVariables false
theorem fb1 : ∀ e : Fin 16, ∀ b : Fin 256, hasB (emk (e.val : Int)) (vmk (b.val : Int)) = false := by decide +kernel
theorem fb2 : ∀ m : Fin 16, ∀ b : Fin 256, hasB (m.val : Int) (vmk (b.val : Int)) = hasB (m.val : Int) (b.val : Int) := by decide +kernel
theorem fb3 : ∀ m : Fin 16, ∀ b : Fin 256, hasB (m.val : Int) (emk (b.val : Int)) = false := by decide +kernel
theorem fb4 : ∀ e : Fin 16, ∀ b : Fin 256, hasB (emk (e.val : Int)) (emk (b.val : Int)) = hasB (e.val : Int) (b.val : Int) := by decide +kernel
theorem toF {n : Nat} {x : Int} (h : 0 ≤ x ∧ x < n) : ∃ k : Fin n, x = (k.val : Int) := ⟨⟨x.toNat, by omega⟩, by simp; omega⟩
section
variable {e b : Int}
theorem hb1 (he : 0 ≤ e ∧ e ≤ 15) (hb : 0 ≤ b ∧ b ≤ 255) : hasB (emk e) (vmk b) = false := by
  obtain ⟨e, rfl⟩ := toF (n := 16) (x := e) (by omega); obtain ⟨b, rfl⟩ := toF (n := 256) (x := b) (by omega); exact fb1 e b
theorem hb2 (he : 0 ≤ e ∧ e ≤ 15) (hb : 0 ≤ b ∧ b ≤ 255) : hasB e (vmk b) = hasB e b := by
  obtain ⟨e, rfl⟩ := toF (n := 16) (x := e) (by omega); obtain ⟨b, rfl⟩ := toF (n := 256) (x := b) (by omega); exact fb2 e b
theorem hb3 (he : 0 ≤ e ∧ e ≤ 15) (hb : 0 ≤ b ∧ b ≤ 255) : hasB e (emk b) = false := by
  obtain ⟨e, rfl⟩ := toF (n := 16) (x := e) (by omega); obtain ⟨b, rfl⟩ := toF (n := 256) (x := b) (by omega); exact fb3 e b
theorem hb4 (he : 0 ≤ e ∧ e ≤ 15) (hb : 0 ≤ b ∧ b ≤ 255) : hasB (emk e) (emk b) = hasB e b := by
  obtain ⟨e, rfl⟩ := toF (n := 16) (x := e) (by omega); obtain ⟨b, rfl⟩ := toF (n := 256) (x := b) (by omega); exact fb4 e b
end
section
variable {f : Fo} {vs : List Vx} {es : List Ex}
theorem Rel.mOf (h : Rel f vs es) {v : Int} {T : List Int} (hT : Trv vs es v T) {u : Int} (hu : u ∈ T) : (f.t.s.V (f.t.item (f.vi u))).m = (vat vs u).m ∧ 0 ≤ (vat vs u).m ∧ (vat vs u).m ≤ 15 := by
  obtain ⟨k1, k2⟩ := vat_in ((hT.mem u).1 hu).1
  obtain ⟨_, _, k3, k4⟩ := h.vin _ k1
  rw [k2] at k3
  exact ⟨by rw [k3], k4⟩
/-- FindVertex. -/
theorem Rel.findV (hB : Tb f.t) (h : Rel f vs es) {v : Int} (hv : v ∈ vs.map Vx.v) {T : List Int} (hT : Trv vs es v T) {b : Int} (hb : 0 ≤ b ∧ b ≤ 255) :
    (f.findV v b ≠ 0 ∧ ∃ u, u ∈ T ∧ hasB (vat vs u).m b = true ∧ f.vo (f.findV v b) = u) ∨ (f.findV v b = 0 ∧ ∀ u, u ∈ T → hasB (vat vs u).m b = false) := by
  obtain ⟨t1, t2, t3⟩ := h.tour hB hv hT
  obtain ⟨v1, v2⟩ := h.isv hv
  have hi := h.eu.ne0 hB v1
  have hf : f.findV v b = (f.t.p (fdS f.t.s.V (f.t.s.S (f.t.item (f.vi v))) (vmk b))).1 := by unfold Fo.findV To.find; rw [if_neg hi]
  rw [hf]
  unfold fdS
  cases hq : (f.t.s.S (f.t.item (f.vi v))).find? fun j => hasB (f.t.s.V j).m (vmk b) with
  | some z =>
    have hz := List.mem_of_find?_eq_some hq
    have hh : hasB (f.t.s.V z).m (vmk b) = true := by have := List.find?_some hq; simpa using this
    simp only [Option.getD_some]
    rcases t3 z hz with ⟨u, hu, rfl⟩ | ⟨n, hn, k⟩
    · have hm := ((hT.mem u).1 hu).1
      obtain ⟨u1, u2⟩ := h.isv hm
      obtain ⟨m1, m2⟩ := h.mOf hT hu
      rw [(h.eu.iv _ u1).2.1]
      rw [m1, hb2 m2 hb] at hh
      exact .inl ⟨h.mem.2 hm, u, hu, hh, u2⟩
    · obtain ⟨y, hy, rfl⟩ := h.eall n hn
      obtain ⟨_, _, _, _, _, _, k7, k8, k9⟩ := h.ein y hy
      rcases k with rfl | rfl
      · rw [k7, hb1 k9 hb] at hh; cases hh
      · rw [k8, hb2 ⟨Int.le_refl 0, by decide⟩ hb] at hh
        have : hasB 0 b = false := by have := hb3 (e := 0) (b := 0) ⟨Int.le_refl 0, by decide⟩ ⟨Int.le_refl 0, by decide⟩; obtain ⟨b, rfl⟩ := toF (n := 256) (x := b) (by omega); exact (by decide +kernel : ∀ b : Fin 256, hasB 0 (b.val : Int) = false) b
        rw [this] at hh; cases hh
  | none =>
    simp only [Option.getD_none]
    rw [h.z.2.2]
    refine .inr ⟨rfl, fun u hu => ?_⟩
    obtain ⟨m1, m2⟩ := h.mOf hT hu
    have := List.find?_eq_none.1 hq _ (t1 u hu)
    rw [m1, hb2 m2 hb] at this
    simpa using this
/-- The items of an edge are in the tour of its ends' tree. -/
theorem Rel.eTour (hB : Tb f.t) (h : Rel f vs es) {v : Int} (hv : v ∈ vs.map Vx.v) {T : List Int} (hT : Trv vs es v T) {y : Ex} (hy : y ∈ es) : (f.t.edge (f.ei y.e)).x ∈ f.t.s.S (f.t.item (f.vi v)) ↔ y.a ∈ T := by
  obtain ⟨k1, k2, k3, k4, k5, k6, _⟩ := h.ein y hy
  obtain ⟨e1, e2, e3, e4, _⟩ := h.eu.ends hB k1
  rw [k3] at e3
  have hx := hB.fam.mem _ (h.eu.ev _ k1).1
  have hs := hB.fam.same _ _ e3
  constructor
  · intro hm
    refine (hT.mem _).2 ⟨k5, ?_⟩
    have : f.same v y.a = true := To.same_iff.2 (by rw [← hB.fam.same _ _ hm]; exact e3)
    exact ((h.same hB).1 this).2.2
  · intro ha
    have h1 : f.t.same (f.vi v) (f.vi y.a) = true := (h.same hB).2 ⟨hv, k5, ((hT.mem _).1 ha).2⟩
    have := hB.fam.same _ _ (To.same_iff.1 h1)
    rw [← this, hs]; exact hx
/-- FindEdge. -/
theorem Rel.findE (hB : Tb f.t) (h : Rel f vs es) {v : Int} (hv : v ∈ vs.map Vx.v) {T : List Int} (hT : Trv vs es v T) {b : Int} (hb : 0 ≤ b ∧ b ≤ 255) :
    (f.findE v b ≠ 0 ∧ ∃ y, y ∈ es ∧ y.a ∈ T ∧ hasB y.m b = true ∧ f.eo (f.findE v b) = y.e) ∨ (f.findE v b = 0 ∧ ∀ y, y ∈ es → y.a ∈ T → hasB y.m b = false) := by
  obtain ⟨t1, t2, t3⟩ := h.tour hB hv hT
  obtain ⟨v1, v2⟩ := h.isv hv
  have hi := h.eu.ne0 hB v1
  have hf : f.findE v b = (f.t.p (fdS f.t.s.V (f.t.s.S (f.t.item (f.vi v))) (emk b))).2 := by unfold Fo.findE To.find; rw [if_neg hi]
  rw [hf]
  unfold fdS
  cases hq : (f.t.s.S (f.t.item (f.vi v))).find? fun j => hasB (f.t.s.V j).m (emk b) with
  | some z =>
    have hz := List.mem_of_find?_eq_some hq
    have hh : hasB (f.t.s.V z).m (emk b) = true := by have := List.find?_some hq; simpa using this
    simp only [Option.getD_some]
    rcases t3 z hz with ⟨u, hu, rfl⟩ | ⟨n, hn, k⟩
    · obtain ⟨m1, m2⟩ := h.mOf hT hu
      rw [m1, hb3 m2 hb] at hh; cases hh
    · obtain ⟨y, hy, rfl⟩ := h.eall n hn
      obtain ⟨k1, k2, _, _, _, _, k7, k8, k9⟩ := h.ein y hy
      rcases k with rfl | rfl
      · rw [k7, hb4 k9 hb] at hh
        rw [(h.eu.ev _ k1).2.2.1]
        exact .inl ⟨h.memE.2 (List.mem_map.2 ⟨y, hy, rfl⟩), y, hy, (h.eTour hB hv hT hy).1 hz, hh, k2⟩
      · rw [k8, hb3 ⟨Int.le_refl 0, by decide⟩ hb] at hh; cases hh
  | none =>
    simp only [Option.getD_none]
    rw [h.z.2.2]
    refine .inr ⟨rfl, fun y hy ha => ?_⟩
    obtain ⟨k1, k2, _, _, _, _, k7, k8, k9⟩ := h.ein y hy
    have := List.find?_eq_none.1 hq _ ((h.eTour hB hv hT hy).2 ha)
    rw [k7, hb4 k9 hb] at this
    simpa using this
/-- Vertices. -/
theorem Rel.verts (hB : Tb f.t) (h : Rel f vs es) {v : Int} (hv : v ∈ vs.map Vx.v) {T : List Int} (hT : Trv vs es v T) : ((f.t.verts (f.vi v)).map f.vo).Perm T := by
  obtain ⟨t1, t2, t3⟩ := h.tour hB hv hT
  obtain ⟨v1, v2⟩ := h.isv hv
  have hi := h.eu.ne0 hB v1
  have hnd := hB.fam.nodup (f.t.item (f.vi v))
  unfold To.verts
  rw [if_neg hi]
  have pv : ∀ z, z ∈ f.t.s.S (f.t.item (f.vi v)) → (∃ u, u ∈ T ∧ f.t.item (f.vi u) = z ∧ (f.t.p z).1 = f.vi u ∧ f.vi u ≠ 0 ∧ f.vo (f.vi u) = u) ∨ (f.t.p z).1 = 0 := fun z hz => by
    rcases t3 z hz with ⟨u, hu, rfl⟩ | ⟨n, hn, k⟩
    · have hm := ((hT.mem u).1 hu).1
      obtain ⟨u1, u2⟩ := h.isv hm
      exact .inl ⟨u, hu, rfl, by rw [(h.eu.iv _ u1).2.1], h.mem.2 hm, u2⟩
    · obtain ⟨_, _, p1, p2, _⟩ := h.eu.ev n hn
      rcases k with rfl | rfl
      · exact .inr (by rw [p1])
      · exact .inr (by rw [p2])
  have key : ∀ L : List Int, L.Nodup → (∀ z, z ∈ L → z ∈ f.t.s.S (f.t.item (f.vi v))) → ((f.t.vs L).map f.vo).Nodup ∧ ∀ u, u ∈ (f.t.vs L).map f.vo ↔ u ∈ T ∧ f.t.item (f.vi u) ∈ L := fun L => by
    induction L with
    | nil => exact fun _ _ => ⟨List.nodup_nil, fun u => ⟨fun k => (by cases k), fun k => (by cases k.2)⟩⟩
    | cons z L ih =>
      intro hL hin
      obtain ⟨hzL, hL'⟩ := List.nodup_cons.1 hL
      obtain ⟨i1, i2⟩ := ih hL' (fun a ha => hin a (by simp [ha]))
      rcases pv z (hin z (by simp)) with ⟨u, hu, e1, e2, e3, e4⟩ | e0
      · have e5 : (f.t.vs (z :: L)).map f.vo = u :: (f.t.vs L).map f.vo := by
          unfold To.vs
          rw [List.map_cons, List.filter_cons_of_pos (by rw [e2]; simpa using e3), List.map_cons, e2, e4]
        rw [e5]
        refine ⟨List.nodup_cons.2 ⟨fun k => hzL ?_, i1⟩, fun w => ?_⟩
        · rw [← e1]; exact ((i2 u).1 k).2
        · rw [List.mem_cons, i2]
          constructor
          · rintro (rfl | ⟨k1, k2⟩)
            · exact ⟨hu, by rw [e1]; simp⟩
            · exact ⟨k1, by simp [k2]⟩
          · rintro ⟨k1, k2⟩
            rcases List.mem_cons.1 k2 with k2 | k2
            · exact .inl (t2 w u k1 hu (by rw [k2, e1]))
            · exact .inr ⟨k1, k2⟩
      · have e5 : (f.t.vs (z :: L)).map f.vo = (f.t.vs L).map f.vo := by
          unfold To.vs
          rw [List.map_cons, List.filter_cons_of_neg (by rw [e0]; simp)]
        rw [e5]
        refine ⟨i1, fun w => (i2 w).trans ⟨fun k => ⟨k.1, by simp [k.2]⟩, fun k => ⟨k.1, ?_⟩⟩⟩
        rcases List.mem_cons.1 k.2 with k2 | k2
        · exfalso
          have hm := ((hT.mem w).1 k.1).1
          have := (h.eu.iv _ (h.isv hm).1).2.1
          rw [k2] at this
          rw [this] at e0
          exact h.mem.2 hm e0
        · exact k2
  obtain ⟨n1, n2⟩ := key _ hnd (fun z hz => hz)
  exact (List.perm_ext_iff_of_nodup n1 hT.nd).2 fun u => (n2 u).trans ⟨fun k => k.1, fun k => ⟨k, t1 u k⟩⟩
end
end Go.Proofs.YtcbgeahcnjamdabGreat
