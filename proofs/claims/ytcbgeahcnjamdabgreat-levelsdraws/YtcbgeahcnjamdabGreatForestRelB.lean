/- Layer 8, plain: what a forest tells, by its lists of vertices and edges. -/
import Derived.Test.YtcbgeahcnjamdabGreatForestRel
namespace Go.Proofs.YtcbgeahcnjamdabGreat
open Go.RowKit
set_option linter.unusedVariables false
/-- An edge of the list leads from x to y. -/
def Ee (es : List Ex) (x y : Int) : Prop := ∃ z, z ∈ es ∧ z.a = x ∧ z.b = y
theorem Tb.S0 {t : To} (hB : Tb t) : t.s.S 0 = [] := hB.empty (k := 0) rfl
section
variable {f : Fo} {vs : List Vx} {es : List Ex}
theorem Rel.jn (h : Rel f vs es) {a b : Int} (ha : a ∈ vs.map Vx.v) (hb : b ∈ vs.map Vx.v) : Jn (Ed f.t) (f.vi a) (f.vi b) ↔ Jn (Ee es) a b := by
  constructor
  · have key : ∀ i j, Jn (Ed f.t) i j → ∀ a, a ∈ vs.map Vx.v → f.vi a = i → ∃ b, b ∈ vs.map Vx.v ∧ f.vi b = j ∧ Jn (Ee es) a b := fun i j hj => by
      induction hj with
      | refl => exact fun a ha e => ⟨a, ha, e, Jn.refl _⟩
      | step _ e ih =>
        intro a ha e0
        obtain ⟨b, hb, e1, hJ⟩ := ih a ha e0
        rcases e with ⟨n, hn, k1, k2⟩ | ⟨n, hn, k1, k2⟩
        · obtain ⟨y, hy, rfl⟩ := h.eall n hn
          obtain ⟨_, _, m3, m4, m5, m6, _⟩ := h.ein y hy
          have : b = y.a := h.vinj hb m5 (by rw [e1, ← k1, m3])
          exact ⟨y.b, m6, by rw [← k2, m4], .step hJ (.inl ⟨y, hy, this.symm, rfl⟩)⟩
        · obtain ⟨y, hy, rfl⟩ := h.eall n hn
          obtain ⟨_, _, m3, m4, m5, m6, _⟩ := h.ein y hy
          have : b = y.b := h.vinj hb m6 (by rw [e1, ← k2, m4])
          exact ⟨y.a, m5, by rw [← k1, m3], .step hJ (.inr ⟨y, hy, rfl, this.symm⟩)⟩
    intro hj
    obtain ⟨b', hb', e, hJ⟩ := key _ _ hj a ha rfl
    rw [h.vinj hb hb' e.symm]; exact hJ
  · intro hj
    induction hj with
    | refl => exact Jn.refl _
    | step hp e ih =>
      rcases e with ⟨z, hz, k1, k2⟩ | ⟨z, hz, k1, k2⟩
      · obtain ⟨m1, _, m3, m4, m5, m6, _⟩ := h.ein z hz
        refine .step (ih (k1 ▸ m5)) (.inl ⟨_, m1, ?_, ?_⟩)
        · rw [m3, k1]
        · rw [m4, k2]
      · obtain ⟨m1, _, m3, m4, m5, m6, _⟩ := h.ein z hz
        refine .step (ih (k2 ▸ m6)) (.inr ⟨_, m1, ?_, ?_⟩)
        · rw [m3, k1]
        · rw [m4, k2]
/-- Same. -/
theorem Rel.same (hB : Tb f.t) (h : Rel f vs es) {a b : Int} : f.same a b = true ↔ a ∈ vs.map Vx.v ∧ b ∈ vs.map Vx.v ∧ Jn (Ee es) a b := by
  unfold Fo.same
  by_cases ha : a ∈ vs.map Vx.v
  · by_cases hb : b ∈ vs.map Vx.v
    · rw [h.eu.joined hB (h.isv ha).1 (h.isv hb).1, h.jn ha hb]
      exact ⟨fun k => ⟨ha, hb, k⟩, fun k => k.2.2⟩
    · refine ⟨fun k => ?_, fun k => absurd k.2.1 hb⟩
      rw [To.same_iff, h.vno b hb, To.item_no (by simp [isA] : isA f.t.v 0 = false)] at k
      have := hB.fam.same _ _ k
      rw [hB.S0] at this
      rw [← this] at k; cases k
  · refine ⟨fun k => ?_, fun k => absurd k.1 ha⟩
    rw [To.same_iff, h.vno a ha, To.item_no (by simp [isA] : isA f.t.v 0 = false), hB.S0] at k
    cases k
end
/-- A list's sum, one of its items taken out. -/
theorem erase_sum {g : Int → Int} {h : List Int → Int} (h1 : ∀ a l, h (a :: l) = g a + h l) {a : Int} : ∀ {L : List Int}, a ∈ L → h L = g a + h (L.erase a) := by
  intro L
  induction L with
  | nil => intro k; cases k
  | cons b L ih =>
    intro k
    by_cases e : b = a
    · subst e; rw [List.erase_cons_head, h1]
    · have hm : a ∈ L := by rcases List.mem_cons.1 k with k | k; exact absurd k.symm e; exact k
      rw [List.erase_cons_tail (by simpa using e), h1, h1, ih hm]; omega
theorem erase_min {g : Int → Int} {h : List Int → Int} (h1 : ∀ a l, h (a :: l) = min (g a) (h l)) {a : Int} : ∀ {L : List Int}, a ∈ L → h L = min (g a) (h (L.erase a)) := by
  intro L
  induction L with
  | nil => intro k; cases k
  | cons b L ih =>
    intro k
    by_cases e : b = a
    · subst e; rw [List.erase_cons_head, h1]
    · have hm : a ∈ L := by rcases List.mem_cons.1 k with k | k; exact absurd k.symm e; exact k
      rw [List.erase_cons_tail (by simpa using e), h1, h1, ih hm]; omega
/-- Sums over a list of vertices. -/
def sumL (g : Int → Int) : List Int → Int
  | [] => 0
  | u :: l => g u + sumL g l
def minL (g : Int → Int) : List Int → Int
  | [] => 4611686018427387904
  | u :: l => min (g u) (minL g l)
section
variable {g : Int → Int} {it : Int → Int}
theorem list_sum {h : List Int → Int} (h0 : h [] = 0) (h1 : ∀ a l, h (a :: l) = g a + h l) {T : List Int} (hT : T.Nodup) (inj : ∀ u v, u ∈ T → v ∈ T → it u = it v → u = v) : ∀ {L : List Int}, L.Nodup → (∀ u, u ∈ T → it u ∈ L) → (∀ z, z ∈ L → (∃ u, u ∈ T ∧ it u = z) ∨ g z = 0) → h L = sumL (fun u => g (it u)) T := by
  induction T with
  | nil =>
    intro L _ _ hz
    show h L = 0
    induction L with
    | nil => exact h0
    | cons a L ih =>
      rw [h1, ih (by assumption |> fun k => (List.nodup_cons.1 k).2) (fun u hu => by cases hu) (fun z hz' => hz z (by simp [hz']))]
      rcases hz a (by simp) with ⟨u, hu, _⟩ | e
      · cases hu
      · omega
  | cons u T ih =>
    intro L hL hin hz
    obtain ⟨huT, hT'⟩ := List.nodup_cons.1 hT
    rw [erase_sum h1 (hin u (by simp))]
    show _ = g (it u) + sumL (fun u => g (it u)) T
    rw [ih hT' (fun a b ha hb e => inj a b (by simp [ha]) (by simp [hb]) e) (L := L.erase (it u)) (hL.sublist List.erase_sublist) (fun a ha => ?_) (fun z hz' => ?_)]
    · refine (List.mem_erase_of_ne (fun e => huT ?_)).2 (hin a (by simp [ha]))
      rw [← inj a u (by simp [ha]) (by simp) e]; exact ha
    · obtain ⟨hne, hm⟩ := (hL.mem_erase_iff).1 hz'
      rcases hz z hm with ⟨a, ha, e⟩ | e
      · rcases List.mem_cons.1 ha with rfl | ha
        · exact absurd e.symm hne
        · exact .inl ⟨a, ha, e⟩
      · exact .inr e
theorem list_min {h : List Int → Int} (h0 : h [] = 4611686018427387904) (h1 : ∀ a l, h (a :: l) = min (g a) (h l)) {T : List Int} (hT : T.Nodup) (inj : ∀ u v, u ∈ T → v ∈ T → it u = it v → u = v) : ∀ {L : List Int}, L.Nodup → (∀ u, u ∈ T → it u ∈ L) → (∀ z, z ∈ L → (∃ u, u ∈ T ∧ it u = z) ∨ g z = 4611686018427387904) → h L = minL (fun u => g (it u)) T := by
  induction T with
  | nil =>
    intro L hL _ hz
    show h L = 4611686018427387904
    induction L with
    | nil => exact h0
    | cons a L ih =>
      rw [h1, ih (List.nodup_cons.1 hL).2 (fun u hu => by cases hu) (fun z hz' => hz z (by simp [hz']))]
      rcases hz a (by simp) with ⟨u, hu, _⟩ | e
      · cases hu
      · omega
  | cons u T ih =>
    intro L hL hin hz
    obtain ⟨huT, hT'⟩ := List.nodup_cons.1 hT
    rw [erase_min h1 (hin u (by simp))]
    show _ = min (g (it u)) (minL (fun u => g (it u)) T)
    rw [ih hT' (fun a b ha hb e => inj a b (by simp [ha]) (by simp [hb]) e) (L := L.erase (it u)) (hL.sublist List.erase_sublist) (fun a ha => ?_) (fun z hz' => ?_)]
    · refine (List.mem_erase_of_ne (fun e => huT ?_)).2 (hin a (by simp [ha]))
      rw [← inj a u (by simp [ha]) (by simp) e]; exact ha
    · obtain ⟨hne, hm⟩ := (hL.mem_erase_iff).1 hz'
      rcases hz z hm with ⟨a, ha, e⟩ | e
      · rcases List.mem_cons.1 ha with rfl | ha
        · exact absurd e.symm hne
        · exact .inl ⟨a, ha, e⟩
      · exact .inr e
end
/-- The vertex of a number. -/
def vat (vs : List Vx) (u : Int) : Vx := (vs.find? fun x => decide (x.v = u)).getD ⟨0, 0, 0, 0⟩
theorem vat_in {vs : List Vx} {u : Int} (h : u ∈ vs.map Vx.v) : vat vs u ∈ vs ∧ (vat vs u).v = u := by
  unfold vat
  cases hf : vs.find? fun x => decide (x.v = u) with
  | some x =>
    have := List.find?_some hf
    exact ⟨List.mem_of_find?_eq_some hf, by simpa using this⟩
  | none =>
    obtain ⟨x, hx, e⟩ := List.mem_map.1 h
    have := List.find?_eq_none.1 hf x hx
    simp [e] at this
section
variable {f : Fo} {vs : List Vx} {es : List Ex}
/-- The vertices of v's tree. -/
structure Trv (vs : List Vx) (es : List Ex) (v : Int) (T : List Int) : Prop where
  nd : T.Nodup
  mem : ∀ u, u ∈ T ↔ u ∈ vs.map Vx.v ∧ Jn (Ee es) v u
/-- The items of a tree's tour: those of its vertices, and those of edges. -/
theorem Rel.tour (hB : Tb f.t) (h : Rel f vs es) {v : Int} (hv : v ∈ vs.map Vx.v) {T : List Int} (hT : Trv vs es v T) :
    (∀ u, u ∈ T → f.t.item (f.vi u) ∈ f.t.s.S (f.t.item (f.vi v))) ∧ (∀ u w, u ∈ T → w ∈ T → f.t.item (f.vi u) = f.t.item (f.vi w) → u = w) ∧
    (∀ z, z ∈ f.t.s.S (f.t.item (f.vi v)) → (∃ u, u ∈ T ∧ f.t.item (f.vi u) = z) ∨ ∃ n, isA f.t.e n = true ∧ (z = (f.t.edge n).x ∨ z = (f.t.edge n).y)) := by
  obtain ⟨v1, v2⟩ := h.isv hv
  refine ⟨fun u hu => ?_, fun u w hu hw e => ?_, fun z hz => ?_⟩
  · obtain ⟨hm, hj⟩ := (hT.mem u).1 hu
    exact To.same_iff.1 (show f.t.same (f.vi v) (f.vi u) = true from (h.same hB).2 ⟨hv, hm, hj⟩)
  · have hu' := ((hT.mem u).1 hu).1
    have hw' := ((hT.mem w).1 hw).1
    exact h.vinj hu' hw' (h.eu.item_inj (h.isv hu').1 (h.isv hw').1 e)
  · obtain ⟨r, hr⟩ := h.eu.tq _ (h.eu.iv _ v1).1
    rcases hr.items z hz with ⟨i, hi⟩ | ⟨a, c, x, y, ⟨n, hn, hc⟩, hxy, _⟩
    · obtain ⟨x, hx, rfl⟩ := h.vall i hi.1
      have hm : x.v ∈ vs.map Vx.v := List.mem_map.2 ⟨x, hx, rfl⟩
      refine .inl ⟨x.v, (hT.mem _).2 ⟨hm, ?_⟩, hi.2⟩
      have : f.same v x.v = true := To.same_iff.2 (by rw [hi.2]; exact hz)
      exact ((h.same hB).1 this).2.2
    · refine .inr ⟨n, hn, ?_⟩
      rcases hc with ⟨_, _, e3, e4⟩ | ⟨_, _, e3, e4⟩ <;> rcases hxy with e | e
      · exact .inl (by rw [e, e3])
      · exact .inr (by rw [e, e4])
      · exact .inr (by rw [e, e3])
      · exact .inl (by rw [e, e4])
/-- Size, Sum, Least. -/
theorem Rel.total (hB : Tb f.t) (h : Rel f vs es) {v : Int} (hv : v ∈ vs.map Vx.v) {T : List Int} (hT : Trv vs es v T) :
    (f.total v).c = wr (sumL (fun _ => 1) T) ∧ (f.total v).s = wr (sumL (fun u => (vat vs u).s) T) ∧ (f.total v).l = minL (fun u => (vat vs u).l) T := by
  obtain ⟨t1, t2, t3⟩ := h.tour hB hv hT
  obtain ⟨v1, v2⟩ := h.isv hv
  have hnd := hB.fam.nodup (f.t.item (f.vi v))
  have z0 : ∀ z, z ∈ f.t.s.S (f.t.item (f.vi v)) → (∃ u, u ∈ T ∧ f.t.item (f.vi u) = z) ∨ ((f.t.s.V z).c = 0 ∧ (f.t.s.V z).s = 0 ∧ (f.t.s.V z).l = 4611686018427387904) := fun z hz => by
    rcases t3 z hz with k | ⟨n, hn, k⟩
    · exact .inl k
    · obtain ⟨_, _, _, _, _, k1, k2⟩ := h.eu.ev n hn
      rcases k with rfl | rfl
      · exact .inr k1
      · exact .inr k2
  have hval : ∀ u, u ∈ T → f.t.s.V (f.t.item (f.vi u)) = ⟨1, (vat vs u).s, (vat vs u).l, (vat vs u).m⟩ := fun u hu => by
    obtain ⟨k1, k2⟩ := vat_in ((hT.mem u).1 hu).1
    have := (h.vin _ k1).2.2.1
    rw [k2] at this; exact this
  have cg : ∀ (p q : Int → Int), (∀ u, u ∈ T → p u = q u) → sumL p T = sumL q T ∧ minL p T = minL q T := fun p q hpq => by
    clear hT t1 t2 t3 z0 hval
    induction T with
    | nil => exact ⟨rfl, rfl⟩
    | cons a T ih =>
      obtain ⟨i1, i2⟩ := ih (fun u hu => hpq u (by simp [hu]))
      exact ⟨by show p a + sumL p T = q a + sumL q T; rw [i1, hpq a (by simp)], by show min (p a) (minL p T) = min (q a) (minL q T); rw [i2, hpq a (by simp)]⟩
  obtain ⟨e1, e2, e3⟩ := To.total_S (h.eu.ne0 hB v1)
  refine ⟨?_, ?_, ?_⟩
  · show (f.t.total (f.vi v)).c = _
    rw [e1, list_sum (g := fun z => (f.t.s.V z).c) (it := fun u => f.t.item (f.vi u)) (h := cS f.t.s.V) rfl (fun _ _ => rfl) hT.nd t2 hnd t1 (fun z hz => (z0 z hz).imp id (fun k => k.1))]
    rw [(cg _ (fun _ => 1) (fun u hu => by show (f.t.s.V _).c = 1; rw [hval u hu])).1]
  · show (f.t.total (f.vi v)).s = _
    rw [e2, list_sum (g := fun z => (f.t.s.V z).s) (it := fun u => f.t.item (f.vi u)) (h := sS f.t.s.V) rfl (fun _ _ => rfl) hT.nd t2 hnd t1 (fun z hz => (z0 z hz).imp id (fun k => k.2.1))]
    rw [(cg _ (fun u => (vat vs u).s) (fun u hu => by show (f.t.s.V _).s = _; rw [hval u hu])).1]
  · show (f.t.total (f.vi v)).l = _
    rw [e3, list_min (g := fun z => (f.t.s.V z).l) (it := fun u => f.t.item (f.vi u)) (h := lS f.t.s.V) rfl (fun _ _ => rfl) hT.nd t2 hnd t1 (fun z hz => (z0 z hz).imp id (fun k => k.2.2))]
    rw [(cg _ (fun u => (vat vs u).l) (fun u hu => by show (f.t.s.V _).l = _; rw [hval u hu])).2]
end
end Go.Proofs.YtcbgeahcnjamdabGreat
