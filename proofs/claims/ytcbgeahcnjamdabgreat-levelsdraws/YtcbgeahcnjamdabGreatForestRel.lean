/- Layer 8, plain: the forest against lists of vertices and edges. Rel f vs es: f has the vertices vs and the edges es; what each call makes of them, and what it tells (Rel.add ..). -/
import Derived.Test.YtcbgeahcnjamdabGreatTourSame
import Derived.Test.YtcbgeahcnjamdabGreatForestOps
namespace Go.Proofs.YtcbgeahcnjamdabGreat
open Go.RowKit
set_option linter.unusedVariables false

/-- Values are changed, but not what vertices and edges are. -/
theorem Eu.reval {t : To} (h : Eu t) {s' : Sq} (hS : s'.S = t.s.S) (hv : ∀ v, isA t.v v = true → (s'.V (t.item v)).c = 1)
    (he : ∀ n, isA t.e n = true → ((s'.V (t.edge n).x).c = 0 ∧ (s'.V (t.edge n).x).s = 0 ∧ (s'.V (t.edge n).x).l = 4611686018427387904) ∧ ((s'.V (t.edge n).y).c = 0 ∧ (s'.V (t.edge n).y).s = 0 ∧ (s'.V (t.edge n).y).l = 4611686018427387904)) : Eu (t.ws s') := by
  refine ⟨fun i hi => ?_, fun v hA => ?_, fun n hn => ?_, h.vk, h.ek⟩
  · show ∃ v, Tq (tI t) (tE t) true v (s'.S i)
    have hi' : t.s.S i ≠ [] := by rw [← hS]; exact hi
    rw [hS]; exact h.tq i hi'
  · show s'.S (t.item v) ≠ [] ∧ t.p (t.item v) = (v, 0) ∧ (s'.V (t.item v)).c = 1
    rw [hS]; exact ⟨(h.iv v hA).1, (h.iv v hA).2.1, hv v hA⟩
  · show s'.S (t.edge n).x ≠ [] ∧ s'.S (t.edge n).y ≠ [] ∧ t.p (t.edge n).x = (0, n) ∧ t.p (t.edge n).y = (0, n) ∧ (t.edge n).x ≠ (t.edge n).y ∧ _ ∧ _
    rw [hS]
    obtain ⟨h1, h2, h3, h4, h5, _, _⟩ := h.ev n hn
    exact ⟨h1, h2, h3, h4, h5, he n hn⟩
theorem Tb.isK {t : To} (hB : Tb t) (h : Eu t) {v : Int} (hv : isA t.v v = true) : isK t.s.K (t.item v) = true := (hB.kS _).2 (h.iv v hv).1
/-- The items of vertices and edges are apart. -/
theorem Eu.item_x {t : To} (h : Eu t) {v n : Int} (hv : isA t.v v = true) (hn : isA t.e n = true) : t.item v ≠ (t.edge n).x ∧ t.item v ≠ (t.edge n).y :=
  ⟨fun e => (h.apart (v := v) (⟨n, hn, .inl ⟨rfl, rfl, rfl, rfl⟩⟩ : tE t _ _ _ _)).1 ⟨hv, e⟩, fun e => (h.apart (v := v) (⟨n, hn, .inl ⟨rfl, rfl, rfl, rfl⟩⟩ : tE t _ _ _ _)).2 ⟨hv, e⟩⟩
theorem Eu.item_inj {t : To} (h : Eu t) {v u : Int} (hv : isA t.v v = true) (hu : isA t.v u = true) (e : t.item v = t.item u) : v = u := h.one (i := t.item u) ⟨hv, e⟩ ⟨hu, rfl⟩
theorem Eu.edge_x {t : To} (h : Eu t) {n m : Int} (hn : isA t.e n = true) (hm : isA t.e m = true) (hne : n ≠ m) : (t.edge n).x ≠ (t.edge m).x ∧ (t.edge n).x ≠ (t.edge m).y ∧ (t.edge n).y ≠ (t.edge m).x ∧ (t.edge n).y ≠ (t.edge m).y := by
  obtain ⟨_, _, p1, p2, _⟩ := h.ev n hn
  obtain ⟨_, _, q1, q2, _⟩ := h.ev m hm
  have key : ∀ a b, t.p a = (0, n) → t.p b = (0, m) → a ≠ b := fun a b ha hb e => hne (by rw [e, hb] at ha; exact (congrArg Prod.snd ha).symm)
  exact ⟨key _ _ p1 q1, key _ _ p1 q2, key _ _ p2 q1, key _ _ p2 q2⟩
/-- A value of a vertex' item, an edge's first item. -/
theorem Eu.setItem {t : To} (hB : Tb t) (h : Eu t) {v : Int} (hv : isA t.v v = true) (x : Vl) (hx : x.c = 1) : Eu (t.ws (t.s.set (t.item v) x)) ∧ (t.s.set (t.item v) x).V = updV t.s.V (t.item v) x := by
  have e : (t.s.set (t.item v) x).V = updV t.s.V (t.item v) x := if_pos (hB.isK h hv)
  refine ⟨h.reval rfl (fun u hu => ?_) (fun n hn => ?_), e⟩
  · rw [e]; unfold updV; split
    · exact hx
    · exact (h.iv u hu).2.2
  · obtain ⟨_, _, _, _, _, k1, k2⟩ := h.ev n hn
    have := h.item_x hv hn
    rw [e]; unfold updV; rw [if_neg this.1.symm, if_neg this.2.symm]; exact ⟨k1, k2⟩
theorem Eu.markEdge {t : To} (hB : Tb t) (h : Eu t) {n : Int} (hn : isA t.e n = true) (m : Int) : Eu (t.markI (t.edge n).x m) ∧ (t.markI (t.edge n).x m).s.V = updV t.s.V (t.edge n).x ⟨0, 0, 4611686018427387904, m⟩ := by
  have hk : isK t.s.K (t.edge n).x = true := (hB.kS _).2 (h.ev n hn).1
  obtain ⟨_, _, _, _, hxy, k1, k2⟩ := h.ev n hn
  have hval : t.val (t.edge n).x = t.s.V (t.edge n).x := if_pos hk
  have e : (t.markI (t.edge n).x m).s.V = updV t.s.V (t.edge n).x ⟨0, 0, 4611686018427387904, m⟩ := by
    show (t.s.set _ _).V = _
    rw [show (t.s.set (t.edge n).x ⟨(t.val (t.edge n).x).c, (t.val (t.edge n).x).s, (t.val (t.edge n).x).l, m⟩).V = updV t.s.V (t.edge n).x ⟨(t.val (t.edge n).x).c, (t.val (t.edge n).x).s, (t.val (t.edge n).x).l, m⟩ from if_pos hk, hval, k1.1, k1.2.1, k1.2.2]
  refine ⟨?_, e⟩
  unfold To.markI at e ⊢
  refine h.reval rfl (fun u hu => ?_) (fun j hj => ?_)
  · have e' : ∀ z, (t.s.set (t.edge n).x ⟨(t.val (t.edge n).x).c, (t.val (t.edge n).x).s, (t.val (t.edge n).x).l, m⟩).V z = updV t.s.V (t.edge n).x ⟨0, 0, 4611686018427387904, m⟩ z := fun z => congrFun e z
    rw [e']; unfold updV; rw [if_neg (h.item_x hu hn).1]; exact (h.iv u hu).2.2
  · have e' : ∀ z, (t.s.set (t.edge n).x ⟨(t.val (t.edge n).x).c, (t.val (t.edge n).x).s, (t.val (t.edge n).x).l, m⟩).V z = updV t.s.V (t.edge n).x ⟨0, 0, 4611686018427387904, m⟩ z := fun z => congrFun e z
    obtain ⟨_, _, _, _, _, j1, j2⟩ := h.ev j hj
    rw [e', e']
    unfold updV
    by_cases ej : j = n
    · subst ej; rw [if_pos rfl, if_neg hxy.symm]; exact ⟨⟨rfl, rfl, rfl⟩, j2⟩
    · have := h.edge_x hj hn ej
      rw [if_neg this.1, if_neg this.2.2.1]; exact ⟨j1, j2⟩
/-- A vertex without an edge stands alone. -/
theorem Eu.alone {t : To} (hB : Tb t) (h : Eu t) {v : Int} (hv : isA t.v v = true) : t.s.lone (t.item v) = true ↔ ∀ n, isA t.e n = true → (t.edge n).a ≠ v ∧ (t.edge n).b ≠ v := by
  have hin := hB.fam.mem _ (h.iv v hv).1
  have hne : ∀ n, isA t.e n = true → (t.edge n).x ≠ t.item v := fun n hn e => (h.item_x hv hn).1 e.symm
  constructor
  · intro hl n hn
    have h1 : t.s.S (t.item v) = [t.item v] := by
      unfold Sq.lone at hl
      have hl := of_decide_eq_true hl
      obtain ⟨z, hz⟩ := List.length_eq_one_iff.1 hl
      rw [hz] at hin ⊢
      rw [List.mem_singleton.1 hin]
    obtain ⟨_, _, e1, e2, _⟩ := h.ends hB hn
    have hx := hB.fam.mem _ (h.ev n hn).1
    have key : ∀ u, t.item u ∈ t.s.S (t.edge n).x → u ≠ v := fun u hu e => by
      subst e
      have hs := hB.fam.same _ _ hu
      rw [h1] at hs
      rw [← hs] at hx
      exact hne n hn (List.mem_singleton.1 hx)
    exact ⟨key _ e1, key _ e2⟩
  · intro hno
    have hj : ∀ u, Jn (Ed t) v u → u = v := fun u hj => by
      induction hj with
      | refl => rfl
      | step _ e ih =>
        rcases e with ⟨n, hn, rfl, rfl⟩ | ⟨n, hn, rfl, rfl⟩
        · exact absurd ih (hno n hn).1
        · exact absurd ih (hno n hn).2
    have all : ∀ z ∈ t.s.S (t.item v), z = t.item v := fun z hz => by
      obtain ⟨r, hr⟩ := h.tq _ (h.iv v hv).1
      have vert : ∀ u, isA t.v u = true → t.item u ∈ t.s.S (t.item v) → u = v := fun u hu hm => hj u ((h.joined hB hv hu).1 (To.same_iff.2 hm))
      rcases hr.items z hz with ⟨u, hu⟩ | ⟨a, c, x, y, hE, hxy, mx, my, _, _⟩
      · rw [← hu.2] at hz ⊢; rw [vert u hu.1 hz]
      · obtain ⟨n, hn, hc⟩ := hE
        obtain ⟨ea, eb, e1, e2, _⟩ := h.ends hB hn
        have hxin : (t.edge n).x ∈ t.s.S (t.item v) := by
          rcases hc with ⟨_, _, e3, e4⟩ | ⟨_, _, e3, e4⟩
          · rw [e3]; exact mx
          · rw [e4]; exact my
        rw [hB.fam.same _ _ hxin] at e1
        exact absurd (vert _ ea e1) (hno n hn).1
    unfold Sq.lone
    have hnd := hB.fam.nodup (t.item v)
    generalize t.s.S (t.item v) = L at *
    match L, hnd, all, hin with
    | [a], _, _, _ => rfl
    | a :: b :: L', hnd, all, _ =>
      have h1 := all a (by simp)
      have h2 := all b (by simp)
      rw [h1, h2] at hnd
      simp at hnd
/-- It goes. -/
theorem Eu.dropV {t : To} (hB : Tb t) (h : Eu t) {v : Int} (hv : isA t.v v = true) (hl : t.s.lone (t.item v) = true) :
    Eu (t.dropV v) ∧ (∀ u, isA (t.dropV v).v u = if u = v then false else isA t.v u) ∧ (∀ u, u ≠ v → (t.dropV v).item u = t.item u) ∧ (∀ z, z ≠ t.item v → (t.dropV v).s.V z = t.s.V z) := by
  have hin := hB.fam.mem _ (h.iv v hv).1
  have h1 : t.s.S (t.item v) = [t.item v] := by
    unfold Sq.lone at hl
    obtain ⟨z, hz⟩ := List.length_eq_one_iff.1 (of_decide_eq_true hl)
    rw [hz] at hin ⊢
    rw [List.mem_singleton.1 hin]
  obtain ⟨eS, eV⟩ := Sq.free_S h1
  have ia : ∀ u, isA (t.dropV v).v u = if u = v then false else isA t.v u := fun u => isA_frL 0 hv u
  have it : ∀ u, u ≠ v → (t.dropV v).item u = t.item u := fun u hu => by
    unfold To.item
    rw [ia, if_neg hu]
    by_cases hA : isA t.v u = true
    · rw [if_pos hA, if_pos hA]
      show atA 0 (frL 0 t.v v) u = _
      rw [atA_frL 0 hv (isA_bd hA).1, if_neg hu]
    · rw [if_neg hA, if_neg hA]
  have iV : ∀ z, z ≠ t.item v → (t.dropV v).s.V z = t.s.V z := fun z hz => by show (t.s.free (t.item v)).V z = _; rw [eV]; exact if_neg hz
  have iS : ∀ z, (t.dropV v).s.S z = if z = t.item v then [] else t.s.S z := fun z => by show (t.s.free (t.item v)).S z = _; rw [eS]; rfl
  have ip : ∀ z, z ≠ t.item v → (t.dropV v).p z = t.p z := fun z hz => if_neg hz
  refine ⟨⟨fun i hi => ?_, fun u hu => ?_, fun n hn => ?_, h.vk.free 0 hv, h.ek⟩, ia, it, iV⟩
  · rw [iS] at hi ⊢
    by_cases e : i = t.item v
    · rw [if_pos e] at hi; exact absurd rfl hi
    · rw [if_neg e] at hi ⊢
      obtain ⟨r, hr⟩ := h.tq i hi
      refine ⟨r, hr.mono (fun u z hu hz => ?_) (fun a b x y hE _ _ => hE)⟩
      have hne : u ≠ v := fun e' => by
        subst e'
        rw [← hu.2] at hz
        have := hB.fam.same _ _ hz
        rw [h1] at this
        have hi2 := hB.fam.mem i hi
        rw [← this] at hi2
        exact e (List.mem_singleton.1 hi2)
      exact ⟨by rw [ia, if_neg hne]; exact hu.1, by rw [it u hne]; exact hu.2⟩
  · rw [ia] at hu
    by_cases e : u = v
    · rw [if_pos e] at hu; cases hu
    · rw [if_neg e] at hu
      have hne : t.item u ≠ t.item v := fun e' => e (h.item_inj hu hv e')
      rw [it u e, iS, if_neg hne, ip _ hne, iV _ hne]
      exact h.iv u hu
  · have hx := h.item_x hv hn
    show (t.dropV v).s.S (t.edge n).x ≠ [] ∧ (t.dropV v).s.S (t.edge n).y ≠ [] ∧ (t.dropV v).p (t.edge n).x = _ ∧ (t.dropV v).p (t.edge n).y = _ ∧ (t.edge n).x ≠ (t.edge n).y ∧ (((t.dropV v).s.V (t.edge n).x).c = 0 ∧ ((t.dropV v).s.V (t.edge n).x).s = 0 ∧ ((t.dropV v).s.V (t.edge n).x).l = 4611686018427387904) ∧ (((t.dropV v).s.V (t.edge n).y).c = 0 ∧ ((t.dropV v).s.V (t.edge n).y).s = 0 ∧ ((t.dropV v).s.V (t.edge n).y).l = 4611686018427387904)
    rw [iS, iS, if_neg hx.1.symm, if_neg hx.2.symm, ip _ hx.1.symm, ip _ hx.2.symm, iV _ hx.1.symm, iV _ hx.2.symm]
    exact h.ev n hn
end Go.Proofs.YtcbgeahcnjamdabGreat

namespace Go.Proofs.YtcbgeahcnjamdabGreat
open Go.RowKit
set_option linter.unusedVariables false
/-- A vertex, an edge, as they are told. -/
structure Vx where
  v : Int
  s : Int
  l : Int
  m : Int
structure Ex where
  e : Int
  a : Int
  b : Int
  m : Int
/-- A forest's vertices are vs, its edges es. -/
structure Rel (f : Fo) (vs : List Vx) (es : List Ex) : Prop where
  eu : Eu f.t
  vnd : (vs.map Vx.v).Nodup
  esd : (es.map Ex.e).Nodup
  vin : ∀ x, x ∈ vs → isA f.t.v (f.vi x.v) = true ∧ f.vo (f.vi x.v) = x.v ∧ f.t.s.V (f.t.item (f.vi x.v)) = ⟨1, x.s, x.l, x.m⟩ ∧ 0 ≤ x.m ∧ x.m ≤ 15
  vno : ∀ v, v ∉ vs.map Vx.v → f.vi v = 0
  vall : ∀ i, isA f.t.v i = true → ∃ x, x ∈ vs ∧ f.vi x.v = i
  ein : ∀ y, y ∈ es → isA f.t.e (f.ei y.e) = true ∧ f.eo (f.ei y.e) = y.e ∧ (f.t.edge (f.ei y.e)).a = f.vi y.a ∧ (f.t.edge (f.ei y.e)).b = f.vi y.b ∧ y.a ∈ vs.map Vx.v ∧ y.b ∈ vs.map Vx.v ∧ (f.t.s.V (f.t.edge (f.ei y.e)).x).m = emk y.m ∧ (f.t.s.V (f.t.edge (f.ei y.e)).y).m = 0 ∧ 0 ≤ y.m ∧ y.m ≤ 15
  eno : ∀ e, e ∉ es.map Ex.e → f.ei e = 0
  eall : ∀ n, isA f.t.e n = true → ∃ y, y ∈ es ∧ f.ei y.e = n
  z : f.vo 0 = 0 ∧ f.eo 0 = 0 ∧ f.t.p 0 = (0, 0)
theorem rel0 : Rel fo0 [] [] := ⟨to0_eu, List.nodup_nil, List.nodup_nil, fun x h => (by cases h), fun v _ => rfl, fun i h => (by simp [isA, fo0, to0] at h), fun y h => (by cases h), fun e _ => rfl, fun n h => (by simp [isA, fo0, to0] at h), ⟨rfl, rfl, rfl⟩⟩
theorem newI_pos {K : List Bool} {fr : List Int} (h : ∀ f ∈ fr, 1 ≤ f) : newI K fr ≠ 0 := by
  rcases List.eq_nil_or_concat fr with rfl | ⟨fr', f, rfl⟩
  · unfold newI; simp only [List.getLast?_nil]; omega
  · rw [List.concat_eq_append] at h ⊢
    have := h f (by simp)
    unfold newI; rw [List.getLast?_concat]; simp only; omega
theorem Tb.new0 {t : To} (hB : Tb t) : newI t.s.K t.s.fr ≠ 0 ∧ t.newX ≠ 0 ∧ t.newY ≠ 0 := by
  have h1 : ∀ f ∈ t.s.fr, 1 ≤ f := fun f hf => (hB.fk.2 f hf).2.1
  refine ⟨newI_pos h1, newI_pos h1, newI_pos (fun f hf => h1 f ?_)⟩
  exact List.dropLast_subset _ hf
section
variable {f : Fo} {vs : List Vx} {es : List Ex}
theorem Rel.mem (h : Rel f vs es) {v : Int} : f.vi v ≠ 0 ↔ v ∈ vs.map Vx.v := by
  constructor
  · intro h0
    by_cases hv : v ∈ vs.map Vx.v
    · exact hv
    · exact absurd (h.vno v hv) h0
  · intro hv e
    obtain ⟨x, hx, rfl⟩ := List.mem_map.1 hv
    have := isA_bd (h.vin x hx).1
    omega
theorem Rel.isv (h : Rel f vs es) {v : Int} (hv : v ∈ vs.map Vx.v) : isA f.t.v (f.vi v) = true ∧ f.vo (f.vi v) = v := by
  obtain ⟨x, hx, rfl⟩ := List.mem_map.1 hv
  exact ⟨(h.vin x hx).1, (h.vin x hx).2.1⟩
theorem Rel.vinj (h : Rel f vs es) {v u : Int} (hv : v ∈ vs.map Vx.v) (hu : u ∈ vs.map Vx.v) (e : f.vi v = f.vi u) : v = u := by rw [← (h.isv hv).2, e, (h.isv hu).2]
theorem Rel.memE (h : Rel f vs es) {e : Int} : f.ei e ≠ 0 ↔ e ∈ es.map Ex.e := by
  constructor
  · intro h0
    by_cases hv : e ∈ es.map Ex.e
    · exact hv
    · exact absurd (h.eno e hv) h0
  · intro hv e0
    obtain ⟨y, hy, rfl⟩ := List.mem_map.1 hv
    have := isA_bd (h.ein y hy).1
    omega
theorem Rel.one (h : Rel f vs es) {x y : Vx} (hx : x ∈ vs) (hy : y ∈ vs) (e : x.v = y.v) : x = y := by
  have hp := (List.pairwise_map.1 h.vnd)
  rcases List.mem_iff_getElem.1 hx with ⟨i, hi, rfl⟩
  rcases List.mem_iff_getElem.1 hy with ⟨j, hj, rfl⟩
  rcases Nat.lt_trichotomy i j with hij | rfl | hij
  · exact absurd e (List.pairwise_iff_getElem.1 hp i j hi hj hij)
  · rfl
  · exact absurd e.symm (List.pairwise_iff_getElem.1 hp j i hj hi hij)
theorem Rel.oneE (h : Rel f vs es) {x y : Ex} (hx : x ∈ es) (hy : y ∈ es) (e : x.e = y.e) : x = y := by
  have hp := (List.pairwise_map.1 h.esd)
  rcases List.mem_iff_getElem.1 hx with ⟨i, hi, rfl⟩
  rcases List.mem_iff_getElem.1 hy with ⟨j, hj, rfl⟩
  rcases Nat.lt_trichotomy i j with hij | rfl | hij
  · exact absurd e (List.pairwise_iff_getElem.1 hp i j hi hj hij)
  · rfl
  · exact absurd e.symm (List.pairwise_iff_getElem.1 hp j i hj hi hij)
/-- Add. -/
theorem Rel.add (hB : Tb f.t) (h : Rel f vs es) {v s l : Int} : (v ∈ vs.map Vx.v → f.addR v s l = 5 ∧ f.add v s l = f) ∧ (v ∉ vs.map Vx.v → okSL s l = false → f.addR v s l = 1 ∧ f.add v s l = f) ∧ (v ∉ vs.map Vx.v → okSL s l = true → f.addR v s l = 0 ∧ Rel (f.add v s l) (vs ++ [⟨v, s, l, 0⟩]) es) := by
  refine ⟨fun hv => ?_, fun hv hok => ?_, fun hv hok => ?_⟩
  · have hR : f.addR v s l = 5 := by unfold Fo.addR; rw [if_pos (h.mem.2 hv)]
    exact ⟨hR, by unfold Fo.add; rw [if_neg (by rw [hR]; omega)]⟩
  · have hR : f.addR v s l = 1 := by unfold Fo.addR; rw [if_neg (fun k => hv (h.mem.1 k)), if_neg (by rw [hok]; simp)]
    exact ⟨hR, by unfold Fo.add; rw [if_neg (by rw [hR]; omega)]⟩
  · have hR : f.addR v s l = 0 := by unfold Fo.addR; rw [if_neg (fun k => hv (h.mem.1 k)), if_pos hok]
    refine ⟨hR, ?_⟩
    have hA : f.add v s l = (f.wt (f.t.addV s l)).wv (updI f.vi v f.newV) (updI f.vo f.newV v) (f.nv + 1) := by unfold Fo.add; rw [if_pos hR]
    rw [hA]
    obtain ⟨i, f1, f2, f3, f4, f5, f6, f7, f8⟩ := addV_facts hB h.eu s l
    have hE := h.eu.addV hB s l
    have hnew : isA f.t.v f.newV = false := h.eu.vk.new
    have hn1 : 1 ≤ f.newV := (tkI_bd h.eu.vk.rng).1
    have g6 : ∀ u, isA (f.t.addV s l).v u = if u = f.newV then true else isA f.t.v u := f6
    have g7 : (f.t.addV s l).item f.newV = i := f7
    have vi1 : updI f.vi v f.newV v = f.newV := updI_at _ _ _
    have vi2 : ∀ u, u ∈ vs.map Vx.v → updI f.vi v f.newV u = f.vi u := fun u hu => updI_ne (fun e => hv (e ▸ hu))
    have ne : ∀ u, u ∈ vs.map Vx.v → f.vi u ≠ f.newV := fun u hu e => by have := (h.isv hu).1; rw [e, hnew] at this; cases this
    have nin : ∀ z, f.t.s.S z ≠ [] → z ≠ i := fun z hz e => hz (e ▸ f1)
    refine ⟨hE, ?_, h.esd, fun x hx => ?_, fun u hu => ?_, fun j hj => ?_, fun y hy => ?_, h.eno, h.eall, ⟨?_, h.z.2.1, ?_⟩⟩
    · rw [List.map_append]
      refine List.nodup_append.2 ⟨h.vnd, by simp, fun a ha b hb e => ?_⟩
      simp at hb; subst e hb; exact hv ha
    · show isA (f.t.addV s l).v (updI f.vi v f.newV x.v) = true ∧ updI f.vo f.newV v (updI f.vi v f.newV x.v) = x.v ∧ (f.t.addV s l).s.V ((f.t.addV s l).item (updI f.vi v f.newV x.v)) = _ ∧ _
      rcases List.mem_append.1 hx with hx | hx
      · have hm : x.v ∈ vs.map Vx.v := List.mem_map.2 ⟨x, hx, rfl⟩
        obtain ⟨k1, k2, k3, k4⟩ := h.vin x hx
        rw [vi2 _ hm, g6, if_neg (ne _ hm), updI_ne (ne _ hm), f8 _ k1, f5 _ (nin _ (h.eu.iv _ k1).1)]
        exact ⟨k1, k2, k3, k4⟩
      · simp at hx; subst hx
        show isA (f.t.addV s l).v (updI f.vi v f.newV v) = true ∧ updI f.vo f.newV v (updI f.vi v f.newV v) = v ∧ (f.t.addV s l).s.V ((f.t.addV s l).item (updI f.vi v f.newV v)) = _ ∧ _
        rw [vi1, g6, if_pos rfl, updI_at, g7, f4]
        exact ⟨rfl, rfl, rfl, Int.le_refl _, (by decide : (0 : Int) ≤ 15)⟩
    · show updI f.vi v f.newV u = 0
      rw [List.map_append, List.mem_append] at hu
      rw [updI_ne (fun e => hu (.inr (by simp [e])))]
      exact h.vno u (fun k => hu (.inl k))
    · show ∃ x, x ∈ vs ++ [_] ∧ updI f.vi v f.newV x.v = j
      have hj' : isA (f.t.addV s l).v j = true := hj
      rw [g6] at hj'
      by_cases e : j = f.newV
      · exact ⟨⟨v, s, l, 0⟩, by simp, by rw [e]; exact vi1⟩
      · rw [if_neg e] at hj'
        obtain ⟨x, hx, hxe⟩ := h.vall j hj'
        exact ⟨x, List.mem_append.2 (.inl hx), by rw [vi2 _ (List.mem_map.2 ⟨x, hx, rfl⟩)]; exact hxe⟩
    · obtain ⟨k1, k2, k3, k4, k5, k6, k7, k8, k9⟩ := h.ein y hy
      obtain ⟨sx, sy, _⟩ := h.eu.ev _ k1
      have a5 : y.a ∈ (vs ++ [(⟨v, s, l, 0⟩ : Vx)]).map Vx.v := by rw [List.map_append]; exact List.mem_append.2 (.inl k5)
      have a6 : y.b ∈ (vs ++ [(⟨v, s, l, 0⟩ : Vx)]).map Vx.v := by rw [List.map_append]; exact List.mem_append.2 (.inl k6)
      refine ⟨k1, k2, ?_, ?_, a5, a6, ?_, ?_, k9⟩
      · show (f.t.edge _).a = updI f.vi v f.newV y.a
        rw [vi2 _ k5]; exact k3
      · show (f.t.edge _).b = updI f.vi v f.newV y.b
        rw [vi2 _ k6]; exact k4
      · show ((f.t.addV s l).s.V (f.t.edge (f.ei y.e)).x).m = _
        rw [f5 _ (nin _ sx)]; exact k7
      · show ((f.t.addV s l).s.V (f.t.edge (f.ei y.e)).y).m = _
        rw [f5 _ (nin _ sy)]; exact k8
    · show updI f.vo f.newV v 0 = 0
      rw [updI_ne (by omega)]; exact h.z.1
    · show updP f.t.p (newI f.t.s.K f.t.s.fr) _ 0 = (0, 0)
      unfold updP; rw [if_neg hB.new0.1.symm]; exact h.z.2.2
/-- A vertex has other values. -/
theorem map_v {vs : List Vx} {x' : Vx} {v : Int} (hx : x'.v = v) : (vs.map fun x => if x.v = v then x' else x).map Vx.v = vs.map Vx.v := by
  rw [List.map_map]
  refine List.map_congr_left fun x _ => ?_
  show (if x.v = v then x' else x).v = x.v
  split
  · rename_i e; rw [hx, e]
  · rfl
theorem Rel.vchg (hB : Tb f.t) (h : Rel f vs es) {x0 x' : Vx} (h0 : x0 ∈ vs) (hx : x'.v = x0.v) (hm : 0 ≤ x'.m ∧ x'.m ≤ 15) : Rel (f.wt (f.t.ws (f.t.s.set (f.t.item (f.vi x0.v)) ⟨1, x'.s, x'.l, x'.m⟩))) (vs.map fun x => if x.v = x0.v then x' else x) es := by
  obtain ⟨a1, a2, a3, a4⟩ := h.vin x0 h0
  obtain ⟨hE, eV⟩ := h.eu.setItem hB a1 ⟨1, x'.s, x'.l, x'.m⟩ rfl
  have mv := map_v (vs := vs) hx
  refine ⟨hE, by rw [mv]; exact h.vnd, h.esd, fun x hxm => ?_, fun v hv => h.vno v (by rw [← mv]; exact hv), fun i hi => ?_, fun y hy => ?_, h.eno, h.eall, h.z⟩
  · obtain ⟨x1, h1, rfl⟩ := List.mem_map.1 hxm
    obtain ⟨k1, k2, k3, k4⟩ := h.vin x1 h1
    by_cases e : x1.v = x0.v
    · rw [if_pos e]
      show isA f.t.v (f.vi x'.v) = true ∧ f.vo (f.vi x'.v) = x'.v ∧ (f.t.s.set (f.t.item (f.vi x0.v)) ⟨1, x'.s, x'.l, x'.m⟩).V (f.t.item (f.vi x'.v)) = _ ∧ _
      rw [hx, eV]
      exact ⟨a1, a2, if_pos rfl, hm⟩
    · rw [if_neg e]
      show isA f.t.v (f.vi x1.v) = true ∧ f.vo (f.vi x1.v) = x1.v ∧ (f.t.s.set (f.t.item (f.vi x0.v)) ⟨1, x'.s, x'.l, x'.m⟩).V (f.t.item (f.vi x1.v)) = _ ∧ _
      have hne : f.t.item (f.vi x1.v) ≠ f.t.item (f.vi x0.v) := fun e' => e (h.vinj (List.mem_map.2 ⟨x1, h1, rfl⟩) (List.mem_map.2 ⟨x0, h0, rfl⟩) (h.eu.item_inj k1 a1 e'))
      rw [eV, show updV f.t.s.V (f.t.item (f.vi x0.v)) ⟨1, x'.s, x'.l, x'.m⟩ (f.t.item (f.vi x1.v)) = f.t.s.V (f.t.item (f.vi x1.v)) from if_neg hne]
      exact ⟨k1, k2, k3, k4⟩
  · obtain ⟨x1, h1, rfl⟩ := h.vall i hi
    refine ⟨if x1.v = x0.v then x' else x1, List.mem_map.2 ⟨x1, h1, rfl⟩, ?_⟩
    show f.vi (if x1.v = x0.v then x' else x1).v = f.vi x1.v
    split
    · rename_i e; rw [hx, e]
    · rfl
  · obtain ⟨k1, k2, k3, k4, k5, k6, k7, k8, k9⟩ := h.ein y hy
    have hx2 := h.eu.item_x a1 k1
    refine ⟨k1, k2, k3, k4, by rw [mv]; exact k5, by rw [mv]; exact k6, ?_, ?_, k9⟩
    · show ((f.t.s.set (f.t.item (f.vi x0.v)) ⟨1, x'.s, x'.l, x'.m⟩).V (f.t.edge (f.ei y.e)).x).m = _
      rw [eV, show updV f.t.s.V (f.t.item (f.vi x0.v)) ⟨1, x'.s, x'.l, x'.m⟩ (f.t.edge (f.ei y.e)).x = f.t.s.V (f.t.edge (f.ei y.e)).x from if_neg hx2.1.symm]; exact k7
    · show ((f.t.s.set (f.t.item (f.vi x0.v)) ⟨1, x'.s, x'.l, x'.m⟩).V (f.t.edge (f.ei y.e)).y).m = _
      rw [eV, show updV f.t.s.V (f.t.item (f.vi x0.v)) ⟨1, x'.s, x'.l, x'.m⟩ (f.t.edge (f.ei y.e)).y = f.t.s.V (f.t.edge (f.ei y.e)).y from if_neg hx2.2.symm]; exact k8
theorem Rel.val (hB : Tb f.t) (h : Rel f vs es) {x : Vx} (hx : x ∈ vs) : f.t.val (f.t.item (f.vi x.v)) = ⟨1, x.s, x.l, x.m⟩ := by
  obtain ⟨a1, a2, a3, a4⟩ := h.vin x hx
  unfold To.val; rw [if_pos (hB.isK h.eu a1), a3]
/-- Set. -/
theorem Rel.set (hB : Tb f.t) (h : Rel f vs es) {v s l : Int} : (v ∉ vs.map Vx.v → f.setR v s l = 4 ∧ f.set v s l = f) ∧ (v ∈ vs.map Vx.v → okSL s l = false → f.setR v s l = 1 ∧ f.set v s l = f) ∧ (∀ x, x ∈ vs → x.v = v → okSL s l = true → f.setR v s l = 0 ∧ Rel (f.set v s l) (vs.map fun y => if y.v = v then ⟨v, s, l, x.m⟩ else y) es) := by
  refine ⟨fun hv => ?_, fun hv hok => ?_, fun x hx e hok => ?_⟩
  · have h0 := h.vno v hv
    exact ⟨by unfold Fo.setR; rw [if_neg (by rw [h0]; simp)], by unfold Fo.set; rw [if_neg (by rw [h0]; simp)]⟩
  · exact ⟨by unfold Fo.setR; rw [if_pos (h.mem.2 hv), if_neg (by rw [hok]; simp)], by unfold Fo.set; rw [if_neg (by rw [hok]; simp)]⟩
  · subst e
    obtain ⟨a1, a2, a3, a4⟩ := h.vin x hx
    have hm : x.v ∈ vs.map Vx.v := List.mem_map.2 ⟨x, hx, rfl⟩
    refine ⟨by unfold Fo.setR; rw [if_pos (h.mem.2 hm), if_pos hok]; unfold To.setR; rw [if_pos a1], ?_⟩
    have := h.vchg hB (x' := ⟨x.v, s, l, x.m⟩) hx rfl a4
    rw [show f.set x.v s l = f.wt (f.t.ws (f.t.s.set (f.t.item (f.vi x.v)) ⟨1, s, l, x.m⟩)) by unfold Fo.set; rw [if_pos ⟨h.mem.2 hm, hok⟩]; unfold To.set; rw [if_pos a1]; unfold To.setV; rw [h.val hB hx]]
    exact this
theorem vmk_id {b : Int} (hb : 0 ≤ b ∧ b ≤ 15) : vmk b = b := by
  obtain ⟨n, rfl⟩ : ∃ n : Nat, b = n := ⟨b.toNat, by omega⟩
  have : n = 0 ∨ n = 1 ∨ n = 2 ∨ n = 3 ∨ n = 4 ∨ n = 5 ∨ n = 6 ∨ n = 7 ∨ n = 8 ∨ n = 9 ∨ n = 10 ∨ n = 11 ∨ n = 12 ∨ n = 13 ∨ n = 14 ∨ n = 15 := by omega
  rcases this with rfl | rfl | rfl | rfl | rfl | rfl | rfl | rfl | rfl | rfl | rfl | rfl | rfl | rfl | rfl | rfl <;> decide
/-- Mark. -/
theorem Rel.mark (hB : Tb f.t) (h : Rel f vs es) {v b : Int} (hb : 0 ≤ b) : (b > 15 → f.markR v b = 1 ∧ f.mark v b = f) ∧ (¬ b > 15 → v ∉ vs.map Vx.v → f.markR v b = 4 ∧ f.mark v b = f) ∧ (¬ b > 15 → ∀ x, x ∈ vs → x.v = v → f.markR v b = 0 ∧ Rel (f.mark v b) (vs.map fun y => if y.v = v then ⟨v, x.s, x.l, b⟩ else y) es) := by
  refine ⟨fun h15 => ?_, fun h15 hv => ?_, fun h15 x hx e => ?_⟩
  · exact ⟨by unfold Fo.markR To.markR; rw [if_pos h15], by unfold Fo.mark To.mark; rw [if_pos h15]; rfl⟩
  · have h0 := h.vno v hv
    exact ⟨by unfold Fo.markR To.markR; rw [if_neg h15, h0, if_neg (by simp [isA])], by unfold Fo.mark To.mark; rw [if_neg h15, h0, if_neg (by simp [isA])]; rfl⟩
  · subst e
    obtain ⟨a1, a2, a3, a4⟩ := h.vin x hx
    refine ⟨by unfold Fo.markR To.markR; rw [if_neg h15, if_pos a1], ?_⟩
    have := h.vchg hB (x' := ⟨x.v, x.s, x.l, b⟩) hx rfl ⟨hb, by show b ≤ 15; omega⟩
    rw [show f.mark x.v b = f.wt (f.t.ws (f.t.s.set (f.t.item (f.vi x.v)) ⟨1, x.s, x.l, b⟩)) by unfold Fo.mark To.mark; rw [if_neg h15, if_pos a1]; unfold To.markI; rw [h.val hB hx, vmk_id ⟨hb, by omega⟩]]
    exact this
/-- MarkEdge. -/
theorem map_e {es : List Ex} {y' : Ex} {e : Int} (hy : y'.e = e) : (es.map fun y => if y.e = e then y' else y).map Ex.e = es.map Ex.e := by
  rw [List.map_map]
  refine List.map_congr_left fun y _ => ?_
  show (if y.e = e then y' else y).e = y.e
  split
  · rename_i k; rw [hy, k]
  · rfl
theorem Rel.emark (hB : Tb f.t) (h : Rel f vs es) {n b : Int} (hb : 0 ≤ b) : (b > 15 → f.emarkR n b = 1 ∧ f.emark n b = f) ∧ (¬ b > 15 → n ∉ es.map Ex.e → f.emarkR n b = 4 ∧ f.emark n b = f) ∧ (¬ b > 15 → ∀ y, y ∈ es → y.e = n → f.emarkR n b = 0 ∧ Rel (f.emark n b) vs (es.map fun z => if z.e = n then ⟨n, y.a, y.b, b⟩ else z)) := by
  refine ⟨fun h15 => ?_, fun h15 hv => ?_, fun h15 y hy e => ?_⟩
  · exact ⟨by unfold Fo.emarkR To.emarkR; rw [if_pos h15], by unfold Fo.emark To.emark; rw [if_pos h15]; rfl⟩
  · have h0 := h.eno n hv
    exact ⟨by unfold Fo.emarkR To.emarkR; rw [if_neg h15, h0, if_neg (by simp [isA])], by unfold Fo.emark To.emark; rw [if_neg h15, h0, if_neg (by simp [isA])]; rfl⟩
  · subst e
    obtain ⟨a1, a2, a3, a4, a5, a6, a7, a8, a9⟩ := h.ein y hy
    refine ⟨by unfold Fo.emarkR To.emarkR; rw [if_neg h15, if_pos a1], ?_⟩
    rw [show f.emark y.e b = f.wt (f.t.markI (f.t.edge (f.ei y.e)).x (emk b)) by unfold Fo.emark To.emark; rw [if_neg h15, if_pos a1]]
    obtain ⟨hE, eV⟩ := h.eu.markEdge hB a1 (emk b)
    have me := map_e (es := es) (y' := ⟨y.e, y.a, y.b, b⟩) (e := y.e) rfl
    obtain ⟨_, _, _, _, hxy, _⟩ := h.eu.ev _ a1
    refine ⟨hE, h.vnd, by rw [me]; exact h.esd, fun x hx => ?_, h.vno, h.vall, fun z hz => ?_, fun e he => h.eno e (by rw [← me]; exact he), fun m hm => ?_, h.z⟩
    · obtain ⟨k1, k2, k3, k4⟩ := h.vin x hx
      refine ⟨k1, k2, ?_, k4⟩
      show (f.t.markI (f.t.edge (f.ei y.e)).x (emk b)).s.V (f.t.item (f.vi x.v)) = _
      rw [eV, show updV f.t.s.V (f.t.edge (f.ei y.e)).x ⟨0, 0, 4611686018427387904, emk b⟩ (f.t.item (f.vi x.v)) = f.t.s.V (f.t.item (f.vi x.v)) from if_neg (h.eu.item_x k1 a1).1]; exact k3
    · obtain ⟨z1, h1, rfl⟩ := List.mem_map.1 hz
      obtain ⟨k1, k2, k3, k4, k5, k6, k7, k8, k9⟩ := h.ein z1 h1
      by_cases e : z1.e = y.e
      · rw [if_pos e]
        have e1 := h.oneE h1 hy e
        subst e1
        refine ⟨a1, a2, a3, a4, a5, a6, ?_, ?_, hb, by show b ≤ 15; omega⟩
        · show ((f.t.markI (f.t.edge (f.ei z1.e)).x (emk b)).s.V (f.t.edge (f.ei z1.e)).x).m = _
          rw [eV, show updV f.t.s.V (f.t.edge (f.ei z1.e)).x ⟨0, 0, 4611686018427387904, emk b⟩ (f.t.edge (f.ei z1.e)).x = ⟨0, 0, 4611686018427387904, emk b⟩ from if_pos rfl]
        · show ((f.t.markI (f.t.edge (f.ei z1.e)).x (emk b)).s.V (f.t.edge (f.ei z1.e)).y).m = _
          rw [eV, show updV f.t.s.V (f.t.edge (f.ei z1.e)).x ⟨0, 0, 4611686018427387904, emk b⟩ (f.t.edge (f.ei z1.e)).y = f.t.s.V (f.t.edge (f.ei z1.e)).y from if_neg hxy.symm]; exact a8
      · rw [if_neg e]
        have hne : f.ei z1.e ≠ f.ei y.e := fun e' => e (by rw [← k2, e', a2])
        have hx2 := h.eu.edge_x k1 a1 hne
        refine ⟨k1, k2, k3, k4, k5, k6, ?_, ?_, k9⟩
        · show ((f.t.markI (f.t.edge (f.ei y.e)).x (emk b)).s.V (f.t.edge (f.ei z1.e)).x).m = _
          rw [eV, show updV f.t.s.V (f.t.edge (f.ei y.e)).x ⟨0, 0, 4611686018427387904, emk b⟩ (f.t.edge (f.ei z1.e)).x = f.t.s.V (f.t.edge (f.ei z1.e)).x from if_neg hx2.1]; exact k7
        · show ((f.t.markI (f.t.edge (f.ei y.e)).x (emk b)).s.V (f.t.edge (f.ei z1.e)).y).m = _
          rw [eV, show updV f.t.s.V (f.t.edge (f.ei y.e)).x ⟨0, 0, 4611686018427387904, emk b⟩ (f.t.edge (f.ei z1.e)).y = f.t.s.V (f.t.edge (f.ei z1.e)).y from if_neg hx2.2.2.1]; exact k8
    · obtain ⟨z1, h1, e1⟩ := h.eall m hm
      refine ⟨if z1.e = y.e then ⟨y.e, y.a, y.b, b⟩ else z1, List.mem_map.2 ⟨z1, h1, rfl⟩, ?_⟩
      show f.ei (if z1.e = y.e then (⟨y.e, y.a, y.b, b⟩ : Ex) else z1).e = m
      split
      · rename_i e; rw [← e1, e]
      · exact e1
theorem To.linkd_eq {t : To} {a b : Int} (ha : isA t.v a = true) (hb : isA t.v b = true) (hs : t.same a b = false) : t.linked a b = t.link a b ∧ t.linkN a b = t.newE := by
  have hR : t.linkR a b = 0 := by unfold To.linkR; rw [if_pos ⟨ha, hb⟩, if_neg (by rw [hs]; simp)]
  exact ⟨by unfold To.linked; rw [if_pos hR], by unfold To.linkN; rw [if_pos hR]⟩
/-- Link. -/
theorem Rel.link (hB : Tb f.t) (h : Rel f vs es) {n a b : Int} : (n < 1 → f.linkR n a b = 1 ∧ f.link n a b = f) ∧ (¬ n < 1 → n ∈ es.map Ex.e → f.linkR n a b = 5 ∧ f.link n a b = f) ∧
    (¬ n < 1 → n ∉ es.map Ex.e → ¬ (a ∈ vs.map Vx.v ∧ b ∈ vs.map Vx.v) → f.linkR n a b = 4 ∧ f.link n a b = f) ∧ (¬ n < 1 → n ∉ es.map Ex.e → a ∈ vs.map Vx.v → b ∈ vs.map Vx.v → f.same a b = true → f.linkR n a b = 13 ∧ f.link n a b = f) ∧
    (¬ n < 1 → n ∉ es.map Ex.e → a ∈ vs.map Vx.v → b ∈ vs.map Vx.v → f.same a b = false → f.linkR n a b = 0 ∧ Rel (f.link n a b) vs (es ++ [⟨n, a, b, 0⟩])) := by
  have no : ∀ r : Int, r ≠ 0 → f.linkR n a b = r → f.linkR n a b = r ∧ f.link n a b = f := fun r h0 hr => ⟨hr, by unfold Fo.link; rw [if_neg (by rw [hr]; exact h0)]⟩
  refine ⟨fun h1 => no 1 (by omega) (by unfold Fo.linkR; rw [if_pos h1]), fun h1 h2 => no 5 (by omega) (by unfold Fo.linkR; rw [if_neg h1, if_pos (h.memE.2 h2)]), fun h1 h2 h3 => no 4 (by omega) ?_, fun h1 h2 ha hb hs => no 13 (by omega) ?_, fun h1 h2 ha hb hs => ?_⟩
  · unfold Fo.linkR; rw [if_neg h1, if_neg (fun k => h2 (h.memE.1 k)), if_neg (fun k => h3 ⟨h.mem.1 k.1, h.mem.1 k.2⟩)]
  · unfold Fo.linkR; rw [if_neg h1, if_neg (fun k => h2 (h.memE.1 k)), if_pos ⟨h.mem.2 ha, h.mem.2 hb⟩, if_pos (show f.t.same (f.vi a) (f.vi b) = true from hs)]
  · have hR : f.linkR n a b = 0 := by unfold Fo.linkR; rw [if_neg h1, if_neg (fun k => h2 (h.memE.1 k)), if_pos ⟨h.mem.2 ha, h.mem.2 hb⟩, if_neg (by rw [show f.t.same (f.vi a) (f.vi b) = false from hs]; simp)]
    refine ⟨hR, ?_⟩
    obtain ⟨a1, _⟩ := h.isv ha
    obtain ⟨b1, _⟩ := h.isv hb
    obtain ⟨l1, l2⟩ := To.linkd_eq a1 b1 hs
    have hL : f.link n a b = (f.wt (f.t.link (f.vi a) (f.vi b))).we (updI f.ei n f.t.newE) (updI f.eo f.t.newE n) (f.ne + 1) := by unfold Fo.link; rw [if_pos hR, l1, l2]
    rw [hL]
    have hE := (h.eu.link hB a1 b1 hs).1
    have hf := h.eu.ek.rng
    have hnb := (tkI_bd hf).1
    have hnew : isA f.t.e f.t.newE = false := h.eu.ek.new
    have i1 : ∀ m, isA (f.t.link (f.vi a) (f.vi b)).e m = if m = f.t.newE then true else isA f.t.e m := fun m => isA_tkL hf _ m
    have i2 : ∀ m, 1 ≤ m → (f.t.link (f.vi a) (f.vi b)).edge m = if m = f.t.newE then ⟨f.vi a, f.vi b, f.t.newX, f.t.newY⟩ else f.t.edge m := fun m hm => atA_tkL hf zeE _ hm
    have hXY := hB.newXY
    have iV : ∀ z, f.t.s.S z ≠ [] → (f.t.link (f.vi a) (f.vi b)).s.V z = f.t.s.V z := fun z hz => by
      have n1 : z ≠ f.t.newY := fun e => hz (e ▸ hXY.2)
      have n2 : z ≠ f.t.newX := fun e => hz (e ▸ hXY.1)
      rw [To.link_V]; unfold updV; rw [if_neg n1, if_neg n2]
    have iN : ((f.t.link (f.vi a) (f.vi b)).s.V f.t.newX).m = 0 ∧ ((f.t.link (f.vi a) (f.vi b)).s.V f.t.newY).m = 0 := by
      rw [To.link_V]; unfold updV
      refine ⟨?_, by rw [if_pos rfl]; rfl⟩
      split
      · rfl
      · rw [if_pos rfl]; rfl
    have e1 : updI f.ei n f.t.newE n = f.t.newE := updI_at _ _ _
    have e2 : ∀ y, y ∈ es → updI f.ei n f.t.newE y.e = f.ei y.e ∧ f.ei y.e ≠ f.t.newE := fun y hy => ⟨updI_ne (fun k => h2 (k ▸ List.mem_map.2 ⟨y, hy, rfl⟩)), fun k => by have := (h.ein y hy).1; rw [k, hnew] at this; cases this⟩
    refine ⟨hE, h.vnd, ?_, fun x hx => ?_, h.vno, h.vall, fun y hy => ?_, fun e he => ?_, fun m hm => ?_, ⟨h.z.1, ?_, ?_⟩⟩
    · rw [List.map_append]
      refine List.nodup_append.2 ⟨h.esd, by simp, fun p hp q hq k => ?_⟩
      simp at hq; subst k hq; exact h2 hp
    · obtain ⟨k1, k2, k3, k4⟩ := h.vin x hx
      refine ⟨k1, k2, ?_, k4⟩
      show (f.t.link (f.vi a) (f.vi b)).s.V (f.t.item (f.vi x.v)) = _
      rw [iV _ (h.eu.iv _ k1).1]; exact k3
    · show isA (f.t.link (f.vi a) (f.vi b)).e (updI f.ei n f.t.newE y.e) = true ∧ updI f.eo f.t.newE n (updI f.ei n f.t.newE y.e) = y.e ∧ ((f.t.link (f.vi a) (f.vi b)).edge (updI f.ei n f.t.newE y.e)).a = f.vi y.a ∧ ((f.t.link (f.vi a) (f.vi b)).edge (updI f.ei n f.t.newE y.e)).b = f.vi y.b ∧ y.a ∈ vs.map Vx.v ∧ y.b ∈ vs.map Vx.v ∧ ((f.t.link (f.vi a) (f.vi b)).s.V ((f.t.link (f.vi a) (f.vi b)).edge (updI f.ei n f.t.newE y.e)).x).m = emk y.m ∧ ((f.t.link (f.vi a) (f.vi b)).s.V ((f.t.link (f.vi a) (f.vi b)).edge (updI f.ei n f.t.newE y.e)).y).m = 0 ∧ 0 ≤ y.m ∧ y.m ≤ 15
      rcases List.mem_append.1 hy with hy | hy
      · obtain ⟨k1, k2, k3, k4, k5, k6, k7, k8, k9⟩ := h.ein y hy
        obtain ⟨r1, r2⟩ := e2 y hy
        obtain ⟨sx, sy, _⟩ := h.eu.ev _ k1
        rw [r1, i1, if_neg r2, updI_ne r2, i2 _ (isA_bd k1).1, if_neg r2, iV _ sx, iV _ sy]
        exact ⟨k1, k2, k3, k4, k5, k6, k7, k8, k9⟩
      · simp at hy; subst hy
        show isA (f.t.link (f.vi a) (f.vi b)).e (updI f.ei n f.t.newE n) = true ∧ updI f.eo f.t.newE n (updI f.ei n f.t.newE n) = n ∧ ((f.t.link (f.vi a) (f.vi b)).edge (updI f.ei n f.t.newE n)).a = f.vi a ∧ ((f.t.link (f.vi a) (f.vi b)).edge (updI f.ei n f.t.newE n)).b = f.vi b ∧ a ∈ vs.map Vx.v ∧ b ∈ vs.map Vx.v ∧ ((f.t.link (f.vi a) (f.vi b)).s.V ((f.t.link (f.vi a) (f.vi b)).edge (updI f.ei n f.t.newE n)).x).m = emk 0 ∧ ((f.t.link (f.vi a) (f.vi b)).s.V ((f.t.link (f.vi a) (f.vi b)).edge (updI f.ei n f.t.newE n)).y).m = 0 ∧ (0 : Int) ≤ 0 ∧ (0 : Int) ≤ 15
        rw [e1, i1, if_pos rfl, updI_at, i2 f.t.newE hnb, if_pos rfl]
        exact ⟨rfl, rfl, rfl, rfl, ha, hb, iN.1, iN.2, Int.le_refl _, by decide⟩
    · show updI f.ei n f.t.newE e = 0
      rw [List.map_append, List.mem_append] at he
      rw [updI_ne (fun k => he (.inr (by simp [k])))]
      exact h.eno e (fun k => he (.inl k))
    · show ∃ y, y ∈ es ++ [_] ∧ updI f.ei n f.t.newE y.e = m
      have hm' : isA (f.t.link (f.vi a) (f.vi b)).e m = true := hm
      rw [i1] at hm'
      by_cases k : m = f.t.newE
      · exact ⟨⟨n, a, b, 0⟩, by simp, by rw [k]; exact e1⟩
      · rw [if_neg k] at hm'
        obtain ⟨y, hy, hye⟩ := h.eall m hm'
        exact ⟨y, List.mem_append.2 (.inl hy), by rw [(e2 y hy).1]; exact hye⟩
    · show updI f.eo f.t.newE n 0 = 0
      rw [updI_ne (fun k => by have : f.t.newE = 0 := k.symm; unfold To.newE at this; omega)]; exact h.z.2.1
    · show updP (updP f.t.p f.t.newX _) f.t.newY _ 0 = (0, 0)
      unfold updP; rw [if_neg hB.new0.2.2.symm, if_neg hB.new0.2.1.symm]; exact h.z.2.2
/-- Cut. -/
theorem Rel.cut (hB : Tb f.t) (h : Rel f vs es) {n : Int} : (n ∉ es.map Ex.e → f.cutR n = 4 ∧ f.cut n = f) ∧ (n ∈ es.map Ex.e → f.cutR n = 0 ∧ Rel (f.cut n) vs (es.filter fun y => decide (y.e ≠ n))) := by
  refine ⟨fun hn => ?_, fun hn => ?_⟩
  · have h0 := h.eno n hn
    have hR : f.cutR n = 4 := by unfold Fo.cutR To.cutR; rw [h0, if_neg (by simp [isA])]
    exact ⟨hR, by unfold Fo.cut; rw [if_neg (by rw [hR]; omega)]⟩
  · obtain ⟨y0, hy0, rfl⟩ := List.mem_map.1 hn
    obtain ⟨a1, a2, a3, a4, a5, a6, a7, a8, a9⟩ := h.ein y0 hy0
    have hR : f.cutR y0.e = 0 := by unfold Fo.cutR To.cutR; rw [if_pos a1]
    refine ⟨hR, ?_⟩
    have hC : f.cut y0.e = (f.wt (f.t.cutE (f.ei y0.e))).we (updI f.ei y0.e 0) (updI f.eo (f.ei y0.e) 0) f.ne := by unfold Fo.cut; rw [if_pos hR]; unfold To.cut; rw [if_pos a1]
    rw [hC]
    have hE := (h.eu.cut hB a1).1
    have c0 : (f.t.cutE (f.ei y0.e)).e = frL zeE f.t.e (f.ei y0.e) := by rw [To.cutE_eq]
    have i1 : ∀ m, isA (f.t.cutE (f.ei y0.e)).e m = if m = f.ei y0.e then false else isA f.t.e m := fun m => by rw [c0]; exact isA_frL zeE a1 m
    have i2 : ∀ m, 1 ≤ m → (f.t.cutE (f.ei y0.e)).edge m = if m = f.ei y0.e then zeE else f.t.edge m := fun m hm => by unfold To.edge; rw [c0]; exact atA_frL zeE a1 hm
    have it : ∀ v, (f.t.cutE (f.ei y0.e)).item v = f.t.item v := fun v => by unfold To.item; rw [To.cutE_v]
    have iv : (f.t.cutE (f.ei y0.e)).v = f.t.v := To.cutE_v _ _
    have iV : ∀ z, z ≠ (f.t.edge (f.ei y0.e)).x → z ≠ (f.t.edge (f.ei y0.e)).y → (f.t.cutE (f.ei y0.e)).s.V z = f.t.s.V z := fun z h1 h2 => To.cutE_V _ _ h1 h2
    have ip : (f.t.cutE (f.ei y0.e)).p 0 = (0, 0) := by
      rw [To.cutE_eq]
      show updP (updP f.t.p _ (0, 0)) _ (0, 0) 0 = (0, 0)
      unfold updP
      split
      · rfl
      split
      · rfl
      · exact h.z.2.2
    clear c0
    generalize f.t.cutE (f.ei y0.e) = T at *
    have ne : ∀ y, y ∈ es → y.e ≠ y0.e → f.ei y.e ≠ f.ei y0.e := fun y hy k k2 => k (by rw [← (h.ein y hy).2.1, k2, a2])
    have memf : ∀ y, y ∈ es.filter (fun y => decide (y.e ≠ y0.e)) ↔ y ∈ es ∧ y.e ≠ y0.e := fun y => by simp [List.mem_filter]
    refine ⟨hE, h.vnd, ?_, fun x hx => ?_, fun v hv => h.vno v hv, fun i hi => ?_, fun y hy => ?_, fun e he => ?_, fun m hm => ?_, ⟨h.z.1, ?_, ip⟩⟩
    · exact List.Nodup.sublist (List.Sublist.map _ List.filter_sublist) h.esd
    · obtain ⟨k1, k2, k3, k4⟩ := h.vin x hx
      have hx2 := h.eu.item_x k1 a1
      refine ⟨?_, k2, ?_, k4⟩
      · show isA T.v (f.vi x.v) = true
        rw [iv]; exact k1
      · show T.s.V (T.item (f.vi x.v)) = _
        rw [it, iV _ hx2.1 hx2.2]; exact k3
    · have hi' : isA T.v i = true := hi
      rw [iv] at hi'; exact h.vall i hi'
    · obtain ⟨hy1, hne⟩ := (memf y).1 hy
      obtain ⟨k1, k2, k3, k4, k5, k6, k7, k8, k9⟩ := h.ein y hy1
      have hn2 := ne y hy1 hne
      have hx2 := h.eu.edge_x k1 a1 hn2
      show isA T.e (updI f.ei y0.e 0 y.e) = true ∧ updI f.eo (f.ei y0.e) 0 (updI f.ei y0.e 0 y.e) = y.e ∧ (T.edge (updI f.ei y0.e 0 y.e)).a = f.vi y.a ∧ (T.edge (updI f.ei y0.e 0 y.e)).b = f.vi y.b ∧ y.a ∈ vs.map Vx.v ∧ y.b ∈ vs.map Vx.v ∧ (T.s.V (T.edge (updI f.ei y0.e 0 y.e)).x).m = emk y.m ∧ (T.s.V (T.edge (updI f.ei y0.e 0 y.e)).y).m = 0 ∧ 0 ≤ y.m ∧ y.m ≤ 15
      rw [updI_ne hne, i1, if_neg hn2, updI_ne hn2, i2 _ (isA_bd k1).1, if_neg hn2, iV _ hx2.1 hx2.2.1, iV _ hx2.2.2.1 hx2.2.2.2]
      exact ⟨k1, k2, k3, k4, k5, k6, k7, k8, k9⟩
    · show updI f.ei y0.e 0 e = 0
      by_cases k : e = y0.e
      · rw [k]; exact updI_at _ _ _
      · rw [updI_ne k]
        refine h.eno e (fun k2 => he ?_)
        obtain ⟨y, hy, rfl⟩ := List.mem_map.1 k2
        exact List.mem_map.2 ⟨y, (memf y).2 ⟨hy, k⟩, rfl⟩
    · show ∃ y : Ex, y ∈ es.filter (fun y => decide (y.e ≠ y0.e)) ∧ updI f.ei y0.e 0 y.e = m
      have hm' : isA T.e m = true := hm
      rw [i1] at hm'
      by_cases k : m = f.ei y0.e
      · rw [if_pos k] at hm'; cases hm'
      · rw [if_neg k] at hm'
        obtain ⟨y, hy, hye⟩ := h.eall m hm'
        have hne : y.e ≠ y0.e := fun k2 => k (by rw [← hye, k2])
        exact ⟨y, (memf y).2 ⟨hy, hne⟩, by rw [updI_ne hne]; exact hye⟩
    · show updI f.eo (f.ei y0.e) 0 0 = 0
      unfold updI; split
      · rfl
      · exact h.z.2.1
/-- Drop. -/
theorem Rel.drop (hB : Tb f.t) (h : Rel f vs es) {v : Int} : (v ∉ vs.map Vx.v → f.dropR v = 4 ∧ f.drop v = f) ∧ (v ∈ vs.map Vx.v → (∃ y, y ∈ es ∧ (y.a = v ∨ y.b = v)) → f.dropR v = 13 ∧ f.drop v = f) ∧
    (v ∈ vs.map Vx.v → (∀ y, y ∈ es → y.a ≠ v ∧ y.b ≠ v) → f.dropR v = 0 ∧ Rel (f.drop v) (vs.filter fun x => decide (x.v ≠ v)) es) := by
  have no : ∀ r : Int, r ≠ 0 → f.dropR v = r → f.dropR v = r ∧ f.drop v = f := fun r h0 hr => ⟨hr, by unfold Fo.drop; rw [if_neg (by rw [hr]; exact h0)]⟩
  refine ⟨fun hv => no 4 (by omega) (by unfold Fo.dropR To.dropR; rw [h.vno v hv, if_neg (by simp [isA])]), fun hv hy => no 13 (by omega) ?_, fun hv hno => ?_⟩
  · obtain ⟨a1, _⟩ := h.isv hv
    have hl : ¬ f.t.s.lone (f.t.item (f.vi v)) = true := fun k => by
      obtain ⟨y, hy, hc⟩ := hy
      obtain ⟨k1, k2, k3, k4, _⟩ := h.ein y hy
      have := (h.eu.alone hB a1).1 k _ k1
      rcases hc with rfl | rfl
      · exact this.1 k3
      · exact this.2 k4
    unfold Fo.dropR To.dropR; rw [if_pos a1, if_neg hl]
  · obtain ⟨a1, a2⟩ := h.isv hv
    have hl : f.t.s.lone (f.t.item (f.vi v)) = true := (h.eu.alone hB a1).2 fun n hn => by
      obtain ⟨y, hy, rfl⟩ := h.eall n hn
      obtain ⟨k1, k2, k3, k4, k5, k6, _⟩ := h.ein y hy
      rw [k3, k4]
      exact ⟨fun k => (hno y hy).1 (h.vinj k5 hv k), fun k => (hno y hy).2 (h.vinj k6 hv k)⟩
    have hR : f.dropR v = 0 := by unfold Fo.dropR To.dropR; rw [if_pos a1, if_pos hl]
    refine ⟨hR, ?_⟩
    have hD : f.drop v = (f.wt (f.t.dropV (f.vi v))).wv (updI f.vi v 0) (updI f.vo (f.vi v) 0) f.nv := by unfold Fo.drop; rw [if_pos hR]; unfold To.drop; rw [if_pos a1, if_pos hl]
    rw [hD]
    obtain ⟨hE, ia, it, iV⟩ := h.eu.dropV hB a1 hl
    have memf : ∀ x, x ∈ vs.filter (fun x => decide (x.v ≠ v)) ↔ x ∈ vs ∧ x.v ≠ v := fun x => by simp [List.mem_filter]
    have memm : ∀ u, u ∈ (vs.filter fun x => decide (x.v ≠ v)).map Vx.v ↔ u ∈ vs.map Vx.v ∧ u ≠ v := fun u => by
      constructor
      · intro k; obtain ⟨x, hx, rfl⟩ := List.mem_map.1 k; obtain ⟨k1, k2⟩ := (memf x).1 hx; exact ⟨List.mem_map.2 ⟨x, k1, rfl⟩, k2⟩
      · rintro ⟨k, k2⟩; obtain ⟨x, hx, rfl⟩ := List.mem_map.1 k; exact List.mem_map.2 ⟨x, (memf x).2 ⟨hx, k2⟩, rfl⟩
    have ne : ∀ u, u ∈ vs.map Vx.v → u ≠ v → f.vi u ≠ f.vi v := fun u hu k k2 => k (h.vinj hu hv k2)
    refine ⟨hE, ?_, h.esd, fun x hx => ?_, fun u hu => ?_, fun i hi => ?_, fun y hy => ?_, h.eno, h.eall, ⟨?_, h.z.2.1, ?_⟩⟩
    · exact List.Nodup.sublist (List.Sublist.map _ List.filter_sublist) h.vnd
    · obtain ⟨hx1, hne⟩ := (memf x).1 hx
      have hm : x.v ∈ vs.map Vx.v := List.mem_map.2 ⟨x, hx1, rfl⟩
      obtain ⟨k1, k2, k3, k4⟩ := h.vin x hx1
      have hn2 := ne _ hm hne
      show isA (f.t.dropV (f.vi v)).v (updI f.vi v 0 x.v) = true ∧ updI f.vo (f.vi v) 0 (updI f.vi v 0 x.v) = x.v ∧ (f.t.dropV (f.vi v)).s.V ((f.t.dropV (f.vi v)).item (updI f.vi v 0 x.v)) = _ ∧ _
      rw [updI_ne hne, ia, if_neg hn2, updI_ne hn2, it _ hn2, iV _ (fun k => hn2 (h.eu.item_inj k1 a1 k))]
      exact ⟨k1, k2, k3, k4⟩
    · show updI f.vi v 0 u = 0
      by_cases k : u = v
      · rw [k]; exact updI_at _ _ _
      · rw [updI_ne k]; exact h.vno u (fun k2 => hu ((memm u).2 ⟨k2, k⟩))
    · show ∃ x : Vx, x ∈ vs.filter (fun x => decide (x.v ≠ v)) ∧ updI f.vi v 0 x.v = i
      have hi' : isA (f.t.dropV (f.vi v)).v i = true := hi
      rw [ia] at hi'
      by_cases k : i = f.vi v
      · rw [if_pos k] at hi'; cases hi'
      · rw [if_neg k] at hi'
        obtain ⟨x, hx, hxe⟩ := h.vall i hi'
        have hne : x.v ≠ v := fun k2 => k (by rw [← hxe, k2])
        exact ⟨x, (memf x).2 ⟨hx, hne⟩, by rw [updI_ne hne]; exact hxe⟩
    · obtain ⟨k1, k2, k3, k4, k5, k6, k7, k8, k9⟩ := h.ein y hy
      have hx2 := h.eu.item_x a1 k1
      refine ⟨k1, k2, ?_, ?_, (memm _).2 ⟨k5, (hno y hy).1⟩, (memm _).2 ⟨k6, (hno y hy).2⟩, ?_, ?_, k9⟩
      · show (f.t.edge (f.ei y.e)).a = updI f.vi v 0 y.a
        rw [updI_ne (hno y hy).1]; exact k3
      · show (f.t.edge (f.ei y.e)).b = updI f.vi v 0 y.b
        rw [updI_ne (hno y hy).2]; exact k4
      · show ((f.t.dropV (f.vi v)).s.V (f.t.edge (f.ei y.e)).x).m = _
        rw [iV _ hx2.1.symm]; exact k7
      · show ((f.t.dropV (f.vi v)).s.V (f.t.edge (f.ei y.e)).y).m = _
        rw [iV _ hx2.2.symm]; exact k8
    · show updI f.vo (f.vi v) 0 0 = 0
      unfold updI; split
      · rfl
      · exact h.z.1
    · show updP f.t.p (f.t.item (f.vi v)) (0, 0) 0 = (0, 0)
      unfold updP; split
      · rfl
      · exact h.z.2.2
end
end Go.Proofs.YtcbgeahcnjamdabGreat
