/- Layer 10: what a forest's calls make of its vertices (P) and edges (Q), and what they tell of these; the same of a graph's forest. -/
import Derived.Test.YtcbgeahcnjamdabGreatLevMem
namespace Go.Proofs.YtcbgeahcnjamdabGreat
open Go.RowKit
set_option linter.unusedVariables false

/-- v is a vertex. -/
def Vp (P : Vx → Prop) (v : Int) : Prop := ∃ x, P x ∧ x.v = v
/-- e is an edge. -/
def Ep (Q : Ex → Prop) (e : Int) : Prop := ∃ y, Q y ∧ y.e = e
/-- Some edges join them. -/
def Jq (Q : Ex → Prop) (a b : Int) : Prop := Jn (fun x y => ∃ z, Q z ∧ z.a = x ∧ z.b = y) a b
/-- The vertices of v's tree. -/
structure Tree (P : Vx → Prop) (Q : Ex → Prop) (v : Int) (T : List Int) : Prop where
  nd : T.Nodup
  mem : ∀ u, u ∈ T ↔ Vp P u ∧ Jq Q v u
theorem Jq.mono {Q Q' : Ex → Prop} {a b : Int} (h : Jq Q a b) (hQ : ∀ z, Q z → ∃ z', Q' z' ∧ z'.a = z.a ∧ z'.b = z.b) : Jq Q' a b :=
  Jn.mono h fun x y ⟨z, h1, h2, h3⟩ => .inl (by obtain ⟨z', k1, k2, k3⟩ := hQ z h1; exact ⟨z', k1, k2.trans h2, k3.trans h3⟩)
theorem Jq.trans {Q : Ex → Prop} {a b c : Int} (h : Jq Q a b) (k : Jq Q b c) : Jq Q a c := Jn.trans h k
theorem Jq.symm {Q : Ex → Prop} {a b : Int} (h : Jq Q a b) : Jq Q b a := Jn.symm h
theorem Jq.refl (Q : Ex → Prop) (a : Int) : Jq Q a a := Jn.refl a
theorem Jq.edge {Q : Ex → Prop} {z : Ex} (h : Q z) : Jq Q z.a z.b := Jn.step (Jn.refl _) (.inl ⟨z, h, rfl, rfl⟩)
theorem jn_iff {R R' : Int → Int → Prop} (h : ∀ x y, R x y ↔ R' x y) {v u : Int} : Jn R v u ↔ Jn R' v u := ⟨fun k => k.mono fun x y r => .inl ((h x y).1 r), fun k => k.mono fun x y r => .inl ((h x y).2 r)⟩
/-- An edge more. -/
theorem Jq.more {Q Q' : Ex → Prop} {y : Ex} (hQ : ∀ z, Q' z ↔ Q z ∨ z = y) {v u : Int} : Jq Q' v u ↔ Jq Q v u ∨ (Jq Q v y.a ∧ Jq Q y.b u) ∨ (Jq Q v y.b ∧ Jq Q y.a u) := by
  unfold Jq
  rw [← Jn.more]
  refine jn_iff fun a b => ⟨?_, ?_⟩
  · rintro ⟨z, h1, h2, h3⟩
    rcases (hQ z).1 h1 with h1 | rfl
    · exact .inl ⟨z, h1, h2, h3⟩
    · exact .inr ⟨h2.symm, h3.symm⟩
  · rintro (⟨z, h1, h2, h3⟩ | ⟨rfl, rfl⟩)
    · exact ⟨z, (hQ z).2 (.inl h1), h2, h3⟩
    · exact ⟨y, (hQ y).2 (.inr rfl), rfl, rfl⟩
section
variable {vs : List Vx} {es : List Ex} {P : Vx → Prop} {Q : Ex → Prop}
theorem vp_mem (h : ∀ x, x ∈ vs ↔ P x) (v : Int) : v ∈ vs.map Vx.v ↔ Vp P v := by
  rw [List.mem_map]
  exact ⟨fun ⟨x, a, b⟩ => ⟨x, (h x).1 a, b⟩, fun ⟨x, a, b⟩ => ⟨x, (h x).2 a, b⟩⟩
theorem ep_mem (h : ∀ x, x ∈ es ↔ Q x) (v : Int) : v ∈ es.map Ex.e ↔ Ep Q v := by
  rw [List.mem_map]
  exact ⟨fun ⟨x, a, b⟩ => ⟨x, (h x).1 a, b⟩, fun ⟨x, a, b⟩ => ⟨x, (h x).2 a, b⟩⟩
theorem jq_iff (h : ∀ x, x ∈ es ↔ Q x) (a b : Int) : Jn (Ee es) a b ↔ Jq Q a b := jn_iff fun x y => ⟨fun ⟨z, k, r⟩ => ⟨z, (h z).1 k, r⟩, fun ⟨z, k, r⟩ => ⟨z, (h z).2 k, r⟩⟩
theorem tr_of (hv : ∀ x, x ∈ vs ↔ P x) (he : ∀ x, x ∈ es ↔ Q x) (nd : (vs.map Vx.v).Nodup) (v : Int) : ∃ T, Tree P Q v T ∧ Trv vs es v T ∧ T.length ≤ vs.length := by
  classical
  refine ⟨(vs.map Vx.v).filter fun u => decide (Jq Q v u), ⟨nd.sublist List.filter_sublist, fun u => ?_⟩, ⟨nd.sublist List.filter_sublist, fun u => ?_⟩, ?_⟩
  · rw [List.mem_filter, vp_mem hv]; simp
  · rw [List.mem_filter, jq_iff he]; simp
  · have := List.length_filter_le (fun u => decide (Jq Q v u)) (vs.map Vx.v)
    rw [List.length_map] at this; exact this
theorem Tree.trv (hv : ∀ x, x ∈ vs ↔ P x) (he : ∀ x, x ∈ es ↔ Q x) {v : Int} {T : List Int} (h : Tree P Q v T) : Trv vs es v T := ⟨h.nd, fun u => by rw [h.mem, vp_mem hv, jq_iff he]⟩
end
theorem sumL_one (T : List Int) : sumL (fun _ => 1) T = T.length := by
  induction T with
  | nil => rfl
  | cons a T ih => show 1 + sumL (fun _ => 1) T = _; rw [ih]; simp; omega
theorem sumL_congr {p q : Int → Int} {T : List Int} (h : ∀ u, u ∈ T → p u = q u) : sumL p T = sumL q T ∧ minL p T = minL q T := by
  induction T with
  | nil => exact ⟨rfl, rfl⟩
  | cons a T ih =>
    obtain ⟨i1, i2⟩ := ih (fun u hu => h u (by simp [hu]))
    exact ⟨by show p a + sumL p T = q a + sumL q T; rw [i1, h a (by simp)], by show min (p a) (minL p T) = min (q a) (minL q T); rw [i2, h a (by simp)]⟩
theorem Rel.card {f : Fo} {vs : List Vx} {es : List Ex} {K : Nat} (h : Rel f vs es) (hw : f.Wf K) : vs.length ≤ K := by
  have nd : ((vs.map Vx.v).map f.vi).Nodup := by
    have := h.vnd
    rw [List.nodup_iff_pairwise_ne, List.pairwise_map]
    rw [List.nodup_iff_pairwise_ne] at this
    refine List.Pairwise.imp_of_mem ?_ this
    intro a b ha hb hne e
    exact hne (h.vinj ha hb e)
  have := nd.length_le_of_subset (l₂ := List.map (fun k : Nat => (k : Int) + 1) (List.range f.t.v.length)) (fun j hj => by
    obtain ⟨v, hv, rfl⟩ := List.mem_map.1 hj
    have := isA_bd (h.isv hv).1
    exact List.mem_map.2 ⟨(f.vi v - 1).toNat, List.mem_range.2 (by omega), by omega⟩)
  have h2 := hw.t.le.v
  simp at this
  omega
section
variable {f : Fo} {P : Vx → Prop} {Q : Ex → Prop}
theorem Fo.dr_add (f : Fo) (v s l : Int) : (f.add v s l).dr = f.dr := by unfold Fo.add; split <;> rfl
theorem Fo.dr_drop (f : Fo) (v : Int) : (f.drop v).dr = f.dr := by unfold Fo.drop; split <;> rfl
theorem Fo.dr_link (f : Fo) (n a b : Int) : (f.link n a b).dr = f.dr := by unfold Fo.link; split <;> rfl
theorem Fo.dr_cut (f : Fo) (n : Int) : (f.cut n).dr = f.dr := by unfold Fo.cut; split <;> rfl
def addP (P : Vx → Prop) (v s l : Int) : Vx → Prop := fun x => P x ∨ (¬ Vp P v ∧ x = ⟨v, s, l, 0⟩)
def cutQ (Q : Ex → Prop) (e : Int) : Ex → Prop := fun y => Q y ∧ y.e ≠ e
def linkQ (Q : Ex → Prop) (e a b : Int) : Ex → Prop := fun y => Q y ∨ y = ⟨e, a, b, 0⟩
def markP (P : Vx → Prop) (v b : Int) : Vx → Prop := fun x => (P x ∧ x.v ≠ v) ∨ ∃ x0, P x0 ∧ x0.v = v ∧ x = ⟨v, x0.s, x0.l, b⟩
def emarkQ (Q : Ex → Prop) (e b : Int) : Ex → Prop := fun y => (Q y ∧ y.e ≠ e) ∨ ∃ y0, Q y0 ∧ y0.e = e ∧ y = ⟨e, y0.a, y0.b, b⟩
/-- v has an edge. -/
def Hase (Q : Ex → Prop) (v : Int) : Prop := ∃ y, Q y ∧ (y.a = v ∨ y.b = v)
def dropP (P : Vx → Prop) (Q : Ex → Prop) (v : Int) : Vx → Prop := fun x => P x ∧ (x.v ≠ v ∨ Hase Q v)
theorem Fv.add (hB : Tb f.t) (h : Fv f P Q) {v s l : Int} (hok : okSL s l = true) : Fv (f.add v s l) (addP P v s l) Q := by
  obtain ⟨vs, es, h1, h2, h3⟩ := h
  obtain ⟨a1, _, a3⟩ := h1.add hB (v := v) (s := s) (l := l)
  by_cases hv : v ∈ vs.map Vx.v
  · rw [(a1 hv).2]
    refine ⟨vs, es, h1, fun x => (h2 x).trans ⟨.inl, fun k => k.elim id fun k => absurd ((vp_mem h2 v).1 hv) k.1⟩, h3⟩
  · refine ⟨_, es, (a3 hv hok).2, fun x => ?_, h3⟩
    rw [List.mem_append, h2]
    exact ⟨fun k => k.imp id fun k => ⟨fun hp => hv ((vp_mem h2 v).2 hp), by simpa using k⟩, fun k => k.imp id fun k => by simpa using k.2⟩
theorem Fv.cut (hB : Tb f.t) (h : Fv f P Q) {e : Int} : Fv (f.cut e) P (cutQ Q e) := by
  obtain ⟨vs, es, h1, h2, h3⟩ := h
  obtain ⟨a1, a2⟩ := h1.cut hB (n := e)
  by_cases he : e ∈ es.map Ex.e
  · refine ⟨vs, _, (a2 he).2, h2, fun y => ?_⟩
    rw [List.mem_filter, h3]; simp [cutQ]
  · rw [(a1 he).2]
    exact ⟨vs, es, h1, h2, fun y => (h3 y).trans ⟨fun k => ⟨k, fun e' => he ((ep_mem h3 e).2 ⟨y, k, e'⟩)⟩, fun k => k.1⟩⟩
theorem Fv.link (hB : Tb f.t) (h : Fv f P Q) {e a b : Int} (h0 : 1 ≤ e) (he : ¬ Ep Q e) (ha : Vp P a) (hb : Vp P b) (hj : ¬ Jq Q a b) : Fv (f.link e a b) P (linkQ Q e a b) := by
  obtain ⟨vs, es, h1, h2, h3⟩ := h
  obtain ⟨_, _, _, _, a5⟩ := h1.link hB (n := e) (a := a) (b := b)
  have hs : f.same a b = false := by
    cases hs : f.same a b with
    | false => rfl
    | true => exact absurd ((jq_iff h3 a b).1 ((h1.same hB).1 hs).2.2) hj
  refine ⟨vs, _, (a5 (by omega) (fun k => he ((ep_mem h3 e).1 k)) ((vp_mem h2 a).2 ha) ((vp_mem h2 b).2 hb) hs).2, h2, fun y => ?_⟩
  rw [List.mem_append, h3]; simp [linkQ]
theorem Fv.mark (hB : Tb f.t) (h : Fv f P Q) {v b : Int} (h0 : 0 ≤ b) (h1 : b ≤ 15) (hv : Vp P v) : Fv (f.mark v b) (markP P v b) Q := by
  obtain ⟨vs, es, k1, h2, h3⟩ := h
  obtain ⟨_, _, a3⟩ := k1.mark hB (v := v) h0
  obtain ⟨x0, p0, p1⟩ := hv
  have hx0 := (h2 x0).2 p0
  refine ⟨_, es, (a3 (by omega) x0 hx0 p1).2, fun x => ?_, h3⟩
  rw [List.mem_map]
  constructor
  · rintro ⟨y, hy, rfl⟩
    by_cases e : y.v = v
    · rw [if_pos e]
      refine .inr ⟨x0, p0, p1, rfl⟩
    · rw [if_neg e]; exact .inl ⟨(h2 y).1 hy, e⟩
  · rintro (⟨q1, q2⟩ | ⟨x1, q1, q2, rfl⟩)
    · exact ⟨x, (h2 x).2 q1, if_neg q2⟩
    · obtain rfl : x1 = x0 := k1.one ((h2 x1).2 q1) hx0 (q2.trans p1.symm)
      exact ⟨x1, hx0, if_pos p1⟩
theorem Fv.emark (hB : Tb f.t) (h : Fv f P Q) {e b : Int} (h0 : 0 ≤ b) (h1 : b ≤ 15) (he : Ep Q e) : Fv (f.emark e b) P (emarkQ Q e b) := by
  obtain ⟨vs, es, k1, h2, h3⟩ := h
  obtain ⟨_, _, a3⟩ := k1.emark hB (n := e) h0
  obtain ⟨x0, p0, p1⟩ := he
  have hx0 := (h3 x0).2 p0
  refine ⟨vs, _, (a3 (by omega) x0 hx0 p1).2, h2, fun x => ?_⟩
  rw [List.mem_map]
  constructor
  · rintro ⟨y, hy, rfl⟩
    by_cases e' : y.e = e
    · rw [if_pos e']
      refine .inr ⟨x0, p0, p1, rfl⟩
    · rw [if_neg e']; exact .inl ⟨(h3 y).1 hy, e'⟩
  · rintro (⟨q1, q2⟩ | ⟨x1, q1, q2, rfl⟩)
    · exact ⟨x, (h3 x).2 q1, if_neg q2⟩
    · obtain rfl : x1 = x0 := k1.oneE ((h3 x1).2 q1) hx0 (q2.trans p1.symm)
      exact ⟨x1, hx0, if_pos p1⟩
theorem Fv.drop (hB : Tb f.t) (h : Fv f P Q) {v : Int} : Fv (f.drop v) (dropP P Q v) Q ∧ (¬ Vp P v → f.dropR v = 4) ∧ (Vp P v → Hase Q v → f.dropR v = 13) ∧ (Vp P v → ¬ Hase Q v → f.dropR v = 0) := by
  obtain ⟨vs, es, k1, h2, h3⟩ := h
  obtain ⟨a1, a2, a3⟩ := k1.drop hB (v := v)
  by_cases hv : v ∈ vs.map Vx.v
  · have hvp := (vp_mem h2 v).1 hv
    by_cases hh : Hase Q v
    · obtain ⟨y, y1, y2⟩ := hh
      obtain ⟨b1, b2⟩ := a2 hv ⟨y, (h3 y).2 y1, y2⟩
      refine ⟨?_, fun k => absurd hvp k, fun _ _ => b1, fun _ k => absurd ⟨y, y1, y2⟩ k⟩
      rw [b2]
      exact ⟨vs, es, k1, fun x => (h2 x).trans ⟨fun k => ⟨k, .inr ⟨y, y1, y2⟩⟩, fun k => k.1⟩, h3⟩
    · obtain ⟨b1, b2⟩ := a3 hv fun y hy => ⟨fun e => hh ⟨y, (h3 y).1 hy, .inl e⟩, fun e => hh ⟨y, (h3 y).1 hy, .inr e⟩⟩
      refine ⟨⟨_, es, b2, fun x => ?_, h3⟩, fun k => absurd hvp k, fun _ k => absurd k hh, fun _ _ => b1⟩
      rw [List.mem_filter, h2]
      simp [dropP, hh]
  · have hvp : ¬ Vp P v := fun k => hv ((vp_mem h2 v).2 k)
    obtain ⟨b1, b2⟩ := a1 hv
    refine ⟨?_, fun _ => b1, fun k => absurd k hvp, fun k => absurd k hvp⟩
    rw [b2]
    exact ⟨vs, es, k1, fun x => (h2 x).trans ⟨fun k => ⟨k, .inl fun e => hvp ⟨x, k, e⟩⟩, fun k => k.1⟩, h3⟩
theorem Fv.has (h : Fv f P Q) {v : Int} : (f.vi v != 0) = true ↔ Vp P v := by
  obtain ⟨vs, es, k1, h2, h3⟩ := h
  rw [← vp_mem h2, ← k1.mem]; simp
theorem Fv.same (hB : Tb f.t) (h : Fv f P Q) {a b : Int} : f.same a b = true ↔ Vp P a ∧ Vp P b ∧ Jq Q a b := by
  obtain ⟨vs, es, k1, h2, h3⟩ := h
  rw [k1.same hB, vp_mem h2, vp_mem h2, jq_iff h3]
theorem Fv.tree (h : Fv f P Q) {K : Nat} (hw : f.Wf K) (v : Int) : ∃ T, Tree P Q v T ∧ T.length ≤ K := by
  obtain ⟨vs, es, k1, h2, h3⟩ := h
  obtain ⟨T, t1, _, t2⟩ := tr_of h2 h3 k1.vnd v
  exact ⟨T, t1, Nat.le_trans t2 (k1.card hw)⟩
theorem Fv.total (hB : Tb f.t) (h : Fv f P Q) {v : Int} (hv : Vp P v) {T : List Int} (hT : Tree P Q v T) {sv lv : Int → Int} (hs : ∀ x, P x → x.s = sv x.v ∧ x.l = lv x.v) :
    (f.total v).c = wr T.length ∧ (f.total v).s = wr (sumL sv T) ∧ (f.total v).l = minL lv T := by
  obtain ⟨vs, es, k1, h2, h3⟩ := h
  obtain ⟨e1, e2, e3⟩ := k1.total hB ((vp_mem h2 v).2 hv) (hT.trv h2 h3)
  have hx : ∀ u, u ∈ T → (vat vs u).s = sv u ∧ (vat vs u).l = lv u := fun u hu => by
    obtain ⟨q1, q2⟩ := vat_in ((vp_mem h2 u).2 ((hT.mem u).1 hu).1)
    have := hs _ ((h2 _).1 q1)
    rw [q2] at this; exact this
  rw [sumL_one] at e1
  rw [(sumL_congr fun u hu => (hx u hu).1).1] at e2
  rw [(sumL_congr fun u hu => (hx u hu).2).2] at e3
  exact ⟨e1, e2, e3⟩
theorem Fv.none (h : Fv f P Q) {v : Int} (hv : ¬ Vp P v) : f.total v = zeV ∧ f.least v = -1 := by
  obtain ⟨vs, es, k1, h2, h3⟩ := h
  have h0 := k1.vno v (fun k => hv ((vp_mem h2 v).1 k))
  refine ⟨?_, by unfold Fo.least; rw [if_neg (by simp [h0])]⟩
  unfold Fo.total To.total
  rw [h0, To.item_no (by simp [isA] : isA f.t.v 0 = false), if_pos rfl]
theorem Fv.leastYes (h : Fv f P Q) {v : Int} (hv : Vp P v) : f.least v = (f.total v).l := by
  obtain ⟨vs, es, k1, h2, h3⟩ := h
  unfold Fo.least
  rw [if_pos (k1.mem.2 ((vp_mem h2 v).2 hv))]
theorem hasB_one {m : Int} (h : m = 0 ∨ m = 1) : hasB m 1 = true ↔ m = 1 := by
  rcases h with rfl | rfl
  · have : hasB 0 1 = false := by decide +kernel
    rw [this]; simp
  · have : hasB 1 1 = true := by decide +kernel
    simp [this]
theorem Fv.findV (hB : Tb f.t) (h : Fv f P Q) {v : Int} (hv : Vp P v) (hm : ∀ x, P x → x.m = 0 ∨ x.m = 1) :
    (f.findV v 1 ≠ 0 ∧ ∃ x, P x ∧ Jq Q v x.v ∧ x.m = 1 ∧ f.vo (f.findV v 1) = x.v) ∨ (f.findV v 1 = 0 ∧ ∀ x, P x → Jq Q v x.v → x.m = 0) := by
  obtain ⟨vs, es, k1, h2, h3⟩ := h
  obtain ⟨T, t1, t2, _⟩ := tr_of h2 h3 k1.vnd v
  rcases k1.findV hB ((vp_mem h2 v).2 hv) t2 (b := 1) (by omega) with ⟨e1, u, e2, e3, e4⟩ | ⟨e1, e2⟩
  · obtain ⟨q1, q2⟩ := vat_in ((vp_mem h2 u).2 ((t1.mem u).1 e2).1)
    have q3 := (h2 _).1 q1
    exact .inl ⟨e1, _, q3, by rw [q2]; exact ((t1.mem u).1 e2).2, (hasB_one (hm _ q3)).1 e3, by rw [q2]; exact e4⟩
  · refine .inr ⟨e1, fun x hx hj => ?_⟩
    have hu : x.v ∈ T := (t1.mem _).2 ⟨⟨x, hx, rfl⟩, hj⟩
    obtain ⟨q1, q2⟩ := vat_in ((vp_mem h2 x.v).2 ⟨x, hx, rfl⟩)
    have e : vat vs x.v = x := k1.one q1 ((h2 x).2 hx) q2
    have := e2 _ hu
    rw [e] at this
    rcases hm x hx with h' | h'
    · exact h'
    · rw [(hasB_one (.inr h')).2 h'] at this; cases this
theorem Fv.findE (hB : Tb f.t) (h : Fv f P Q) {v : Int} (hv : Vp P v) (hm : ∀ y, Q y → y.m = 0 ∨ y.m = 1) :
    (f.findE v 1 ≠ 0 ∧ ∃ y, Q y ∧ Jq Q v y.a ∧ y.m = 1 ∧ f.eo (f.findE v 1) = y.e) ∨ (f.findE v 1 = 0 ∧ ∀ y, Q y → Jq Q v y.a → y.m = 0) := by
  obtain ⟨vs, es, k1, h2, h3⟩ := h
  obtain ⟨T, t1, t2, _⟩ := tr_of h2 h3 k1.vnd v
  rcases k1.findE hB ((vp_mem h2 v).2 hv) t2 (b := 1) (by omega) with ⟨e1, y, e2, e3, e4, e5⟩ | ⟨e1, e2⟩
  · have q3 := (h3 _).1 e2
    exact .inl ⟨e1, y, q3, ((t1.mem _).1 e3).2, (hasB_one (hm _ q3)).1 e4, e5⟩
  · refine .inr ⟨e1, fun y hy hj => ?_⟩
    have hu : y.a ∈ T := (t1.mem _).2 ⟨(vp_mem h2 _).1 (k1.ein y ((h3 y).2 hy)).2.2.2.2.1, hj⟩
    have := e2 y ((h3 y).2 hy) hu
    rcases hm y hy with h' | h'
    · exact h'
    · rw [(hasB_one (.inr h')).2 h'] at this; cases this
end
end Go.Proofs.YtcbgeahcnjamdabGreat
