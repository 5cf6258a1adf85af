/- Layer 8's statement ForestPath: its plain part: a path's edges, one by one; a cut; an edge across. -/
import Derived.Test.YtkpfonfcgoocfabTourSame
import Derived.Test.YtkpfonfcgoocfabForestOps
namespace Go.Proofs.Ytkpfonfcgoocfab
open Go.RowKit
set_option linter.unusedVariables false

theorem To.link_v (t : To) (a b : Int) : (t.link a b).v = t.v ∧ (t.link a b).fv = t.fv := ⟨rfl, rfl⟩
theorem Vn.link {n : Nat} {p q : Int → Int} {t : To} (hB : Tb t) (h : Vn n p q t) {a b : Int} (ha : isA t.v a = true) (hb : isA t.v b = true) (hs : t.same a b = false) : Vn n p q (t.link a b) := by
  refine ⟨(h.eu.link hB ha hb hs).1, h.va, fun v hv => ?_⟩
  have hi := (h.eu.iv v ((h.va v).2 hv)).1
  have hX := hB.newXY
  have e1 : t.item v ≠ t.newX := fun e => hi (e ▸ hX.1)
  have e2 : t.item v ≠ t.newY := fun e => hi (e ▸ hX.2)
  have e3 : (t.link a b).item v = t.item v := rfl
  rw [e3, To.link_V, show updV (updV t.s.V t.newX noneV) t.newY noneV (t.item v) = t.s.V (t.item v) by unfold updV; rw [if_neg e2, if_neg e1]]
  exact h.vs v hv
theorem Vn.cut {n : Nat} {p q : Int → Int} {t : To} (hB : Tb t) (h : Vn n p q t) {m : Int} (hm : isA t.e m = true) : Vn n p q (t.cutE m) := by
  have ei : ∀ v, (t.cutE m).item v = t.item v := fun v => by unfold To.item; rw [To.cutE_v]
  refine ⟨(h.eu.cut hB hm).1, fun v => by rw [To.cutE_v]; exact h.va v, fun v hv => ?_⟩
  have vA := (h.va v).2 hv
  have hap := h.eu.apart (v := v) (⟨m, hm, .inl ⟨rfl, rfl, rfl, rfl⟩⟩ : tE t _ _ _ _)
  rw [ei, To.cutE_V t m (fun e => hap.1 ⟨vA, e⟩) (fun e => hap.2 ⟨vA, e⟩)]
  exact h.vs v hv
theorem Vn.reads {n : Nat} {p q : Int → Int} {t : To} (hB : Tb t) (h : Vn n p q t) (hn : n ≤ 60) (hp : ∀ v, 1 ≤ v ∧ v ≤ (n : Int) → 0 ≤ p v ∧ p v ≤ 255) (hq : ∀ v, 1 ≤ v ∧ v ≤ (n : Int) → 0 ≤ q v ∧ q v ≤ 255) {v : Int} (hv : 1 ≤ v ∧ v ≤ (n : Int)) :
    (t.total v).c = sumN (fun u => if t.same v u = true then 1 else 0) n ∧ (t.total v).s = sumN (fun u => if t.same v u = true then p u else 0) n ∧ (t.total v).l = minN (fun u => if t.same v u = true then q u else 4611686018427387904) n := by
  obtain ⟨h1, h2, h3⟩ := h.has hB (fun v hv => by have := hq v hv; omega) hv
  obtain ⟨e1, e2, e3⟩ := To.total_S (h.eu.ne0 hB ((h.va v).2 hv))
  rw [h1] at e1; rw [h2] at e2; rw [h3] at e3
  have b1 := sumN_bd (f := fun u => if t.same v u = true then (1 : Int) else 0) (n := n) (c := 1) (by omega) (fun u hu => by show 0 ≤ ite _ _ _ ∧ ite _ _ _ ≤ _; split <;> omega)
  have b2 := sumN_bd (f := fun u => if t.same v u = true then p u else 0) (n := n) (c := 255) (by omega) (fun u hu => by have := hp u hu; show 0 ≤ ite _ _ _ ∧ ite _ _ _ ≤ _; split <;> omega)
  refine ⟨?_, ?_, e3⟩
  · rw [e1]; unfold wr wrap64; omega
  · rw [e2]; unfold wr wrap64; omega
/-- Vertices in a row, joined with those next to them. -/
theorem jn_path {Lk : Int → Prop} {v u : Int} : Jn (fun x y => y = x + 1 ∧ Lk x) v u ↔ ∀ c, min v u ≤ c → c < max v u → Lk c := by
  constructor
  · intro h
    induction h with
    | refl => intro c h1 h2; omega
    | @step b c' _ e ih =>
      intro c h1 h2
      rcases e with ⟨rfl, hl⟩ | ⟨rfl, hl⟩
      · by_cases e : c = b
        · rw [e]; exact hl
        · exact ih c (by omega) (by omega)
      · by_cases e : c = c'
        · rw [e]; exact hl
        · exact ih c (by omega) (by omega)
  · intro h
    have up : ∀ (d : Nat) (v : Int), (∀ c, v ≤ c → c < v + d → Lk c) → Jn (fun x y => y = x + 1 ∧ Lk x) v (v + d) := fun d => by
      induction d with
      | zero => intro v _; rw [show v + ((0 : Nat) : Int) = v by omega]; exact Jn.refl _
      | succ d ih =>
        intro v hc
        exact .step (ih v (fun c h1 h2 => hc c h1 (by omega))) (.inl ⟨by omega, hc _ (by omega) (by omega)⟩)
    rcases Int.le_total v u with hle | hle
    · obtain ⟨d, hd⟩ : ∃ d : Nat, u = v + d := ⟨(u - v).toNat, by omega⟩
      rw [hd]; exact up d v (fun c h1 h2 => h c (by omega) (by omega))
    · obtain ⟨d, hd⟩ : ∃ d : Nat, v = u + d := ⟨(v - u).toNat, by omega⟩
      have := up d u (fun c h1 h2 => h c (by omega) (by omega))
      rw [← hd] at this
      exact this.symm
theorem Jn.iff {R R' : Int → Int → Prop} (h : ∀ x y, R x y ↔ R' x y) (v u : Int) : Jn R v u ↔ Jn R' v u := ⟨fun k => k.mono fun x y r => .inl ((h x y).1 r), fun k => k.mono fun x y r => .inl ((h x y).2 r)⟩

/-- k vertices, no edge, under their own numbers. -/
structure Qa (k : Nat) (p q : Int → Int) (f : Fo) : Prop where
  vn : Vn k p q f.t
  vl : f.t.v.length = k ∧ f.t.fv = []
  el : f.t.e = [] ∧ f.t.fe = []
  vi : ∀ v, f.vi v = if 0 ≤ v ∧ v < (k : Int) then v + 1 else 0
  ei : ∀ e, f.ei e = 0
theorem qa0 (p q : Int → Int) : Qa 0 p q fo0 := ⟨⟨to0_eu, fun v => ⟨fun h => (by simp [isA, fo0, to0] at h), fun h => by omega⟩, fun v h => by omega⟩, ⟨rfl, rfl⟩, ⟨rfl, rfl⟩, fun v => by rw [if_neg (by omega)]; rfl, fun e => rfl⟩
theorem Qa.add {k : Nat} {p q : Int → Int} {f : Fo} (hB : Tb f.t) (h : Qa k p q f) (hok : okSL (p ((k : Int) + 1)) (q ((k : Int) + 1)) = true) :
    f.addR k (p ((k : Int) + 1)) (q ((k : Int) + 1)) = 0 ∧ Qa (k + 1) p q (f.add k (p ((k : Int) + 1)) (q ((k : Int) + 1))) := by
  have e1 : tkI f.t.v f.t.fv = (k : Int) + 1 := by rw [h.vl.2, tkI_nil, h.vl.1]
  have hR : f.addR k (p ((k : Int) + 1)) (q ((k : Int) + 1)) = 0 := by
    unfold Fo.addR; rw [if_neg (by rw [h.vi, if_neg (by omega)]; simp), if_pos hok]
  have hA : f.add k (p ((k : Int) + 1)) (q ((k : Int) + 1)) = (f.wt (f.t.addV (p ((k : Int) + 1)) (q ((k : Int) + 1)))).wv (updI f.vi k ((k : Int) + 1)) (updI f.vo ((k : Int) + 1) k) (f.nv + 1) := by
    unfold Fo.add; rw [if_pos hR]; unfold Fo.newV; rw [e1]
  rw [hA]
  refine ⟨hR, ?_⟩
  have hE := h.vn.eu.addV hB (p ((k : Int) + 1)) (q ((k : Int) + 1))
  obtain ⟨i, f1, f2, f3, f4, f5, f6, f7, f8⟩ := addV_facts hB h.vn.eu (p ((k : Int) + 1)) (q ((k : Int) + 1))
  rw [e1] at f6 f7
  refine ⟨⟨hE, fun v => ?_, fun v hv => ?_⟩, ⟨?_, ?_⟩, h.el, fun v => ?_, h.ei⟩
  · show isA (f.t.addV _ _).v v = true ↔ _
    rw [f6]
    split
    · rename_i e; subst e; simp only [true_iff]; omega
    · rename_i e; rw [h.vn.va]; push_cast; omega
  · show ((f.t.addV _ _).s.V ((f.t.addV _ _).item v)).s = _ ∧ ((f.t.addV _ _).s.V ((f.t.addV _ _).item v)).l = _
    by_cases e : v = (k : Int) + 1
    · rw [e, f7, f4]; exact ⟨rfl, rfl⟩
    · have hv' : 1 ≤ v ∧ v ≤ (k : Int) := by omega
      have hvA := (h.vn.va v).2 hv'
      have hni : f.t.item v ≠ i := fun e => (h.vn.eu.iv v hvA).1 (e ▸ f1)
      rw [f8 v hvA, f5 _ hni]
      exact h.vn.vs v hv'
  · show (tkL f.t.v f.t.fv _).length = _
    rw [h.vl.2, tkL_nil]; simp [h.vl.1]
  · show f.t.fv.dropLast = []
    rw [h.vl.2]; rfl
  · show updI f.vi k ((k : Int) + 1) v = _
    unfold updI
    by_cases e : v = (k : Int)
    · rw [if_pos e, if_pos (by omega), e]
    · rw [if_neg e, h.vi]
      by_cases e2 : 0 ≤ v ∧ v < (k : Int)
      · rw [if_pos e2, if_pos (by omega)]
      · rw [if_neg e2, if_neg (by omega)]
/-- n vertices, K edges: the one that was made when k were there joins g k and the next. -/
structure Qb (n K : Nat) (g : Nat → Nat) (p q : Int → Int) (f : Fo) : Prop where
  vn : Vn n p q f.t
  vi : ∀ v, f.vi v = if 0 ≤ v ∧ v < (n : Int) then v + 1 else 0
  el : f.t.e.length = K ∧ f.t.fe = []
  ed : ∀ k, k < K → isA f.t.e ((k : Int) + 1) = true ∧ (f.t.edge ((k : Int) + 1)).a = (g k : Int) + 1 ∧ (f.t.edge ((k : Int) + 1)).b = (g k : Int) + 2
  ei : ∀ e : Int, (∀ k, k < K → e ≠ (g k : Int) + 1) → f.ei e = 0
  ek : ∀ k, k < K → f.ei ((g k : Int) + 1) = (k : Int) + 1
theorem Qa.qb {n : Nat} {g : Nat → Nat} {p q : Int → Int} {f : Fo} (h : Qa n p q f) : Qb n 0 g p q f :=
  ⟨h.vn, h.vi, ⟨by rw [h.el.1]; rfl, h.el.2⟩, fun k hk => absurd hk (Nat.not_lt_zero k), fun e _ => h.ei e, fun k hk => absurd hk (Nat.not_lt_zero k)⟩
theorem Qb.eds {n K : Nat} {g : Nat → Nat} {p q : Int → Int} {f : Fo} (h : Qb n K g p q f) (x y : Int) : Ed f.t x y ↔ y = x + 1 ∧ ∃ k, k < K ∧ x = (g k : Int) + 1 := by
  constructor
  · rintro ⟨m, hm, rfl, rfl⟩
    have hb := isA_bd hm
    rw [h.el.1] at hb
    obtain ⟨k, rfl⟩ : ∃ k : Nat, m = (k : Int) + 1 := ⟨(m - 1).toNat, by omega⟩
    obtain ⟨_, e1, e2⟩ := h.ed k (by omega)
    exact ⟨by rw [e1, e2]; omega, k, by omega, e1⟩
  · rintro ⟨rfl, k, hk, rfl⟩
    obtain ⟨e0, e1, e2⟩ := h.ed k hk
    exact ⟨_, e0, e1, by rw [e2]; omega⟩
theorem Qb.same {n K : Nat} {g : Nat → Nat} {p q : Int → Int} {f : Fo} (hB : Tb f.t) (h : Qb n K g p q f) {v u : Int} (hv : 1 ≤ v ∧ v ≤ (n : Int)) (hu : 1 ≤ u ∧ u ≤ (n : Int)) : f.t.same v u = true ↔ ∀ c, min v u ≤ c → c < max v u → ∃ k, k < K ∧ c = (g k : Int) + 1 := by
  rw [h.vn.eu.joined hB ((h.vn.va v).2 hv) ((h.vn.va u).2 hu), Jn.iff h.eds]
  exact jn_path
theorem To.linked_eq {t : To} {a b : Int} (ha : isA t.v a = true) (hb : isA t.v b = true) (hs : t.same a b = false) : t.linked a b = t.link a b ∧ t.linkN a b = t.newE := by
  have hR : t.linkR a b = 0 := by unfold To.linkR; rw [if_pos ⟨ha, hb⟩, if_neg (by rw [hs]; simp)]
  exact ⟨by unfold To.linked; rw [if_pos hR], by unfold To.linkN; rw [if_pos hR]⟩
theorem Qb.link {n K : Nat} {g : Nat → Nat} {p q : Int → Int} {f : Fo} (hB : Tb f.t) (h : Qb n K g p q f) (hr : g K + 1 < n) (inj : ∀ k, k < K → g k ≠ g K) :
    f.linkR ((g K : Int) + 1) (g K) ((g K : Int) + 1) = 0 ∧ Qb n (K + 1) g p q (f.link ((g K : Int) + 1) (g K) ((g K : Int) + 1)) := by
  have v1 : f.vi (g K) = (g K : Int) + 1 := by rw [h.vi, if_pos (by omega)]
  have v2 : f.vi ((g K : Int) + 1) = (g K : Int) + 2 := by rw [h.vi, if_pos (by omega)]; omega
  have e0 : f.ei ((g K : Int) + 1) = 0 := h.ei _ (fun k hk e => inj k hk (by omega))
  have a1 := (h.vn.va ((g K : Int) + 1)).2 (by omega)
  have a2 := (h.vn.va ((g K : Int) + 2)).2 (by omega)
  have hs : f.t.same ((g K : Int) + 1) ((g K : Int) + 2) = false := by
    cases hc : f.t.same ((g K : Int) + 1) ((g K : Int) + 2) with
    | false => rfl
    | true =>
      obtain ⟨k, hk, e⟩ := (h.same hB (by omega) (by omega)).1 hc ((g K : Int) + 1) (by omega) (by omega)
      exact absurd (by omega : g k = g K) (inj k hk)
  obtain ⟨l1, l2⟩ := To.linked_eq a1 a2 hs
  have hR : f.linkR ((g K : Int) + 1) (g K) ((g K : Int) + 1) = 0 := by
    unfold Fo.linkR
    rw [if_neg (by omega), if_neg (by rw [e0]; simp), v1, v2, if_pos (by omega), if_neg (by rw [hs]; simp)]
  have hN : f.t.newE = (K : Int) + 1 := by unfold To.newE; rw [h.el.2, tkI_nil, h.el.1]
  have hL : f.link ((g K : Int) + 1) (g K) ((g K : Int) + 1) = (f.wt (f.t.link ((g K : Int) + 1) ((g K : Int) + 2))).we (updI f.ei ((g K : Int) + 1) ((K : Int) + 1)) (updI f.eo ((K : Int) + 1) ((g K : Int) + 1)) (f.ne + 1) := by
    unfold Fo.link; rw [if_pos hR, v1, v2, l1, l2, hN]
  rw [hL]
  refine ⟨hR, ?_⟩
  have hf := h.vn.eu.ek.rng
  have i1 : ∀ m, isA (f.t.link ((g K : Int) + 1) ((g K : Int) + 2)).e m = if m = (K : Int) + 1 then true else isA f.t.e m := fun m => by rw [← hN]; exact isA_tkL hf _ m
  have i2 : ∀ m, 1 ≤ m → (f.t.link ((g K : Int) + 1) ((g K : Int) + 2)).edge m = if m = (K : Int) + 1 then ⟨(g K : Int) + 1, (g K : Int) + 2, f.t.newX, f.t.newY⟩ else f.t.edge m := fun m hm => by rw [← hN]; exact atA_tkL hf zeE _ hm
  refine ⟨h.vn.link hB a1 a2 hs, h.vi, ⟨?_, ?_⟩, fun k hk => ?_, fun e he => ?_, fun k hk => ?_⟩
  · show (tkL f.t.e f.t.fe _).length = _
    rw [h.el.2, tkL_nil]; simp [h.el.1]
  · show f.t.fe.dropLast = []
    rw [h.el.2]; rfl
  · show isA (f.t.link _ _).e _ = true ∧ ((f.t.link _ _).edge _).a = _ ∧ ((f.t.link _ _).edge _).b = _
    rw [i1, i2 _ (by omega)]
    by_cases e : k = K
    · subst e; rw [if_pos rfl, if_pos rfl]; exact ⟨rfl, rfl, rfl⟩
    · rw [if_neg (by omega), if_neg (by omega)]; exact h.ed k (by omega)
  · show updI f.ei _ _ e = 0
    rw [updI_ne (fun e2 => he K (by omega) e2)]
    exact h.ei e (fun k hk => he k (by omega))
  · show updI f.ei _ _ _ = _
    by_cases e : k = K
    · subst e; rw [updI_at]
    · rw [updI_ne (fun e2 => inj k (by omega) (by omega))]; exact h.ek k (by omega)
/-- The whole path: one tree. -/
theorem Qb.whole {n : Nat} {g : Nat → Nat} {p q : Int → Int} {f : Fo} (hB : Tb f.t) (h : Qb n (n - 1) g p q f) (sur : ∀ c, c < n - 1 → ∃ k, k < n - 1 ∧ g k = c) {v u : Int} (hv : 1 ≤ v ∧ v ≤ (n : Int)) (hu : 1 ≤ u ∧ u ≤ (n : Int)) : f.t.same v u = true :=
  (h.same hB hv hu).2 fun c h1 h2 => by
    obtain ⟨k, hk, e⟩ := sur (c - 1).toNat (by omega)
    exact ⟨k, hk, by omega⟩
/-- Cut in two behind the vertex at. -/
structure Qc (n : Nat) (at_ : Nat) (p q : Int → Int) (f : Fo) : Prop where
  vn : Vn n p q f.t
  vi : ∀ v, f.vi v = if 0 ≤ v ∧ v < (n : Int) then v + 1 else 0
  ei : f.ei ((at_ : Int) + 1) = 0
  sm : ∀ v u, 1 ≤ v ∧ v ≤ (n : Int) → 1 ≤ u ∧ u ≤ (n : Int) → (f.t.same v u = true ↔ (v ≤ (at_ : Int) + 1 ↔ u ≤ (at_ : Int) + 1))
theorem Qb.cut {n : Nat} {g : Nat → Nat} {p q : Int → Int} {f : Fo} (hB : Tb f.t) (h : Qb n (n - 1) g p q f) (sur : ∀ c, c < n - 1 → ∃ k, k < n - 1 ∧ g k = c) (inj : ∀ i j, i < n - 1 → j < n - 1 → g i = g j → i = j) {at_ : Nat} (hat : at_ + 1 < n) (hB2 : Tb (f.cut ((at_ : Int) + 1)).t) :
    f.cutR ((at_ : Int) + 1) = 0 ∧ Qc n at_ p q (f.cut ((at_ : Int) + 1)) := by
  obtain ⟨k, hk, rfl⟩ := sur at_ (by omega)
  obtain ⟨d0, d1, d2⟩ := h.ed k hk
  have ek := h.ek k hk
  have hR : f.cutR ((g k : Int) + 1) = 0 := by unfold Fo.cutR To.cutR; rw [ek, if_pos d0]
  have hC : f.cut ((g k : Int) + 1) = (f.wt (f.t.cutE ((k : Int) + 1))).we (updI f.ei ((g k : Int) + 1) 0) (updI f.eo ((k : Int) + 1) 0) f.ne := by
    unfold Fo.cut; rw [if_pos hR, ek]; unfold To.cut; rw [if_pos d0]
  rw [hC] at hB2 ⊢
  refine ⟨hR, h.vn.cut hB d0, h.vi, updI_at _ _ _, fun v u hv hu => ?_⟩
  have vn2 := h.vn.cut hB d0
  show (f.t.cutE ((k : Int) + 1)).same v u = true ↔ _
  have hB3 : Tb (f.t.cutE ((k : Int) + 1)) := hB2
  rw [vn2.eu.joined hB3 ((vn2.va v).2 hv) ((vn2.va u).2 hu)]
  have hEd : ∀ x y, Ed (f.t.cutE ((k : Int) + 1)) x y ↔ y = x + 1 ∧ (1 ≤ x ∧ x < (n : Int) ∧ x ≠ (g k : Int) + 1) := fun x y => by
    rw [Ed.cut d0]
    constructor
    · rintro ⟨m, hne, hm, rfl, rfl⟩
      have hb := isA_bd hm
      rw [h.el.1] at hb
      obtain ⟨j, rfl⟩ : ∃ j : Nat, m = (j : Int) + 1 := ⟨(m - 1).toNat, by omega⟩
      have hj : j < n - 1 := by omega
      obtain ⟨_, e1, e2⟩ := h.ed j hj
      rw [e1, e2]
      refine ⟨by omega, by omega, ?_, fun e => hne (by rw [inj j k hj hk (by omega)])⟩
      have := h.vn.eu.ends hB hm
      have := (h.vn.va _).1 this.2.1
      omega
    · rintro ⟨rfl, h1, h2, h3⟩
      obtain ⟨j, hj, e⟩ := sur (x - 1).toNat (by omega)
      obtain ⟨e0, e1, e2⟩ := h.ed j hj
      refine ⟨(j : Int) + 1, fun e' => h3 ?_, e0, by omega, by omega⟩
      have : j = k := by omega
      subst this; omega
  rw [Jn.iff hEd, jn_path (Lk := fun x => 1 ≤ x ∧ x < (n : Int) ∧ x ≠ (g k : Int) + 1)]
  constructor
  · intro hc
    by_cases e : (v ≤ (g k : Int) + 1 ↔ u ≤ (g k : Int) + 1)
    · exact e
    · exact absurd rfl (hc ((g k : Int) + 1) (by omega) (by omega)).2.2
  · intro hc c h1 h2
    exact ⟨by omega, by omega, by omega⟩
/-- The edge across. -/
theorem Qc.link {n : Nat} {at_ : Nat} {p q : Int → Int} {f : Fo} (hB : Tb f.t) (h : Qc n at_ p q f) (hat : at_ + 1 < n) (hB2 : Tb (f.link ((at_ : Int) + 1) ((n : Int) - 1) 0).t) :
    f.linkR ((at_ : Int) + 1) ((n : Int) - 1) 0 = 0 ∧ Vn n p q (f.link ((at_ : Int) + 1) ((n : Int) - 1) 0).t ∧ (f.link ((at_ : Int) + 1) ((n : Int) - 1) 0).vi = f.vi ∧ ∀ v u, 1 ≤ v ∧ v ≤ (n : Int) → 1 ≤ u ∧ u ≤ (n : Int) → (f.link ((at_ : Int) + 1) ((n : Int) - 1) 0).t.same v u = true := by
  have v1 : f.vi ((n : Int) - 1) = n := by rw [h.vi, if_pos (by omega)]; omega
  have v2 : f.vi 0 = 1 := by rw [h.vi, if_pos (by omega)]; omega
  have a1 := (h.vn.va n).2 (by omega)
  have a2 := (h.vn.va 1).2 (by omega)
  have hs : f.t.same n 1 = false := by
    cases hc : f.t.same n 1 with
    | false => rfl
    | true => have := (h.sm n 1 (by omega) (by omega)).1 hc; omega
  obtain ⟨l1, l2⟩ := To.linked_eq a1 a2 hs
  have hR : f.linkR ((at_ : Int) + 1) ((n : Int) - 1) 0 = 0 := by
    unfold Fo.linkR
    rw [if_neg (by omega), if_neg (by rw [h.ei]; simp), v1, v2, if_pos (by omega), if_neg (by rw [hs]; simp)]
  have hL : (f.link ((at_ : Int) + 1) ((n : Int) - 1) 0).t = f.t.link n 1 ∧ (f.link ((at_ : Int) + 1) ((n : Int) - 1) 0).vi = f.vi := by
    unfold Fo.link; rw [if_pos hR, v1, v2, l1, l2]; exact ⟨rfl, rfl⟩
  rw [hL.1] at hB2 ⊢
  have vn2 := h.vn.link hB a1 a2 hs
  refine ⟨hR, vn2, hL.2, fun v u hv hu => ?_⟩
  rw [vn2.eu.joined hB2 ((vn2.va v).2 hv) ((vn2.va u).2 hu), Jn.iff (fun x y => Ed.link h.vn.eu), Jn.more]
  have J : ∀ v u, 1 ≤ v ∧ v ≤ (n : Int) → 1 ≤ u ∧ u ≤ (n : Int) → (v ≤ (at_ : Int) + 1 ↔ u ≤ (at_ : Int) + 1) → Jn (Ed f.t) v u := fun v u hv hu e => (h.vn.eu.joined hB ((h.vn.va v).2 hv) ((h.vn.va u).2 hu)).1 ((h.sm v u hv hu).2 e)
  by_cases c1 : v ≤ (at_ : Int) + 1 <;> by_cases c2 : u ≤ (at_ : Int) + 1
  · exact .inl (J v u hv hu (by omega))
  · exact .inr (.inr ⟨J v 1 hv (by omega) (by omega), J n u (by omega) hu (by omega)⟩)
  · exact .inr (.inl ⟨J v n hv (by omega) (by omega), J 1 u (by omega) hu (by omega)⟩)
  · exact .inl (J v u hv hu (by omega))
/-- So many up to c. -/
theorem sumN_upto (n : Nat) (c : Nat) : sumN (fun u => if u ≤ (c : Int) then 1 else 0) n = (min n c : Nat) ∧ sumN (fun u => if u ≤ (c : Int) then 0 else 1) n = (n - c : Nat) := by
  induction n with
  | zero => exact ⟨by simp [sumN], by simp [sumN]⟩
  | succ n ih =>
    have e1 : sumN (fun u => if u ≤ (c : Int) then 1 else 0) (n + 1) = sumN (fun u => if u ≤ (c : Int) then 1 else 0) n + (if ((n : Int) + 1) ≤ (c : Int) then 1 else 0) := rfl
    have e2 : sumN (fun u => if u ≤ (c : Int) then 0 else 1) (n + 1) = sumN (fun u => if u ≤ (c : Int) then 0 else 1) n + (if ((n : Int) + 1) ≤ (c : Int) then 0 else 1) := rfl
    rw [e1, e2, ih.1, ih.2]
    split <;> omega
/-- The order in which the edges are made. -/
def ordN (n k : Nat) : Nat := if (n - 1) % 7 = 0 then k else k * 7 % (n - 1)
theorem ordN_lt {n k : Nat} (hn : 2 ≤ n) (hk : k < n - 1) : ordN n k + 1 < n := by
  unfold ordN; split
  · omega
  · have := Nat.mod_lt (k * 7) (show n - 1 > 0 by omega); omega
theorem seven {m d q : Nat} (hm : m % 7 ≠ 0) (hq : 1 ≤ q ∧ q ≤ 6) (h : 7 * d = q * m) : False := by
  obtain ⟨s, r, hr, rfl⟩ : ∃ s r, (1 ≤ r ∧ r ≤ 6) ∧ m = 7 * s + r := ⟨m / 7, m % 7, by omega, by omega⟩
  have hr' : r = 1 ∨ r = 2 ∨ r = 3 ∨ r = 4 ∨ r = 5 ∨ r = 6 := by omega
  have hq' : q = 1 ∨ q = 2 ∨ q = 3 ∨ q = 4 ∨ q = 5 ∨ q = 6 := by omega
  rcases hr' with rfl | rfl | rfl | rfl | rfl | rfl <;> rcases hq' with rfl | rfl | rfl | rfl | rfl | rfl <;> omega
theorem ordN_inj {n : Nat} (hn : 2 ≤ n) : ∀ i j, i < n - 1 → j < n - 1 → ordN n i = ordN n j → i = j := by
  intro i j hi hj e
  unfold ordN at e
  by_cases h7 : (n - 1) % 7 = 0
  · rw [if_pos h7, if_pos h7] at e; exact e
  · rw [if_neg h7, if_neg h7] at e
    generalize n - 1 = m at *
    have key : ∀ a b, a < m → b < m → a < b → a * 7 % m = b * 7 % m → False := fun a b ha hb hab e => by
      have d1 := Nat.div_add_mod (a * 7) m
      have d2 := Nat.div_add_mod (b * 7) m
      have hq1 : b * 7 / m ≤ 6 := by
        have : b * 7 / m < 7 := Nat.div_lt_of_lt_mul (by omega)
        omega
      have hle : a * 7 / m ≤ b * 7 / m := Nat.div_le_div_right (by omega)
      obtain ⟨q, hq⟩ : ∃ q, b * 7 / m = a * 7 / m + q := ⟨b * 7 / m - a * 7 / m, by omega⟩
      have hq6 : q ≤ 6 := by
        have := Nat.zero_le (a * 7 / m)
        omega
      rw [hq, Nat.mul_add] at d2
      have hdq : 7 * (b - a) = q * m := by rw [Nat.mul_comm q m]; omega
      have hq0 : 1 ≤ q := by
        rcases Nat.eq_zero_or_pos q with h0 | h0
        · subst h0; omega
        · exact h0
      exact seven h7 ⟨hq0, hq6⟩ hdq
    rcases Nat.lt_trichotomy i j with h | h | h
    · exact (key i j hi hj h e).elim
    · exact h
    · exact (key j i hj hi h e.symm).elim
theorem ordN_sur {n : Nat} (hn : 2 ≤ n) : ∀ c, c < n - 1 → ∃ k, k < n - 1 ∧ ordN n k = c := by
  intro c hc
  unfold ordN
  by_cases h7 : (n - 1) % 7 = 0
  · exact ⟨c, hc, if_pos h7⟩
  · simp only [if_neg h7]
    generalize n - 1 = m at *
    have : ∃ j, j ≤ 6 ∧ (c + j * m) % 7 = 0 := by
      obtain ⟨s, r, hr, rfl⟩ : ∃ s r, (1 ≤ r ∧ r ≤ 6) ∧ m = 7 * s + r := ⟨m / 7, m % 7, by omega, by omega⟩
      obtain ⟨s2, r2, hr2, rfl⟩ : ∃ s r, r ≤ 6 ∧ c = 7 * s + r := ⟨c / 7, c % 7, by omega, by omega⟩
      have hr' : r = 1 ∨ r = 2 ∨ r = 3 ∨ r = 4 ∨ r = 5 ∨ r = 6 := by omega
      have hr2' : r2 = 0 ∨ r2 = 1 ∨ r2 = 2 ∨ r2 = 3 ∨ r2 = 4 ∨ r2 = 5 ∨ r2 = 6 := by omega
      rcases hr' with rfl | rfl | rfl | rfl | rfl | rfl <;> rcases hr2' with rfl | rfl | rfl | rfl | rfl | rfl | rfl <;>
        first
        | exact ⟨0, by omega, by omega⟩
        | exact ⟨1, by omega, by omega⟩
        | exact ⟨2, by omega, by omega⟩
        | exact ⟨3, by omega, by omega⟩
        | exact ⟨4, by omega, by omega⟩
        | exact ⟨5, by omega, by omega⟩
        | exact ⟨6, by omega, by omega⟩
    obtain ⟨j, hj, he⟩ := this
    obtain ⟨k, hk⟩ : ∃ k, c + j * m = k * 7 := ⟨(c + j * m) / 7, by omega⟩
    refine ⟨k, ?_, ?_⟩
    · have : j * m ≤ 6 * m := Nat.mul_le_mul_right m hj
      omega
    · rw [← hk, Nat.add_mul_mod_self_right, Nat.mod_eq_of_lt hc]
end Go.Proofs.Ytkpfonfcgoocfab

namespace Go.Proofs.Ytkpfonfcgoocfab
open Go.RowKit
set_option linter.unusedVariables false
/-- What is left of the cut, what is right of it. -/
def leS (p : Int → Int) (A : Nat) (u : Int) : Int := if u ≤ (A : Int) + 1 then p u else 0
def riS (p : Int → Int) (A : Nat) (u : Int) : Int := if u ≤ (A : Int) + 1 then 0 else p u
def leL (q : Int → Int) (A : Nat) (u : Int) : Int := if u ≤ (A : Int) + 1 then q u else 4611686018427387904
def riL (q : Int → Int) (A : Nat) (u : Int) : Int := if u ≤ (A : Int) + 1 then 4611686018427387904 else q u
section
variable {n A : Nat} {p q : Int → Int} {f : Fo}
theorem Qc.tells (hB : Tb f.t) (h : Qc n A p q f) (hn : n ≤ 60) (hA : A + 1 < n) (hp : ∀ v, 1 ≤ v ∧ v ≤ (n : Int) → 0 ≤ p v ∧ p v ≤ 255) (hq : ∀ v, 1 ≤ v ∧ v ≤ (n : Int) → 0 ≤ q v ∧ q v ≤ 255) :
    (f.total 0).c = (A : Int) + 1 ∧ (f.total ((n : Int) - 1)).c = (n : Int) - A - 1 ∧ f.same 0 ((n : Int) - 1) = false ∧ (f.total A).s = sumN (leS p A) n ∧ (f.total ((A : Int) + 1)).s = sumN (riS p A) n ∧ f.least 0 = min 255 (minN (leL q A) n) ∧ f.least ((n : Int) - 1) = min 255 (minN (riL q A) n) := by
  have v0 : f.vi 0 = 1 := by rw [h.vi, if_pos (by omega)]; omega
  have v1 : f.vi ((n : Int) - 1) = n := by rw [h.vi, if_pos (by omega)]; omega
  have v2 : f.vi A = (A : Int) + 1 := by rw [h.vi, if_pos (by omega)]
  have v3 : f.vi ((A : Int) + 1) = (A : Int) + 2 := by rw [h.vi, if_pos (by omega)]; omega
  have rd := fun v hv => h.vn.reads hB hn hp hq (v := v) hv
  have le : ∀ v, 1 ≤ v ∧ v ≤ (A : Int) + 1 → ∀ u, 1 ≤ u ∧ u ≤ (n : Int) → (f.t.same v u = true ↔ u ≤ (A : Int) + 1) := fun v hv u hu => by rw [h.sm v u (by omega) hu]; omega
  have ri : ∀ v, (A : Int) + 1 < v ∧ v ≤ (n : Int) → ∀ u, 1 ≤ u ∧ u ≤ (n : Int) → (f.t.same v u = true ↔ ¬ u ≤ (A : Int) + 1) := fun v hv u hu => by rw [h.sm v u (by omega) hu]; omega
  have bl := minN_le (f := leL q A) (n := n) (u := 1) (by omega)
  have br := minN_le (f := riL q A) (n := n) (u := n) (by omega)
  unfold leL at bl; unfold riL at br
  rw [if_pos (by omega)] at bl; rw [if_neg (by omega)] at br
  have q1 := hq 1 (by omega)
  have qn := hq n (by omega)
  have su := sumN_upto n (A + 1)
  refine ⟨?_, ?_, ?_, ?_, ?_, ?_, ?_⟩
  · unfold Fo.total; rw [v0, (rd 1 (by omega)).1]
    rw [sumN_congr (g := fun u => if u ≤ ((A + 1 : Nat) : Int) then 1 else 0) (fun u hu => by simp only [le 1 (by omega) u hu]; push_cast; rfl), su.1]; omega
  · unfold Fo.total; rw [v1, (rd n (by omega)).1]
    rw [sumN_congr (g := fun u => if u ≤ ((A + 1 : Nat) : Int) then 0 else 1) (fun u hu => by
      by_cases e : u ≤ (A : Int) + 1
      · rw [if_neg (fun k => (ri n (by omega) u hu).1 k e), if_pos (by omega)]
      · rw [if_pos ((ri n (by omega) u hu).2 e), if_neg (by omega)]), su.2]; omega
  · unfold Fo.same; rw [v0, v1]
    cases hc : f.t.same 1 n with
    | false => rfl
    | true => have := (h.sm 1 n (by omega) (by omega)).1 hc; omega
  · unfold Fo.total; rw [v2, (rd _ (by omega)).2.1]
    exact sumN_congr fun u hu => by unfold leS; simp only [le ((A : Int) + 1) (by omega) u hu]
  · unfold Fo.total; rw [v3, (rd _ (by omega)).2.1]
    refine sumN_congr fun u hu => ?_
    unfold riS
    by_cases e : u ≤ (A : Int) + 1
    · rw [if_neg (fun k => (ri ((A : Int) + 2) (by omega) u hu).1 k e), if_pos e]
    · rw [if_pos ((ri ((A : Int) + 2) (by omega) u hu).2 e), if_neg e]
  · unfold Fo.least Fo.total; rw [v0, if_pos (by omega), (rd 1 (by omega)).2.2]
    rw [minN_congr (g := leL q A) (fun u hu => by unfold leL; simp only [le 1 (by omega) u hu])]
    unfold leL; omega
  · unfold Fo.least Fo.total; rw [v1, if_pos (by omega), (rd n (by omega)).2.2]
    rw [minN_congr (g := riL q A) (fun u hu => by
      unfold riL
      by_cases e : u ≤ (A : Int) + 1
      · rw [if_neg (fun k => (ri n (by omega) u hu).1 k e), if_pos e]
      · rw [if_pos ((ri n (by omega) u hu).2 e), if_neg e])]
    unfold riL; omega
/-- One tree of them all. -/
theorem Vn.all (hB : Tb f.t) (h : Vn n p q f.t) (hvi : ∀ v, f.vi v = if 0 ≤ v ∧ v < (n : Int) then v + 1 else 0) (hs : ∀ v u, 1 ≤ v ∧ v ≤ (n : Int) → 1 ≤ u ∧ u ≤ (n : Int) → f.t.same v u = true) (hn : n ≤ 60) (hp : ∀ v, 1 ≤ v ∧ v ≤ (n : Int) → 0 ≤ p v ∧ p v ≤ 255) (hq : ∀ v, 1 ≤ v ∧ v ≤ (n : Int) → 0 ≤ q v ∧ q v ≤ 255) {v : Int} (hv : 0 ≤ v ∧ v < (n : Int)) :
    (f.total v).c = n ∧ (f.total v).s = sumN (leS p A) n + sumN (riS p A) n := by
  have hx : f.vi v = v + 1 := by rw [hvi, if_pos hv]
  obtain ⟨r1, r2, _⟩ := h.reads hB hn hp hq (v := v + 1) (by omega)
  unfold Fo.total
  rw [hx, r1, r2]
  constructor
  · rw [sumN_congr (g := fun _ => 1) (fun u hu => if_pos (hs _ u (by omega) hu))]; exact sumN_ones n
  · rw [sumN_add]
    refine sumN_congr fun u hu => ?_
    rw [if_pos (hs _ u (by omega) hu)]
    unfold leS riS
    split <;> omega
/-- The whole path, before it is cut. -/
theorem Qb.tells {g : Nat → Nat} (hB : Tb f.t) (h : Qb n (n - 1) g p q f) (sur : ∀ c, c < n - 1 → ∃ k, k < n - 1 ∧ g k = c) (hg : ∀ k, k < n - 1 → g k + 1 < n) (hn : 2 ≤ n ∧ n ≤ 60) (hp : ∀ v, 1 ≤ v ∧ v ≤ (n : Int) → 0 ≤ p v ∧ p v ≤ 255) (hq : ∀ v, 1 ≤ v ∧ v ≤ (n : Int) → 0 ≤ q v ∧ q v ≤ 255) :
    (f.total 0).c = n ∧ f.same 0 ((n : Int) - 1) = true ∧ f.linkR ((n : Int) + 5) 0 ((n : Int) - 1) = 13 ∧ f.link ((n : Int) + 5) 0 ((n : Int) - 1) = f := by
  have hs := fun v u hv hu => h.whole hB sur (v := v) (u := u) hv hu
  have v0 : f.vi 0 = 1 := by rw [h.vi, if_pos (by omega)]; omega
  have v1 : f.vi ((n : Int) - 1) = n := by rw [h.vi, if_pos (by omega)]; omega
  have hsm : f.t.same 1 n = true := hs 1 n (by omega) (by omega)
  have hR : f.linkR ((n : Int) + 5) 0 ((n : Int) - 1) = 13 := by
    unfold Fo.linkR
    rw [if_neg (by omega), if_neg (by rw [h.ei _ (fun k hk e => by have := hg k hk; omega)]; simp), v0, v1, if_pos (by omega), if_pos hsm]
  exact ⟨(h.vn.all (A := 0) hB h.vi hs hn.2 hp hq (v := 0) (by omega)).1, by unfold Fo.same; rw [v0, v1]; exact hsm, hR, by unfold Fo.link; rw [if_neg (by rw [hR]; omega)]⟩
theorem Qb.cutR {g : Nat → Nat} (h : Qb n (n - 1) g p q f) (sur : ∀ c, c < n - 1 → ∃ k, k < n - 1 ∧ g k = c) (hat : A + 1 < n) : f.cutR ((A : Int) + 1) = 0 := by
  obtain ⟨k, hk, rfl⟩ := sur A (by omega)
  unfold Fo.cutR To.cutR; rw [h.ek k hk, if_pos (h.ed k hk).1]
theorem Qc.linkR (h : Qc n A p q f) (hat : A + 1 < n) : f.linkR ((A : Int) + 1) ((n : Int) - 1) 0 = 0 := by
  have v1 : f.vi ((n : Int) - 1) = n := by rw [h.vi, if_pos (by omega)]; omega
  have v2 : f.vi 0 = 1 := by rw [h.vi, if_pos (by omega)]; omega
  have hs : f.t.same n 1 = false := by
    cases hc : f.t.same n 1 with
    | false => rfl
    | true => have := (h.sm n 1 (by omega) (by omega)).1 hc; omega
  unfold Fo.linkR
  rw [if_neg (by omega), if_neg (by rw [h.ei]; simp), v1, v2, if_pos (by omega), if_neg (by rw [hs]; simp)]
end
end Go.Proofs.Ytkpfonfcgoocfab
