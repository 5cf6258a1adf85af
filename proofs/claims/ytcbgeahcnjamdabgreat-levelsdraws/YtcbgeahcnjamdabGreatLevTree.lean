/- Layer 10: riseTree. -/
import Derived.Test.YtcbgeahcnjamdabGreatLevUp
import Derived.Deep.LoopGhost
namespace Go.Proofs.YtcbgeahcnjamdabGreat
open Go.RowKit
set_option linter.unusedVariables false
/-- What stays of a graph while edges rise. -/
structure Ck (g0 g : Gs) : Prop where
  n : g.n = g0.n
  m : g.m = g0.m
  ne : g.ne = g0.ne
  vl : g.vl = g0.vl
  vb : g.vb = g0.vb
  el : g.el = g0.el
  eb : g.eb = g0.eb
theorem Ck.refl (g : Gs) : Ck g g := ⟨rfl, rfl, rfl, rfl, rfl, rfl, rfl⟩
theorem Ck.trans {a b c : Gs} (h : Ck a b) (k : Ck b c) : Ck a c := ⟨k.n.trans h.n, k.m.trans h.m, k.ne.trans h.ne, k.vl.trans h.vl, k.vb.trans h.vb, k.el.trans h.el, k.eb.trans h.eb⟩
/-- Edges stay, with their ends; levels rise; tree edges stay tree edges. -/
def Ev (E0 E : EM) : Prop := ∀ e, (E0 e = none ∧ E e = none) ∨ ∃ x0 x, E0 e = some x0 ∧ E e = some x ∧ x.a = x0.a ∧ x.b = x0.b ∧ x0.l ≤ x.l ∧ (x0.t = true → x.t = true)
theorem Ev.refl (E : EM) : Ev E E := fun e => by
  cases h : E e with
  | none => exact .inl ⟨rfl, rfl⟩
  | some x => exact .inr ⟨x, x, rfl, rfl, rfl, rfl, Int.le_refl _, id⟩
theorem Ev.trans {A B C : EM} (h : Ev A B) (k : Ev B C) : Ev A C := fun e => by
  rcases h e with ⟨h1, h2⟩ | ⟨x, y, h1, h2, h3, h4, h5, h6⟩
  · rcases k e with ⟨k1, k2⟩ | ⟨x', y', k1, k2, _⟩
    · exact .inl ⟨h1, k2⟩
    · rw [h2] at k1; cases k1
  · rcases k e with ⟨k1, k2⟩ | ⟨x', y', k1, k2, k3, k4, k5, k6⟩
    · rw [h2] at k1; cases k1
    · rw [h2] at k1; cases k1
      exact .inr ⟨x, y', h1, k2, k3.trans h3, k4.trans h4, by omega, fun q => k6 (h6 q)⟩
theorem Ev.set (E : EM) {e : Int} {x y : Eg} (hx : E e = some x) (ha : y.a = x.a) (hb : y.b = x.b) (hl : x.l ≤ y.l) (ht : x.t = true → y.t = true) : Ev E (updQ E e (some y)) := fun f => by
  by_cases ef : f = e
  · subst ef; exact .inr ⟨x, y, hx, updQ_at _ _ _, ha, hb, hl, ht⟩
  · rw [updQ_ne ef]; exact Ev.refl E f
/-- How far all edges may rise yet. -/
def potL (E : EM) (m : Nat) : List Int → Nat
  | [] => 0
  | e :: D => (match E e with | some x => m - x.l.toNat | none => 0) + potL E m D
theorem potL_congr {E E' : EM} {m : Nat} {D : List Int} (h : ∀ e ∈ D, (match E e with | some x => m - x.l.toNat | none => 0) = (match E' e with | some x => m - x.l.toNat | none => 0)) : potL E m D = potL E' m D := by
  induction D with
  | nil => rfl
  | cons a D ih => show _ + _ = _ + _; rw [h a (by simp), ih (fun e he => h e (by simp [he]))]
theorem potL_up {E : EM} {m : Nat} {e : Int} {x y : Eg} (hx : E e = some x) (hy : y.l = x.l + 1) (h0 : 0 ≤ x.l) (hm : x.l + 1 ≤ m) : ∀ {D : List Int}, D.Nodup → e ∈ D → potL (updQ E e (some y)) m D + 1 = potL E m D := by
  intro D
  induction D with
  | nil => intro _ h; cases h
  | cons a D ih =>
    intro hD he
    obtain ⟨h1, h2⟩ := List.nodup_cons.1 hD
    by_cases ea : a = e
    · subst ea
      have : potL (updQ E a (some y)) m D = potL E m D := potL_congr fun f hf => by rw [updQ_ne (fun k : f = a => h1 (by rw [← k]; exact hf))]
      show (match updQ E a (some y) a with | some x => m - x.l.toNat | none => 0) + _ + 1 = (match E a with | some x => m - x.l.toNat | none => 0) + _
      rw [updQ_at, this, hx]
      simp only
      omega
    · have hm' : e ∈ D := by rcases List.mem_cons.1 he with k | k; exact absurd k.symm ea; exact k
      have := ih h2 hm'
      show (match updQ E e (some y) a with | some x => m - x.l.toNat | none => 0) + _ + 1 = (match E a with | some x => m - x.l.toNat | none => 0) + _
      rw [updQ_ne ea]
      omega
theorem potL_set {E : EM} {m : Nat} {e : Int} {x y : Eg} (hx : E e = some x) (hy : y.l = x.l) (D : List Int) : potL (updQ E e (some y)) m D = potL E m D := potL_congr fun f hf => by
  by_cases ef : f = e
  · subst ef; rw [updQ_at, hx]; simp only; rw [hy]
  · rw [updQ_ne ef]
section
variable {p : Gp} {w : World} {F : Nat → Prop} {B : Nat} {g : Gs} {K : Nat} {on : Int → Prop} {sv lv : Int → Int} {S : Int → Prop} {go : Eg} {gl : Int} {n : Int}
/-- Where a level's forest has not come to, no loose edge of that level stands. -/
theorem Gi.noLoose (h : Gi g on sv lv S go gl) {m : Nat} {i : Nat} (hR : Rp g.E S n m go i) {j : Nat} (hj : j < g.m) (hij : i < j) {v : Int} (hv : ¬ VS on g.E S go gl j v) : mkS g.s j v = 0 := by
  unfold mkS
  split
  · rfl
  · rename_i hne
    exfalso
    obtain ⟨e, he⟩ := List.exists_mem_of_ne_nil _ hne
    obtain ⟨x, k1, k2, k3, k4, k5⟩ := (h.lo _ _ _).1 he
    have hj' : Jn (Te g.E S j) x.a x.b := by
      rcases hR.b e x k1 k2 k3 with q | ⟨q, _⟩
      · rw [k4] at q; exact q
      · omega
    obtain ⟨v1, v2⟩ := h.vp_of_jn hj hj' (h.eb e x k2).2.1
    rw [h.vs hj] at v1 v2
    rcases k5 with rfl | rfl
    · exact hv v1
    · exact hv v2
/-- A state while edges rise, at level i, on v's side. -/
structure Sg (on : Int → Prop) (sv lv : Int → Int) (S : Int → Prop) (go : Eg) (gl n : Int) (D : List Int) (C i : Nat) (v : Int) (g0 g : Gs) (K : Nat) : Prop where
  gi : Gi g on sv lv S go gl
  rp : Rp g.E S n g.m go i
  hf : Half g.E S n i v
  ck : Ck g0 g
  ev : Ev g0.E g.E
  pk : K + 3 * potL g.E g.m D ≤ C
  dd : ∀ e x, g.E e = some x → e ∈ D
/-- What a tree edge's rise wants, and what it makes. -/
theorem Sg.upTree {D : List Int} (hD : D.Nodup) {C i : Nat} {v : Int} {g0 : Gs} (h : Sg on sv lv S go gl n D C i v g0 g K) (hi : i < g.m) (hn : n < 2 ^ g.m) {y : Ex} (hy : g.Q i y) (hj : Jq (g.Q i) v y.a) (hm1 : y.m = 1) :
    ∃ x, g.E y.e = some x ∧ 0 ≤ x.l ∧ x.l = i ∧ i + 1 < g.m ∧ ¬ Ep (g.Q (i + 1)) y.e ∧ ¬ Jq (g.Q (i + 1)) x.a x.b ∧ on x.a ∧ on x.b ∧ 1 ≤ y.e ∧ Sg on sv lv S go gl n D C i v g0 (riseTreeG g y.e x i) (K + 3) ∧ potL (riseTreeG g y.e x i).E g.m D < potL g.E g.m D := by
  have hyQ := hy
  rw [h.gi.q i hi] at hy hj
  obtain ⟨x, k1, k2, k3, k4, k5⟩ := hy
  have hl : x.l = i := by
    by_cases e : x.l = i
    · exact e
    · rw [if_neg e] at k5; rw [k5] at hm1; simp at hm1
  have ya : y.a = x.a := by rw [k5]
  rw [qd_jq, ya] at hj
  obtain ⟨a1, a2, a3, a4, a5, a6⟩ := h.gi.eb y.e x k2
  have edge : Jn (Te g.E S i) x.a x.b := Jn.one ⟨y.e, x, k1, k2, k3, by omega, rfl, rfl⟩
  have room := h.hf.room hn hj (hj.trans edge) a2
  obtain ⟨r1, r2⟩ := h.rp.upTree h.hf k2 k3 k1 hl hj
  have hz : ∀ u, ¬ VS on g.E S go gl (i + 1) u → mkS g.s ((i + 1 : Nat) : Int) u = 0 := fun u hu => h.gi.noLoose h.rp room (by omega) hu
  have G := h.gi.upTree k1 k2 k3 room hl hz
  have hp := potL_up (m := g.m) (y := x.up) k2 rfl a5 (by omega) hD (h.dd _ _ k2)
  refine ⟨x, k2, a5, hl, room, fun q => ?_, fun q => ?_, a3, a4, a1.1, ⟨G, r1, r2, h.ck.trans ⟨rfl, rfl, rfl, rfl, rfl, rfl, rfl⟩, h.ev.trans (Ev.set g.E k2 rfl rfl (by show x.l ≤ x.l + 1; omega) (fun q => q)), ?_, fun e x' he => ?_⟩, ?_⟩
  · rw [h.gi.q _ room] at q
    obtain ⟨x', q1, q2, q3, q4⟩ := qd_ep.1 q
    rw [k2] at q2; cases q2; omega
  · rw [h.gi.q _ room, qd_jq] at q
    refine h.rp.acy y.e x k1 k2 k3 (q.sub fun a b ⟨f, z, f1, f2, f3, f4, f5⟩ => ⟨f, z, fun k => k.elim f1 (fun k => ?_), f2, f3, h.rp.l0 f z f2, f5⟩)
    subst k
    rw [k2] at f2; cases f2; omega
  · have := h.pk
    show K + 3 + 3 * potL (updQ g.E y.e (some x.up)) g.m D ≤ C
    omega
  · have he' : updQ g.E y.e (some x.up) e = some x' := he
    by_cases ee : e = y.e
    · subst ee; exact h.dd _ _ k2
    · rw [updQ_ne ee] at he'; exact h.dd _ _ he'
  · show potL (updQ g.E y.e (some x.up)) g.m D < _
    omega
set_option maxRecDepth 100000 in
set_option maxHeartbeats 6400000 in
theorem riseTree_any {D : List Int} (hD : D.Nodup) {C i : Nat} {v : Int} {g0 : Gs} (h : Gm p w F B g K) (hs : Sg on sv lv S go gl n D C i v g0 g K) (hC : C + 10 ≤ 30000) (hi : i < g.m) (hn : n < 2 ^ g.m) (hv : VS on g.E S go gl i v) (hv64 : B64 v) (hne : g.ne ≤ 1000000) :
    Calls Tryz.prog 56 #[.pointer (some ⟨B, 0, none⟩), .int .i64 v, .int .i64 i] w fun r w' => r = .returned (.tuple #[]) ∧ ∃ F' g' K', Gm p w' F' B g' K' ∧ Step F F' w w' ∧ Sg on sv lv S go gl n D C i v g0 g' K' ∧ NoTree g'.E S i v := by
  obtain ⟨vv, ev, hc⟩ := h.cells
  have c1 := hc.at (j := 1) rfl
  simp only [List.getElem_toArray, List.getElem_cons_zero, List.getElem_cons_succ] at c1
  obtain ⟨q, cap, e1, cq, hql, hcap1, hcap2⟩ := h.ptr hi
  rw [e1] at c1
  have hi' : (i : Int) < (g.m : Int) := by omega
  have hm' : (g.m : Int) ≤ 9223372036854775807 := by unfold maxLen at hcap2; omega
  -- what FindEdge tells, whatever the state
  have FE : Hid (∀ w1 F1 g1 K1, Gm p w1 F1 B g1 K1 → Sg on sv lv S go gl n D C i v g0 g1 K1 → g1.m = g.m → VS on g1.E S go gl i v → Calls Tryz.prog 82 #[.pointer (some ⟨p.Bf i, 0, none⟩), .int .i64 v, .int .u8 1] w1 fun e w' => (∃ k ok, e = .returned (.tuple #[.int .i64 k, .bool ok]) ∧ FoundE (g1.Q i) v k ok) ∧ Below w1.heap.size w1 w') := fun w1 F1 g1 K1 k1 k2 k3 k4 =>
    gfindE_any k1 (by have := k2.pk; omega) (by rw [k3]; exact hi) v hv64 ((k2.gi.vs (by rw [k3]; exact hi)).2 k4) (k2.gi.em01 (by rw [k3]; exact hi))
  have HF0 := hid_mk (FE.out w F g K h hs rfl hv)
  have HG := hid_mk h
  have HSg := hid_mk hs
  have HV := hid_mk hv
  have HI := hid_mk hi
  have HN := hid_mk hn
  clear h hs hc e1 hv hi hn
  go_enter Tryz.func56, Tryz.ntmps56
  go_wp2_with fail
  refine HF0.out.mono ?_
  rintro r w1 ⟨⟨k0, ok0, rfl, hfd⟩, hb1⟩
  have HG1 := hid_mk (HG.out.below hb1)
  have HS1 : Hid (Step F F w w1) := Step.of_below hb1
  have HFd := hid_mk hfd
  clear hb1 hfd HF0 HG c1 cq
  go_wp2_with fail
  go_loopg [7, 8] (potL g.E g.m D) (fun qq vk vok wr => ∃ (k : Int) (ok : Bool), vk = .int .i64 k ∧ vok = .bool ok ∧ Hid (∃ F' g' K', potL g'.E g'.m D = qq ∧ Gm p wr F' B g' K' ∧ Step F F' w wr ∧ Sg on sv lv S go gl n D C i v g0 g' K' ∧ g'.m = g.m ∧ g'.ne = g.ne ∧ VS on g'.E S go gl i v ∧ FoundE (g'.Q i) v k ok))
  case atStart => exact ⟨k0, ok0, rfl, rfl, F, g, K, rfl, HG1.out, HS1.out, HSg.out, rfl, rfl, HV.out, HFd.out⟩
  case round =>
    obtain ⟨k, ok, rfl, rfl, HR⟩ := hrel
    obtain ⟨F2, g2, K2, hq2, hG2, hS2, hSg2, hm2, hne2, hV2, hFd2⟩ := HR.out
    cases ok with
    | false =>
      have HF : Hid (∃ F' g' K', Gm p wr F' B g' K' ∧ Step F F' w wr ∧ Sg on sv lv S go gl n D C i v g0 g' K' ∧ NoTree g'.E S i v) := ⟨F2, g2, K2, hG2, hS2, hSg2, fun e x f1 f2 f3 f4 f5 => by
        have := hFd2.2 rfl ⟨e, x.a, x.b, 1⟩ (by rw [hSg2.gi.q i (by rw [hm2]; exact HI.out)]; exact ⟨x, f1, f2, f3, by omega, by rw [if_pos f4]⟩) (by rw [hSg2.gi.q i (by rw [hm2]; exact HI.out), qd_jq]; exact f5)
        simp at this⟩
      clear HR hG2 hS2 hSg2 hV2 hFd2 hm2 hne2
      go_wp2
      go_returns
      exact ⟨rfl, HF.out⟩
    | true =>
      obtain ⟨y, hy1, hy2, hy3, rfl⟩ := hFd2.1 rfl
      obtain ⟨x, x1, x2, x3, x4, x5, x6, x7, x8, x9, x10, x11⟩ := hSg2.upTree hD (by rw [hm2]; exact HI.out) (by rw [hm2]; exact HN.out) hy1 hy2 hy3
      have hK2 := hSg2.pk
      have he64 := hSg2.gi.e64 x1
      have HM := hid_mk (gemark_any hG2 (by omega) (by rw [hm2]; exact HI.out) y.e 0 he64 (by omega) (by omega) ⟨y, hy1, rfl⟩)
      have HRi : Hid (∀ w3 F3, Gm p w3 F3 B (g2.setF i (g2.P i) (emarkQ (g2.Q i) y.e 0)) K2 → Calls Tryz.prog 83 #[.pointer (some ⟨B, 0, none⟩), .int .i64 y.e] w3 fun r w' => r = .returned (egv x.up) ∧ Gm p w' F3 B (riseG (g2.setF i (g2.P i) (emarkQ (g2.Q i) y.e 0)) y.e x) K2 ∧ Step F3 F3 w3 w') := fun w3 F3 kk => rise_any kk he64 x1 ⟨x2, by have := hSg2.gi.m; omega⟩ (by show g2.ne ≤ _; rw [hne2]; exact hne)
      have HLi : Hid (∀ w3 F3, Gm p w3 F3 B (riseG (g2.setF i (g2.P i) (emarkQ (g2.Q i) y.e 0)) y.e x) K2 → Calls Tryz.prog 52 #[.pointer (some ⟨B, 0, none⟩), .int .i64 y.e, egv x.up, .int .i64 ((i : Int) + 1)] w3 fun r w' => r = .returned (.tuple #[]) ∧ ∃ F', Gm p w' F' B (riseTreeG g2 y.e x i) (K2 + 3) ∧ Step F3 F' w3 w') := fun w3 F3 kk => by
        have eq1 : (riseG (g2.setF i (g2.P i) (emarkQ (g2.Q i) y.e 0)) y.e x).Q (i + 1) = g2.Q (i + 1) := updF_ne (by omega)
        exact link_any kk (by omega) (i := i + 1) x4 (x := x.up) he64 x9 (hSg2.gi.b64 x7) (hSg2.gi.b64 x8) (by rw [eq1]; exact x5) (by rw [eq1]; exact x6)
      have HV3 : Hid (VS on (riseTreeG g2 y.e x i).E S go gl i v) := by
        have hV2' := hV2
        show VS on (updQ g2.E y.e (some x.up)) S go gl i v
        unfold VS at hV2' ⊢
        by_cases h0 : i = 0
        · rw [if_pos h0] at hV2' ⊢; exact hV2'
        · rw [if_neg h0] at hV2' ⊢
          refine hV2'.imp (fun hh => ?_) id
          obtain ⟨f, z, z1, z2, z3, z4, z5⟩ := qd_hase.1 hh
          refine qd_hase.2 ?_
          by_cases ef : f = y.e
          · subst ef
            rw [x1] at z2; cases z2
            exact ⟨y.e, x.up, z1, updQ_at _ _ _, z3, by show (i : Int) ≤ x.l + 1; omega, z5⟩
          · exact ⟨f, z, z1, by rw [updQ_ne ef]; exact z2, z3, z4, z5⟩
      have HFn : Hid (∀ w3 F3, Gm p w3 F3 B (riseTreeG g2 y.e x i) (K2 + 3) → Calls Tryz.prog 82 #[.pointer (some ⟨p.Bf i, 0, none⟩), .int .i64 v, .int .u8 1] w3 fun e w' => (∃ k ok, e = .returned (.tuple #[.int .i64 k, .bool ok]) ∧ FoundE ((riseTreeG g2 y.e x i).Q i) v k ok) ∧ Below w3.heap.size w3 w') := fun w3 F3 kk => FE.out w3 F3 _ _ kk x10 hm2 HV3.out
      have HQ : Hid (potL (riseTreeG g2 y.e x i).E (riseTreeG g2 y.e x i).m D < gk ∧ (riseTreeG g2 y.e x i).m = g.m ∧ (riseTreeG g2 y.e x i).ne = g.ne ∧ Sg on sv lv S go gl n D C i v g0 (riseTreeG g2 y.e x i) (K2 + 3)) := ⟨by rw [← hq2]; exact x11, hm2, hne2, x10⟩
      have HS2 := hid_mk hS2
      obtain ⟨xa, xb, xl, xt⟩ := x
      obtain rfl : xl = i := x3
      generalize y.e = ye at *
      unfold Eg.up egv at HRi HLi
      clear HR hG2 hS2 hSg2 hV2 hFd2 hm2 hne2 hq2 hK2 x1 x2 x4 x5 x6 x7 x8 x9 x10 x11 hy1 hy2 hy3
      go_wp2_with fail
      refine HM.out.mono ?_
      rintro r w3 ⟨⟨r3, rfl⟩, F3, hG3, hS3⟩
      have HC3 := hid_mk (HRi.out w3 F3 hG3)
      have HS3 := hid_mk (HS2.out.trans hS3)
      clear hG3 hS3 HM HRi HS2
      go_wp2_with fail
      refine HC3.out.mono ?_
      rintro r w4 ⟨rfl, hG4, hS4⟩
      have hb4 : Below w4.heap.size w4 (w4.alloc (.cells #[.int .i64 xa, .int .i64 xb, .int .i64 ((i : Int) + 1), .bool xt] 69)) := (Below.refl _ _).alloc (Nat.le_refl _) _
      have HC4 := hid_mk (HLi.out _ F3 (hG4.below hb4))
      have HS4 := hid_mk ((HS3.out.trans hS4).trans (Step.of_below (F := F3) hb4))
      clear hG4 hS4 hb4 HC3 HS3 HLi
      go_wp2_with fail
      refine HC4.out.mono ?_
      rintro r w5 ⟨rfl, F5, hG5, hS5⟩
      have HC5 := hid_mk (HFn.out w5 F5 hG5)
      have HG5 := hid_mk hG5
      have HS5 := hid_mk (HS4.out.trans hS5)
      clear hG5 hS5 HC4 HS4 HFn
      go_wp2_with fail
      refine HC5.out.mono ?_
      rintro r w6 ⟨⟨k6, ok6, rfl, hfd6⟩, hb6⟩
      have HR6 : Hid (∃ F' g' K', potL g'.E g'.m D = potL (riseTreeG g2 ye ⟨xa, xb, i, xt⟩ i).E (riseTreeG g2 ye ⟨xa, xb, i, xt⟩ i).m D ∧ Gm p w6 F' B g' K' ∧ Step F F' w w6 ∧ Sg on sv lv S go gl n D C i v g0 g' K' ∧ g'.m = g.m ∧ g'.ne = g.ne ∧ VS on g'.E S go gl i v ∧ FoundE (g'.Q i) v k6 ok6) := ⟨F5, _, K2 + 3, rfl, HG5.out.below hb6, HS5.out.trans (Step.of_below hb6), HQ.out.2.2.2, HQ.out.2.1, HQ.out.2.2.1, HV3.out, hfd6⟩
      clear hb6 hfd6 HC5 HG5 HS5
      go_wp2
      go_roundg (potL (riseTreeG g2 ye ⟨xa, xb, i, xt⟩ i).E (riseTreeG g2 ye ⟨xa, xb, i, xt⟩ i).m D)
      case rel => exact ⟨k6, ok6, rfl, rfl, HR6.out⟩
      case measure => exact HQ.out.1
end
end Go.Proofs.YtcbgeahcnjamdabGreat
