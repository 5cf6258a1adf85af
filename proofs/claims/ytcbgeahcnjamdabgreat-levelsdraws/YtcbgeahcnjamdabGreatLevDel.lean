/- Layer 10: Delete, as the graph's memory has it. -/
import Derived.Test.YtcbgeahcnjamdabGreatLevState
namespace Go.Proofs.YtcbgeahcnjamdabGreat
open Go.RowKit
set_option linter.unusedVariables false
section
variable {p : Gp} {w : World} {F : Nat → Prop} {B : Nat} {g : Gs} {K : Nat}
theorem map_out (E : Int → Option Eg) (e : Int) : updQ (fun i => (E i).map egv) e none = fun i => (updQ E e none i).map egv := by
  funext i
  unfold updQ
  split <;> rfl
/-- An edge is told no more. -/
theorem Gm.dropE (h : Gm p w F B g K) {e : Int} (he : B64 e) {x : Eg} (hx : g.E e = some x) (ty : TypeId) : ∃ w', (Builtin.delete_ #[49, 3] ty #[.map (some p.bM), .int .i64 e]).run Tryz.prog w = .ok (.tuple #[]) w' ∧ Gm p w' F B (g.setE (updQ g.E e none) (g.ne - 1)) K ∧ w.grownBy w' (some p.bM) ∧ Step F F w w' := by
  obtain ⟨m1, m2, m3⟩ := h.edgeL
  obtain ⟨w', k1, k2, k3⟩ := m1.drop KE he ty
  rw [map_out, hx] at k2
  simp at k2
  obtain ⟨q1, q2⟩ := m3 w' _ _ k2 k3
  exact ⟨w', k1, q1, k3, q2⟩
theorem efree_any (h : Gm p w F B g K) (hx : g.eb.length ≤ 100000) {k : Int} (hk : Tk g.el g.eb k) :
    Calls Tryz.prog 29 #[.pointer (some ⟨B, 6, none⟩), .int .i64 k] w fun e w' => e = .returned (.tuple #[]) ∧ ∃ F' eb', Gm p w' F' B (g.setN g.el eb') K ∧ Step F F' w w' ∧ (∀ t, Tk g.el eb' t ↔ Tk g.el g.eb t ∧ t ≠ k) ∧ eb'.length = g.eb.length + 1 := by
  obtain ⟨ev, T, cs, h1, h2, h3, h4⟩ := h.enL
  refine (mfree_any h2 h1 hx hk).mono ?_
  rintro e w' ⟨rfl, v', xs', q1, q2, q3, q4⟩
  obtain ⟨F', k1, k2⟩ := h4 w' g.el v' xs' q1 q2
  exact ⟨rfl, F', xs', k1, k2, q3, q4⟩
theorem vfree_any (h : Gm p w F B g K) (hx : g.vb.length ≤ 100000) {k : Int} (hk : Tk g.vl g.vb k) :
    Calls Tryz.prog 29 #[.pointer (some ⟨B, 4, none⟩), .int .i64 k] w fun e w' => e = .returned (.tuple #[]) ∧ ∃ F' vb', Gm p w' F' B (g.setV g.vl vb') K ∧ Step F F' w w' ∧ (∀ t, Tk g.vl vb' t ↔ Tk g.vl g.vb t ∧ t ≠ k) ∧ vb'.length = g.vb.length + 1 := by
  obtain ⟨ev, T, cs, h1, h2, h3, h4⟩ := h.vnL
  refine (mfree_any h2 h1 hx hk).mono ?_
  rintro e w' ⟨rfl, v', xs', q1, q2, q3, q4⟩
  obtain ⟨F', k1, k2⟩ := h4 w' g.vl v' xs' q1 q2
  exact ⟨rfl, F', xs', k1, k2, q3, q4⟩
set_option maxHeartbeats 800000 in
theorem delete_nil (e : Int) (w : World) : Calls Tryz.prog 11 #[.pointer none, .int .i64 e] w fun r w' => r = .returned (.int .i64 2) ∧ w' = w := by
  go_enter Tryz.func11, Tryz.ntmps11
  go_wp2
  go_ret
  exact ⟨rfl, rfl⟩
set_option maxRecDepth 100000 in
set_option maxHeartbeats 1600000 in
theorem delete_none (h : Gm p w F B g K) {e : Int} (he : B64 e) (hx : g.E e = none) : Calls Tryz.prog 11 #[.pointer (some ⟨B, 0, none⟩), .int .i64 e] w fun r w' => r = .returned (.int .i64 4) ∧ Below w.heap.size w w' := by
  obtain ⟨vv, ev, hc⟩ := h.cells
  have c2 := hc.at (j := 2) rfl
  simp only [List.getElem_toArray, List.getElem_cons_zero, List.getElem_cons_succ] at c2
  have hlk := h.edgeL.1.look_ok KE he
  simp only [hx, Option.map_none, Option.getD_none, Option.isSome_none] at hlk
  unfold eg0 at hlk
  have hbw : Below w.heap.size w (w.alloc (.cells #[.int .i64 0, .int .i64 0, .int .i64 0, .bool false] 69)) := (Below.refl _ _).alloc (Nat.le_refl _) _
  have HB := hid_mk hbw
  clear h hc hbw hx
  go_enter Tryz.func11, Tryz.ntmps11
  go_wp2
  go_ret
  exact ⟨rfl, HB.out⟩
set_option maxRecDepth 100000 in
set_option maxHeartbeats 1600000 in
theorem delete_loose (h : Gm p w F B g K) (hK : K + 4 ≤ 30000) {e : Int} (he : B64 e) (h1 : 1 ≤ e) {x : Eg} (hx : g.E e = some x) (ht : x.t = false) {i : Nat} (hi : i < g.m) (hi63 : i ≤ 63) (hl : x.l = i) (ha : B64 x.a) (hb : B64 x.b) (hab : x.a ≠ x.b) (hma : e ∈ g.s.L (x.a, (i : Int))) (hmb : e ∈ g.s.L (x.b, (i : Int))) (hva : Vp (g.P i) x.a) (hvb : Vp (g.P i) x.b)
    (hn : g.eb.length ≤ 100000) (hk : Tk g.el g.eb e) :
    Calls Tryz.prog 11 #[.pointer (some ⟨B, 0, none⟩), .int .i64 e] w fun r w' => r = .returned (.int .i64 0) ∧ ∃ F' eb', Gm p w' F' B (((takeG g e x i).setE (updQ g.E e none) (g.ne - 1)).setN g.el eb') (K + 0) ∧ Step F F' w w' ∧ (∀ t, Tk g.el eb' t ↔ Tk g.el g.eb t ∧ t ≠ e) ∧ eb'.length = g.eb.length + 1 := by
  obtain ⟨xa, xb, xl, xt⟩ := x
  simp only at ht hl ha hb hab hma hmb hva hvb
  subst ht hl
  obtain ⟨vv, ev, hc⟩ := h.cells
  have c2 := hc.at (j := 2) rfl
  simp only [List.getElem_toArray, List.getElem_cons_zero, List.getElem_cons_succ] at c2
  have hlk := h.edgeL.1.look_ok KE he
  simp only [hx, Option.map_some, Option.getD_some, Option.isSome_some] at hlk
  have hbw : Below w.heap.size w (w.alloc (.cells #[.int .i64 xa, .int .i64 xb, .int .i64 (i : Int), .bool false] 69)) := (Below.refl _ _).alloc (Nat.le_refl _) _
  have HG1 := h.below hbw
  have HS1 : Hid (Step F F w (w.alloc (.cells #[.int .i64 xa, .int .i64 xb, .int .i64 (i : Int), .bool false] 69))) := Step.of_below hbw
  have HT := hid_mk (takeLoose_any HG1 (by omega) hi hi63 (x := ⟨xa, xb, (i : Int), false⟩) rfl he h1 ha hb hab hma hmb hva hvb)
  have hck := takeG_ck g e ⟨xa, xb, (i : Int), false⟩ i
  generalize hg2 : takeG g e ⟨xa, xb, (i : Int), false⟩ i = g2 at *
  have hgE : g2.E = g.E := hck.2
  have hne : g2.ne = g.ne := hck.1.ne
  have hel : g2.el = g.el := hck.1.el
  have heb : g2.eb = g.eb := hck.1.eb
  clear hck hg2
  rw [← hgE] at hx
  rw [← heb] at hn
  rw [← hel, ← heb] at hk
  rw [← hgE, ← hne, ← hel, ← heb]
  clear hgE hne hel heb
  have HD : Hid (∀ W F1, Gm p W F1 B g2 (K + 0) → ∃ w', (Builtin.delete_ #[49, 3] 0 #[.map (some p.bM), .int .i64 e]).run Tryz.prog W = .ok (.tuple #[]) w' ∧ Gm p w' F1 B (g2.setE (updQ g2.E e none) (g2.ne - 1)) (K + 0) ∧ W.grownBy w' (some p.bM) ∧ Step F1 F1 W w') := fun W F1 k => k.dropE he hx 0
  have HF : Hid (∀ W F1, Gm p W F1 B (g2.setE (updQ g2.E e none) (g2.ne - 1)) (K + 0) → Calls Tryz.prog 29 #[.pointer (some ⟨B, 6, none⟩), .int .i64 e] W fun r w' => r = .returned (.tuple #[]) ∧ ∃ F' eb', Gm p w' F' B ((g2.setE (updQ g2.E e none) (g2.ne - 1)).setN g2.el eb') (K + 0) ∧ Step F1 F' W w' ∧ (∀ t, Tk g2.el eb' t ↔ Tk g2.el g2.eb t ∧ t ≠ e) ∧ eb'.length = g2.eb.length + 1) := fun W F1 k => efree_any k hn hk
  unfold egv at hlk HT
  clear h hc hbw HG1 hx hma hmb hva hvb hk
  go_enter Tryz.func11, Tryz.ntmps11
  go_wp2_with fail
  refine HT.out.mono ?_
  rintro r w2 ⟨rfl, F2, hG2, hS2⟩
  obtain ⟨w3, hrun, hG3, hgr, hS3⟩ := HD.out w2 F2 hG2
  obtain ⟨vv2, ev2, hc2⟩ := hG2.cells
  have d2 := hc2.at (j := 2) rfl
  simp only [List.getElem_toArray, List.getElem_cons_zero, List.getElem_cons_succ] at d2
  have HC := hid_mk (HF.out w3 F2 hG3)
  have HS3 := hid_mk ((HS1.out.trans hS2).trans hS3)
  clear hG2 hS2 hG3 hgr hS3 hc2 HD HF HT HS1 hlk c2
  go_wp2_with fail
  refine HC.out.mono ?_
  rintro r w4 ⟨rfl, F4, eb', hG4, hS4, hT4, hl4⟩
  have HF4 := hid_mk (show ∃ F' eb', Gm p w4 F' B ((g2.setE (updQ g2.E e none) (g2.ne - 1)).setN g2.el eb') (K + 0) ∧ Step F F' w w4 ∧ (∀ t, Tk g2.el eb' t ↔ Tk g2.el g2.eb t ∧ t ≠ e) ∧ eb'.length = g2.eb.length + 1 from ⟨F4, eb', hG4, HS3.out.trans hS4, hT4, hl4⟩)
  clear hG4 hS4 hT4 hl4 HC HS3
  go_wp2
  go_ret
  exact ⟨rfl, HF4.out⟩
set_option maxRecDepth 100000 in
set_option maxHeartbeats 1600000 in
theorem delete_tree {on : Int → Prop} {sv lv : Int → Int} {go0 : Eg} {gl0 : Int} {D : List Int} {C : Nat} (h : Gm p w F B g K) (hgi : Gi g on sv lv (fun _ => False) go0 gl0) (hgl : gl0 ≤ 0) (hacy : Acy g.E (fun _ => False)) (hsz : Sz g.E (fun _ => False) g.n g.m) (hbb : Bb g.E (fun _ => False)) (hD : D.Nodup) (hdd : ∀ e x, g.E e = some x → e ∈ D) (hpk : K + 3 * potL g.E g.m D ≤ C) (hC : C + 300 ≤ 30000) (hn2 : g.n < 2 ^ g.m)
    {e : Int} {x : Eg} (hx : g.E e = some x) (ht : x.t = true) {L : Nat} (hl : x.l = L) (hne : g.ne ≤ 1000000) (hn : g.eb.length ≤ 100000) (hk : Tk g.el g.eb e) :
    Calls Tryz.prog 11 #[.pointer (some ⟨B, 0, none⟩), .int .i64 e] w fun r w' => r = .returned (.int .i64 0) ∧ ∃ F' g2 K2 eb', Sf on sv lv (fun k => k = e) x L g.n D (C + (L + 1)) (cutGk g e (L + 1)) g2 K2 ∧ Gm p w' F' B (((leaveGk g2 x.a x.b L).setE (updQ g2.E e none) (g2.ne - 1)).setN g2.el eb') (K2 + 2 * L) ∧ Step F F' w w' ∧ (∀ t, Tk g2.el eb' t ↔ Tk g2.el g2.eb t ∧ t ≠ e) ∧ eb'.length = g2.eb.length + 1 := by
  obtain ⟨a1, a2, a3, a4, a5, a6⟩ := hgi.eb e x hx
  have hm := hgi.m
  have he := hgi.e64 hx
  have ha := hgi.b64 a3
  have hb := hgi.b64 a4
  have hl0 : ∀ e x, g.E e = some x → 0 ≤ x.l := fun e x h => (hgi.eb e x h).2.2.2.2.1
  have hL : L < g.m := by omega
  have g1gi := hgi.cutG hgl hx ht hL hl
  have g1rp := Rp.start hx ht a5 hl0 hacy hsz hbb
  rw [hl] at g1rp
  obtain ⟨vv, ev, hc⟩ := h.cells
  have c2 := hc.at (j := 2) rfl
  simp only [List.getElem_toArray, List.getElem_cons_zero, List.getElem_cons_succ] at c2
  have hlk := h.edgeL.1.look_ok KE he
  simp only [hx, Option.map_some, Option.getD_some, Option.isSome_some] at hlk
  have hbw : Below w.heap.size w (w.alloc (.cells #[.int .i64 x.a, .int .i64 x.b, .int .i64 x.l, .bool x.t] 69)) := (Below.refl _ _).alloc (Nat.le_refl _) _
  have HX1 : Hid (Bx (w.alloc (.cells #[.int .i64 x.a, .int .i64 x.b, .int .i64 x.l, .bool x.t] 69)) F w.heap.size 69 #[.int .i64 x.a, .int .i64 x.b, .int .i64 x.l, .bool x.t]) := ⟨Blk.new w _ _, fun k => by have := h.lt _ k; omega⟩
  have HS1 : Hid (Step F F w (w.alloc (.cells #[.int .i64 x.a, .int .i64 x.b, .int .i64 x.l, .bool x.t] 69))) := Step.of_below hbw
  have HCut := hid_mk (cut_any (h.below hbw) hL (by omega) he hl)
  have HRej : Hid (∀ W F1, Gm p W F1 B (cutGk g e (L + 1)) (K + (L + 1)) → Calls Tryz.prog 32 #[.pointer (some ⟨B, 0, none⟩), egv x] W fun r W' => r = .returned (.tuple #[]) ∧ ∃ F2 g2 K2, Gm p W' F2 B g2 K2 ∧ Step F1 F2 W W' ∧ Sf on sv lv (fun k => k = e) x L g.n D (C + (L + 1)) (cutGk g e (L + 1)) g2 K2) := fun W F1 k =>
    (rejoin_any (r := ⟨p, B, W, F1, on, sv, lv, (fun k => k = e), x, (L : Int), g.n, D, C + (L + 1), cutGk g e (L + 1)⟩) ⟨hD, by show C + (L + 1) + 100 ≤ 30000; omega, hn2, hne, ⟨a3, a4⟩, by show (L : Int) < g.m; omega⟩ k
      ⟨g1gi, g1rp, Ck.refl _, Ev.refl _, by show K + (L + 1) + 3 * potL g.E g.m D ≤ C + (L + 1); omega, hdd⟩ hl (by show (0 : Int) ≤ L; omega)).mono fun r W' ⟨h1, F2, g2, K2, h2, h3, h4⟩ => ⟨h1, F2, g2, K2, h2, h3, h4⟩
  have HLv : Hid (∀ W F2 g2 K2, Gm p W F2 B g2 K2 → Sf on sv lv (fun k => k = e) x L g.n D (C + (L + 1)) (cutGk g e (L + 1)) g2 K2 → Calls Tryz.prog 33 #[.pointer (some ⟨B, 0, none⟩), egv x] W fun r W' => r = .returned (.tuple #[]) ∧ ∃ F3, Gm p W' F3 B (leaveGk g2 x.a x.b L) (K2 + 2 * L) ∧ Step F2 F3 W W') := fun W F2 g2 K2 k s => by
    have hm2 : g2.m = g.m := s.ck.m
    have := s.pk
    exact leave_any k (by omega) (by omega) hl ha hb
  have HDel : Hid (∀ W F3 g2 K2, Gm p W F3 B (leaveGk g2 x.a x.b L) (K2 + 2 * L) → Sf on sv lv (fun k => k = e) x L g.n D (C + (L + 1)) (cutGk g e (L + 1)) g2 K2 → ∃ w', (Builtin.delete_ #[49, 3] 0 #[.map (some p.bM), .int .i64 e]).run Tryz.prog W = .ok (.tuple #[]) w' ∧ Gm p w' F3 B ((leaveGk g2 x.a x.b L).setE (updQ g2.E e none) (g2.ne - 1)) (K2 + 2 * L) ∧ Step F3 F3 W w') := fun W F3 g2 K2 k s => by
    have hex : ∃ x2, g2.E e = some x2 := by
      rcases s.ev e with ⟨q, _⟩ | ⟨x0, x2, _, q, _⟩
      · have q' : g.E e = none := q
        rw [hx] at q'; cases q'
      · exact ⟨x2, q⟩
    obtain ⟨x2, hx2⟩ := hex
    obtain ⟨w', q1, q2, q3, q4⟩ := k.dropE (x := x2) he hx2 0
    exact ⟨w', q1, q2, q4⟩
  have HFr : Hid (∀ W F4 g2 K2, Gm p W F4 B ((leaveGk g2 x.a x.b L).setE (updQ g2.E e none) (g2.ne - 1)) (K2 + 2 * L) → Sf on sv lv (fun k => k = e) x L g.n D (C + (L + 1)) (cutGk g e (L + 1)) g2 K2 → Calls Tryz.prog 29 #[.pointer (some ⟨B, 6, none⟩), .int .i64 e] W fun r w' => r = .returned (.tuple #[]) ∧ ∃ F' eb', Gm p w' F' B (((leaveGk g2 x.a x.b L).setE (updQ g2.E e none) (g2.ne - 1)).setN g2.el eb') (K2 + 2 * L) ∧ Step F4 F' W w' ∧ (∀ t, Tk g2.el eb' t ↔ Tk g2.el g2.eb t ∧ t ≠ e) ∧ eb'.length = g2.eb.length + 1) := fun W F4 g2 K2 k s => by
    have e1 : g2.el = g.el := s.ck.el
    have e2 : g2.eb = g.eb := s.ck.eb
    exact efree_any k (show g2.eb.length ≤ 100000 by rw [e2]; exact hn) (show Tk g2.el g2.eb e by rw [e1, e2]; exact hk)
  have HL := hid_mk hl
  obtain ⟨M, hM⟩ : ∃ M, M = w.heap.size := ⟨_, rfl⟩
  rw [← hM] at HX1
  have HMM := hid_mk hM.symm
  clear h hgi hacy hsz hbb hD hdd hpk hn2 hne hn hk hm he ha hb hl0 hL g1gi g1rp hc hbw a1 a2 a3 a4 a5 a6 hx hl hM
  generalize hC2 : C + (L + 1) = C2 at *
  clear hC2
  generalize cutGk g e (L + 1) = g1 at *
  obtain ⟨xa, xb, xl, xt⟩ := x
  simp only at ht
  subst ht
  unfold egv at hlk HCut HRej HLv
  simp only at hlk HCut HRej HLv HDel HFr HX1 HS1 HL
  go_enter Tryz.func11, Tryz.ntmps11
  go_wp2_with fail
  refine HCut.out.mono ?_
  rintro r w2 ⟨rfl, F1, hG2, hS2⟩
  have HX2 := hid_mk (HX1.out.step hS2)
  have HS2 := hid_mk (HS1.out.trans hS2)
  have HR2 := hid_mk (HRej.out w2 F1 hG2)
  rw [HMM.out]
  have y0 := HX2.out.blk.at (j := 0) rfl
  have y1 := HX2.out.blk.at (j := 1) rfl
  have y2 := HX2.out.blk.at (j := 2) rfl
  have y3 := HX2.out.blk.at (j := 3) rfl
  simp only [List.getElem_toArray, List.getElem_cons_zero, List.getElem_cons_succ] at y0 y1 y2 y3
  clear hG2 hS2 HCut HX1 HS1 hlk c2
  go_wp2_with fail
  refine HR2.out.mono ?_
  rintro r w3 ⟨rfl, F2, g2, K2, hG3, hS3, hSf⟩
  have HSf := hid_mk hSf
  have HX3 := hid_mk (HX2.out.step hS3)
  have HS3 := hid_mk (HS2.out.trans hS3)
  have HR3 := hid_mk (HLv.out w3 F2 g2 K2 hG3 hSf)
  clear hG3 hS3 hSf HR2 HX2 HS2 y0 y1 y2 y3 HRej HLv
  have y0 := HX3.out.blk.at (j := 0) rfl
  have y1 := HX3.out.blk.at (j := 1) rfl
  have y2 := HX3.out.blk.at (j := 2) rfl
  have y3 := HX3.out.blk.at (j := 3) rfl
  simp only [List.getElem_toArray, List.getElem_cons_zero, List.getElem_cons_succ] at y0 y1 y2 y3
  go_wp2_with fail
  refine HR3.out.mono ?_
  rintro r w4 ⟨rfl, F3, hG4, hS4⟩
  have HS4 := hid_mk (HS3.out.trans hS4)
  obtain ⟨w5, hrun, hG5, hS5⟩ := HDel.out w4 F3 g2 K2 hG4 HSf.out
  obtain ⟨vv2, ev2, hc2⟩ := hG4.cells
  have d2 := hc2.at (j := 2) rfl
  simp only [List.getElem_toArray, List.getElem_cons_zero, List.getElem_cons_succ] at d2
  have HC := hid_mk (HFr.out w5 F3 g2 K2 hG5 HSf.out)
  have HS5 := hid_mk (HS4.out.trans hS5)
  clear hG4 hS4 hG5 hS5 hc2 HDel HFr HR3 HX3 HS3 HS4 y0 y1 y2 y3
  go_wp2_with fail
  refine HC.out.mono ?_
  rintro r w6 ⟨rfl, F4, eb', hG6, hS6, hT6, hl6⟩
  have HF6 := hid_mk (show ∃ F' g2 K2 eb', Sf on sv lv (fun k => k = e) ⟨xa, xb, xl, true⟩ L g.n D C2 g1 g2 K2 ∧ Gm p w6 F' B (((leaveGk g2 xa xb L).setE (updQ g2.E e none) (g2.ne - 1)).setN g2.el eb') (K2 + 2 * L) ∧ Step F F' w w6 ∧ (∀ t, Tk g2.el eb' t ↔ Tk g2.el g2.eb t ∧ t ≠ e) ∧ eb'.length = g2.eb.length + 1 from ⟨F4, g2, K2, eb', HSf.out, hG6, HS5.out.trans hS6, hT6, hl6⟩)
  clear hG6 hS6 hT6 hl6 HC HS5 HSf HL
  go_wp2
  go_ret
  exact ⟨rfl, HF6.out⟩
end
end Go.Proofs.YtcbgeahcnjamdabGreat
