/- Layer 12's statement TileSteps (by tools/gen_tilesteps.py). -/
import Derived.Test.YtabgplniaiehpabTileLaw
import Derived.Test.YtabgplniaiehpabTileLawP
namespace Go.Proofs.Ytabgplniaiehpab.Pl
open Go.RowKit Go.Shelf
attribute [local go_sem] Oper.semAt_some
set_option linter.unusedVariables false
set_option maxRecDepth 100000 in
set_option maxHeartbeats 16000000 in
theorem steps12_walk (W H c t : Int) (w : World) : Calls Try.prog 6 #[sz W H, .int .i64 c, .int .i64 t] w fun e w' => e = .returned (.bool true) ∧ Below w.heap.size w w' := by
  have CN := hid_mk (fun X => cells_any W H X)
  have HCB := cellsN_bd W H
  obtain ⟨nc, hnc⟩ : ∃ nc, nc = cellsN W H := ⟨_, rfl⟩
  rw [← hnc] at CN HCB
  have CD := hid_mk (fun X => taway_any W H c t X)
  have hdb := taway_bd W H c t
  obtain ⟨d, hd⟩ : ∃ d, d = tawayN W H c t := ⟨_, rfl⟩
  rw [← hd] at CD hdb
  have HD := hid_mk hd
  clear hd hnc
  refine (show ∀ w0, Hid (Bq [] [] w w0) → Calls Try.prog 6 #[sz W H, .int .i64 c, .int .i64 t] w0 fun e w' => e = .returned (.bool true) ∧ Below w.heap.size w w' from fun w0 HS => ?_) w (Bq.start w)
  obtain ⟨w1, hw1⟩ : ∃ w1, w1 = w0.alloc (.cells #[.int .i64 W, .int .i64 H] 23) := ⟨_, rfl⟩
  obtain ⟨bz, hbz⟩ : ∃ bz, bz = w0.heap.size := ⟨_, rfl⟩
  have Hw1 : Hid (Bq [(bz, 23, #[.int .i64 W, .int .i64 H])] [] w w1) := by show Bq _ _ _ _; rw [hw1, hbz]; exact HS.out.alloc _ _
  obtain ⟨w2, hw2⟩ : ∃ w2, w2 = w1.alloc (.cells #[.int .i64 c] 3) := ⟨_, rfl⟩
  obtain ⟨bc, hbc⟩ : ∃ bc, bc = w1.heap.size := ⟨_, rfl⟩
  have l_bz_bc : bz < bc := by rw [hbc]; exact Hw1.out.ltAt (i := 0) rfl
  have kbc : bz + 1 = bc := by rw [hbc, hw1, hbz]; simp
  have Hw2 : Hid (Bq [(bc, 3, #[.int .i64 c]), (bz, 23, #[.int .i64 W, .int .i64 H])] [] w w2) := by show Bq _ _ _ _; rw [hw2, hbc]; exact Hw1.out.alloc _ _
  obtain ⟨w3, hw3⟩ : ∃ w3, w3 = w2.alloc (.cells #[.int .i64 t] 3) := ⟨_, rfl⟩
  obtain ⟨bt, hbt⟩ : ∃ bt, bt = w2.heap.size := ⟨_, rfl⟩
  have l_bc_bt : bc < bt := by rw [hbt]; exact Hw2.out.ltAt (i := 0) rfl
  have l_bz_bt : bz < bt := by rw [hbt]; exact Hw2.out.ltAt (i := 1) rfl
  have kbt : bc + 1 = bt := by rw [hbt, hw2, hbc]; simp
  have Hw3 : Hid (Bq [(bt, 3, #[.int .i64 t]), (bc, 3, #[.int .i64 c]), (bz, 23, #[.int .i64 W, .int .i64 H])] [] w w3) := by show Bq _ _ _ _; rw [hw3, hbt]; exact Hw2.out.alloc _ _
  obtain ⟨w4, hw4⟩ : ∃ w4, w4 = w3.alloc (.cells #[.bool false] 4) := ⟨_, rfl⟩
  obtain ⟨br, hbr⟩ : ∃ br, br = w3.heap.size := ⟨_, rfl⟩
  have l_bt_br : bt < br := by rw [hbr]; exact Hw3.out.ltAt (i := 0) rfl
  have l_bc_br : bc < br := by rw [hbr]; exact Hw3.out.ltAt (i := 1) rfl
  have l_bz_br : bz < br := by rw [hbr]; exact Hw3.out.ltAt (i := 2) rfl
  have kbr : bt + 1 = br := by rw [hbr, hw3, hbt]; simp
  have Hw4 : Hid (Bq [(br, 4, #[.bool false]), (bt, 3, #[.int .i64 t]), (bc, 3, #[.int .i64 c]), (bz, 23, #[.int .i64 W, .int .i64 H])] [] w w4) := by show Bq _ _ _ _; rw [hw4, hbr]; exact Hw3.out.alloc _ _
  refine (callsIn_wide (n := 20)).1 ?_
  refine callsIn_of_wp_marks Try.func6 rfl trivial ?_ rfl
  simp only [Try.ntmps6, List.size_toArray, List.length_cons, List.length_nil, Nat.reduceAdd, Nat.reduceSub, Array.replicate_succ, Array.replicate_zero, List.push_toArray, List.append_toArray, List.nil_append, List.cons_append]
  gi_wp2_with fail
  try simp only [← hbz, ← hw1, kbc, ← hw2, kbt, ← hw3, kbr, ← hw4]
  clear kbc kbt kbr hw1 hw2 hw3 hw4
  clear hbz hbc hbt hbr
  replace HS := Hw4
  clear Hw1 Hw2 Hw3 Hw4
  refine ⟨trivial, ?_⟩
  refine (callsIn_wide.2 (awake12_any _)).mono ?_
  rintro _ w5 ⟨rfl, hb⟩
  replace HS := hid_mk (HS.out.below hb)
  clear hb
  have x_r : Blk w5 br 4 #[.bool false] := Bq.get HS.out (i := 0) rfl
  have c_r := x_r.cell1
  have f_r := x_r.frozen 0
  have e_r := x_r.lt
  have x_t : Blk w5 bt 3 #[.int .i64 t] := Bq.get HS.out (i := 1) rfl
  have c_t := x_t.cell1
  have f_t := x_t.frozen 0
  have e_t := x_t.lt
  have x_c : Blk w5 bc 3 #[.int .i64 c] := Bq.get HS.out (i := 2) rfl
  have c_c := x_c.cell1
  have f_c := x_c.frozen 0
  have e_c := x_c.lt
  have x_z : Blk w5 bz 23 #[.int .i64 W, .int .i64 H] := Bq.get HS.out (i := 3) rfl
  obtain ⟨c_z, d_z⟩ := x_z.cells2
  have f_z := x_z.frozen 0
  have e_z := x_z.lt
  gi_wp2_with fail
  refine ⟨trivial, ?_⟩
  refine (callsIn_wide.2 (CN.out _)).mono ?_
  rintro _ w6 ⟨rfl, hb⟩
  clear x_r c_r f_r e_r x_t c_t f_t e_t x_c c_c f_c e_c x_z c_z d_z f_z e_z
  replace HS := hid_mk (HS.out.below hb)
  clear hb
  have x_r : Blk w6 br 4 #[.bool false] := Bq.get HS.out (i := 0) rfl
  have c_r := x_r.cell1
  have f_r := x_r.frozen 0
  have e_r := x_r.lt
  have x_t : Blk w6 bt 3 #[.int .i64 t] := Bq.get HS.out (i := 1) rfl
  have c_t := x_t.cell1
  have f_t := x_t.frozen 0
  have e_t := x_t.lt
  have x_c : Blk w6 bc 3 #[.int .i64 c] := Bq.get HS.out (i := 2) rfl
  have c_c := x_c.cell1
  have f_c := x_c.frozen 0
  have e_c := x_c.lt
  have x_z : Blk w6 bz 23 #[.int .i64 W, .int .i64 H] := Bq.get HS.out (i := 3) rfl
  obtain ⟨c_z, d_z⟩ := x_z.cells2
  have f_z := x_z.frozen 0
  have e_z := x_z.lt
  by_cases hn : 900 < nc
  · skip
    gi_wp2
    have HE0 : Bq [(br, 4, #[.bool true]), (bt, 3, #[.int .i64 t]), (bc, 3, #[.int .i64 c]), (bz, 23, #[.int .i64 W, .int .i64 H])] [] w (w6.setCell ⟨br, 0, none⟩ (.bool true)) := HS.out.setAt (i := 0) rfl 0 _
    have HE := hid_mk HE0
    show LeavesInM _ _ _ _ _ _ (marks []) _ _
    refine Bq.leave (by simp) HE.out fun W' hb1 hb2 => ⟨.bool true, ?_, rfl, hb2⟩
    have hc5 := (show Blk W' br 4 #[.bool true] from hb1 _ (List.mem_of_getElem? (i := 0) rfl)).cell1
    simp [results, Try.f6, go_sem, hc5]
  gi_wp2_with fail
  refine ⟨trivial, ?_⟩
  refine (callsIn_wide.2 (CD.out _)).mono ?_
  rintro _ w7 ⟨rfl, hb⟩
  clear x_r c_r f_r e_r x_t c_t f_t e_t x_c c_c f_c e_c x_z c_z d_z f_z e_z
  replace HS := hid_mk (HS.out.below hb)
  clear hb
  have x_r : Blk w7 br 4 #[.bool false] := Bq.get HS.out (i := 0) rfl
  have c_r := x_r.cell1
  have f_r := x_r.frozen 0
  have e_r := x_r.lt
  have x_t : Blk w7 bt 3 #[.int .i64 t] := Bq.get HS.out (i := 1) rfl
  have c_t := x_t.cell1
  have f_t := x_t.frozen 0
  have e_t := x_t.lt
  have x_c : Blk w7 bc 3 #[.int .i64 c] := Bq.get HS.out (i := 2) rfl
  have c_c := x_c.cell1
  have f_c := x_c.frozen 0
  have e_c := x_c.lt
  have x_z : Blk w7 bz 23 #[.int .i64 W, .int .i64 H] := Bq.get HS.out (i := 3) rfl
  obtain ⟨c_z, d_z⟩ := x_z.cells2
  have f_z := x_z.frozen 0
  have e_z := x_z.lt
  by_cases hd0 : d < 0
  · skip
    gi_wp2
    have HE0 : Bq [(br, 4, #[.bool true]), (bt, 3, #[.int .i64 t]), (bc, 3, #[.int .i64 c]), (bz, 23, #[.int .i64 W, .int .i64 H])] [] w (w7.setCell ⟨br, 0, none⟩ (.bool true)) := HS.out.setAt (i := 0) rfl 0 _
    have HE := hid_mk (HE0.below ((Below.refl _ _).alloc (Nat.le_refl _) (.cells #[.int .i64 d] 3)))
    show LeavesInM _ _ _ _ _ _ (marks []) _ _
    refine Bq.leave (by simp) HE.out fun W' hb1 hb2 => ⟨.bool true, ?_, rfl, hb2⟩
    have hc5 := (show Blk W' br 4 #[.bool true] from hb1 _ (List.mem_of_getElem? (i := 0) rfl)).cell1
    simp [results, Try.f6, go_sem, hc5]
  have HIN := hid_mk (taway_in (by rw [← HD.out]; exact hd0))
  obtain ⟨w8, hw8⟩ : ∃ w8, w8 = w7.alloc (.cells #[.int .i64 d] 3) := ⟨_, rfl⟩
  obtain ⟨bd, hbd⟩ : ∃ bd, bd = w7.heap.size := ⟨_, rfl⟩
  have l_br_bd : br < bd := by rw [hbd]; exact HS.out.ltAt (i := 0) rfl
  have l_bt_bd : bt < bd := by rw [hbd]; exact HS.out.ltAt (i := 1) rfl
  have l_bc_bd : bc < bd := by rw [hbd]; exact HS.out.ltAt (i := 2) rfl
  have l_bz_bd : bz < bd := by rw [hbd]; exact HS.out.ltAt (i := 3) rfl
  have Hw8 : Hid (Bq [(bd, 3, #[.int .i64 d]), (br, 4, #[.bool false]), (bt, 3, #[.int .i64 t]), (bc, 3, #[.int .i64 c]), (bz, 23, #[.int .i64 W, .int .i64 H])] [] w w8) := by show Bq _ _ _ _; rw [hw8, hbd]; exact HS.out.alloc _ _
  gi_wp2_with fail
  try simp only [← hbd, ← hw8]
  clear hw8
  clear hbd
  clear x_r c_r f_r e_r x_t c_t f_t e_t x_c c_c f_c e_c x_z c_z d_z f_z e_z
  replace HS := Hw8
  clear Hw8
  refine ⟨trivial, ?_⟩
  refine (callsIn_wide.2 (tnear_ab W H c _)).mono ?_
  rintro _ w9 ⟨B1, C1, rfl, hbx, hB, hC, hb⟩
  have hnf := tnearF_nil B1 C1
  replace HS := hid_mk (HS.out.below hb)
  clear hbx hB hC hb
  have x_d : Blk w9 bd 3 #[.int .i64 d] := Bq.get HS.out (i := 0) rfl
  have c_d := x_d.cell1
  have f_d := x_d.frozen 0
  have e_d := x_d.lt
  have x_r : Blk w9 br 4 #[.bool false] := Bq.get HS.out (i := 1) rfl
  have c_r := x_r.cell1
  have f_r := x_r.frozen 0
  have e_r := x_r.lt
  have x_t : Blk w9 bt 3 #[.int .i64 t] := Bq.get HS.out (i := 2) rfl
  have c_t := x_t.cell1
  have f_t := x_t.frozen 0
  have e_t := x_t.lt
  have x_c : Blk w9 bc 3 #[.int .i64 c] := Bq.get HS.out (i := 3) rfl
  have c_c := x_c.cell1
  have f_c := x_c.frozen 0
  have e_c := x_c.lt
  have x_z : Blk w9 bz 23 #[.int .i64 W, .int .i64 H] := Bq.get HS.out (i := 4) rfl
  obtain ⟨c_z, d_z⟩ := x_z.cells2
  have f_z := x_z.frozen 0
  have e_z := x_z.lt
  gi_wp2_with fail
  refine ⟨trivial, ?_⟩
  refine (callsIn_wide.2 (tnear_ab W H c _)).mono ?_
  rintro _ w10 ⟨B2, C2, rfl, hbx, hB, hC, hb⟩
  clear x_d c_d f_d e_d x_r c_r f_r e_r x_t c_t f_t e_t x_c c_c f_c e_c x_z c_z d_z f_z e_z
  replace HS := hid_mk (HS.out.take2 hb hbx.1 hB hbx.2 hC (bx2_ne hbx))
  clear hbx hB hC hb
  have x_d : Blk w10 bd 3 #[.int .i64 d] := Bq.get HS.out (i := 2) rfl
  have c_d := x_d.cell1
  have f_d := x_d.frozen 0
  have e_d := x_d.lt
  have x_r : Blk w10 br 4 #[.bool false] := Bq.get HS.out (i := 3) rfl
  have c_r := x_r.cell1
  have f_r := x_r.frozen 0
  have e_r := x_r.lt
  have x_t : Blk w10 bt 3 #[.int .i64 t] := Bq.get HS.out (i := 4) rfl
  have c_t := x_t.cell1
  have f_t := x_t.frozen 0
  have e_t := x_t.lt
  have x_c : Blk w10 bc 3 #[.int .i64 c] := Bq.get HS.out (i := 5) rfl
  have c_c := x_c.cell1
  have f_c := x_c.frozen 0
  have e_c := x_c.lt
  have x_z : Blk w10 bz 23 #[.int .i64 W, .int .i64 H] := Bq.get HS.out (i := 6) rfl
  obtain ⟨c_z, d_z⟩ := x_z.cells2
  have f_z := x_z.frozen 0
  have e_z := x_z.lt
  clear hnf
  gi_wp2_with fail
  refine range_ownZ rfl (by omega) (gf := 36) (lb := #[.pointer (some ⟨B2, 0, none⟩), .pointer (some ⟨C2, 0, none⟩)]) rfl trivial (enters_of Try.func36 (by kernel_rfl) rfl) (tnear1_z _ (by omega) _ _ W H c _ ⟨Bq.get HS.out (i := 1) rfl, Bq.get HS.out (i := 0) rfl⟩) (Below.refl _ _) (fun _ => rfl)
    (fun Z pre A => w10.heap.size ≤ A.heap.size ∧ Bq [(C2, 3, #[.int .i64 c]), (B2, 23, #[.int .i64 W, .int .i64 H]), (bd, 3, #[.int .i64 d]), (br, 4, #[.bool false]), (bt, 3, #[.int .i64 t]), (bc, 3, #[.int .i64 c]), (bz, 23, #[.int .i64 W, .int .i64 H])] [] w A) (fun Z cc pre A => False)
    (fun Z => Bq.owns (fun _ => rfl) HS.out.nlt HS.out.mlt HS.out.bl.size)
    (fun Z cc => fun s A A' row hs hg hr => hs.elim)
    (fun Z => ⟨Nat.le_refl _, HS.out⟩) (fun _ _ _ hs => ⟨Bq.get hs.2 (i := 1) rfl, Bq.get hs.2 (i := 0) rfl⟩) ?a11 ?assign1 ?body1 ?done1 ?stop1
  case assign1 =>
    intro lq x A Kk hK
    gi_wp2
    exact hK
  case body1 =>
    rintro lq Z pre x A hZ0 hZ1 ⟨hA0, hQ⟩ ⟨hpl, hpx⟩
    have HQ := hid_mk hQ
    clear hQ
    have m_d := e_d
    have m_r := e_r
    have m_t := e_t
    have m_c := e_c
    have m_z := e_z
    clear x_d c_d f_d e_d x_r c_r f_r e_r x_t c_t f_t e_t x_c c_c f_c e_c x_z c_z d_z f_z e_z
    have HBK : Hid (BK w10.heap.size Z A A) := BK.refl _ _ _
    have hZc : Z ≤ A.heap.size := hZ1
    have hAc : w10.heap.size ≤ A.heap.size := hA0
    have x_d : Blk A bd 3 #[.int .i64 d] := Bq.get HQ.out (i := 2) rfl
    have c_d := x_d.cell1
    have f_d := x_d.frozen 0
    have e_d := x_d.lt
    have x_r : Blk A br 4 #[.bool false] := Bq.get HQ.out (i := 3) rfl
    have c_r := x_r.cell1
    have f_r := x_r.frozen 0
    have e_r := x_r.lt
    have x_t : Blk A bt 3 #[.int .i64 t] := Bq.get HQ.out (i := 4) rfl
    have c_t := x_t.cell1
    have f_t := x_t.frozen 0
    have e_t := x_t.lt
    have x_c : Blk A bc 3 #[.int .i64 c] := Bq.get HQ.out (i := 5) rfl
    have c_c := x_c.cell1
    have f_c := x_c.frozen 0
    have e_c := x_c.lt
    have x_z : Blk A bz 23 #[.int .i64 W, .int .i64 H] := Bq.get HQ.out (i := 6) rfl
    obtain ⟨c_z, d_z⟩ := x_z.cells2
    have f_z := x_z.frozen 0
    have e_z := x_z.lt
    have hst := taway_step HIN.out.1 HIN.out.2 (show x ∈ nearL W H c from hpx.subset (by simp))
    rw [← HD.out] at hst
    have CX := hid_mk (fun X => taway_any W H x t X)
    generalize tawayN W H x t = e at *
    gi_wp2_with fail
    refine ⟨trivial, ?_⟩
    refine (CallsIn.inRound lq (callsIn_wide.2 (CX.out _))).mono ?_
    rintro _ w11 ⟨rfl, hb⟩
    clear x_d c_d f_d e_d x_r c_r f_r e_r x_t c_t f_t e_t x_c c_c f_c e_c x_z c_z d_z f_z e_z
    replace HBK := hid_mk (HBK.out.trans (BK.of_below hb hZc))
    replace hZc := Nat.le_trans hZc hb.size
    replace hAc := Nat.le_trans hAc hb.size
    replace HQ := hid_mk (HQ.out.below hb)
    clear hb
    have x_d : Blk w11 bd 3 #[.int .i64 d] := Bq.get HQ.out (i := 2) rfl
    have c_d := x_d.cell1
    have f_d := x_d.frozen 0
    have e_d := x_d.lt
    have x_r : Blk w11 br 4 #[.bool false] := Bq.get HQ.out (i := 3) rfl
    have c_r := x_r.cell1
    have f_r := x_r.frozen 0
    have e_r := x_r.lt
    have x_t : Blk w11 bt 3 #[.int .i64 t] := Bq.get HQ.out (i := 4) rfl
    have c_t := x_t.cell1
    have f_t := x_t.frozen 0
    have e_t := x_t.lt
    have x_c : Blk w11 bc 3 #[.int .i64 c] := Bq.get HQ.out (i := 5) rfl
    have c_c := x_c.cell1
    have f_c := x_c.frozen 0
    have e_c := x_c.lt
    have x_z : Blk w11 bz 23 #[.int .i64 W, .int .i64 H] := Bq.get HQ.out (i := 6) rfl
    obtain ⟨c_z, d_z⟩ := x_z.cells2
    have f_z := x_z.frozen 0
    have e_z := x_z.lt
    obtain ⟨q1, q2, q3⟩ := hst
    have p1 : ¬ e < d - 1 := by omega
    have p2 : ¬ d + 1 < e := by omega
    have p3 : ¬ e < 0 := by omega
    gi_wp2
    exact ⟨HBK.out, hAc, HQ.out⟩
  case stop1 =>
    intro D Z cc pre A hD hpre hs
    exact hs.elim
  case done1 =>
    rintro D1 Z ys A12 hD hys ⟨hA0, hQ⟩ hK
    obtain rfl := show ys = _ from hys
    replace HS := hid_mk (hQ.mark hK hD HS.out.mlt HS.out.bl.size)
    clear x_d c_d f_d e_d x_r c_r f_r e_r x_t c_t f_t e_t x_c c_c f_c e_c x_z c_z d_z f_z e_z
    clear hQ hK hD hA0 hys
    have x_d : Blk A12 bd 3 #[.int .i64 d] := Bq.get HS.out (i := 2) rfl
    have c_d := x_d.cell1
    have f_d := x_d.frozen 0
    have e_d := x_d.lt
    have x_r : Blk A12 br 4 #[.bool false] := Bq.get HS.out (i := 3) rfl
    have c_r := x_r.cell1
    have f_r := x_r.frozen 0
    have e_r := x_r.lt
    have x_t : Blk A12 bt 3 #[.int .i64 t] := Bq.get HS.out (i := 4) rfl
    have c_t := x_t.cell1
    have f_t := x_t.frozen 0
    have e_t := x_t.lt
    have x_c : Blk A12 bc 3 #[.int .i64 c] := Bq.get HS.out (i := 5) rfl
    have c_c := x_c.cell1
    have f_c := x_c.frozen 0
    have e_c := x_c.lt
    have x_z : Blk A12 bz 23 #[.int .i64 W, .int .i64 H] := Bq.get HS.out (i := 6) rfl
    obtain ⟨c_z, d_z⟩ := x_z.cells2
    have f_z := x_z.frozen 0
    have e_z := x_z.lt
    obtain ⟨w13, hw13⟩ : ∃ w13, w13 = A12.alloc (.cells #[.bool false] 4) := ⟨_, rfl⟩
    obtain ⟨bm, hbm⟩ : ∃ bm, bm = A12.heap.size := ⟨_, rfl⟩
    have l_C2_bm : C2 < bm := by rw [hbm]; exact HS.out.ltAt (i := 0) rfl
    have l_B2_bm : B2 < bm := by rw [hbm]; exact HS.out.ltAt (i := 1) rfl
    have l_bd_bm : bd < bm := by rw [hbm]; exact HS.out.ltAt (i := 2) rfl
    have l_br_bm : br < bm := by rw [hbm]; exact HS.out.ltAt (i := 3) rfl
    have l_bt_bm : bt < bm := by rw [hbm]; exact HS.out.ltAt (i := 4) rfl
    have l_bc_bm : bc < bm := by rw [hbm]; exact HS.out.ltAt (i := 5) rfl
    have l_bz_bm : bz < bm := by rw [hbm]; exact HS.out.ltAt (i := 6) rfl
    have Hw13 : Hid (Bq [(bm, 4, #[.bool false]), (C2, 3, #[.int .i64 c]), (B2, 23, #[.int .i64 W, .int .i64 H]), (bd, 3, #[.int .i64 d]), (br, 4, #[.bool false]), (bt, 3, #[.int .i64 t]), (bc, 3, #[.int .i64 c]), (bz, 23, #[.int .i64 W, .int .i64 H])] [D1] w w13) := by show Bq _ _ _ _; rw [hw13, hbm]; exact HS.out.alloc _ _
    gi_wp2_with fail
    try simp only [← hbm, ← hw13]
    clear hw13
    clear hbm
    clear x_d c_d f_d e_d x_r c_r f_r e_r x_t c_t f_t e_t x_c c_c f_c e_c x_z c_z d_z f_z e_z
    replace HS := Hw13
    clear Hw13
    refine ⟨trivial, ?_⟩
    refine (callsIn_wide.2 (cells_ab W H t _)).mono ?_
    rintro _ w14 ⟨B3, C3, rfl, hbx, hB, hC, hb⟩
    have hnf := cellsF_nil B3 C3
    replace HS := hid_mk (HS.out.below hb)
    clear hbx hB hC hb
    have x_m : Blk w14 bm 4 #[.bool false] := Bq.get HS.out (i := 0) rfl
    have c_m := x_m.cell1
    have f_m := x_m.frozen 0
    have e_m := x_m.lt
    have x_d : Blk w14 bd 3 #[.int .i64 d] := Bq.get HS.out (i := 3) rfl
    have c_d := x_d.cell1
    have f_d := x_d.frozen 0
    have e_d := x_d.lt
    have x_r : Blk w14 br 4 #[.bool false] := Bq.get HS.out (i := 4) rfl
    have c_r := x_r.cell1
    have f_r := x_r.frozen 0
    have e_r := x_r.lt
    have x_t : Blk w14 bt 3 #[.int .i64 t] := Bq.get HS.out (i := 5) rfl
    have c_t := x_t.cell1
    have f_t := x_t.frozen 0
    have e_t := x_t.lt
    have x_c : Blk w14 bc 3 #[.int .i64 c] := Bq.get HS.out (i := 6) rfl
    have c_c := x_c.cell1
    have f_c := x_c.frozen 0
    have e_c := x_c.lt
    have x_z : Blk w14 bz 23 #[.int .i64 W, .int .i64 H] := Bq.get HS.out (i := 7) rfl
    obtain ⟨c_z, d_z⟩ := x_z.cells2
    have f_z := x_z.frozen 0
    have e_z := x_z.lt
    gi_wp2_with fail
    refine ⟨trivial, ?_⟩
    refine (callsIn_wide.2 (cells_ab W H t _)).mono ?_
    rintro _ w15 ⟨B4, C4, rfl, hbx, hB, hC, hb⟩
    clear x_m c_m f_m e_m x_d c_d f_d e_d x_r c_r f_r e_r x_t c_t f_t e_t x_c c_c f_c e_c x_z c_z d_z f_z e_z
    replace HS := hid_mk (HS.out.take2 hb hbx.1 hB hbx.2 hC (bx2_ne hbx))
    clear hbx hB hC hb
    have x_m : Blk w15 bm 4 #[.bool false] := Bq.get HS.out (i := 2) rfl
    have c_m := x_m.cell1
    have f_m := x_m.frozen 0
    have e_m := x_m.lt
    have x_d : Blk w15 bd 3 #[.int .i64 d] := Bq.get HS.out (i := 5) rfl
    have c_d := x_d.cell1
    have f_d := x_d.frozen 0
    have e_d := x_d.lt
    have x_r : Blk w15 br 4 #[.bool false] := Bq.get HS.out (i := 6) rfl
    have c_r := x_r.cell1
    have f_r := x_r.frozen 0
    have e_r := x_r.lt
    have x_t : Blk w15 bt 3 #[.int .i64 t] := Bq.get HS.out (i := 7) rfl
    have c_t := x_t.cell1
    have f_t := x_t.frozen 0
    have e_t := x_t.lt
    have x_c : Blk w15 bc 3 #[.int .i64 c] := Bq.get HS.out (i := 8) rfl
    have c_c := x_c.cell1
    have f_c := x_c.frozen 0
    have e_c := x_c.lt
    have x_z : Blk w15 bz 23 #[.int .i64 W, .int .i64 H] := Bq.get HS.out (i := 9) rfl
    obtain ⟨c_z, d_z⟩ := x_z.cells2
    have f_z := x_z.frozen 0
    have e_z := x_z.lt
    clear hnf
    gi_wp2_with fail
    refine range_ownZ rfl (by omega) (gf := 31) (lb := #[.pointer (some ⟨B4, 0, none⟩), .pointer (some ⟨C4, 0, none⟩)]) rfl trivial (enters_of Try.func31 (by kernel_rfl) rfl) (cells1_z _ (by omega) _ _ W H t _ ⟨Bq.get HS.out (i := 1) rfl, Bq.get HS.out (i := 0) rfl⟩) (Below.refl _ _) (fun _ => rfl)
      (fun Z pre A => w15.heap.size ≤ A.heap.size ∧ Bq [(C4, 3, #[.int .i64 t]), (B4, 23, #[.int .i64 W, .int .i64 H]), (bm, 4, #[.bool (metB W H c d pre)]), (C2, 3, #[.int .i64 c]), (B2, 23, #[.int .i64 W, .int .i64 H]), (bd, 3, #[.int .i64 d]), (br, 4, #[.bool false]), (bt, 3, #[.int .i64 t]), (bc, 3, #[.int .i64 c]), (bz, 23, #[.int .i64 W, .int .i64 H])] [D1] w A) (fun Z cc pre A => False)
      (fun Z => Bq.owns (fun _ => rfl) HS.out.nlt HS.out.mlt HS.out.bl.size)
      (fun Z cc => fun s A A' row hs hg hr => hs.elim)
      (fun Z => ⟨Nat.le_refl _, HS.out⟩) (fun _ _ _ hs => ⟨Bq.get hs.2 (i := 1) rfl, Bq.get hs.2 (i := 0) rfl⟩) ?a12 ?assign2 ?body2 ?done2 ?stop2
    case assign2 =>
      intro lq x A Kk hK
      gi_wp2
      exact hK
    case body2 =>
      rintro lq Z pre x A hZ0 hZ1 ⟨hA0, hQ⟩ ⟨hpl, hpx⟩
      have HQ := hid_mk hQ
      clear hQ
      have m_m := e_m
      have m_d := e_d
      have m_r := e_r
      have m_t := e_t
      have m_c := e_c
      have m_z := e_z
      clear x_m c_m f_m e_m x_d c_d f_d e_d x_r c_r f_r e_r x_t c_t f_t e_t x_c c_c f_c e_c x_z c_z d_z f_z e_z
      have HBK : Hid (BK w15.heap.size Z A A) := BK.refl _ _ _
      have hZc : Z ≤ A.heap.size := hZ1
      have hAc : w15.heap.size ≤ A.heap.size := hA0
      have x_m : Blk A bm 4 #[.bool (metB W H c d pre)] := Bq.get HQ.out (i := 2) rfl
      have c_m := x_m.cell1
      have f_m := x_m.frozen 0
      have e_m := x_m.lt
      have x_d : Blk A bd 3 #[.int .i64 d] := Bq.get HQ.out (i := 5) rfl
      have c_d := x_d.cell1
      have f_d := x_d.frozen 0
      have e_d := x_d.lt
      have x_r : Blk A br 4 #[.bool false] := Bq.get HQ.out (i := 6) rfl
      have c_r := x_r.cell1
      have f_r := x_r.frozen 0
      have e_r := x_r.lt
      have x_t : Blk A bt 3 #[.int .i64 t] := Bq.get HQ.out (i := 7) rfl
      have c_t := x_t.cell1
      have f_t := x_t.frozen 0
      have e_t := x_t.lt
      have x_c : Blk A bc 3 #[.int .i64 c] := Bq.get HQ.out (i := 8) rfl
      have c_c := x_c.cell1
      have f_c := x_c.frozen 0
      have e_c := x_c.lt
      have x_z : Blk A bz 23 #[.int .i64 W, .int .i64 H] := Bq.get HQ.out (i := 9) rfl
      obtain ⟨c_z, d_z⟩ := x_z.cells2
      have f_z := x_z.frozen 0
      have e_z := x_z.lt
      have hle := taway_le (show x ∈ cellsL W H t from hpx.subset (by simp)) HIN.out.1
      rw [← HD.out] at hle
      have CX := hid_mk (fun X => away_any W H c x X)
      have hsn := hid_mk (metB_snoc W H c d pre x)
      generalize metB W H c d pre = mb at *
      generalize awayN W H c x = e at *
      have p1 : ¬ e < d := by omega
      clear hpx
      gi_wp2_with fail
      refine ⟨trivial, ?_⟩
      refine (CallsIn.inRound lq (callsIn_wide.2 (CX.out _))).mono ?_
      rintro _ w16 ⟨rfl, hb⟩
      clear x_m c_m f_m e_m x_d c_d f_d e_d x_r c_r f_r e_r x_t c_t f_t e_t x_c c_c f_c e_c x_z c_z d_z f_z e_z
      replace HBK := hid_mk (HBK.out.trans (BK.of_below hb hZc))
      replace hZc := Nat.le_trans hZc hb.size
      replace hAc := Nat.le_trans hAc hb.size
      replace HQ := hid_mk (HQ.out.below hb)
      clear hb
      have x_m : Blk w16 bm 4 #[.bool (mb)] := Bq.get HQ.out (i := 2) rfl
      have c_m := x_m.cell1
      have f_m := x_m.frozen 0
      have e_m := x_m.lt
      have x_d : Blk w16 bd 3 #[.int .i64 d] := Bq.get HQ.out (i := 5) rfl
      have c_d := x_d.cell1
      have f_d := x_d.frozen 0
      have e_d := x_d.lt
      have x_r : Blk w16 br 4 #[.bool false] := Bq.get HQ.out (i := 6) rfl
      have c_r := x_r.cell1
      have f_r := x_r.frozen 0
      have e_r := x_r.lt
      have x_t : Blk w16 bt 3 #[.int .i64 t] := Bq.get HQ.out (i := 7) rfl
      have c_t := x_t.cell1
      have f_t := x_t.frozen 0
      have e_t := x_t.lt
      have x_c : Blk w16 bc 3 #[.int .i64 c] := Bq.get HQ.out (i := 8) rfl
      have c_c := x_c.cell1
      have f_c := x_c.frozen 0
      have e_c := x_c.lt
      have x_z : Blk w16 bz 23 #[.int .i64 W, .int .i64 H] := Bq.get HQ.out (i := 9) rfl
      obtain ⟨c_z, d_z⟩ := x_z.cells2
      have f_z := x_z.frozen 0
      have e_z := x_z.lt
      cases mb
      · gi_wp2
        refine ⟨(HBK.out).trans (bk_set _ m_m), ?_, ?_⟩
        · rw [size_set]; exact hAc
        · rw [hsn.out]; exact (HQ.out).setAt (i := 2) rfl 0 _
      · gi_wp2
        refine ⟨(HBK.out).trans (bk_set _ m_m), ?_, ?_⟩
        · rw [size_set]; exact hAc
        · rw [hsn.out]; exact (HQ.out).setAt (i := 2) rfl 0 _
    case stop2 =>
      intro D Z cc pre A hD hpre hs
      exact hs.elim
    case done2 =>
      rintro D2 Z ys A17 hD hys ⟨hA0, hQ⟩ hK
      obtain rfl := show ys = _ from hys
      rw [show metB W H c d (cellsL W H t) = true from by rw [HD.out]; exact metB_all HIN.out.1 HIN.out.2] at hQ
      replace HS := hid_mk (hQ.mark hK hD HS.out.mlt HS.out.bl.size)
      clear x_m c_m f_m e_m x_d c_d f_d e_d x_r c_r f_r e_r x_t c_t f_t e_t x_c c_c f_c e_c x_z c_z d_z f_z e_z
      clear hQ hK hD hA0 hys
      replace HS : Hid (Bq [(C4, 3, #[.int .i64 t]), (B4, 23, #[.int .i64 W, .int .i64 H]), (bm, 4, #[.bool true]), (C2, 3, #[.int .i64 c]), (B2, 23, #[.int .i64 W, .int .i64 H]), (bd, 3, #[.int .i64 d]), (br, 4, #[.bool false]), (bt, 3, #[.int .i64 t]), (bc, 3, #[.int .i64 c]), (bz, 23, #[.int .i64 W, .int .i64 H])] [D2, D1] w A17) := HS
      have x_m : Blk A17 bm 4 #[.bool true] := Bq.get HS.out (i := 2) rfl
      have c_m := x_m.cell1
      have f_m := x_m.frozen 0
      have e_m := x_m.lt
      have x_d : Blk A17 bd 3 #[.int .i64 d] := Bq.get HS.out (i := 5) rfl
      have c_d := x_d.cell1
      have f_d := x_d.frozen 0
      have e_d := x_d.lt
      have x_r : Blk A17 br 4 #[.bool false] := Bq.get HS.out (i := 6) rfl
      have c_r := x_r.cell1
      have f_r := x_r.frozen 0
      have e_r := x_r.lt
      have x_t : Blk A17 bt 3 #[.int .i64 t] := Bq.get HS.out (i := 7) rfl
      have c_t := x_t.cell1
      have f_t := x_t.frozen 0
      have e_t := x_t.lt
      have x_c : Blk A17 bc 3 #[.int .i64 c] := Bq.get HS.out (i := 8) rfl
      have c_c := x_c.cell1
      have f_c := x_c.frozen 0
      have e_c := x_c.lt
      have x_z : Blk A17 bz 23 #[.int .i64 W, .int .i64 H] := Bq.get HS.out (i := 9) rfl
      obtain ⟨c_z, d_z⟩ := x_z.cells2
      have f_z := x_z.frozen 0
      have e_z := x_z.lt
      gi_wp2
      have HE0 : Bq [(C4, 3, #[.int .i64 t]), (B4, 23, #[.int .i64 W, .int .i64 H]), (bm, 4, #[.bool true]), (C2, 3, #[.int .i64 c]), (B2, 23, #[.int .i64 W, .int .i64 H]), (bd, 3, #[.int .i64 d]), (br, 4, #[.bool true]), (bt, 3, #[.int .i64 t]), (bc, 3, #[.int .i64 c]), (bz, 23, #[.int .i64 W, .int .i64 H])] [D2, D1] w (A17.setCell ⟨br, 0, none⟩ (.bool true)) := HS.out.setAt (i := 6) rfl 0 _
      have HE := hid_mk HE0
      show LeavesInM _ _ _ _ _ _ (marks [D2, D1]) _ _
      refine Bq.leave (by simp) HE.out fun W' hb1 hb2 => ⟨.bool true, ?_, rfl, hb2⟩
      have hc5 := (show Blk W' br 4 #[.bool true] from hb1 _ (List.mem_of_getElem? (i := 6) rfl)).cell1
      simp [results, Try.f6, go_sem, hc5]
end Go.Proofs.Ytabgplniaiehpab.Pl
