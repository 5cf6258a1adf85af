/- Layer 12's statement TileTells (by tools/gen_tiletells.py). -/
import Derived.Test.YtabgplniaiehpabTileLaw
import Derived.Test.YtabgplniaiehpabTileBes
import Derived.Test.YtabgplniaiehpabTileRefC
import Derived.Test.YtabgplniaiehpabTileTellsP
import Derived.BigQuiet
namespace Go.Proofs.Ytabgplniaiehpab.Pl
open Go.RowKit Go.Shelf
attribute [local go_sem] Oper.semAt_some
set_option linter.unusedVariables false
set_option maxRecDepth 100000 in
set_option maxHeartbeats 64000000 in
theorem tells12_walk (W H c t : Int) (w : World) : Calls Try.prog 3 #[sz W H, .int .i64 c, .int .i64 t] w fun e w' => e = .returned (.bool true) ∧ Below w.heap.size w w' := by
  have CN := hid_mk (fun X => rcells_any W H X)
  have CT := hid_mk (fun X => count_any W H X)
  have CRT := hid_mk (fun X => rcount_any W H X)
  have CO := hid_mk (fun X => tof_any W H c X)
  have CRO := hid_mk (fun X => rof_any W H c X)
  have CD := hid_mk (fun X => taway_any W H c t X)
  have CRD := hid_mk (fun X => rtaway_any W H c t X)
  have CL := hid_mk (fun X => rtcells_any W H t X)
  have CX := hid_mk (fun X => box_any W H t X)
  have CB := hid_mk (fun b X => rtbeside_any W H t b X)
  have HTB := cellsN_bd (tW W H) (tH W H)
  rw [show cellsN (tW W H) (tH W H) = countN W H from rfl] at HTB
  have HCB := cellsN_bd W H
  have hdb := taway_bd W H c t
  have hoo : (inB W H c = true → 0 ≤ ofN W H c ∧ rofN W H c = ofN W H c) ∧ (inB W H c = false → ofN W H c = 0 ∧ rofN W H c = -1) := ⟨fun h => ⟨(tileB_iff.1 (of_bd h).1).1, by unfold rofN; rw [if_pos h]⟩, fun h => ⟨by unfold ofN; rw [if_neg (by rw [h]; simp)], by unfold rofN; rw [if_neg (by rw [h]; simp)]⟩⟩
  have HLT := hid_mk (fun x (ht : tileB W H t = true) (h : x ∈ tbesL W H t) => tbes_lt ht h)
  generalize cellsN W H = nc at CN HCB
  generalize countN W H = m at *
  generalize tawayN W H c t = d at *
  generalize rofN W H c = ro at *
  generalize ofN W H c = own at CO hoo
  generalize inB W H c = ok at CO hoo
  refine (show ∀ w0, Hid (Bq [] [] w w0) → Calls Try.prog 3 #[sz W H, .int .i64 c, .int .i64 t] w0 fun e w' => e = .returned (.bool true) ∧ Below w.heap.size w w' from fun w0 HS => ?_) w (Bq.start w)
  obtain ⟨w1, hw1⟩ : ∃ w1, w1 = w0.alloc (.cells #[.int .i64 W, .int .i64 H] 23) := ⟨_, rfl⟩
  obtain ⟨bz, hbz⟩ : ∃ bz, bz = w0.heap.size := ⟨_, rfl⟩
  have Hw1 : Hid (Bq [(bz, 23, #[.int .i64 W, .int .i64 H])] [] w w1) := by show Bq _ _ _ _; rw [hw1, hbz]; exact HS.out.alloc _ _
  obtain ⟨w2, hw2⟩ : ∃ w2, w2 = w1.alloc (.cells #[.int .i64 t] 3) := ⟨_, rfl⟩
  obtain ⟨bt, hbt⟩ : ∃ bt, bt = w1.heap.size := ⟨_, rfl⟩
  have l_bz_bt : bz < bt := by rw [hbt]; exact Hw1.out.ltAt (i := 0) rfl
  have kbt : bz + 1 = bt := by rw [hbt, hw1, hbz]; simp
  have Hw2 : Hid (Bq [(bt, 3, #[.int .i64 t]), (bz, 23, #[.int .i64 W, .int .i64 H])] [] w w2) := by show Bq _ _ _ _; rw [hw2, hbt]; exact Hw1.out.alloc _ _
  obtain ⟨w3, hw3⟩ : ∃ w3, w3 = w2.alloc (.cells #[.bool false] 4) := ⟨_, rfl⟩
  obtain ⟨br, hbr⟩ : ∃ br, br = w2.heap.size := ⟨_, rfl⟩
  have l_bt_br : bt < br := by rw [hbr]; exact Hw2.out.ltAt (i := 0) rfl
  have l_bz_br : bz < br := by rw [hbr]; exact Hw2.out.ltAt (i := 1) rfl
  have kbr : bt + 1 = br := by rw [hbr, hw2, hbt]; simp
  have Hw3 : Hid (Bq [(br, 4, #[.bool false]), (bt, 3, #[.int .i64 t]), (bz, 23, #[.int .i64 W, .int .i64 H])] [] w w3) := by show Bq _ _ _ _; rw [hw3, hbr]; exact Hw2.out.alloc _ _
  refine (callsIn_wide (n := 20)).1 ?_
  refine callsIn_of_wp_marks Try.func3 rfl trivial ?_ rfl
  simp only [Try.ntmps3, List.size_toArray, List.length_cons, List.length_nil, Nat.reduceAdd, Nat.reduceSub, Array.replicate_succ, Array.replicate_zero, List.push_toArray, List.append_toArray, List.nil_append, List.cons_append]
  gi_wp2_with fail
  try simp only [← hbz, ← hw1, kbt, ← hw2, kbr, ← hw3]
  clear kbt kbr hw1 hw2 hw3
  clear hbz hbt hbr
  replace HS := Hw3
  clear Hw1 Hw2 Hw3
  refine ⟨trivial, ?_⟩
  refine (callsIn_wide.2 (awake12_any _)).mono ?_
  rintro _ w4 ⟨rfl, hb⟩
  replace HS := hid_mk (HS.out.below hb)
  clear hb
  have x_r : Blk w4 br 4 #[.bool false] := Bq.get HS.out (i := 0) rfl
  have c_r := x_r.cell1
  have f_r := x_r.frozen 0
  have e_r := x_r.lt
  have x_t : Blk w4 bt 3 #[.int .i64 t] := Bq.get HS.out (i := 1) rfl
  have c_t := x_t.cell1
  have f_t := x_t.frozen 0
  have e_t := x_t.lt
  have x_z : Blk w4 bz 23 #[.int .i64 W, .int .i64 H] := Bq.get HS.out (i := 2) rfl
  obtain ⟨c_z, d_z⟩ := x_z.cells2
  have f_z := x_z.frozen 0
  have e_z := x_z.lt
  gi_wp2_with fail
  refine ⟨trivial, ?_⟩
  refine (callsIn_wide.2 (CN.out _)).mono ?_
  rintro _ w5 ⟨rfl, hb⟩
  clear x_r c_r f_r e_r x_t c_t f_t e_t x_z c_z d_z f_z e_z
  replace HS := hid_mk (HS.out.below hb)
  clear hb
  have x_r : Blk w5 br 4 #[.bool false] := Bq.get HS.out (i := 0) rfl
  have c_r := x_r.cell1
  have f_r := x_r.frozen 0
  have e_r := x_r.lt
  have x_t : Blk w5 bt 3 #[.int .i64 t] := Bq.get HS.out (i := 1) rfl
  have c_t := x_t.cell1
  have f_t := x_t.frozen 0
  have e_t := x_t.lt
  have x_z : Blk w5 bz 23 #[.int .i64 W, .int .i64 H] := Bq.get HS.out (i := 2) rfl
  obtain ⟨c_z, d_z⟩ := x_z.cells2
  have f_z := x_z.frozen 0
  have e_z := x_z.lt
  by_cases hn : 1600 < nc
  · skip
    gi_wp2
    have HE0 : Bq [(br, 4, #[.bool true]), (bt, 3, #[.int .i64 t]), (bz, 23, #[.int .i64 W, .int .i64 H])] [] w (w5.setCell ⟨br, 0, none⟩ (.bool true)) := HS.out.setAt (i := 0) rfl 0 _
    have HE := hid_mk HE0
    show LeavesInM _ _ _ _ _ _ (marks []) _ _
    refine Bq.leave (by simp) HE.out fun W' hb1 hb2 => ⟨.bool true, ?_, rfl, hb2⟩
    have hc5 := (show Blk W' br 4 #[.bool true] from hb1 _ (List.mem_of_getElem? (i := 0) rfl)).cell1
    simp [results, Try.f3, go_sem, hc5]
  gi_wp2_with fail
  refine ⟨trivial, ?_⟩
  refine (callsIn_wide.2 (CRT.out _)).mono ?_
  rintro _ w6 ⟨rfl, hb⟩
  clear x_r c_r f_r e_r x_t c_t f_t e_t x_z c_z d_z f_z e_z
  replace HS := hid_mk (HS.out.below hb)
  clear hb
  have x_r : Blk w6 br 4 #[.bool false] := Bq.get HS.out (i := 0) rfl
  have c_r := x_r.cell1
  have f_r := x_r.frozen 0
  have e_r := x_r.lt
  have x_t : Blk w6 bt 3 #[.int .i64 t] := Bq.get HS.out (i := 1) rfl
  have c_t := x_t.cell1
  have f_t := x_t.frozen 0
  have e_t := x_t.lt
  have x_z : Blk w6 bz 23 #[.int .i64 W, .int .i64 H] := Bq.get HS.out (i := 2) rfl
  obtain ⟨c_z, d_z⟩ := x_z.cells2
  have f_z := x_z.frozen 0
  have e_z := x_z.lt
  gi_wp2_with fail
  refine ⟨trivial, ?_⟩
  refine (callsIn_wide.2 (CO.out _)).mono ?_
  rintro _ w7 ⟨rfl, hb⟩
  clear x_r c_r f_r e_r x_t c_t f_t e_t x_z c_z d_z f_z e_z
  replace HS := hid_mk (HS.out.below hb)
  clear hb
  have x_r : Blk w7 br 4 #[.bool false] := Bq.get HS.out (i := 0) rfl
  have c_r := x_r.cell1
  have f_r := x_r.frozen 0
  have e_r := x_r.lt
  have x_t : Blk w7 bt 3 #[.int .i64 t] := Bq.get HS.out (i := 1) rfl
  have c_t := x_t.cell1
  have f_t := x_t.frozen 0
  have e_t := x_t.lt
  have x_z : Blk w7 bz 23 #[.int .i64 W, .int .i64 H] := Bq.get HS.out (i := 2) rfl
  obtain ⟨c_z, d_z⟩ := x_z.cells2
  have f_z := x_z.frozen 0
  have e_z := x_z.lt
  gi_wp2_with fail
  refine ⟨trivial, ?_⟩
  refine (callsIn_wide.2 (CRO.out _)).mono ?_
  rintro _ w8 ⟨rfl, hb⟩
  clear x_r c_r f_r e_r x_t c_t f_t e_t x_z c_z d_z f_z e_z
  replace HS := hid_mk (HS.out.below hb)
  clear hb
  have x_r : Blk w8 br 4 #[.bool false] := Bq.get HS.out (i := 0) rfl
  have c_r := x_r.cell1
  have f_r := x_r.frozen 0
  have e_r := x_r.lt
  have x_t : Blk w8 bt 3 #[.int .i64 t] := Bq.get HS.out (i := 1) rfl
  have c_t := x_t.cell1
  have f_t := x_t.frozen 0
  have e_t := x_t.lt
  have x_z : Blk w8 bz 23 #[.int .i64 W, .int .i64 H] := Bq.get HS.out (i := 2) rfl
  obtain ⟨c_z, d_z⟩ := x_z.cells2
  have f_z := x_z.frozen 0
  have e_z := x_z.lt
  have b1 : (m != m) = false := by simp
  have b4 : (d != d) = false := by simp
  have b5 : (own != own) = false := by simp
  cases ok with
  | false =>
    obtain ⟨e1, e2⟩ := hoo.2 rfl
    subst e1 e2
    clear hoo
    have gn := Grow.ne w8
    have G_z : ∀ g : Grow w8, g.w.cell? ⟨bz, 0, none⟩ = some _ := fun g => Grow.cell e_z c_z g
    have K_z : ∀ g : Grow w8, g.w.cell? ⟨bz, 1, none⟩ = some _ := fun g => Grow.cell e_z d_z g
    have G_t : ∀ g : Grow w8, g.w.cell? ⟨bt, 0, none⟩ = some _ := fun g => Grow.cell e_t c_t g
    gi_wp2_with fail
    refine wpIn_wide.2 ?_
    refine wp_region_grow (by kernel_rfl) (by kernel_rfl) ?_
    repeat (go_big_quiet_step (first | (go_at_call 13; exact grow_call (CT.out _)) | (go_at_call 14; exact grow_call (CD.out _)) | (go_at_call 15; exact grow_call (CRD.out _))))
    refine wpQuiet_nil ?_
    rintro w9 ⟨⟨_, hb⟩, rfl⟩
    clear G_z K_z G_t gn
    clear x_r c_r f_r e_r x_t c_t f_t e_t x_z c_z d_z f_z e_z
    replace HS := hid_mk (HS.out.below hb)
    clear hb
    have x_r : Blk w9 br 4 #[.bool false] := Bq.get HS.out (i := 0) rfl
    have c_r := x_r.cell1
    have f_r := x_r.frozen 0
    have e_r := x_r.lt
    have x_t : Blk w9 bt 3 #[.int .i64 t] := Bq.get HS.out (i := 1) rfl
    have c_t := x_t.cell1
    have f_t := x_t.frozen 0
    have e_t := x_t.lt
    have x_z : Blk w9 bz 23 #[.int .i64 W, .int .i64 H] := Bq.get HS.out (i := 2) rfl
    obtain ⟨c_z, d_z⟩ := x_z.cells2
    have f_z := x_z.frozen 0
    have e_z := x_z.lt
    cases ht : tileB W H t with
    | false =>
      have HCE := hid_mk (cells_none ht)
      obtain ⟨z1, z2, z3, z4⟩ := box_no ht
      rw [ht, z1, z2, z3, z4] at CX
      clear z1 z2 z3 z4
      gi_wp2_with fail
      refine ⟨trivial, ?_⟩
      refine (callsIn_wide.2 (CL.out _)).mono ?_
      rintro _ w10 ⟨v, rfl, ho, hb⟩
      rw [HCE.out] at ho
      obtain ⟨ao, cap, rfl⟩ := ho.1.form
      clear ho
      clear x_r c_r f_r e_r x_t c_t f_t e_t x_z c_z d_z f_z e_z
      replace HS := hid_mk (HS.out.below hb)
      clear hb
      have x_r : Blk w10 br 4 #[.bool false] := Bq.get HS.out (i := 0) rfl
      have c_r := x_r.cell1
      have f_r := x_r.frozen 0
      have e_r := x_r.lt
      have x_t : Blk w10 bt 3 #[.int .i64 t] := Bq.get HS.out (i := 1) rfl
      have c_t := x_t.cell1
      have f_t := x_t.frozen 0
      have e_t := x_t.lt
      have x_z : Blk w10 bz 23 #[.int .i64 W, .int .i64 H] := Bq.get HS.out (i := 2) rfl
      obtain ⟨c_z, d_z⟩ := x_z.cells2
      have f_z := x_z.frozen 0
      have e_z := x_z.lt
      obtain ⟨w11, hw11⟩ : ∃ w11, w11 = w10.alloc (.cells #[.slice ao 0 cap] 30) := ⟨_, rfl⟩
      obtain ⟨bl, hbl⟩ : ∃ bl, bl = w10.heap.size := ⟨_, rfl⟩
      have l_br_bl : br < bl := by rw [hbl]; exact HS.out.ltAt (i := 0) rfl
      have l_bt_bl : bt < bl := by rw [hbl]; exact HS.out.ltAt (i := 1) rfl
      have l_bz_bl : bz < bl := by rw [hbl]; exact HS.out.ltAt (i := 2) rfl
      have Hw11 : Hid (Bq [(bl, 30, #[.slice ao 0 cap]), (br, 4, #[.bool false]), (bt, 3, #[.int .i64 t]), (bz, 23, #[.int .i64 W, .int .i64 H])] [] w w11) := by show Bq _ _ _ _; rw [hw11, hbl]; exact HS.out.alloc _ _
      obtain ⟨w12, hw12⟩ : ∃ w12, w12 = w11.alloc (.cells #[.int .i64 0] 3) := ⟨_, rfl⟩
      obtain ⟨bi, hbi⟩ : ∃ bi, bi = w11.heap.size := ⟨_, rfl⟩
      have l_bl_bi : bl < bi := by rw [hbi]; exact Hw11.out.ltAt (i := 0) rfl
      have l_br_bi : br < bi := by rw [hbi]; exact Hw11.out.ltAt (i := 1) rfl
      have l_bt_bi : bt < bi := by rw [hbi]; exact Hw11.out.ltAt (i := 2) rfl
      have l_bz_bi : bz < bi := by rw [hbi]; exact Hw11.out.ltAt (i := 3) rfl
      have kbi : bl + 1 = bi := by rw [hbi, hw11, hbl]; simp
      have Hw12 : Hid (Bq [(bi, 3, #[.int .i64 0]), (bl, 30, #[.slice ao 0 cap]), (br, 4, #[.bool false]), (bt, 3, #[.int .i64 t]), (bz, 23, #[.int .i64 W, .int .i64 H])] [] w w12) := by show Bq _ _ _ _; rw [hw12, hbi]; exact Hw11.out.alloc _ _
      gi_wp2_with fail
      try simp only [← hbl, ← hw11, kbi, ← hw12]
      clear kbi hw11 hw12
      clear hbl hbi
      clear x_r c_r f_r e_r x_t c_t f_t e_t x_z c_z d_z f_z e_z
      replace HS := Hw12
      clear Hw11 Hw12
      refine ⟨trivial, ?_⟩
      refine (callsIn_wide.2 (cells_ab W H t _)).mono ?_
      rintro _ w13 ⟨B1, C1, rfl, hbx, hB, hC, hb⟩
      have hnf := cellsF_nil B1 C1
      replace HS := hid_mk (HS.out.below hb)
      clear hbx hB hC hb
      have x_i : Blk w13 bi 3 #[.int .i64 0] := Bq.get HS.out (i := 0) rfl
      have c_i := x_i.cell1
      have f_i := x_i.frozen 0
      have e_i := x_i.lt
      have x_l : Blk w13 bl 30 #[.slice ao 0 cap] := Bq.get HS.out (i := 1) rfl
      have c_l := x_l.cell1
      have f_l := x_l.frozen 0
      have e_l := x_l.lt
      have x_r : Blk w13 br 4 #[.bool false] := Bq.get HS.out (i := 2) rfl
      have c_r := x_r.cell1
      have f_r := x_r.frozen 0
      have e_r := x_r.lt
      have x_t : Blk w13 bt 3 #[.int .i64 t] := Bq.get HS.out (i := 3) rfl
      have c_t := x_t.cell1
      have f_t := x_t.frozen 0
      have e_t := x_t.lt
      have x_z : Blk w13 bz 23 #[.int .i64 W, .int .i64 H] := Bq.get HS.out (i := 4) rfl
      obtain ⟨c_z, d_z⟩ := x_z.cells2
      have f_z := x_z.frozen 0
      have e_z := x_z.lt
      gi_wp2_with fail
      refine ⟨trivial, ?_⟩
      refine (callsIn_wide.2 (cells_ab W H t _)).mono ?_
      rintro _ w14 ⟨B2, C2, rfl, hbx, hB, hC, hb⟩
      clear x_i c_i f_i e_i x_l c_l f_l e_l x_r c_r f_r e_r x_t c_t f_t e_t x_z c_z d_z f_z e_z
      replace HS := hid_mk (HS.out.take2 hb hbx.1 hB hbx.2 hC (bx2_ne hbx))
      clear hbx hB hC hb
      have x_i : Blk w14 bi 3 #[.int .i64 0] := Bq.get HS.out (i := 2) rfl
      have c_i := x_i.cell1
      have f_i := x_i.frozen 0
      have e_i := x_i.lt
      have x_l : Blk w14 bl 30 #[.slice ao 0 cap] := Bq.get HS.out (i := 3) rfl
      have c_l := x_l.cell1
      have f_l := x_l.frozen 0
      have e_l := x_l.lt
      have x_r : Blk w14 br 4 #[.bool false] := Bq.get HS.out (i := 4) rfl
      have c_r := x_r.cell1
      have f_r := x_r.frozen 0
      have e_r := x_r.lt
      have x_t : Blk w14 bt 3 #[.int .i64 t] := Bq.get HS.out (i := 5) rfl
      have c_t := x_t.cell1
      have f_t := x_t.frozen 0
      have e_t := x_t.lt
      have x_z : Blk w14 bz 23 #[.int .i64 W, .int .i64 H] := Bq.get HS.out (i := 6) rfl
      obtain ⟨c_z, d_z⟩ := x_z.cells2
      have f_z := x_z.frozen 0
      have e_z := x_z.lt
      clear hnf
      gi_wp2_with fail
      refine range_ownZ rfl (by omega) (gf := 31) (lb := #[.pointer (some ⟨B2, 0, none⟩), .pointer (some ⟨C2, 0, none⟩)]) rfl trivial (enters_of Try.func31 (by kernel_rfl) rfl) (cells1_z _ (by omega) _ _ W H t _ ⟨Bq.get HS.out (i := 1) rfl, Bq.get HS.out (i := 0) rfl⟩) (Below.refl _ _) (fun _ => rfl)
        (fun Z pre A => w14.heap.size ≤ A.heap.size ∧ Bq [(C2, 3, #[.int .i64 t]), (B2, 23, #[.int .i64 W, .int .i64 H]), (bi, 3, #[.int .i64 (lenI pre)]), (bl, 30, #[.slice ao 0 cap]), (br, 4, #[.bool false]), (bt, 3, #[.int .i64 t]), (bz, 23, #[.int .i64 W, .int .i64 H])] [] w A) (fun Z cc pre A => False)
        (fun Z => Bq.owns (fun _ => rfl) HS.out.nlt HS.out.mlt HS.out.bl.size)
        (fun Z cc => fun s A A' row hs hg hr => hs.elim)
        (fun Z => ⟨Nat.le_refl _, HS.out⟩) (fun _ _ _ hs => ⟨Bq.get hs.2 (i := 1) rfl, Bq.get hs.2 (i := 0) rfl⟩) ?a11 ?assign1 ?body1 ?done1 ?stop1
      case assign1 =>
        intro lq x A Kk hK
        gi_wp2
        exact hK
      case body1 =>
        intro lq Z pre x A hZ0 hZ1 hI hp
        have h := show pre ++ [x] <+: cellsL W H t from hp.2
        rw [HCE.out] at h
        simp at h
      case stop1 =>
        intro D Z cc pre A hD hpre hs
        exact hs.elim
      case done1 =>
        rintro D1 Z ys A15 hD hys ⟨hA0, hQ⟩ hK
        obtain rfl := show ys = _ from hys
        rw [HCE.out] at hQ
        replace HS := hid_mk (hQ.mark hK hD HS.out.mlt HS.out.bl.size)
        clear x_i c_i f_i e_i x_l c_l f_l e_l x_r c_r f_r e_r x_t c_t f_t e_t x_z c_z d_z f_z e_z
        clear hQ hK hD hA0 hys
        replace HS : Hid (Bq [(C2, 3, #[.int .i64 t]), (B2, 23, #[.int .i64 W, .int .i64 H]), (bi, 3, #[.int .i64 0]), (bl, 30, #[.slice ao 0 cap]), (br, 4, #[.bool false]), (bt, 3, #[.int .i64 t]), (bz, 23, #[.int .i64 W, .int .i64 H])] [D1] w A15) := HS
        have x_i : Blk A15 bi 3 #[.int .i64 0] := Bq.get HS.out (i := 2) rfl
        have c_i := x_i.cell1
        have f_i := x_i.frozen 0
        have e_i := x_i.lt
        have x_l : Blk A15 bl 30 #[.slice ao 0 cap] := Bq.get HS.out (i := 3) rfl
        have c_l := x_l.cell1
        have f_l := x_l.frozen 0
        have e_l := x_l.lt
        have x_r : Blk A15 br 4 #[.bool false] := Bq.get HS.out (i := 4) rfl
        have c_r := x_r.cell1
        have f_r := x_r.frozen 0
        have e_r := x_r.lt
        have x_t : Blk A15 bt 3 #[.int .i64 t] := Bq.get HS.out (i := 5) rfl
        have c_t := x_t.cell1
        have f_t := x_t.frozen 0
        have e_t := x_t.lt
        have x_z : Blk A15 bz 23 #[.int .i64 W, .int .i64 H] := Bq.get HS.out (i := 6) rfl
        obtain ⟨c_z, d_z⟩ := x_z.cells2
        have f_z := x_z.frozen 0
        have e_z := x_z.lt
        gi_wp2_with fail
        refine ⟨trivial, ?_⟩
        refine (callsIn_wide.2 (CX.out _)).mono ?_
        rintro _ w16 ⟨rfl, hb⟩
        clear x_i c_i f_i e_i x_l c_l f_l e_l x_r c_r f_r e_r x_t c_t f_t e_t x_z c_z d_z f_z e_z
        replace HS := hid_mk (HS.out.below hb)
        clear hb
        have x_i : Blk w16 bi 3 #[.int .i64 0] := Bq.get HS.out (i := 2) rfl
        have c_i := x_i.cell1
        have f_i := x_i.frozen 0
        have e_i := x_i.lt
        have x_l : Blk w16 bl 30 #[.slice ao 0 cap] := Bq.get HS.out (i := 3) rfl
        have c_l := x_l.cell1
        have f_l := x_l.frozen 0
        have e_l := x_l.lt
        have x_r : Blk w16 br 4 #[.bool false] := Bq.get HS.out (i := 4) rfl
        have c_r := x_r.cell1
        have f_r := x_r.frozen 0
        have e_r := x_r.lt
        have x_t : Blk w16 bt 3 #[.int .i64 t] := Bq.get HS.out (i := 5) rfl
        have c_t := x_t.cell1
        have f_t := x_t.frozen 0
        have e_t := x_t.lt
        have x_z : Blk w16 bz 23 #[.int .i64 W, .int .i64 H] := Bq.get HS.out (i := 6) rfl
        obtain ⟨c_z, d_z⟩ := x_z.cells2
        have f_z := x_z.frozen 0
        have e_z := x_z.lt
        gi_wp2
        have HE0 : Bq [(C2, 3, #[.int .i64 t]), (B2, 23, #[.int .i64 W, .int .i64 H]), (bi, 3, #[.int .i64 0]), (bl, 30, #[.slice ao 0 cap]), (br, 4, #[.bool true]), (bt, 3, #[.int .i64 t]), (bz, 23, #[.int .i64 W, .int .i64 H])] [D1] w (w16.setCell ⟨br, 0, none⟩ (.bool true)) := HS.out.setAt (i := 4) rfl 0 _
        have HE := hid_mk HE0
        show LeavesInM _ _ _ _ _ _ (marks [D1]) _ _
        refine Bq.leave (by simp) HE.out fun W' hb1 hb2 => ⟨.bool true, ?_, rfl, hb2⟩
        have hc5 := (show Blk W' br 4 #[.bool true] from hb1 _ (List.mem_of_getElem? (i := 4) rfl)).cell1
        simp [results, Try.f3, go_sem, hc5]
    | true =>
      obtain ⟨f, l, hf, hl, hif, hil, e1, e2, e3, e4⟩ := corners ht
      obtain ⟨k1, k2, k3, k4, k5, k6, k7, k8, k9, k10, k11, k12, -⟩ := box_bd ht
      have CF := hid_mk (fun X => rat_yes W H f X hif)
      have CE := hid_mk (fun X => rat_yes W H l X hil)
      rw [e1, e2] at CF
      rw [e3, e4] at CE
      rw [ht] at CX
      clear hif hil e1 e2 e3 e4
      generalize bxN W H t = x0 at *
      generalize byN W H t = y0 at *
      generalize bwN W H t = wd at *
      generalize bhN W H t = hg at *
      obtain ⟨n, hn'⟩ : ∃ n, (cellsL W H t).length = n := ⟨_, rfl⟩
      have hnp : 0 < n := by have := List.getElem?_eq_some_iff.1 hf; obtain ⟨q, _⟩ := this; omega
      have hl64 := cells_len64 W H t
      rw [hn'] at hl hl64
      have HLN : Hid (lenI (cellsL W H t) = (n : Int)) := by show _ = _; unfold lenI; rw [hn']
      have HT := hid_mk ht
      have HF := hid_mk hf
      have HL := hid_mk hl
      have HNL := hid_mk hn'
      clear hf hl hn' ht
      gi_wp2_with fail
      refine ⟨trivial, ?_⟩
      refine (callsIn_wide.2 (CL.out _)).mono ?_
      rintro _ w17 ⟨v, rfl, ho, hb⟩
      clear x_r c_r f_r e_r x_t c_t f_t e_t x_z c_z d_z f_z e_z
      rw [OwnL, HNL.out] at ho
      obtain ⟨lg, cap, cur, rfl, hkb, hcur⟩ := row_blk ho.1 (by omega)
      have hgl := ho.2 lg rfl
      replace HS := hid_mk (HS.out.take hb hkb hgl)
      have HCU := hid_mk hcur
      clear hb hkb hgl ho hcur
      have x_r : Blk w17 br 4 #[.bool false] := Bq.get HS.out (i := 1) rfl
      have c_r := x_r.cell1
      have f_r := x_r.frozen 0
      have e_r := x_r.lt
      have x_t : Blk w17 bt 3 #[.int .i64 t] := Bq.get HS.out (i := 2) rfl
      have c_t := x_t.cell1
      have f_t := x_t.frozen 0
      have e_t := x_t.lt
      have x_z : Blk w17 bz 23 #[.int .i64 W, .int .i64 H] := Bq.get HS.out (i := 3) rfl
      obtain ⟨c_z, d_z⟩ := x_z.cells2
      have f_z := x_z.frozen 0
      have e_z := x_z.lt
      obtain ⟨w18, hw18⟩ : ∃ w18, w18 = w17.alloc (.cells #[.slice (some ⟨lg, 0, none⟩) n cap] 30) := ⟨_, rfl⟩
      obtain ⟨bl, hbl⟩ : ∃ bl, bl = w17.heap.size := ⟨_, rfl⟩
      have l_lg_bl : lg < bl := by rw [hbl]; exact HS.out.ltAt (i := 0) rfl
      have l_br_bl : br < bl := by rw [hbl]; exact HS.out.ltAt (i := 1) rfl
      have l_bt_bl : bt < bl := by rw [hbl]; exact HS.out.ltAt (i := 2) rfl
      have l_bz_bl : bz < bl := by rw [hbl]; exact HS.out.ltAt (i := 3) rfl
      have Hw18 : Hid (Bq [(bl, 30, #[.slice (some ⟨lg, 0, none⟩) n cap]), (lg, 3, cur), (br, 4, #[.bool false]), (bt, 3, #[.int .i64 t]), (bz, 23, #[.int .i64 W, .int .i64 H])] [] w w18) := by show Bq _ _ _ _; rw [hw18, hbl]; exact HS.out.alloc _ _
      obtain ⟨w19, hw19⟩ : ∃ w19, w19 = w18.alloc (.cells #[.int .i64 0] 3) := ⟨_, rfl⟩
      obtain ⟨bi, hbi⟩ : ∃ bi, bi = w18.heap.size := ⟨_, rfl⟩
      have l_bl_bi : bl < bi := by rw [hbi]; exact Hw18.out.ltAt (i := 0) rfl
      have l_lg_bi : lg < bi := by rw [hbi]; exact Hw18.out.ltAt (i := 1) rfl
      have l_br_bi : br < bi := by rw [hbi]; exact Hw18.out.ltAt (i := 2) rfl
      have l_bt_bi : bt < bi := by rw [hbi]; exact Hw18.out.ltAt (i := 3) rfl
      have l_bz_bi : bz < bi := by rw [hbi]; exact Hw18.out.ltAt (i := 4) rfl
      have kbi : bl + 1 = bi := by rw [hbi, hw18, hbl]; simp
      have Hw19 : Hid (Bq [(bi, 3, #[.int .i64 0]), (bl, 30, #[.slice (some ⟨lg, 0, none⟩) n cap]), (lg, 3, cur), (br, 4, #[.bool false]), (bt, 3, #[.int .i64 t]), (bz, 23, #[.int .i64 W, .int .i64 H])] [] w w19) := by show Bq _ _ _ _; rw [hw19, hbi]; exact Hw18.out.alloc _ _
      gi_wp2_with fail
      try simp only [← hbl, ← hw18, kbi, ← hw19]
      clear kbi hw18 hw19
      clear hbl hbi
      clear x_r c_r f_r e_r x_t c_t f_t e_t x_z c_z d_z f_z e_z
      replace HS := Hw19
      clear Hw18 Hw19
      refine ⟨trivial, ?_⟩
      refine (callsIn_wide.2 (cells_ab W H t _)).mono ?_
      rintro _ w20 ⟨B1, C1, rfl, hbx, hB, hC, hb⟩
      have hnf := cellsF_nil B1 C1
      replace HS := hid_mk (HS.out.below hb)
      clear hbx hB hC hb
      have x_i : Blk w20 bi 3 #[.int .i64 0] := Bq.get HS.out (i := 0) rfl
      have c_i := x_i.cell1
      have f_i := x_i.frozen 0
      have e_i := x_i.lt
      have x_l : Blk w20 bl 30 #[.slice (some ⟨lg, 0, none⟩) n cap] := Bq.get HS.out (i := 1) rfl
      have c_l := x_l.cell1
      have f_l := x_l.frozen 0
      have e_l := x_l.lt
      have x_r : Blk w20 br 4 #[.bool false] := Bq.get HS.out (i := 3) rfl
      have c_r := x_r.cell1
      have f_r := x_r.frozen 0
      have e_r := x_r.lt
      have x_t : Blk w20 bt 3 #[.int .i64 t] := Bq.get HS.out (i := 4) rfl
      have c_t := x_t.cell1
      have f_t := x_t.frozen 0
      have e_t := x_t.lt
      have x_z : Blk w20 bz 23 #[.int .i64 W, .int .i64 H] := Bq.get HS.out (i := 5) rfl
      obtain ⟨c_z, d_z⟩ := x_z.cells2
      have f_z := x_z.frozen 0
      have e_z := x_z.lt
      gi_wp2_with fail
      refine ⟨trivial, ?_⟩
      refine (callsIn_wide.2 (cells_ab W H t _)).mono ?_
      rintro _ w21 ⟨B2, C2, rfl, hbx, hB, hC, hb⟩
      clear x_i c_i f_i e_i x_l c_l f_l e_l x_r c_r f_r e_r x_t c_t f_t e_t x_z c_z d_z f_z e_z
      replace HS := hid_mk (HS.out.take2 hb hbx.1 hB hbx.2 hC (bx2_ne hbx))
      clear hbx hB hC hb
      have x_i : Blk w21 bi 3 #[.int .i64 0] := Bq.get HS.out (i := 2) rfl
      have c_i := x_i.cell1
      have f_i := x_i.frozen 0
      have e_i := x_i.lt
      have x_l : Blk w21 bl 30 #[.slice (some ⟨lg, 0, none⟩) n cap] := Bq.get HS.out (i := 3) rfl
      have c_l := x_l.cell1
      have f_l := x_l.frozen 0
      have e_l := x_l.lt
      have x_r : Blk w21 br 4 #[.bool false] := Bq.get HS.out (i := 5) rfl
      have c_r := x_r.cell1
      have f_r := x_r.frozen 0
      have e_r := x_r.lt
      have x_t : Blk w21 bt 3 #[.int .i64 t] := Bq.get HS.out (i := 6) rfl
      have c_t := x_t.cell1
      have f_t := x_t.frozen 0
      have e_t := x_t.lt
      have x_z : Blk w21 bz 23 #[.int .i64 W, .int .i64 H] := Bq.get HS.out (i := 7) rfl
      obtain ⟨c_z, d_z⟩ := x_z.cells2
      have f_z := x_z.frozen 0
      have e_z := x_z.lt
      clear hnf
      gi_wp2_with fail
      refine range_ownZ rfl (by omega) (gf := 31) (lb := #[.pointer (some ⟨B2, 0, none⟩), .pointer (some ⟨C2, 0, none⟩)]) rfl trivial (enters_of Try.func31 (by kernel_rfl) rfl) (cells1_z _ (by omega) _ _ W H t _ ⟨Bq.get HS.out (i := 1) rfl, Bq.get HS.out (i := 0) rfl⟩) (Below.refl _ _) (fun _ => rfl)
        (fun Z pre A => w21.heap.size ≤ A.heap.size ∧ Bq [(C2, 3, #[.int .i64 t]), (B2, 23, #[.int .i64 W, .int .i64 H]), (bi, 3, #[.int .i64 (lenI pre)]), (bl, 30, #[.slice (some ⟨lg, 0, none⟩) n cap]), (lg, 3, cur), (br, 4, #[.bool false]), (bt, 3, #[.int .i64 t]), (bz, 23, #[.int .i64 W, .int .i64 H])] [] w A) (fun Z cc pre A => False)
        (fun Z => Bq.owns (fun _ => rfl) HS.out.nlt HS.out.mlt HS.out.bl.size)
        (fun Z cc => fun s A A' row hs hg hr => hs.elim)
        (fun Z => ⟨Nat.le_refl _, HS.out⟩) (fun _ _ _ hs => ⟨Bq.get hs.2 (i := 1) rfl, Bq.get hs.2 (i := 0) rfl⟩) ?a12 ?assign2 ?body2 ?done2 ?stop2
      case assign2 =>
        intro lq x A Kk hK
        gi_wp2
        exact hK
      case body2 =>
        rintro lq Z pre x A hZ0 hZ1 ⟨hA0, hQ⟩ ⟨hpl, hpx⟩
        have HQ := hid_mk hQ
        clear hQ
        have m_i := e_i
        have m_l := e_l
        have m_r := e_r
        have m_t := e_t
        have m_z := e_z
        clear x_i c_i f_i e_i x_l c_l f_l e_l x_r c_r f_r e_r x_t c_t f_t e_t x_z c_z d_z f_z e_z
        have HBK : Hid (BK w21.heap.size Z A A) := BK.refl _ _ _
        have hZc : Z ≤ A.heap.size := hZ1
        have hAc : w21.heap.size ≤ A.heap.size := hA0
        have x_i : Blk A bi 3 #[.int .i64 (lenI pre)] := Bq.get HQ.out (i := 2) rfl
        have c_i := x_i.cell1
        have f_i := x_i.frozen 0
        have e_i := x_i.lt
        have x_l : Blk A bl 30 #[.slice (some ⟨lg, 0, none⟩) n cap] := Bq.get HQ.out (i := 3) rfl
        have c_l := x_l.cell1
        have f_l := x_l.frozen 0
        have e_l := x_l.lt
        have x_r : Blk A br 4 #[.bool false] := Bq.get HQ.out (i := 5) rfl
        have c_r := x_r.cell1
        have f_r := x_r.frozen 0
        have e_r := x_r.lt
        have x_t : Blk A bt 3 #[.int .i64 t] := Bq.get HQ.out (i := 6) rfl
        have c_t := x_t.cell1
        have f_t := x_t.frozen 0
        have e_t := x_t.lt
        have x_z : Blk A bz 23 #[.int .i64 W, .int .i64 H] := Bq.get HQ.out (i := 7) rfl
        obtain ⟨c_z, d_z⟩ := x_z.cells2
        have f_z := x_z.frozen 0
        have e_z := x_z.lt
        obtain ⟨a1, a2⟩ := at_part (show pre ++ [x] <+: cellsL W H t from hpx)
        rw [HNL.out] at a1
        have x_g : Blk A lg 3 cur := Bq.get HQ.out (i := 4) rfl
        have c_g := x_g.at (HCU.out _ _ a2)
        have f_g := x_g.frozen pre.length
        have e_g := x_g.lt
        obtain ⟨k, hk⟩ : ∃ k, k = pre.length := ⟨_, rfl⟩
        have hle : lenI pre = (k : Int) := by unfold lenI; rw [hk]
        have hln := hid_mk (lenI_snoc pre x)
        rw [hle] at hln HQ x_i c_i
        rw [← hk] at a1 c_g f_g
        have p1 : (k : Int) < (n : Int) := by omega
        have p2 : ¬ (n : Int) ≤ (k : Int) := by omega
        clear a2 hpx hpl hk hle
        gi_wp2
        refine ⟨(HBK.out).trans (bk_set _ m_i), ?_, ?_⟩
        · rw [size_set]; exact hAc
        · rw [hln.out]; exact (HQ.out).setAt (i := 2) rfl 0 _
      case stop2 =>
        intro D Z cc pre A hD hpre hs
        exact hs.elim
      case done2 =>
        rintro D2 Z ys A22 hD hys ⟨hA0, hQ⟩ hK
        obtain rfl := show ys = _ from hys
        rw [HLN.out] at hQ
        replace HS := hid_mk (hQ.mark hK hD HS.out.mlt HS.out.bl.size)
        clear x_i c_i f_i e_i x_l c_l f_l e_l x_r c_r f_r e_r x_t c_t f_t e_t x_z c_z d_z f_z e_z
        clear hQ hK hD hA0 hys
        have x_i : Blk A22 bi 3 #[.int .i64 (n : Int)] := Bq.get HS.out (i := 2) rfl
        have c_i := x_i.cell1
        have f_i := x_i.frozen 0
        have e_i := x_i.lt
        have x_l : Blk A22 bl 30 #[.slice (some ⟨lg, 0, none⟩) n cap] := Bq.get HS.out (i := 3) rfl
        have c_l := x_l.cell1
        have f_l := x_l.frozen 0
        have e_l := x_l.lt
        have x_r : Blk A22 br 4 #[.bool false] := Bq.get HS.out (i := 5) rfl
        have c_r := x_r.cell1
        have f_r := x_r.frozen 0
        have e_r := x_r.lt
        have x_t : Blk A22 bt 3 #[.int .i64 t] := Bq.get HS.out (i := 6) rfl
        have c_t := x_t.cell1
        have f_t := x_t.frozen 0
        have e_t := x_t.lt
        have x_z : Blk A22 bz 23 #[.int .i64 W, .int .i64 H] := Bq.get HS.out (i := 7) rfl
        obtain ⟨c_z, d_z⟩ := x_z.cells2
        have f_z := x_z.frozen 0
        have e_z := x_z.lt
        gi_wp2_with fail
        refine ⟨trivial, ?_⟩
        refine (callsIn_wide.2 (CX.out _)).mono ?_
        rintro _ w23 ⟨rfl, hb⟩
        clear x_i c_i f_i e_i x_l c_l f_l e_l x_r c_r f_r e_r x_t c_t f_t e_t x_z c_z d_z f_z e_z
        replace HS := hid_mk (HS.out.below hb)
        clear hb
        have x_i : Blk w23 bi 3 #[.int .i64 (n : Int)] := Bq.get HS.out (i := 2) rfl
        have c_i := x_i.cell1
        have f_i := x_i.frozen 0
        have e_i := x_i.lt
        have x_l : Blk w23 bl 30 #[.slice (some ⟨lg, 0, none⟩) n cap] := Bq.get HS.out (i := 3) rfl
        have c_l := x_l.cell1
        have f_l := x_l.frozen 0
        have e_l := x_l.lt
        have x_r : Blk w23 br 4 #[.bool false] := Bq.get HS.out (i := 5) rfl
        have c_r := x_r.cell1
        have f_r := x_r.frozen 0
        have e_r := x_r.lt
        have x_t : Blk w23 bt 3 #[.int .i64 t] := Bq.get HS.out (i := 6) rfl
        have c_t := x_t.cell1
        have f_t := x_t.frozen 0
        have e_t := x_t.lt
        have x_z : Blk w23 bz 23 #[.int .i64 W, .int .i64 H] := Bq.get HS.out (i := 7) rfl
        obtain ⟨c_z, d_z⟩ := x_z.cells2
        have f_z := x_z.frozen 0
        have e_z := x_z.lt
        have n0 : 0 < (n : Int) := by omega
        have x_g : Blk w23 lg 3 cur := Bq.get HS.out (i := 4) rfl
        have c_g := x_g.at (HCU.out _ _ HF.out)
        have e_g := x_g.lt
        have G_g0 := fun g' : Grow w23 => Grow.cell e_g c_g g'
        clear x_g c_g e_g
        have gn := Grow.ne w23
        have G_z : ∀ g : Grow w23, g.w.cell? ⟨bz, 0, none⟩ = some _ := fun g => Grow.cell e_z c_z g
        have K_z : ∀ g : Grow w23, g.w.cell? ⟨bz, 1, none⟩ = some _ := fun g => Grow.cell e_z d_z g
        have G_l : ∀ g : Grow w23, g.w.cell? ⟨bl, 0, none⟩ = some _ := fun g => Grow.cell e_l c_l g
        gi_wp2_with fail
        refine wpIn_wide.2 ?_
        refine wp_region_grow (by kernel_rfl) (by kernel_rfl) ?_
        repeat (go_big_quiet_step (first | (go_at_call 19; exact grow_call (CF.out _))))
        refine wpQuiet_nil ?_
        rintro w24 ⟨⟨_, hb⟩, rfl⟩
        clear G_z K_z G_l gn G_g0
        clear x_i c_i f_i e_i x_l c_l f_l e_l x_r c_r f_r e_r x_t c_t f_t e_t x_z c_z d_z f_z e_z
        replace HS := hid_mk (HS.out.below hb)
        clear hb
        have x_i : Blk w24 bi 3 #[.int .i64 (n : Int)] := Bq.get HS.out (i := 2) rfl
        have c_i := x_i.cell1
        have f_i := x_i.frozen 0
        have e_i := x_i.lt
        have x_l : Blk w24 bl 30 #[.slice (some ⟨lg, 0, none⟩) n cap] := Bq.get HS.out (i := 3) rfl
        have c_l := x_l.cell1
        have f_l := x_l.frozen 0
        have e_l := x_l.lt
        have x_r : Blk w24 br 4 #[.bool false] := Bq.get HS.out (i := 5) rfl
        have c_r := x_r.cell1
        have f_r := x_r.frozen 0
        have e_r := x_r.lt
        have x_t : Blk w24 bt 3 #[.int .i64 t] := Bq.get HS.out (i := 6) rfl
        have c_t := x_t.cell1
        have f_t := x_t.frozen 0
        have e_t := x_t.lt
        have x_z : Blk w24 bz 23 #[.int .i64 W, .int .i64 H] := Bq.get HS.out (i := 7) rfl
        obtain ⟨c_z, d_z⟩ := x_z.cells2
        have f_z := x_z.frozen 0
        have e_z := x_z.lt
        have x_g : Blk w24 lg 3 cur := Bq.get HS.out (i := 4) rfl
        have c_g := x_g.at (HCU.out _ _ HL.out)
        have e_g := x_g.lt
        have G_g0 := fun g' : Grow w24 => Grow.cell e_g c_g g'
        clear x_g c_g e_g
        have n1 : (n : Int) - 1 < (n : Int) := by omega
        have n2 : 0 ≤ (n : Int) - 1 := by omega
        have n3 : ((n : Int) - 1).toNat = n - 1 := by omega
        have gn := Grow.ne w24
        have G_z : ∀ g : Grow w24, g.w.cell? ⟨bz, 0, none⟩ = some _ := fun g => Grow.cell e_z c_z g
        have K_z : ∀ g : Grow w24, g.w.cell? ⟨bz, 1, none⟩ = some _ := fun g => Grow.cell e_z d_z g
        have G_l : ∀ g : Grow w24, g.w.cell? ⟨bl, 0, none⟩ = some _ := fun g => Grow.cell e_l c_l g
        gi_wp2_with fail
        refine wpIn_wide.2 ?_
        refine wp_region_grow (by kernel_rfl) (by kernel_rfl) ?_
        repeat (go_big_quiet_step (first | (go_at_call 19; exact grow_call (CE.out _))))
        refine wpQuiet_nil ?_
        rintro w25 ⟨⟨_, hb⟩, rfl⟩
        clear G_z K_z G_l gn G_g0
        clear x_i c_i f_i e_i x_l c_l f_l e_l x_r c_r f_r e_r x_t c_t f_t e_t x_z c_z d_z f_z e_z
        replace HS := hid_mk (HS.out.below hb)
        clear hb
        have x_i : Blk w25 bi 3 #[.int .i64 (n : Int)] := Bq.get HS.out (i := 2) rfl
        have c_i := x_i.cell1
        have f_i := x_i.frozen 0
        have e_i := x_i.lt
        have x_l : Blk w25 bl 30 #[.slice (some ⟨lg, 0, none⟩) n cap] := Bq.get HS.out (i := 3) rfl
        have c_l := x_l.cell1
        have f_l := x_l.frozen 0
        have e_l := x_l.lt
        have x_r : Blk w25 br 4 #[.bool false] := Bq.get HS.out (i := 5) rfl
        have c_r := x_r.cell1
        have f_r := x_r.frozen 0
        have e_r := x_r.lt
        have x_t : Blk w25 bt 3 #[.int .i64 t] := Bq.get HS.out (i := 6) rfl
        have c_t := x_t.cell1
        have f_t := x_t.frozen 0
        have e_t := x_t.lt
        have x_z : Blk w25 bz 23 #[.int .i64 W, .int .i64 H] := Bq.get HS.out (i := 7) rfl
        obtain ⟨c_z, d_z⟩ := x_z.cells2
        have f_z := x_z.frozen 0
        have e_z := x_z.lt
        clear n1 n2 n3
        have n4 : x0 + wd - 1 - x0 + 1 = wd := by omega
        have n5 : y0 + hg - 1 - y0 + 1 = hg := by omega
        obtain ⟨w26, hw26⟩ : ∃ w26, w26 = w25.alloc (.cells #[.int .i64 0] 3) := ⟨_, rfl⟩
        obtain ⟨b25, hb25⟩ : ∃ b25, b25 = w25.heap.size := ⟨_, rfl⟩
        have l_C2_b25 : C2 < b25 := by rw [hb25]; exact HS.out.ltAt (i := 0) rfl
        have l_B2_b25 : B2 < b25 := by rw [hb25]; exact HS.out.ltAt (i := 1) rfl
        have l_bi_b25 : bi < b25 := by rw [hb25]; exact HS.out.ltAt (i := 2) rfl
        have l_bl_b25 : bl < b25 := by rw [hb25]; exact HS.out.ltAt (i := 3) rfl
        have l_lg_b25 : lg < b25 := by rw [hb25]; exact HS.out.ltAt (i := 4) rfl
        have l_br_b25 : br < b25 := by rw [hb25]; exact HS.out.ltAt (i := 5) rfl
        have l_bt_b25 : bt < b25 := by rw [hb25]; exact HS.out.ltAt (i := 6) rfl
        have l_bz_b25 : bz < b25 := by rw [hb25]; exact HS.out.ltAt (i := 7) rfl
        have Hw26 : Hid (Bq [(b25, 3, #[.int .i64 0]), (C2, 3, #[.int .i64 t]), (B2, 23, #[.int .i64 W, .int .i64 H]), (bi, 3, #[.int .i64 (n : Int)]), (bl, 30, #[.slice (some ⟨lg, 0, none⟩) n cap]), (lg, 3, cur), (br, 4, #[.bool false]), (bt, 3, #[.int .i64 t]), (bz, 23, #[.int .i64 W, .int .i64 H])] [D2] w w26) := by show Bq _ _ _ _; rw [hw26, hb25]; exact HS.out.alloc _ _
        gi_wp2_with fail
        try simp only [← hb25, ← hw26]
        clear hw26
        clear hb25
        clear x_i c_i f_i e_i x_l c_l f_l e_l x_r c_r f_r e_r x_t c_t f_t e_t x_z c_z d_z f_z e_z
        replace HS := Hw26
        clear Hw26
        refine ⟨trivial, ?_⟩
        refine (callsIn_wide.2 (tbes_ab W H t _)).mono ?_
        rintro _ w27 ⟨B3, C3, rfl, hbx, hB, hC, hb⟩
        have hnf := tbesF_nil B3 C3
        replace HS := hid_mk (HS.out.below hb)
        clear hbx hB hC hb
        have x_next : Blk w27 b25 3 #[.int .i64 0] := Bq.get HS.out (i := 0) rfl
        have c_next := x_next.cell1
        have f_next := x_next.frozen 0
        have e_next := x_next.lt
        have x_i : Blk w27 bi 3 #[.int .i64 (n : Int)] := Bq.get HS.out (i := 3) rfl
        have c_i := x_i.cell1
        have f_i := x_i.frozen 0
        have e_i := x_i.lt
        have x_l : Blk w27 bl 30 #[.slice (some ⟨lg, 0, none⟩) n cap] := Bq.get HS.out (i := 4) rfl
        have c_l := x_l.cell1
        have f_l := x_l.frozen 0
        have e_l := x_l.lt
        have x_r : Blk w27 br 4 #[.bool false] := Bq.get HS.out (i := 6) rfl
        have c_r := x_r.cell1
        have f_r := x_r.frozen 0
        have e_r := x_r.lt
        have x_t : Blk w27 bt 3 #[.int .i64 t] := Bq.get HS.out (i := 7) rfl
        have c_t := x_t.cell1
        have f_t := x_t.frozen 0
        have e_t := x_t.lt
        have x_z : Blk w27 bz 23 #[.int .i64 W, .int .i64 H] := Bq.get HS.out (i := 8) rfl
        obtain ⟨c_z, d_z⟩ := x_z.cells2
        have f_z := x_z.frozen 0
        have e_z := x_z.lt
        gi_wp2_with fail
        refine ⟨trivial, ?_⟩
        refine (callsIn_wide.2 (tbes_ab W H t _)).mono ?_
        rintro _ w28 ⟨B4, C4, rfl, hbx, hB, hC, hb⟩
        clear x_next c_next f_next e_next x_i c_i f_i e_i x_l c_l f_l e_l x_r c_r f_r e_r x_t c_t f_t e_t x_z c_z d_z f_z e_z
        replace HS := hid_mk (HS.out.take2 hb hbx.1 hB hbx.2 hC (bx2_ne hbx))
        clear hbx hB hC hb
        have x_next : Blk w28 b25 3 #[.int .i64 0] := Bq.get HS.out (i := 2) rfl
        have c_next := x_next.cell1
        have f_next := x_next.frozen 0
        have e_next := x_next.lt
        have x_i : Blk w28 bi 3 #[.int .i64 (n : Int)] := Bq.get HS.out (i := 5) rfl
        have c_i := x_i.cell1
        have f_i := x_i.frozen 0
        have e_i := x_i.lt
        have x_l : Blk w28 bl 30 #[.slice (some ⟨lg, 0, none⟩) n cap] := Bq.get HS.out (i := 6) rfl
        have c_l := x_l.cell1
        have f_l := x_l.frozen 0
        have e_l := x_l.lt
        have x_r : Blk w28 br 4 #[.bool false] := Bq.get HS.out (i := 8) rfl
        have c_r := x_r.cell1
        have f_r := x_r.frozen 0
        have e_r := x_r.lt
        have x_t : Blk w28 bt 3 #[.int .i64 t] := Bq.get HS.out (i := 9) rfl
        have c_t := x_t.cell1
        have f_t := x_t.frozen 0
        have e_t := x_t.lt
        have x_z : Blk w28 bz 23 #[.int .i64 W, .int .i64 H] := Bq.get HS.out (i := 10) rfl
        obtain ⟨c_z, d_z⟩ := x_z.cells2
        have f_z := x_z.frozen 0
        have e_z := x_z.lt
        clear hnf
        have HSR := hid_mk (near_sorted (show inB (tW W H) (tH W H) t = true from HT.out))
        replace HS : Hid (Bq [(C4, 3, #[.int .i64 t]), (B4, 23, #[.int .i64 W, .int .i64 H]), (b25, 3, #[.int .i64 (lastI [] + 1)]), (C2, 3, #[.int .i64 t]), (B2, 23, #[.int .i64 W, .int .i64 H]), (bi, 3, #[.int .i64 (n : Int)]), (bl, 30, #[.slice (some ⟨lg, 0, none⟩) n cap]), (lg, 3, cur), (br, 4, #[.bool false]), (bt, 3, #[.int .i64 t]), (bz, 23, #[.int .i64 W, .int .i64 H])] [D2] w w28) := by rw [show lastI [] + 1 = (0 : Int) from rfl]; exact HS
        gi_wp2_with fail
        refine range_ownZ rfl (by omega) (gf := 32) (lb := #[.pointer (some ⟨B4, 0, none⟩), .pointer (some ⟨C4, 0, none⟩)]) rfl trivial (enters_of Try.func32 (by kernel_rfl) rfl) (tbes1_z _ (by omega) _ _ W H t _ ⟨Bq.get HS.out (i := 1) rfl, Bq.get HS.out (i := 0) rfl⟩) (Below.refl _ _) (fun _ => rfl)
          (fun Z pre A => w28.heap.size ≤ A.heap.size ∧ Bq [(C4, 3, #[.int .i64 t]), (B4, 23, #[.int .i64 W, .int .i64 H]), (b25, 3, #[.int .i64 (lastI pre + 1)]), (C2, 3, #[.int .i64 t]), (B2, 23, #[.int .i64 W, .int .i64 H]), (bi, 3, #[.int .i64 (n : Int)]), (bl, 30, #[.slice (some ⟨lg, 0, none⟩) n cap]), (lg, 3, cur), (br, 4, #[.bool false]), (bt, 3, #[.int .i64 t]), (bz, 23, #[.int .i64 W, .int .i64 H])] [D2] w A) (fun Z cc pre A => False)
          (fun Z => Bq.owns (fun _ => rfl) HS.out.nlt HS.out.mlt HS.out.bl.size)
          (fun Z cc => fun s A A' row hs hg hr => hs.elim)
          (fun Z => ⟨Nat.le_refl _, HS.out⟩) (fun _ _ _ hs => trivial) ?a13 ?assign3 ?body3 ?done3 ?stop3
        case assign3 =>
          intro lq x A Kk hK
          gi_wp2
          exact hK
        case body3 =>
          rintro lq Z pre x A hZ0 hZ1 ⟨hA0, hQ⟩ ⟨hpl, hpx⟩
          have HQ := hid_mk hQ
          clear hQ
          have m_next := e_next
          have m_i := e_i
          have m_l := e_l
          have m_r := e_r
          have m_t := e_t
          have m_z := e_z
          clear x_next c_next f_next e_next x_i c_i f_i e_i x_l c_l f_l e_l x_r c_r f_r e_r x_t c_t f_t e_t x_z c_z d_z f_z e_z
          have HBK : Hid (BK w28.heap.size Z A A) := BK.refl _ _ _
          have hZc : Z ≤ A.heap.size := hZ1
          have hAc : w28.heap.size ≤ A.heap.size := hA0
          have x_next : Blk A b25 3 #[.int .i64 (lastI pre + 1)] := Bq.get HQ.out (i := 2) rfl
          have c_next := x_next.cell1
          have f_next := x_next.frozen 0
          have e_next := x_next.lt
          have x_i : Blk A bi 3 #[.int .i64 (n : Int)] := Bq.get HQ.out (i := 5) rfl
          have c_i := x_i.cell1
          have f_i := x_i.frozen 0
          have e_i := x_i.lt
          have x_l : Blk A bl 30 #[.slice (some ⟨lg, 0, none⟩) n cap] := Bq.get HQ.out (i := 6) rfl
          have c_l := x_l.cell1
          have f_l := x_l.frozen 0
          have e_l := x_l.lt
          have x_r : Blk A br 4 #[.bool false] := Bq.get HQ.out (i := 8) rfl
          have c_r := x_r.cell1
          have f_r := x_r.frozen 0
          have e_r := x_r.lt
          have x_t : Blk A bt 3 #[.int .i64 t] := Bq.get HQ.out (i := 9) rfl
          have c_t := x_t.cell1
          have f_t := x_t.frozen 0
          have e_t := x_t.lt
          have x_z : Blk A bz 23 #[.int .i64 W, .int .i64 H] := Bq.get HQ.out (i := 10) rfl
          obtain ⟨c_z, d_z⟩ := x_z.cells2
          have f_z := x_z.frozen 0
          have e_z := x_z.lt
          obtain ⟨q1, q2, q3⟩ := sorted_at HSR.out.1 HSR.out.2 (show pre ++ [x] <+: tbesL W H t from hpx)
          have hxm : x ∈ tbesL W H t := hpx.subset (by simp)
          obtain ⟨q4, q5⟩ := HLT.out x HT.out hxm
          have HNM : Hid (∀ k, lastI pre < k → k < x → k ∉ tbesL W H t) := q3
          have CXX := hid_mk (fun X => CB.out x X)
          rw [show decide (x ∈ tbesL W H t) = true from by simpa using hxm] at CXX
          have hsn := hid_mk (lastI_snoc pre x)
          generalize lastI pre = la at *
          have p1 : ¬ x < la + 1 := by omega
          clear q3 hxm hpx hpl
          gi_wp2_with fail
          gi_loopw [] (fun wr => ∃ k : Int, la + 1 ≤ k ∧ k ≤ x ∧ Hid (Bq [(C4, 3, #[.int .i64 t]), (B4, 23, #[.int .i64 W, .int .i64 H]), (b25, 3, #[.int .i64 k]), (C2, 3, #[.int .i64 t]), (B2, 23, #[.int .i64 W, .int .i64 H]), (bi, 3, #[.int .i64 (n : Int)]), (bl, 30, #[.slice (some ⟨lg, 0, none⟩) n cap]), (lg, 3, cur), (br, 4, #[.bool false]), (bt, 3, #[.int .i64 t]), (bz, 23, #[.int .i64 W, .int .i64 H])] [D2] w wr) ∧ Hid (BK w28.heap.size Z A wr) ∧ Z ≤ wr.heap.size ∧ w28.heap.size ≤ wr.heap.size) (fun wr => (x - nx b25 wr).toNat)
          case atStart => exact ⟨la + 1, by omega, by omega, HQ.out, HBK.out, hZc, hAc⟩
          case round =>
            clear x_next c_next f_next e_next x_i c_i f_i e_i x_l c_l f_l e_l x_r c_r f_r e_r x_t c_t f_t e_t x_z c_z d_z f_z e_z
            clear HBK hZc hAc
            clear HQ
            obtain ⟨k, h1, h2, HQ, HBK, hZc, hAc⟩ := hrel
            have x_next : Blk wr b25 3 #[.int .i64 k] := Bq.get HQ.out (i := 2) rfl
            have c_next := x_next.cell1
            have f_next := x_next.frozen 0
            have e_next := x_next.lt
            have x_i : Blk wr bi 3 #[.int .i64 (n : Int)] := Bq.get HQ.out (i := 5) rfl
            have c_i := x_i.cell1
            have f_i := x_i.frozen 0
            have e_i := x_i.lt
            have x_l : Blk wr bl 30 #[.slice (some ⟨lg, 0, none⟩) n cap] := Bq.get HQ.out (i := 6) rfl
            have c_l := x_l.cell1
            have f_l := x_l.frozen 0
            have e_l := x_l.lt
            have x_r : Blk wr br 4 #[.bool false] := Bq.get HQ.out (i := 8) rfl
            have c_r := x_r.cell1
            have f_r := x_r.frozen 0
            have e_r := x_r.lt
            have x_t : Blk wr bt 3 #[.int .i64 t] := Bq.get HQ.out (i := 9) rfl
            have c_t := x_t.cell1
            have f_t := x_t.frozen 0
            have e_t := x_t.lt
            have x_z : Blk wr bz 23 #[.int .i64 W, .int .i64 H] := Bq.get HQ.out (i := 10) rfl
            obtain ⟨c_z, d_z⟩ := x_z.cells2
            have f_z := x_z.frozen 0
            have e_z := x_z.lt
            by_cases hlt : k < x
            · have CK := hid_mk (fun X => CB.out k X)
              rw [show decide (k ∈ tbesL W H t) = false from by simpa using HNM.out k (by omega) hlt] at CK
              have hn1 := nx_of (Bq.get HQ.out (i := 2) rfl)
              gi_wp2_with fail
              refine ⟨trivial, ?_⟩
              refine (CallsIn.inRound lq (callsIn_wide.2 (CK.out _))).mono ?_
              rintro _ w29 ⟨rfl, hb⟩
              clear x_next c_next f_next e_next x_i c_i f_i e_i x_l c_l f_l e_l x_r c_r f_r e_r x_t c_t f_t e_t x_z c_z d_z f_z e_z
              replace HBK := hid_mk (HBK.out.trans (BK.of_below hb hZc))
              replace hZc := Nat.le_trans hZc hb.size
              replace hAc := Nat.le_trans hAc hb.size
              replace HQ := hid_mk (HQ.out.below hb)
              clear hb
              have x_next : Blk w29 b25 3 #[.int .i64 k] := Bq.get HQ.out (i := 2) rfl
              have c_next := x_next.cell1
              have f_next := x_next.frozen 0
              have e_next := x_next.lt
              have x_i : Blk w29 bi 3 #[.int .i64 (n : Int)] := Bq.get HQ.out (i := 5) rfl
              have c_i := x_i.cell1
              have f_i := x_i.frozen 0
              have e_i := x_i.lt
              have x_l : Blk w29 bl 30 #[.slice (some ⟨lg, 0, none⟩) n cap] := Bq.get HQ.out (i := 6) rfl
              have c_l := x_l.cell1
              have f_l := x_l.frozen 0
              have e_l := x_l.lt
              have x_r : Blk w29 br 4 #[.bool false] := Bq.get HQ.out (i := 8) rfl
              have c_r := x_r.cell1
              have f_r := x_r.frozen 0
              have e_r := x_r.lt
              have x_t : Blk w29 bt 3 #[.int .i64 t] := Bq.get HQ.out (i := 9) rfl
              have c_t := x_t.cell1
              have f_t := x_t.frozen 0
              have e_t := x_t.lt
              have x_z : Blk w29 bz 23 #[.int .i64 W, .int .i64 H] := Bq.get HQ.out (i := 10) rfl
              obtain ⟨c_z, d_z⟩ := x_z.cells2
              have f_z := x_z.frozen 0
              have e_z := x_z.lt
              have HE : Hid (Bq [(C4, 3, #[.int .i64 t]), (B4, 23, #[.int .i64 W, .int .i64 H]), (b25, 3, #[.int .i64 (k + 1)]), (C2, 3, #[.int .i64 t]), (B2, 23, #[.int .i64 W, .int .i64 H]), (bi, 3, #[.int .i64 (n : Int)]), (bl, 30, #[.slice (some ⟨lg, 0, none⟩) n cap]), (lg, 3, cur), (br, 4, #[.bool false]), (bt, 3, #[.int .i64 t]), (bz, 23, #[.int .i64 W, .int .i64 H])] [D2] w (w29.setCell ⟨b25, 0, none⟩ (.int .i64 (k + 1)))) := hid_mk (HQ.out.setAt (i := 2) rfl 0 _)
              have hn2 := nx_of (Bq.get HE.out (i := 2) rfl)
              gi_wp2
              go_roundw
              case rel => exact ⟨k + 1, by omega, by omega, HE.out, hid_mk ((HBK.out).trans (bk_set _ m_next)), by rw [size_set]; exact hZc, by rw [size_set]; exact hAc⟩
              case measure => rw [hn1, hn2]; omega
            obtain rfl : k = x := by omega
            gi_wp2_with fail
            refine ⟨trivial, ?_⟩
            refine (CallsIn.inRound lq (callsIn_wide.2 (CXX.out _))).mono ?_
            rintro _ w30 ⟨rfl, hb⟩
            clear x_next c_next f_next e_next x_i c_i f_i e_i x_l c_l f_l e_l x_r c_r f_r e_r x_t c_t f_t e_t x_z c_z d_z f_z e_z
            replace HBK := hid_mk (HBK.out.trans (BK.of_below hb hZc))
            replace hZc := Nat.le_trans hZc hb.size
            replace hAc := Nat.le_trans hAc hb.size
            replace HQ := hid_mk (HQ.out.below hb)
            clear hb
            have x_next : Blk w30 b25 3 #[.int .i64 k] := Bq.get HQ.out (i := 2) rfl
            have c_next := x_next.cell1
            have f_next := x_next.frozen 0
            have e_next := x_next.lt
            have x_i : Blk w30 bi 3 #[.int .i64 (n : Int)] := Bq.get HQ.out (i := 5) rfl
            have c_i := x_i.cell1
            have f_i := x_i.frozen 0
            have e_i := x_i.lt
            have x_l : Blk w30 bl 30 #[.slice (some ⟨lg, 0, none⟩) n cap] := Bq.get HQ.out (i := 6) rfl
            have c_l := x_l.cell1
            have f_l := x_l.frozen 0
            have e_l := x_l.lt
            have x_r : Blk w30 br 4 #[.bool false] := Bq.get HQ.out (i := 8) rfl
            have c_r := x_r.cell1
            have f_r := x_r.frozen 0
            have e_r := x_r.lt
            have x_t : Blk w30 bt 3 #[.int .i64 t] := Bq.get HQ.out (i := 9) rfl
            have c_t := x_t.cell1
            have f_t := x_t.frozen 0
            have e_t := x_t.lt
            have x_z : Blk w30 bz 23 #[.int .i64 W, .int .i64 H] := Bq.get HQ.out (i := 10) rfl
            obtain ⟨c_z, d_z⟩ := x_z.cells2
            have f_z := x_z.frozen 0
            have e_z := x_z.lt
            gi_wp2
            refine ⟨(HBK.out).trans (bk_set _ m_next), ?_, ?_⟩
            · rw [size_set]; exact hAc
            · rw [hsn.out]; exact (HQ.out).setAt (i := 2) rfl 0 _
        case stop3 =>
          intro D Z cc pre A hD hpre hs
          exact hs.elim
        case done3 =>
          rintro D3 Z ys A31 hD hys ⟨hA0, hQ⟩ hK
          obtain rfl := show ys = _ from hys
          have hse := sorted_end HSR.out.1 HSR.out.2
          replace HS := hid_mk (hQ.mark hK hD HS.out.mlt HS.out.bl.size)
          clear x_next c_next f_next e_next x_i c_i f_i e_i x_l c_l f_l e_l x_r c_r f_r e_r x_t c_t f_t e_t x_z c_z d_z f_z e_z
          clear hQ hK hD hA0 hys
          obtain ⟨r1, r2⟩ := hse
          rw [show nearL (tW W H) (tH W H) t = tbesL W H t from rfl] at r1 r2
          have hlm : lastI (tbesL W H t) < m := (lastI_mem (tbesL W H t)).elim (fun e => by omega) (fun e => (HLT.out _ HT.out e).2)
          have HNM : Hid (∀ k, lastI (tbesL W H t) < k → k ∉ tbesL W H t) := r2
          clear r2
          have x_next : Blk A31 b25 3 #[.int .i64 (lastI (tbesL W H t) + 1)] := Bq.get HS.out (i := 2) rfl
          have c_next := x_next.cell1
          have f_next := x_next.frozen 0
          have e_next := x_next.lt
          have x_i : Blk A31 bi 3 #[.int .i64 (n : Int)] := Bq.get HS.out (i := 5) rfl
          have c_i := x_i.cell1
          have f_i := x_i.frozen 0
          have e_i := x_i.lt
          have x_l : Blk A31 bl 30 #[.slice (some ⟨lg, 0, none⟩) n cap] := Bq.get HS.out (i := 6) rfl
          have c_l := x_l.cell1
          have f_l := x_l.frozen 0
          have e_l := x_l.lt
          have x_r : Blk A31 br 4 #[.bool false] := Bq.get HS.out (i := 8) rfl
          have c_r := x_r.cell1
          have f_r := x_r.frozen 0
          have e_r := x_r.lt
          have x_t : Blk A31 bt 3 #[.int .i64 t] := Bq.get HS.out (i := 9) rfl
          have c_t := x_t.cell1
          have f_t := x_t.frozen 0
          have e_t := x_t.lt
          have x_z : Blk A31 bz 23 #[.int .i64 W, .int .i64 H] := Bq.get HS.out (i := 10) rfl
          obtain ⟨c_z, d_z⟩ := x_z.cells2
          have f_z := x_z.frozen 0
          have e_z := x_z.lt
          gi_wp2_with fail
          gi_loopw [] (fun wr => ∃ k : Int, lastI (tbesL W H t) + 1 ≤ k ∧ k ≤ m ∧ Hid (Bq [(C4, 3, #[.int .i64 t]), (B4, 23, #[.int .i64 W, .int .i64 H]), (b25, 3, #[.int .i64 k]), (C2, 3, #[.int .i64 t]), (B2, 23, #[.int .i64 W, .int .i64 H]), (bi, 3, #[.int .i64 (n : Int)]), (bl, 30, #[.slice (some ⟨lg, 0, none⟩) n cap]), (lg, 3, cur), (br, 4, #[.bool false]), (bt, 3, #[.int .i64 t]), (bz, 23, #[.int .i64 W, .int .i64 H])] [D3, D2] w wr)) (fun wr => (m - nx b25 wr).toNat)
          case atStart => exact ⟨lastI (tbesL W H t) + 1, by omega, by omega, HS.out⟩
          case round =>
            clear x_next c_next f_next e_next x_i c_i f_i e_i x_l c_l f_l e_l x_r c_r f_r e_r x_t c_t f_t e_t x_z c_z d_z f_z e_z
            clear HS
            obtain ⟨k, h1, h2, HS⟩ := hrel
            have x_next : Blk wr b25 3 #[.int .i64 k] := Bq.get HS.out (i := 2) rfl
            have c_next := x_next.cell1
            have f_next := x_next.frozen 0
            have e_next := x_next.lt
            have x_i : Blk wr bi 3 #[.int .i64 (n : Int)] := Bq.get HS.out (i := 5) rfl
            have c_i := x_i.cell1
            have f_i := x_i.frozen 0
            have e_i := x_i.lt
            have x_l : Blk wr bl 30 #[.slice (some ⟨lg, 0, none⟩) n cap] := Bq.get HS.out (i := 6) rfl
            have c_l := x_l.cell1
            have f_l := x_l.frozen 0
            have e_l := x_l.lt
            have x_r : Blk wr br 4 #[.bool false] := Bq.get HS.out (i := 8) rfl
            have c_r := x_r.cell1
            have f_r := x_r.frozen 0
            have e_r := x_r.lt
            have x_t : Blk wr bt 3 #[.int .i64 t] := Bq.get HS.out (i := 9) rfl
            have c_t := x_t.cell1
            have f_t := x_t.frozen 0
            have e_t := x_t.lt
            have x_z : Blk wr bz 23 #[.int .i64 W, .int .i64 H] := Bq.get HS.out (i := 10) rfl
            obtain ⟨c_z, d_z⟩ := x_z.cells2
            have f_z := x_z.frozen 0
            have e_z := x_z.lt
            by_cases hlt : k < m
            · have CK := hid_mk (fun X => CB.out k X)
              rw [show decide (k ∈ tbesL W H t) = false from by simpa using HNM.out k (by omega)] at CK
              have hn1 := nx_of (Bq.get HS.out (i := 2) rfl)
              gi_wp2_with fail
              refine ⟨trivial, ?_⟩
              refine (callsIn_wide.2 (CK.out _)).mono ?_
              rintro _ w32 ⟨rfl, hb⟩
              clear x_next c_next f_next e_next x_i c_i f_i e_i x_l c_l f_l e_l x_r c_r f_r e_r x_t c_t f_t e_t x_z c_z d_z f_z e_z
              replace HS := hid_mk (HS.out.below hb)
              clear hb
              have x_next : Blk w32 b25 3 #[.int .i64 k] := Bq.get HS.out (i := 2) rfl
              have c_next := x_next.cell1
              have f_next := x_next.frozen 0
              have e_next := x_next.lt
              have x_i : Blk w32 bi 3 #[.int .i64 (n : Int)] := Bq.get HS.out (i := 5) rfl
              have c_i := x_i.cell1
              have f_i := x_i.frozen 0
              have e_i := x_i.lt
              have x_l : Blk w32 bl 30 #[.slice (some ⟨lg, 0, none⟩) n cap] := Bq.get HS.out (i := 6) rfl
              have c_l := x_l.cell1
              have f_l := x_l.frozen 0
              have e_l := x_l.lt
              have x_r : Blk w32 br 4 #[.bool false] := Bq.get HS.out (i := 8) rfl
              have c_r := x_r.cell1
              have f_r := x_r.frozen 0
              have e_r := x_r.lt
              have x_t : Blk w32 bt 3 #[.int .i64 t] := Bq.get HS.out (i := 9) rfl
              have c_t := x_t.cell1
              have f_t := x_t.frozen 0
              have e_t := x_t.lt
              have x_z : Blk w32 bz 23 #[.int .i64 W, .int .i64 H] := Bq.get HS.out (i := 10) rfl
              obtain ⟨c_z, d_z⟩ := x_z.cells2
              have f_z := x_z.frozen 0
              have e_z := x_z.lt
              have HE : Hid (Bq [(C4, 3, #[.int .i64 t]), (B4, 23, #[.int .i64 W, .int .i64 H]), (b25, 3, #[.int .i64 (k + 1)]), (C2, 3, #[.int .i64 t]), (B2, 23, #[.int .i64 W, .int .i64 H]), (bi, 3, #[.int .i64 (n : Int)]), (bl, 30, #[.slice (some ⟨lg, 0, none⟩) n cap]), (lg, 3, cur), (br, 4, #[.bool false]), (bt, 3, #[.int .i64 t]), (bz, 23, #[.int .i64 W, .int .i64 H])] [D3, D2] w (w32.setCell ⟨b25, 0, none⟩ (.int .i64 (k + 1)))) := hid_mk (HS.out.setAt (i := 2) rfl 0 _)
              have hn2 := nx_of (Bq.get HE.out (i := 2) rfl)
              gi_wp2
              go_roundw
              case rel => exact ⟨k + 1, by omega, by omega, HE.out⟩
              case measure => rw [hn1, hn2]; omega
            obtain rfl : k = m := by omega
            gi_wp2
            have HE0 : Bq [(C4, 3, #[.int .i64 t]), (B4, 23, #[.int .i64 W, .int .i64 H]), (b25, 3, #[.int .i64 k]), (C2, 3, #[.int .i64 t]), (B2, 23, #[.int .i64 W, .int .i64 H]), (bi, 3, #[.int .i64 (n : Int)]), (bl, 30, #[.slice (some ⟨lg, 0, none⟩) n cap]), (lg, 3, cur), (br, 4, #[.bool true]), (bt, 3, #[.int .i64 t]), (bz, 23, #[.int .i64 W, .int .i64 H])] [D3, D2] w (wr.setCell ⟨br, 0, none⟩ (.bool true)) := HS.out.setAt (i := 8) rfl 0 _
            have HE := hid_mk HE0
            show LeavesInM _ _ _ _ _ _ (marks [D3, D2]) _ _
            refine Bq.leave (by simp) HE.out fun W' hb1 hb2 => ⟨.bool true, ?_, rfl, hb2⟩
            have hc5 := (show Blk W' br 4 #[.bool true] from hb1 _ (List.mem_of_getElem? (i := 8) rfl)).cell1
            simp [results, Try.f3, go_sem, hc5]
  | true =>
    obtain ⟨e1, e2⟩ := hoo.1 rfl
    subst e2
    clear hoo
    have b2 : decide (0 ≤ ro) = true := by simpa using e1
    have b3 : max ro 0 = ro := by omega
    have b5 : (ro != ro) = false := by simp
    have gn := Grow.ne w8
    have G_z : ∀ g : Grow w8, g.w.cell? ⟨bz, 0, none⟩ = some _ := fun g => Grow.cell e_z c_z g
    have K_z : ∀ g : Grow w8, g.w.cell? ⟨bz, 1, none⟩ = some _ := fun g => Grow.cell e_z d_z g
    have G_t : ∀ g : Grow w8, g.w.cell? ⟨bt, 0, none⟩ = some _ := fun g => Grow.cell e_t c_t g
    gi_wp2_with fail
    refine wpIn_wide.2 ?_
    refine wp_region_grow (by kernel_rfl) (by kernel_rfl) ?_
    repeat (go_big_quiet_step (first | (go_at_call 13; exact grow_call (CT.out _)) | (go_at_call 14; exact grow_call (CD.out _)) | (go_at_call 15; exact grow_call (CRD.out _))))
    refine wpQuiet_nil ?_
    rintro w33 ⟨⟨_, hb⟩, rfl⟩
    clear G_z K_z G_t gn
    clear x_r c_r f_r e_r x_t c_t f_t e_t x_z c_z d_z f_z e_z
    replace HS := hid_mk (HS.out.below hb)
    clear hb
    have x_r : Blk w33 br 4 #[.bool false] := Bq.get HS.out (i := 0) rfl
    have c_r := x_r.cell1
    have f_r := x_r.frozen 0
    have e_r := x_r.lt
    have x_t : Blk w33 bt 3 #[.int .i64 t] := Bq.get HS.out (i := 1) rfl
    have c_t := x_t.cell1
    have f_t := x_t.frozen 0
    have e_t := x_t.lt
    have x_z : Blk w33 bz 23 #[.int .i64 W, .int .i64 H] := Bq.get HS.out (i := 2) rfl
    obtain ⟨c_z, d_z⟩ := x_z.cells2
    have f_z := x_z.frozen 0
    have e_z := x_z.lt
    cases ht : tileB W H t with
    | false =>
      have HCE := hid_mk (cells_none ht)
      obtain ⟨z1, z2, z3, z4⟩ := box_no ht
      rw [ht, z1, z2, z3, z4] at CX
      clear z1 z2 z3 z4
      gi_wp2_with fail
      refine ⟨trivial, ?_⟩
      refine (callsIn_wide.2 (CL.out _)).mono ?_
      rintro _ w34 ⟨v, rfl, ho, hb⟩
      rw [HCE.out] at ho
      obtain ⟨ao, cap, rfl⟩ := ho.1.form
      clear ho
      clear x_r c_r f_r e_r x_t c_t f_t e_t x_z c_z d_z f_z e_z
      replace HS := hid_mk (HS.out.below hb)
      clear hb
      have x_r : Blk w34 br 4 #[.bool false] := Bq.get HS.out (i := 0) rfl
      have c_r := x_r.cell1
      have f_r := x_r.frozen 0
      have e_r := x_r.lt
      have x_t : Blk w34 bt 3 #[.int .i64 t] := Bq.get HS.out (i := 1) rfl
      have c_t := x_t.cell1
      have f_t := x_t.frozen 0
      have e_t := x_t.lt
      have x_z : Blk w34 bz 23 #[.int .i64 W, .int .i64 H] := Bq.get HS.out (i := 2) rfl
      obtain ⟨c_z, d_z⟩ := x_z.cells2
      have f_z := x_z.frozen 0
      have e_z := x_z.lt
      obtain ⟨w35, hw35⟩ : ∃ w35, w35 = w34.alloc (.cells #[.slice ao 0 cap] 30) := ⟨_, rfl⟩
      obtain ⟨bl, hbl⟩ : ∃ bl, bl = w34.heap.size := ⟨_, rfl⟩
      have l_br_bl : br < bl := by rw [hbl]; exact HS.out.ltAt (i := 0) rfl
      have l_bt_bl : bt < bl := by rw [hbl]; exact HS.out.ltAt (i := 1) rfl
      have l_bz_bl : bz < bl := by rw [hbl]; exact HS.out.ltAt (i := 2) rfl
      have Hw35 : Hid (Bq [(bl, 30, #[.slice ao 0 cap]), (br, 4, #[.bool false]), (bt, 3, #[.int .i64 t]), (bz, 23, #[.int .i64 W, .int .i64 H])] [] w w35) := by show Bq _ _ _ _; rw [hw35, hbl]; exact HS.out.alloc _ _
      obtain ⟨w36, hw36⟩ : ∃ w36, w36 = w35.alloc (.cells #[.int .i64 0] 3) := ⟨_, rfl⟩
      obtain ⟨bi, hbi⟩ : ∃ bi, bi = w35.heap.size := ⟨_, rfl⟩
      have l_bl_bi : bl < bi := by rw [hbi]; exact Hw35.out.ltAt (i := 0) rfl
      have l_br_bi : br < bi := by rw [hbi]; exact Hw35.out.ltAt (i := 1) rfl
      have l_bt_bi : bt < bi := by rw [hbi]; exact Hw35.out.ltAt (i := 2) rfl
      have l_bz_bi : bz < bi := by rw [hbi]; exact Hw35.out.ltAt (i := 3) rfl
      have kbi : bl + 1 = bi := by rw [hbi, hw35, hbl]; simp
      have Hw36 : Hid (Bq [(bi, 3, #[.int .i64 0]), (bl, 30, #[.slice ao 0 cap]), (br, 4, #[.bool false]), (bt, 3, #[.int .i64 t]), (bz, 23, #[.int .i64 W, .int .i64 H])] [] w w36) := by show Bq _ _ _ _; rw [hw36, hbi]; exact Hw35.out.alloc _ _
      gi_wp2_with fail
      try simp only [← hbl, ← hw35, kbi, ← hw36]
      clear kbi hw35 hw36
      clear hbl hbi
      clear x_r c_r f_r e_r x_t c_t f_t e_t x_z c_z d_z f_z e_z
      replace HS := Hw36
      clear Hw35 Hw36
      refine ⟨trivial, ?_⟩
      refine (callsIn_wide.2 (cells_ab W H t _)).mono ?_
      rintro _ w37 ⟨B1, C1, rfl, hbx, hB, hC, hb⟩
      have hnf := cellsF_nil B1 C1
      replace HS := hid_mk (HS.out.below hb)
      clear hbx hB hC hb
      have x_i : Blk w37 bi 3 #[.int .i64 0] := Bq.get HS.out (i := 0) rfl
      have c_i := x_i.cell1
      have f_i := x_i.frozen 0
      have e_i := x_i.lt
      have x_l : Blk w37 bl 30 #[.slice ao 0 cap] := Bq.get HS.out (i := 1) rfl
      have c_l := x_l.cell1
      have f_l := x_l.frozen 0
      have e_l := x_l.lt
      have x_r : Blk w37 br 4 #[.bool false] := Bq.get HS.out (i := 2) rfl
      have c_r := x_r.cell1
      have f_r := x_r.frozen 0
      have e_r := x_r.lt
      have x_t : Blk w37 bt 3 #[.int .i64 t] := Bq.get HS.out (i := 3) rfl
      have c_t := x_t.cell1
      have f_t := x_t.frozen 0
      have e_t := x_t.lt
      have x_z : Blk w37 bz 23 #[.int .i64 W, .int .i64 H] := Bq.get HS.out (i := 4) rfl
      obtain ⟨c_z, d_z⟩ := x_z.cells2
      have f_z := x_z.frozen 0
      have e_z := x_z.lt
      gi_wp2_with fail
      refine ⟨trivial, ?_⟩
      refine (callsIn_wide.2 (cells_ab W H t _)).mono ?_
      rintro _ w38 ⟨B2, C2, rfl, hbx, hB, hC, hb⟩
      clear x_i c_i f_i e_i x_l c_l f_l e_l x_r c_r f_r e_r x_t c_t f_t e_t x_z c_z d_z f_z e_z
      replace HS := hid_mk (HS.out.take2 hb hbx.1 hB hbx.2 hC (bx2_ne hbx))
      clear hbx hB hC hb
      have x_i : Blk w38 bi 3 #[.int .i64 0] := Bq.get HS.out (i := 2) rfl
      have c_i := x_i.cell1
      have f_i := x_i.frozen 0
      have e_i := x_i.lt
      have x_l : Blk w38 bl 30 #[.slice ao 0 cap] := Bq.get HS.out (i := 3) rfl
      have c_l := x_l.cell1
      have f_l := x_l.frozen 0
      have e_l := x_l.lt
      have x_r : Blk w38 br 4 #[.bool false] := Bq.get HS.out (i := 4) rfl
      have c_r := x_r.cell1
      have f_r := x_r.frozen 0
      have e_r := x_r.lt
      have x_t : Blk w38 bt 3 #[.int .i64 t] := Bq.get HS.out (i := 5) rfl
      have c_t := x_t.cell1
      have f_t := x_t.frozen 0
      have e_t := x_t.lt
      have x_z : Blk w38 bz 23 #[.int .i64 W, .int .i64 H] := Bq.get HS.out (i := 6) rfl
      obtain ⟨c_z, d_z⟩ := x_z.cells2
      have f_z := x_z.frozen 0
      have e_z := x_z.lt
      clear hnf
      gi_wp2_with fail
      refine range_ownZ rfl (by omega) (gf := 31) (lb := #[.pointer (some ⟨B2, 0, none⟩), .pointer (some ⟨C2, 0, none⟩)]) rfl trivial (enters_of Try.func31 (by kernel_rfl) rfl) (cells1_z _ (by omega) _ _ W H t _ ⟨Bq.get HS.out (i := 1) rfl, Bq.get HS.out (i := 0) rfl⟩) (Below.refl _ _) (fun _ => rfl)
        (fun Z pre A => w38.heap.size ≤ A.heap.size ∧ Bq [(C2, 3, #[.int .i64 t]), (B2, 23, #[.int .i64 W, .int .i64 H]), (bi, 3, #[.int .i64 (lenI pre)]), (bl, 30, #[.slice ao 0 cap]), (br, 4, #[.bool false]), (bt, 3, #[.int .i64 t]), (bz, 23, #[.int .i64 W, .int .i64 H])] [] w A) (fun Z cc pre A => False)
        (fun Z => Bq.owns (fun _ => rfl) HS.out.nlt HS.out.mlt HS.out.bl.size)
        (fun Z cc => fun s A A' row hs hg hr => hs.elim)
        (fun Z => ⟨Nat.le_refl _, HS.out⟩) (fun _ _ _ hs => ⟨Bq.get hs.2 (i := 1) rfl, Bq.get hs.2 (i := 0) rfl⟩) ?a14 ?assign4 ?body4 ?done4 ?stop4
      case assign4 =>
        intro lq x A Kk hK
        gi_wp2
        exact hK
      case body4 =>
        intro lq Z pre x A hZ0 hZ1 hI hp
        have h := show pre ++ [x] <+: cellsL W H t from hp.2
        rw [HCE.out] at h
        simp at h
      case stop4 =>
        intro D Z cc pre A hD hpre hs
        exact hs.elim
      case done4 =>
        rintro D4 Z ys A39 hD hys ⟨hA0, hQ⟩ hK
        obtain rfl := show ys = _ from hys
        rw [HCE.out] at hQ
        replace HS := hid_mk (hQ.mark hK hD HS.out.mlt HS.out.bl.size)
        clear x_i c_i f_i e_i x_l c_l f_l e_l x_r c_r f_r e_r x_t c_t f_t e_t x_z c_z d_z f_z e_z
        clear hQ hK hD hA0 hys
        replace HS : Hid (Bq [(C2, 3, #[.int .i64 t]), (B2, 23, #[.int .i64 W, .int .i64 H]), (bi, 3, #[.int .i64 0]), (bl, 30, #[.slice ao 0 cap]), (br, 4, #[.bool false]), (bt, 3, #[.int .i64 t]), (bz, 23, #[.int .i64 W, .int .i64 H])] [D4] w A39) := HS
        have x_i : Blk A39 bi 3 #[.int .i64 0] := Bq.get HS.out (i := 2) rfl
        have c_i := x_i.cell1
        have f_i := x_i.frozen 0
        have e_i := x_i.lt
        have x_l : Blk A39 bl 30 #[.slice ao 0 cap] := Bq.get HS.out (i := 3) rfl
        have c_l := x_l.cell1
        have f_l := x_l.frozen 0
        have e_l := x_l.lt
        have x_r : Blk A39 br 4 #[.bool false] := Bq.get HS.out (i := 4) rfl
        have c_r := x_r.cell1
        have f_r := x_r.frozen 0
        have e_r := x_r.lt
        have x_t : Blk A39 bt 3 #[.int .i64 t] := Bq.get HS.out (i := 5) rfl
        have c_t := x_t.cell1
        have f_t := x_t.frozen 0
        have e_t := x_t.lt
        have x_z : Blk A39 bz 23 #[.int .i64 W, .int .i64 H] := Bq.get HS.out (i := 6) rfl
        obtain ⟨c_z, d_z⟩ := x_z.cells2
        have f_z := x_z.frozen 0
        have e_z := x_z.lt
        gi_wp2_with fail
        refine ⟨trivial, ?_⟩
        refine (callsIn_wide.2 (CX.out _)).mono ?_
        rintro _ w40 ⟨rfl, hb⟩
        clear x_i c_i f_i e_i x_l c_l f_l e_l x_r c_r f_r e_r x_t c_t f_t e_t x_z c_z d_z f_z e_z
        replace HS := hid_mk (HS.out.below hb)
        clear hb
        have x_i : Blk w40 bi 3 #[.int .i64 0] := Bq.get HS.out (i := 2) rfl
        have c_i := x_i.cell1
        have f_i := x_i.frozen 0
        have e_i := x_i.lt
        have x_l : Blk w40 bl 30 #[.slice ao 0 cap] := Bq.get HS.out (i := 3) rfl
        have c_l := x_l.cell1
        have f_l := x_l.frozen 0
        have e_l := x_l.lt
        have x_r : Blk w40 br 4 #[.bool false] := Bq.get HS.out (i := 4) rfl
        have c_r := x_r.cell1
        have f_r := x_r.frozen 0
        have e_r := x_r.lt
        have x_t : Blk w40 bt 3 #[.int .i64 t] := Bq.get HS.out (i := 5) rfl
        have c_t := x_t.cell1
        have f_t := x_t.frozen 0
        have e_t := x_t.lt
        have x_z : Blk w40 bz 23 #[.int .i64 W, .int .i64 H] := Bq.get HS.out (i := 6) rfl
        obtain ⟨c_z, d_z⟩ := x_z.cells2
        have f_z := x_z.frozen 0
        have e_z := x_z.lt
        gi_wp2
        have HE0 : Bq [(C2, 3, #[.int .i64 t]), (B2, 23, #[.int .i64 W, .int .i64 H]), (bi, 3, #[.int .i64 0]), (bl, 30, #[.slice ao 0 cap]), (br, 4, #[.bool true]), (bt, 3, #[.int .i64 t]), (bz, 23, #[.int .i64 W, .int .i64 H])] [D4] w (w40.setCell ⟨br, 0, none⟩ (.bool true)) := HS.out.setAt (i := 4) rfl 0 _
        have HE := hid_mk HE0
        show LeavesInM _ _ _ _ _ _ (marks [D4]) _ _
        refine Bq.leave (by simp) HE.out fun W' hb1 hb2 => ⟨.bool true, ?_, rfl, hb2⟩
        have hc5 := (show Blk W' br 4 #[.bool true] from hb1 _ (List.mem_of_getElem? (i := 4) rfl)).cell1
        simp [results, Try.f3, go_sem, hc5]
    | true =>
      obtain ⟨f, l, hf, hl, hif, hil, e1, e2, e3, e4⟩ := corners ht
      obtain ⟨k1, k2, k3, k4, k5, k6, k7, k8, k9, k10, k11, k12, -⟩ := box_bd ht
      have CF := hid_mk (fun X => rat_yes W H f X hif)
      have CE := hid_mk (fun X => rat_yes W H l X hil)
      rw [e1, e2] at CF
      rw [e3, e4] at CE
      rw [ht] at CX
      clear hif hil e1 e2 e3 e4
      generalize bxN W H t = x0 at *
      generalize byN W H t = y0 at *
      generalize bwN W H t = wd at *
      generalize bhN W H t = hg at *
      obtain ⟨n, hn'⟩ : ∃ n, (cellsL W H t).length = n := ⟨_, rfl⟩
      have hnp : 0 < n := by have := List.getElem?_eq_some_iff.1 hf; obtain ⟨q, _⟩ := this; omega
      have hl64 := cells_len64 W H t
      rw [hn'] at hl hl64
      have HLN : Hid (lenI (cellsL W H t) = (n : Int)) := by show _ = _; unfold lenI; rw [hn']
      have HT := hid_mk ht
      have HF := hid_mk hf
      have HL := hid_mk hl
      have HNL := hid_mk hn'
      clear hf hl hn' ht
      gi_wp2_with fail
      refine ⟨trivial, ?_⟩
      refine (callsIn_wide.2 (CL.out _)).mono ?_
      rintro _ w41 ⟨v, rfl, ho, hb⟩
      clear x_r c_r f_r e_r x_t c_t f_t e_t x_z c_z d_z f_z e_z
      rw [OwnL, HNL.out] at ho
      obtain ⟨lg, cap, cur, rfl, hkb, hcur⟩ := row_blk ho.1 (by omega)
      have hgl := ho.2 lg rfl
      replace HS := hid_mk (HS.out.take hb hkb hgl)
      have HCU := hid_mk hcur
      clear hb hkb hgl ho hcur
      have x_r : Blk w41 br 4 #[.bool false] := Bq.get HS.out (i := 1) rfl
      have c_r := x_r.cell1
      have f_r := x_r.frozen 0
      have e_r := x_r.lt
      have x_t : Blk w41 bt 3 #[.int .i64 t] := Bq.get HS.out (i := 2) rfl
      have c_t := x_t.cell1
      have f_t := x_t.frozen 0
      have e_t := x_t.lt
      have x_z : Blk w41 bz 23 #[.int .i64 W, .int .i64 H] := Bq.get HS.out (i := 3) rfl
      obtain ⟨c_z, d_z⟩ := x_z.cells2
      have f_z := x_z.frozen 0
      have e_z := x_z.lt
      obtain ⟨w42, hw42⟩ : ∃ w42, w42 = w41.alloc (.cells #[.slice (some ⟨lg, 0, none⟩) n cap] 30) := ⟨_, rfl⟩
      obtain ⟨bl, hbl⟩ : ∃ bl, bl = w41.heap.size := ⟨_, rfl⟩
      have l_lg_bl : lg < bl := by rw [hbl]; exact HS.out.ltAt (i := 0) rfl
      have l_br_bl : br < bl := by rw [hbl]; exact HS.out.ltAt (i := 1) rfl
      have l_bt_bl : bt < bl := by rw [hbl]; exact HS.out.ltAt (i := 2) rfl
      have l_bz_bl : bz < bl := by rw [hbl]; exact HS.out.ltAt (i := 3) rfl
      have Hw42 : Hid (Bq [(bl, 30, #[.slice (some ⟨lg, 0, none⟩) n cap]), (lg, 3, cur), (br, 4, #[.bool false]), (bt, 3, #[.int .i64 t]), (bz, 23, #[.int .i64 W, .int .i64 H])] [] w w42) := by show Bq _ _ _ _; rw [hw42, hbl]; exact HS.out.alloc _ _
      obtain ⟨w43, hw43⟩ : ∃ w43, w43 = w42.alloc (.cells #[.int .i64 0] 3) := ⟨_, rfl⟩
      obtain ⟨bi, hbi⟩ : ∃ bi, bi = w42.heap.size := ⟨_, rfl⟩
      have l_bl_bi : bl < bi := by rw [hbi]; exact Hw42.out.ltAt (i := 0) rfl
      have l_lg_bi : lg < bi := by rw [hbi]; exact Hw42.out.ltAt (i := 1) rfl
      have l_br_bi : br < bi := by rw [hbi]; exact Hw42.out.ltAt (i := 2) rfl
      have l_bt_bi : bt < bi := by rw [hbi]; exact Hw42.out.ltAt (i := 3) rfl
      have l_bz_bi : bz < bi := by rw [hbi]; exact Hw42.out.ltAt (i := 4) rfl
      have kbi : bl + 1 = bi := by rw [hbi, hw42, hbl]; simp
      have Hw43 : Hid (Bq [(bi, 3, #[.int .i64 0]), (bl, 30, #[.slice (some ⟨lg, 0, none⟩) n cap]), (lg, 3, cur), (br, 4, #[.bool false]), (bt, 3, #[.int .i64 t]), (bz, 23, #[.int .i64 W, .int .i64 H])] [] w w43) := by show Bq _ _ _ _; rw [hw43, hbi]; exact Hw42.out.alloc _ _
      gi_wp2_with fail
      try simp only [← hbl, ← hw42, kbi, ← hw43]
      clear kbi hw42 hw43
      clear hbl hbi
      clear x_r c_r f_r e_r x_t c_t f_t e_t x_z c_z d_z f_z e_z
      replace HS := Hw43
      clear Hw42 Hw43
      refine ⟨trivial, ?_⟩
      refine (callsIn_wide.2 (cells_ab W H t _)).mono ?_
      rintro _ w44 ⟨B1, C1, rfl, hbx, hB, hC, hb⟩
      have hnf := cellsF_nil B1 C1
      replace HS := hid_mk (HS.out.below hb)
      clear hbx hB hC hb
      have x_i : Blk w44 bi 3 #[.int .i64 0] := Bq.get HS.out (i := 0) rfl
      have c_i := x_i.cell1
      have f_i := x_i.frozen 0
      have e_i := x_i.lt
      have x_l : Blk w44 bl 30 #[.slice (some ⟨lg, 0, none⟩) n cap] := Bq.get HS.out (i := 1) rfl
      have c_l := x_l.cell1
      have f_l := x_l.frozen 0
      have e_l := x_l.lt
      have x_r : Blk w44 br 4 #[.bool false] := Bq.get HS.out (i := 3) rfl
      have c_r := x_r.cell1
      have f_r := x_r.frozen 0
      have e_r := x_r.lt
      have x_t : Blk w44 bt 3 #[.int .i64 t] := Bq.get HS.out (i := 4) rfl
      have c_t := x_t.cell1
      have f_t := x_t.frozen 0
      have e_t := x_t.lt
      have x_z : Blk w44 bz 23 #[.int .i64 W, .int .i64 H] := Bq.get HS.out (i := 5) rfl
      obtain ⟨c_z, d_z⟩ := x_z.cells2
      have f_z := x_z.frozen 0
      have e_z := x_z.lt
      gi_wp2_with fail
      refine ⟨trivial, ?_⟩
      refine (callsIn_wide.2 (cells_ab W H t _)).mono ?_
      rintro _ w45 ⟨B2, C2, rfl, hbx, hB, hC, hb⟩
      clear x_i c_i f_i e_i x_l c_l f_l e_l x_r c_r f_r e_r x_t c_t f_t e_t x_z c_z d_z f_z e_z
      replace HS := hid_mk (HS.out.take2 hb hbx.1 hB hbx.2 hC (bx2_ne hbx))
      clear hbx hB hC hb
      have x_i : Blk w45 bi 3 #[.int .i64 0] := Bq.get HS.out (i := 2) rfl
      have c_i := x_i.cell1
      have f_i := x_i.frozen 0
      have e_i := x_i.lt
      have x_l : Blk w45 bl 30 #[.slice (some ⟨lg, 0, none⟩) n cap] := Bq.get HS.out (i := 3) rfl
      have c_l := x_l.cell1
      have f_l := x_l.frozen 0
      have e_l := x_l.lt
      have x_r : Blk w45 br 4 #[.bool false] := Bq.get HS.out (i := 5) rfl
      have c_r := x_r.cell1
      have f_r := x_r.frozen 0
      have e_r := x_r.lt
      have x_t : Blk w45 bt 3 #[.int .i64 t] := Bq.get HS.out (i := 6) rfl
      have c_t := x_t.cell1
      have f_t := x_t.frozen 0
      have e_t := x_t.lt
      have x_z : Blk w45 bz 23 #[.int .i64 W, .int .i64 H] := Bq.get HS.out (i := 7) rfl
      obtain ⟨c_z, d_z⟩ := x_z.cells2
      have f_z := x_z.frozen 0
      have e_z := x_z.lt
      clear hnf
      gi_wp2_with fail
      refine range_ownZ rfl (by omega) (gf := 31) (lb := #[.pointer (some ⟨B2, 0, none⟩), .pointer (some ⟨C2, 0, none⟩)]) rfl trivial (enters_of Try.func31 (by kernel_rfl) rfl) (cells1_z _ (by omega) _ _ W H t _ ⟨Bq.get HS.out (i := 1) rfl, Bq.get HS.out (i := 0) rfl⟩) (Below.refl _ _) (fun _ => rfl)
        (fun Z pre A => w45.heap.size ≤ A.heap.size ∧ Bq [(C2, 3, #[.int .i64 t]), (B2, 23, #[.int .i64 W, .int .i64 H]), (bi, 3, #[.int .i64 (lenI pre)]), (bl, 30, #[.slice (some ⟨lg, 0, none⟩) n cap]), (lg, 3, cur), (br, 4, #[.bool false]), (bt, 3, #[.int .i64 t]), (bz, 23, #[.int .i64 W, .int .i64 H])] [] w A) (fun Z cc pre A => False)
        (fun Z => Bq.owns (fun _ => rfl) HS.out.nlt HS.out.mlt HS.out.bl.size)
        (fun Z cc => fun s A A' row hs hg hr => hs.elim)
        (fun Z => ⟨Nat.le_refl _, HS.out⟩) (fun _ _ _ hs => ⟨Bq.get hs.2 (i := 1) rfl, Bq.get hs.2 (i := 0) rfl⟩) ?a15 ?assign5 ?body5 ?done5 ?stop5
      case assign5 =>
        intro lq x A Kk hK
        gi_wp2
        exact hK
      case body5 =>
        rintro lq Z pre x A hZ0 hZ1 ⟨hA0, hQ⟩ ⟨hpl, hpx⟩
        have HQ := hid_mk hQ
        clear hQ
        have m_i := e_i
        have m_l := e_l
        have m_r := e_r
        have m_t := e_t
        have m_z := e_z
        clear x_i c_i f_i e_i x_l c_l f_l e_l x_r c_r f_r e_r x_t c_t f_t e_t x_z c_z d_z f_z e_z
        have HBK : Hid (BK w45.heap.size Z A A) := BK.refl _ _ _
        have hZc : Z ≤ A.heap.size := hZ1
        have hAc : w45.heap.size ≤ A.heap.size := hA0
        have x_i : Blk A bi 3 #[.int .i64 (lenI pre)] := Bq.get HQ.out (i := 2) rfl
        have c_i := x_i.cell1
        have f_i := x_i.frozen 0
        have e_i := x_i.lt
        have x_l : Blk A bl 30 #[.slice (some ⟨lg, 0, none⟩) n cap] := Bq.get HQ.out (i := 3) rfl
        have c_l := x_l.cell1
        have f_l := x_l.frozen 0
        have e_l := x_l.lt
        have x_r : Blk A br 4 #[.bool false] := Bq.get HQ.out (i := 5) rfl
        have c_r := x_r.cell1
        have f_r := x_r.frozen 0
        have e_r := x_r.lt
        have x_t : Blk A bt 3 #[.int .i64 t] := Bq.get HQ.out (i := 6) rfl
        have c_t := x_t.cell1
        have f_t := x_t.frozen 0
        have e_t := x_t.lt
        have x_z : Blk A bz 23 #[.int .i64 W, .int .i64 H] := Bq.get HQ.out (i := 7) rfl
        obtain ⟨c_z, d_z⟩ := x_z.cells2
        have f_z := x_z.frozen 0
        have e_z := x_z.lt
        obtain ⟨a1, a2⟩ := at_part (show pre ++ [x] <+: cellsL W H t from hpx)
        rw [HNL.out] at a1
        have x_g : Blk A lg 3 cur := Bq.get HQ.out (i := 4) rfl
        have c_g := x_g.at (HCU.out _ _ a2)
        have f_g := x_g.frozen pre.length
        have e_g := x_g.lt
        obtain ⟨k, hk⟩ : ∃ k, k = pre.length := ⟨_, rfl⟩
        have hle : lenI pre = (k : Int) := by unfold lenI; rw [hk]
        have hln := hid_mk (lenI_snoc pre x)
        rw [hle] at hln HQ x_i c_i
        rw [← hk] at a1 c_g f_g
        have p1 : (k : Int) < (n : Int) := by omega
        have p2 : ¬ (n : Int) ≤ (k : Int) := by omega
        clear a2 hpx hpl hk hle
        gi_wp2
        refine ⟨(HBK.out).trans (bk_set _ m_i), ?_, ?_⟩
        · rw [size_set]; exact hAc
        · rw [hln.out]; exact (HQ.out).setAt (i := 2) rfl 0 _
      case stop5 =>
        intro D Z cc pre A hD hpre hs
        exact hs.elim
      case done5 =>
        rintro D5 Z ys A46 hD hys ⟨hA0, hQ⟩ hK
        obtain rfl := show ys = _ from hys
        rw [HLN.out] at hQ
        replace HS := hid_mk (hQ.mark hK hD HS.out.mlt HS.out.bl.size)
        clear x_i c_i f_i e_i x_l c_l f_l e_l x_r c_r f_r e_r x_t c_t f_t e_t x_z c_z d_z f_z e_z
        clear hQ hK hD hA0 hys
        have x_i : Blk A46 bi 3 #[.int .i64 (n : Int)] := Bq.get HS.out (i := 2) rfl
        have c_i := x_i.cell1
        have f_i := x_i.frozen 0
        have e_i := x_i.lt
        have x_l : Blk A46 bl 30 #[.slice (some ⟨lg, 0, none⟩) n cap] := Bq.get HS.out (i := 3) rfl
        have c_l := x_l.cell1
        have f_l := x_l.frozen 0
        have e_l := x_l.lt
        have x_r : Blk A46 br 4 #[.bool false] := Bq.get HS.out (i := 5) rfl
        have c_r := x_r.cell1
        have f_r := x_r.frozen 0
        have e_r := x_r.lt
        have x_t : Blk A46 bt 3 #[.int .i64 t] := Bq.get HS.out (i := 6) rfl
        have c_t := x_t.cell1
        have f_t := x_t.frozen 0
        have e_t := x_t.lt
        have x_z : Blk A46 bz 23 #[.int .i64 W, .int .i64 H] := Bq.get HS.out (i := 7) rfl
        obtain ⟨c_z, d_z⟩ := x_z.cells2
        have f_z := x_z.frozen 0
        have e_z := x_z.lt
        gi_wp2_with fail
        refine ⟨trivial, ?_⟩
        refine (callsIn_wide.2 (CX.out _)).mono ?_
        rintro _ w47 ⟨rfl, hb⟩
        clear x_i c_i f_i e_i x_l c_l f_l e_l x_r c_r f_r e_r x_t c_t f_t e_t x_z c_z d_z f_z e_z
        replace HS := hid_mk (HS.out.below hb)
        clear hb
        have x_i : Blk w47 bi 3 #[.int .i64 (n : Int)] := Bq.get HS.out (i := 2) rfl
        have c_i := x_i.cell1
        have f_i := x_i.frozen 0
        have e_i := x_i.lt
        have x_l : Blk w47 bl 30 #[.slice (some ⟨lg, 0, none⟩) n cap] := Bq.get HS.out (i := 3) rfl
        have c_l := x_l.cell1
        have f_l := x_l.frozen 0
        have e_l := x_l.lt
        have x_r : Blk w47 br 4 #[.bool false] := Bq.get HS.out (i := 5) rfl
        have c_r := x_r.cell1
        have f_r := x_r.frozen 0
        have e_r := x_r.lt
        have x_t : Blk w47 bt 3 #[.int .i64 t] := Bq.get HS.out (i := 6) rfl
        have c_t := x_t.cell1
        have f_t := x_t.frozen 0
        have e_t := x_t.lt
        have x_z : Blk w47 bz 23 #[.int .i64 W, .int .i64 H] := Bq.get HS.out (i := 7) rfl
        obtain ⟨c_z, d_z⟩ := x_z.cells2
        have f_z := x_z.frozen 0
        have e_z := x_z.lt
        have n0 : 0 < (n : Int) := by omega
        have x_g : Blk w47 lg 3 cur := Bq.get HS.out (i := 4) rfl
        have c_g := x_g.at (HCU.out _ _ HF.out)
        have e_g := x_g.lt
        have G_g0 := fun g' : Grow w47 => Grow.cell e_g c_g g'
        clear x_g c_g e_g
        have gn := Grow.ne w47
        have G_z : ∀ g : Grow w47, g.w.cell? ⟨bz, 0, none⟩ = some _ := fun g => Grow.cell e_z c_z g
        have K_z : ∀ g : Grow w47, g.w.cell? ⟨bz, 1, none⟩ = some _ := fun g => Grow.cell e_z d_z g
        have G_l : ∀ g : Grow w47, g.w.cell? ⟨bl, 0, none⟩ = some _ := fun g => Grow.cell e_l c_l g
        gi_wp2_with fail
        refine wpIn_wide.2 ?_
        refine wp_region_grow (by kernel_rfl) (by kernel_rfl) ?_
        repeat (go_big_quiet_step (first | (go_at_call 19; exact grow_call (CF.out _))))
        refine wpQuiet_nil ?_
        rintro w48 ⟨⟨_, hb⟩, rfl⟩
        clear G_z K_z G_l gn G_g0
        clear x_i c_i f_i e_i x_l c_l f_l e_l x_r c_r f_r e_r x_t c_t f_t e_t x_z c_z d_z f_z e_z
        replace HS := hid_mk (HS.out.below hb)
        clear hb
        have x_i : Blk w48 bi 3 #[.int .i64 (n : Int)] := Bq.get HS.out (i := 2) rfl
        have c_i := x_i.cell1
        have f_i := x_i.frozen 0
        have e_i := x_i.lt
        have x_l : Blk w48 bl 30 #[.slice (some ⟨lg, 0, none⟩) n cap] := Bq.get HS.out (i := 3) rfl
        have c_l := x_l.cell1
        have f_l := x_l.frozen 0
        have e_l := x_l.lt
        have x_r : Blk w48 br 4 #[.bool false] := Bq.get HS.out (i := 5) rfl
        have c_r := x_r.cell1
        have f_r := x_r.frozen 0
        have e_r := x_r.lt
        have x_t : Blk w48 bt 3 #[.int .i64 t] := Bq.get HS.out (i := 6) rfl
        have c_t := x_t.cell1
        have f_t := x_t.frozen 0
        have e_t := x_t.lt
        have x_z : Blk w48 bz 23 #[.int .i64 W, .int .i64 H] := Bq.get HS.out (i := 7) rfl
        obtain ⟨c_z, d_z⟩ := x_z.cells2
        have f_z := x_z.frozen 0
        have e_z := x_z.lt
        have x_g : Blk w48 lg 3 cur := Bq.get HS.out (i := 4) rfl
        have c_g := x_g.at (HCU.out _ _ HL.out)
        have e_g := x_g.lt
        have G_g0 := fun g' : Grow w48 => Grow.cell e_g c_g g'
        clear x_g c_g e_g
        have n1 : (n : Int) - 1 < (n : Int) := by omega
        have n2 : 0 ≤ (n : Int) - 1 := by omega
        have n3 : ((n : Int) - 1).toNat = n - 1 := by omega
        have gn := Grow.ne w48
        have G_z : ∀ g : Grow w48, g.w.cell? ⟨bz, 0, none⟩ = some _ := fun g => Grow.cell e_z c_z g
        have K_z : ∀ g : Grow w48, g.w.cell? ⟨bz, 1, none⟩ = some _ := fun g => Grow.cell e_z d_z g
        have G_l : ∀ g : Grow w48, g.w.cell? ⟨bl, 0, none⟩ = some _ := fun g => Grow.cell e_l c_l g
        gi_wp2_with fail
        refine wpIn_wide.2 ?_
        refine wp_region_grow (by kernel_rfl) (by kernel_rfl) ?_
        repeat (go_big_quiet_step (first | (go_at_call 19; exact grow_call (CE.out _))))
        refine wpQuiet_nil ?_
        rintro w49 ⟨⟨_, hb⟩, rfl⟩
        clear G_z K_z G_l gn G_g0
        clear x_i c_i f_i e_i x_l c_l f_l e_l x_r c_r f_r e_r x_t c_t f_t e_t x_z c_z d_z f_z e_z
        replace HS := hid_mk (HS.out.below hb)
        clear hb
        have x_i : Blk w49 bi 3 #[.int .i64 (n : Int)] := Bq.get HS.out (i := 2) rfl
        have c_i := x_i.cell1
        have f_i := x_i.frozen 0
        have e_i := x_i.lt
        have x_l : Blk w49 bl 30 #[.slice (some ⟨lg, 0, none⟩) n cap] := Bq.get HS.out (i := 3) rfl
        have c_l := x_l.cell1
        have f_l := x_l.frozen 0
        have e_l := x_l.lt
        have x_r : Blk w49 br 4 #[.bool false] := Bq.get HS.out (i := 5) rfl
        have c_r := x_r.cell1
        have f_r := x_r.frozen 0
        have e_r := x_r.lt
        have x_t : Blk w49 bt 3 #[.int .i64 t] := Bq.get HS.out (i := 6) rfl
        have c_t := x_t.cell1
        have f_t := x_t.frozen 0
        have e_t := x_t.lt
        have x_z : Blk w49 bz 23 #[.int .i64 W, .int .i64 H] := Bq.get HS.out (i := 7) rfl
        obtain ⟨c_z, d_z⟩ := x_z.cells2
        have f_z := x_z.frozen 0
        have e_z := x_z.lt
        clear n1 n2 n3
        have n4 : x0 + wd - 1 - x0 + 1 = wd := by omega
        have n5 : y0 + hg - 1 - y0 + 1 = hg := by omega
        obtain ⟨w50, hw50⟩ : ∃ w50, w50 = w49.alloc (.cells #[.int .i64 0] 3) := ⟨_, rfl⟩
        obtain ⟨b25, hb25⟩ : ∃ b25, b25 = w49.heap.size := ⟨_, rfl⟩
        have l_C2_b25 : C2 < b25 := by rw [hb25]; exact HS.out.ltAt (i := 0) rfl
        have l_B2_b25 : B2 < b25 := by rw [hb25]; exact HS.out.ltAt (i := 1) rfl
        have l_bi_b25 : bi < b25 := by rw [hb25]; exact HS.out.ltAt (i := 2) rfl
        have l_bl_b25 : bl < b25 := by rw [hb25]; exact HS.out.ltAt (i := 3) rfl
        have l_lg_b25 : lg < b25 := by rw [hb25]; exact HS.out.ltAt (i := 4) rfl
        have l_br_b25 : br < b25 := by rw [hb25]; exact HS.out.ltAt (i := 5) rfl
        have l_bt_b25 : bt < b25 := by rw [hb25]; exact HS.out.ltAt (i := 6) rfl
        have l_bz_b25 : bz < b25 := by rw [hb25]; exact HS.out.ltAt (i := 7) rfl
        have Hw50 : Hid (Bq [(b25, 3, #[.int .i64 0]), (C2, 3, #[.int .i64 t]), (B2, 23, #[.int .i64 W, .int .i64 H]), (bi, 3, #[.int .i64 (n : Int)]), (bl, 30, #[.slice (some ⟨lg, 0, none⟩) n cap]), (lg, 3, cur), (br, 4, #[.bool false]), (bt, 3, #[.int .i64 t]), (bz, 23, #[.int .i64 W, .int .i64 H])] [D5] w w50) := by show Bq _ _ _ _; rw [hw50, hb25]; exact HS.out.alloc _ _
        gi_wp2_with fail
        try simp only [← hb25, ← hw50]
        clear hw50
        clear hb25
        clear x_i c_i f_i e_i x_l c_l f_l e_l x_r c_r f_r e_r x_t c_t f_t e_t x_z c_z d_z f_z e_z
        replace HS := Hw50
        clear Hw50
        refine ⟨trivial, ?_⟩
        refine (callsIn_wide.2 (tbes_ab W H t _)).mono ?_
        rintro _ w51 ⟨B3, C3, rfl, hbx, hB, hC, hb⟩
        have hnf := tbesF_nil B3 C3
        replace HS := hid_mk (HS.out.below hb)
        clear hbx hB hC hb
        have x_next : Blk w51 b25 3 #[.int .i64 0] := Bq.get HS.out (i := 0) rfl
        have c_next := x_next.cell1
        have f_next := x_next.frozen 0
        have e_next := x_next.lt
        have x_i : Blk w51 bi 3 #[.int .i64 (n : Int)] := Bq.get HS.out (i := 3) rfl
        have c_i := x_i.cell1
        have f_i := x_i.frozen 0
        have e_i := x_i.lt
        have x_l : Blk w51 bl 30 #[.slice (some ⟨lg, 0, none⟩) n cap] := Bq.get HS.out (i := 4) rfl
        have c_l := x_l.cell1
        have f_l := x_l.frozen 0
        have e_l := x_l.lt
        have x_r : Blk w51 br 4 #[.bool false] := Bq.get HS.out (i := 6) rfl
        have c_r := x_r.cell1
        have f_r := x_r.frozen 0
        have e_r := x_r.lt
        have x_t : Blk w51 bt 3 #[.int .i64 t] := Bq.get HS.out (i := 7) rfl
        have c_t := x_t.cell1
        have f_t := x_t.frozen 0
        have e_t := x_t.lt
        have x_z : Blk w51 bz 23 #[.int .i64 W, .int .i64 H] := Bq.get HS.out (i := 8) rfl
        obtain ⟨c_z, d_z⟩ := x_z.cells2
        have f_z := x_z.frozen 0
        have e_z := x_z.lt
        gi_wp2_with fail
        refine ⟨trivial, ?_⟩
        refine (callsIn_wide.2 (tbes_ab W H t _)).mono ?_
        rintro _ w52 ⟨B4, C4, rfl, hbx, hB, hC, hb⟩
        clear x_next c_next f_next e_next x_i c_i f_i e_i x_l c_l f_l e_l x_r c_r f_r e_r x_t c_t f_t e_t x_z c_z d_z f_z e_z
        replace HS := hid_mk (HS.out.take2 hb hbx.1 hB hbx.2 hC (bx2_ne hbx))
        clear hbx hB hC hb
        have x_next : Blk w52 b25 3 #[.int .i64 0] := Bq.get HS.out (i := 2) rfl
        have c_next := x_next.cell1
        have f_next := x_next.frozen 0
        have e_next := x_next.lt
        have x_i : Blk w52 bi 3 #[.int .i64 (n : Int)] := Bq.get HS.out (i := 5) rfl
        have c_i := x_i.cell1
        have f_i := x_i.frozen 0
        have e_i := x_i.lt
        have x_l : Blk w52 bl 30 #[.slice (some ⟨lg, 0, none⟩) n cap] := Bq.get HS.out (i := 6) rfl
        have c_l := x_l.cell1
        have f_l := x_l.frozen 0
        have e_l := x_l.lt
        have x_r : Blk w52 br 4 #[.bool false] := Bq.get HS.out (i := 8) rfl
        have c_r := x_r.cell1
        have f_r := x_r.frozen 0
        have e_r := x_r.lt
        have x_t : Blk w52 bt 3 #[.int .i64 t] := Bq.get HS.out (i := 9) rfl
        have c_t := x_t.cell1
        have f_t := x_t.frozen 0
        have e_t := x_t.lt
        have x_z : Blk w52 bz 23 #[.int .i64 W, .int .i64 H] := Bq.get HS.out (i := 10) rfl
        obtain ⟨c_z, d_z⟩ := x_z.cells2
        have f_z := x_z.frozen 0
        have e_z := x_z.lt
        clear hnf
        have HSR := hid_mk (near_sorted (show inB (tW W H) (tH W H) t = true from HT.out))
        replace HS : Hid (Bq [(C4, 3, #[.int .i64 t]), (B4, 23, #[.int .i64 W, .int .i64 H]), (b25, 3, #[.int .i64 (lastI [] + 1)]), (C2, 3, #[.int .i64 t]), (B2, 23, #[.int .i64 W, .int .i64 H]), (bi, 3, #[.int .i64 (n : Int)]), (bl, 30, #[.slice (some ⟨lg, 0, none⟩) n cap]), (lg, 3, cur), (br, 4, #[.bool false]), (bt, 3, #[.int .i64 t]), (bz, 23, #[.int .i64 W, .int .i64 H])] [D5] w w52) := by rw [show lastI [] + 1 = (0 : Int) from rfl]; exact HS
        gi_wp2_with fail
        refine range_ownZ rfl (by omega) (gf := 32) (lb := #[.pointer (some ⟨B4, 0, none⟩), .pointer (some ⟨C4, 0, none⟩)]) rfl trivial (enters_of Try.func32 (by kernel_rfl) rfl) (tbes1_z _ (by omega) _ _ W H t _ ⟨Bq.get HS.out (i := 1) rfl, Bq.get HS.out (i := 0) rfl⟩) (Below.refl _ _) (fun _ => rfl)
          (fun Z pre A => w52.heap.size ≤ A.heap.size ∧ Bq [(C4, 3, #[.int .i64 t]), (B4, 23, #[.int .i64 W, .int .i64 H]), (b25, 3, #[.int .i64 (lastI pre + 1)]), (C2, 3, #[.int .i64 t]), (B2, 23, #[.int .i64 W, .int .i64 H]), (bi, 3, #[.int .i64 (n : Int)]), (bl, 30, #[.slice (some ⟨lg, 0, none⟩) n cap]), (lg, 3, cur), (br, 4, #[.bool false]), (bt, 3, #[.int .i64 t]), (bz, 23, #[.int .i64 W, .int .i64 H])] [D5] w A) (fun Z cc pre A => False)
          (fun Z => Bq.owns (fun _ => rfl) HS.out.nlt HS.out.mlt HS.out.bl.size)
          (fun Z cc => fun s A A' row hs hg hr => hs.elim)
          (fun Z => ⟨Nat.le_refl _, HS.out⟩) (fun _ _ _ hs => trivial) ?a16 ?assign6 ?body6 ?done6 ?stop6
        case assign6 =>
          intro lq x A Kk hK
          gi_wp2
          exact hK
        case body6 =>
          rintro lq Z pre x A hZ0 hZ1 ⟨hA0, hQ⟩ ⟨hpl, hpx⟩
          have HQ := hid_mk hQ
          clear hQ
          have m_next := e_next
          have m_i := e_i
          have m_l := e_l
          have m_r := e_r
          have m_t := e_t
          have m_z := e_z
          clear x_next c_next f_next e_next x_i c_i f_i e_i x_l c_l f_l e_l x_r c_r f_r e_r x_t c_t f_t e_t x_z c_z d_z f_z e_z
          have HBK : Hid (BK w52.heap.size Z A A) := BK.refl _ _ _
          have hZc : Z ≤ A.heap.size := hZ1
          have hAc : w52.heap.size ≤ A.heap.size := hA0
          have x_next : Blk A b25 3 #[.int .i64 (lastI pre + 1)] := Bq.get HQ.out (i := 2) rfl
          have c_next := x_next.cell1
          have f_next := x_next.frozen 0
          have e_next := x_next.lt
          have x_i : Blk A bi 3 #[.int .i64 (n : Int)] := Bq.get HQ.out (i := 5) rfl
          have c_i := x_i.cell1
          have f_i := x_i.frozen 0
          have e_i := x_i.lt
          have x_l : Blk A bl 30 #[.slice (some ⟨lg, 0, none⟩) n cap] := Bq.get HQ.out (i := 6) rfl
          have c_l := x_l.cell1
          have f_l := x_l.frozen 0
          have e_l := x_l.lt
          have x_r : Blk A br 4 #[.bool false] := Bq.get HQ.out (i := 8) rfl
          have c_r := x_r.cell1
          have f_r := x_r.frozen 0
          have e_r := x_r.lt
          have x_t : Blk A bt 3 #[.int .i64 t] := Bq.get HQ.out (i := 9) rfl
          have c_t := x_t.cell1
          have f_t := x_t.frozen 0
          have e_t := x_t.lt
          have x_z : Blk A bz 23 #[.int .i64 W, .int .i64 H] := Bq.get HQ.out (i := 10) rfl
          obtain ⟨c_z, d_z⟩ := x_z.cells2
          have f_z := x_z.frozen 0
          have e_z := x_z.lt
          obtain ⟨q1, q2, q3⟩ := sorted_at HSR.out.1 HSR.out.2 (show pre ++ [x] <+: tbesL W H t from hpx)
          have hxm : x ∈ tbesL W H t := hpx.subset (by simp)
          obtain ⟨q4, q5⟩ := HLT.out x HT.out hxm
          have HNM : Hid (∀ k, lastI pre < k → k < x → k ∉ tbesL W H t) := q3
          have CXX := hid_mk (fun X => CB.out x X)
          rw [show decide (x ∈ tbesL W H t) = true from by simpa using hxm] at CXX
          have hsn := hid_mk (lastI_snoc pre x)
          generalize lastI pre = la at *
          have p1 : ¬ x < la + 1 := by omega
          clear q3 hxm hpx hpl
          gi_wp2_with fail
          gi_loopw [] (fun wr => ∃ k : Int, la + 1 ≤ k ∧ k ≤ x ∧ Hid (Bq [(C4, 3, #[.int .i64 t]), (B4, 23, #[.int .i64 W, .int .i64 H]), (b25, 3, #[.int .i64 k]), (C2, 3, #[.int .i64 t]), (B2, 23, #[.int .i64 W, .int .i64 H]), (bi, 3, #[.int .i64 (n : Int)]), (bl, 30, #[.slice (some ⟨lg, 0, none⟩) n cap]), (lg, 3, cur), (br, 4, #[.bool false]), (bt, 3, #[.int .i64 t]), (bz, 23, #[.int .i64 W, .int .i64 H])] [D5] w wr) ∧ Hid (BK w52.heap.size Z A wr) ∧ Z ≤ wr.heap.size ∧ w52.heap.size ≤ wr.heap.size) (fun wr => (x - nx b25 wr).toNat)
          case atStart => exact ⟨la + 1, by omega, by omega, HQ.out, HBK.out, hZc, hAc⟩
          case round =>
            clear x_next c_next f_next e_next x_i c_i f_i e_i x_l c_l f_l e_l x_r c_r f_r e_r x_t c_t f_t e_t x_z c_z d_z f_z e_z
            clear HBK hZc hAc
            clear HQ
            obtain ⟨k, h1, h2, HQ, HBK, hZc, hAc⟩ := hrel
            have x_next : Blk wr b25 3 #[.int .i64 k] := Bq.get HQ.out (i := 2) rfl
            have c_next := x_next.cell1
            have f_next := x_next.frozen 0
            have e_next := x_next.lt
            have x_i : Blk wr bi 3 #[.int .i64 (n : Int)] := Bq.get HQ.out (i := 5) rfl
            have c_i := x_i.cell1
            have f_i := x_i.frozen 0
            have e_i := x_i.lt
            have x_l : Blk wr bl 30 #[.slice (some ⟨lg, 0, none⟩) n cap] := Bq.get HQ.out (i := 6) rfl
            have c_l := x_l.cell1
            have f_l := x_l.frozen 0
            have e_l := x_l.lt
            have x_r : Blk wr br 4 #[.bool false] := Bq.get HQ.out (i := 8) rfl
            have c_r := x_r.cell1
            have f_r := x_r.frozen 0
            have e_r := x_r.lt
            have x_t : Blk wr bt 3 #[.int .i64 t] := Bq.get HQ.out (i := 9) rfl
            have c_t := x_t.cell1
            have f_t := x_t.frozen 0
            have e_t := x_t.lt
            have x_z : Blk wr bz 23 #[.int .i64 W, .int .i64 H] := Bq.get HQ.out (i := 10) rfl
            obtain ⟨c_z, d_z⟩ := x_z.cells2
            have f_z := x_z.frozen 0
            have e_z := x_z.lt
            by_cases hlt : k < x
            · have CK := hid_mk (fun X => CB.out k X)
              rw [show decide (k ∈ tbesL W H t) = false from by simpa using HNM.out k (by omega) hlt] at CK
              have hn1 := nx_of (Bq.get HQ.out (i := 2) rfl)
              gi_wp2_with fail
              refine ⟨trivial, ?_⟩
              refine (CallsIn.inRound lq (callsIn_wide.2 (CK.out _))).mono ?_
              rintro _ w53 ⟨rfl, hb⟩
              clear x_next c_next f_next e_next x_i c_i f_i e_i x_l c_l f_l e_l x_r c_r f_r e_r x_t c_t f_t e_t x_z c_z d_z f_z e_z
              replace HBK := hid_mk (HBK.out.trans (BK.of_below hb hZc))
              replace hZc := Nat.le_trans hZc hb.size
              replace hAc := Nat.le_trans hAc hb.size
              replace HQ := hid_mk (HQ.out.below hb)
              clear hb
              have x_next : Blk w53 b25 3 #[.int .i64 k] := Bq.get HQ.out (i := 2) rfl
              have c_next := x_next.cell1
              have f_next := x_next.frozen 0
              have e_next := x_next.lt
              have x_i : Blk w53 bi 3 #[.int .i64 (n : Int)] := Bq.get HQ.out (i := 5) rfl
              have c_i := x_i.cell1
              have f_i := x_i.frozen 0
              have e_i := x_i.lt
              have x_l : Blk w53 bl 30 #[.slice (some ⟨lg, 0, none⟩) n cap] := Bq.get HQ.out (i := 6) rfl
              have c_l := x_l.cell1
              have f_l := x_l.frozen 0
              have e_l := x_l.lt
              have x_r : Blk w53 br 4 #[.bool false] := Bq.get HQ.out (i := 8) rfl
              have c_r := x_r.cell1
              have f_r := x_r.frozen 0
              have e_r := x_r.lt
              have x_t : Blk w53 bt 3 #[.int .i64 t] := Bq.get HQ.out (i := 9) rfl
              have c_t := x_t.cell1
              have f_t := x_t.frozen 0
              have e_t := x_t.lt
              have x_z : Blk w53 bz 23 #[.int .i64 W, .int .i64 H] := Bq.get HQ.out (i := 10) rfl
              obtain ⟨c_z, d_z⟩ := x_z.cells2
              have f_z := x_z.frozen 0
              have e_z := x_z.lt
              have HE : Hid (Bq [(C4, 3, #[.int .i64 t]), (B4, 23, #[.int .i64 W, .int .i64 H]), (b25, 3, #[.int .i64 (k + 1)]), (C2, 3, #[.int .i64 t]), (B2, 23, #[.int .i64 W, .int .i64 H]), (bi, 3, #[.int .i64 (n : Int)]), (bl, 30, #[.slice (some ⟨lg, 0, none⟩) n cap]), (lg, 3, cur), (br, 4, #[.bool false]), (bt, 3, #[.int .i64 t]), (bz, 23, #[.int .i64 W, .int .i64 H])] [D5] w (w53.setCell ⟨b25, 0, none⟩ (.int .i64 (k + 1)))) := hid_mk (HQ.out.setAt (i := 2) rfl 0 _)
              have hn2 := nx_of (Bq.get HE.out (i := 2) rfl)
              gi_wp2
              go_roundw
              case rel => exact ⟨k + 1, by omega, by omega, HE.out, hid_mk ((HBK.out).trans (bk_set _ m_next)), by rw [size_set]; exact hZc, by rw [size_set]; exact hAc⟩
              case measure => rw [hn1, hn2]; omega
            obtain rfl : k = x := by omega
            gi_wp2_with fail
            refine ⟨trivial, ?_⟩
            refine (CallsIn.inRound lq (callsIn_wide.2 (CXX.out _))).mono ?_
            rintro _ w54 ⟨rfl, hb⟩
            clear x_next c_next f_next e_next x_i c_i f_i e_i x_l c_l f_l e_l x_r c_r f_r e_r x_t c_t f_t e_t x_z c_z d_z f_z e_z
            replace HBK := hid_mk (HBK.out.trans (BK.of_below hb hZc))
            replace hZc := Nat.le_trans hZc hb.size
            replace hAc := Nat.le_trans hAc hb.size
            replace HQ := hid_mk (HQ.out.below hb)
            clear hb
            have x_next : Blk w54 b25 3 #[.int .i64 k] := Bq.get HQ.out (i := 2) rfl
            have c_next := x_next.cell1
            have f_next := x_next.frozen 0
            have e_next := x_next.lt
            have x_i : Blk w54 bi 3 #[.int .i64 (n : Int)] := Bq.get HQ.out (i := 5) rfl
            have c_i := x_i.cell1
            have f_i := x_i.frozen 0
            have e_i := x_i.lt
            have x_l : Blk w54 bl 30 #[.slice (some ⟨lg, 0, none⟩) n cap] := Bq.get HQ.out (i := 6) rfl
            have c_l := x_l.cell1
            have f_l := x_l.frozen 0
            have e_l := x_l.lt
            have x_r : Blk w54 br 4 #[.bool false] := Bq.get HQ.out (i := 8) rfl
            have c_r := x_r.cell1
            have f_r := x_r.frozen 0
            have e_r := x_r.lt
            have x_t : Blk w54 bt 3 #[.int .i64 t] := Bq.get HQ.out (i := 9) rfl
            have c_t := x_t.cell1
            have f_t := x_t.frozen 0
            have e_t := x_t.lt
            have x_z : Blk w54 bz 23 #[.int .i64 W, .int .i64 H] := Bq.get HQ.out (i := 10) rfl
            obtain ⟨c_z, d_z⟩ := x_z.cells2
            have f_z := x_z.frozen 0
            have e_z := x_z.lt
            gi_wp2
            refine ⟨(HBK.out).trans (bk_set _ m_next), ?_, ?_⟩
            · rw [size_set]; exact hAc
            · rw [hsn.out]; exact (HQ.out).setAt (i := 2) rfl 0 _
        case stop6 =>
          intro D Z cc pre A hD hpre hs
          exact hs.elim
        case done6 =>
          rintro D6 Z ys A55 hD hys ⟨hA0, hQ⟩ hK
          obtain rfl := show ys = _ from hys
          have hse := sorted_end HSR.out.1 HSR.out.2
          replace HS := hid_mk (hQ.mark hK hD HS.out.mlt HS.out.bl.size)
          clear x_next c_next f_next e_next x_i c_i f_i e_i x_l c_l f_l e_l x_r c_r f_r e_r x_t c_t f_t e_t x_z c_z d_z f_z e_z
          clear hQ hK hD hA0 hys
          obtain ⟨r1, r2⟩ := hse
          rw [show nearL (tW W H) (tH W H) t = tbesL W H t from rfl] at r1 r2
          have hlm : lastI (tbesL W H t) < m := (lastI_mem (tbesL W H t)).elim (fun e => by omega) (fun e => (HLT.out _ HT.out e).2)
          have HNM : Hid (∀ k, lastI (tbesL W H t) < k → k ∉ tbesL W H t) := r2
          clear r2
          have x_next : Blk A55 b25 3 #[.int .i64 (lastI (tbesL W H t) + 1)] := Bq.get HS.out (i := 2) rfl
          have c_next := x_next.cell1
          have f_next := x_next.frozen 0
          have e_next := x_next.lt
          have x_i : Blk A55 bi 3 #[.int .i64 (n : Int)] := Bq.get HS.out (i := 5) rfl
          have c_i := x_i.cell1
          have f_i := x_i.frozen 0
          have e_i := x_i.lt
          have x_l : Blk A55 bl 30 #[.slice (some ⟨lg, 0, none⟩) n cap] := Bq.get HS.out (i := 6) rfl
          have c_l := x_l.cell1
          have f_l := x_l.frozen 0
          have e_l := x_l.lt
          have x_r : Blk A55 br 4 #[.bool false] := Bq.get HS.out (i := 8) rfl
          have c_r := x_r.cell1
          have f_r := x_r.frozen 0
          have e_r := x_r.lt
          have x_t : Blk A55 bt 3 #[.int .i64 t] := Bq.get HS.out (i := 9) rfl
          have c_t := x_t.cell1
          have f_t := x_t.frozen 0
          have e_t := x_t.lt
          have x_z : Blk A55 bz 23 #[.int .i64 W, .int .i64 H] := Bq.get HS.out (i := 10) rfl
          obtain ⟨c_z, d_z⟩ := x_z.cells2
          have f_z := x_z.frozen 0
          have e_z := x_z.lt
          gi_wp2_with fail
          gi_loopw [] (fun wr => ∃ k : Int, lastI (tbesL W H t) + 1 ≤ k ∧ k ≤ m ∧ Hid (Bq [(C4, 3, #[.int .i64 t]), (B4, 23, #[.int .i64 W, .int .i64 H]), (b25, 3, #[.int .i64 k]), (C2, 3, #[.int .i64 t]), (B2, 23, #[.int .i64 W, .int .i64 H]), (bi, 3, #[.int .i64 (n : Int)]), (bl, 30, #[.slice (some ⟨lg, 0, none⟩) n cap]), (lg, 3, cur), (br, 4, #[.bool false]), (bt, 3, #[.int .i64 t]), (bz, 23, #[.int .i64 W, .int .i64 H])] [D6, D5] w wr)) (fun wr => (m - nx b25 wr).toNat)
          case atStart => exact ⟨lastI (tbesL W H t) + 1, by omega, by omega, HS.out⟩
          case round =>
            clear x_next c_next f_next e_next x_i c_i f_i e_i x_l c_l f_l e_l x_r c_r f_r e_r x_t c_t f_t e_t x_z c_z d_z f_z e_z
            clear HS
            obtain ⟨k, h1, h2, HS⟩ := hrel
            have x_next : Blk wr b25 3 #[.int .i64 k] := Bq.get HS.out (i := 2) rfl
            have c_next := x_next.cell1
            have f_next := x_next.frozen 0
            have e_next := x_next.lt
            have x_i : Blk wr bi 3 #[.int .i64 (n : Int)] := Bq.get HS.out (i := 5) rfl
            have c_i := x_i.cell1
            have f_i := x_i.frozen 0
            have e_i := x_i.lt
            have x_l : Blk wr bl 30 #[.slice (some ⟨lg, 0, none⟩) n cap] := Bq.get HS.out (i := 6) rfl
            have c_l := x_l.cell1
            have f_l := x_l.frozen 0
            have e_l := x_l.lt
            have x_r : Blk wr br 4 #[.bool false] := Bq.get HS.out (i := 8) rfl
            have c_r := x_r.cell1
            have f_r := x_r.frozen 0
            have e_r := x_r.lt
            have x_t : Blk wr bt 3 #[.int .i64 t] := Bq.get HS.out (i := 9) rfl
            have c_t := x_t.cell1
            have f_t := x_t.frozen 0
            have e_t := x_t.lt
            have x_z : Blk wr bz 23 #[.int .i64 W, .int .i64 H] := Bq.get HS.out (i := 10) rfl
            obtain ⟨c_z, d_z⟩ := x_z.cells2
            have f_z := x_z.frozen 0
            have e_z := x_z.lt
            by_cases hlt : k < m
            · have CK := hid_mk (fun X => CB.out k X)
              rw [show decide (k ∈ tbesL W H t) = false from by simpa using HNM.out k (by omega)] at CK
              have hn1 := nx_of (Bq.get HS.out (i := 2) rfl)
              gi_wp2_with fail
              refine ⟨trivial, ?_⟩
              refine (callsIn_wide.2 (CK.out _)).mono ?_
              rintro _ w56 ⟨rfl, hb⟩
              clear x_next c_next f_next e_next x_i c_i f_i e_i x_l c_l f_l e_l x_r c_r f_r e_r x_t c_t f_t e_t x_z c_z d_z f_z e_z
              replace HS := hid_mk (HS.out.below hb)
              clear hb
              have x_next : Blk w56 b25 3 #[.int .i64 k] := Bq.get HS.out (i := 2) rfl
              have c_next := x_next.cell1
              have f_next := x_next.frozen 0
              have e_next := x_next.lt
              have x_i : Blk w56 bi 3 #[.int .i64 (n : Int)] := Bq.get HS.out (i := 5) rfl
              have c_i := x_i.cell1
              have f_i := x_i.frozen 0
              have e_i := x_i.lt
              have x_l : Blk w56 bl 30 #[.slice (some ⟨lg, 0, none⟩) n cap] := Bq.get HS.out (i := 6) rfl
              have c_l := x_l.cell1
              have f_l := x_l.frozen 0
              have e_l := x_l.lt
              have x_r : Blk w56 br 4 #[.bool false] := Bq.get HS.out (i := 8) rfl
              have c_r := x_r.cell1
              have f_r := x_r.frozen 0
              have e_r := x_r.lt
              have x_t : Blk w56 bt 3 #[.int .i64 t] := Bq.get HS.out (i := 9) rfl
              have c_t := x_t.cell1
              have f_t := x_t.frozen 0
              have e_t := x_t.lt
              have x_z : Blk w56 bz 23 #[.int .i64 W, .int .i64 H] := Bq.get HS.out (i := 10) rfl
              obtain ⟨c_z, d_z⟩ := x_z.cells2
              have f_z := x_z.frozen 0
              have e_z := x_z.lt
              have HE : Hid (Bq [(C4, 3, #[.int .i64 t]), (B4, 23, #[.int .i64 W, .int .i64 H]), (b25, 3, #[.int .i64 (k + 1)]), (C2, 3, #[.int .i64 t]), (B2, 23, #[.int .i64 W, .int .i64 H]), (bi, 3, #[.int .i64 (n : Int)]), (bl, 30, #[.slice (some ⟨lg, 0, none⟩) n cap]), (lg, 3, cur), (br, 4, #[.bool false]), (bt, 3, #[.int .i64 t]), (bz, 23, #[.int .i64 W, .int .i64 H])] [D6, D5] w (w56.setCell ⟨b25, 0, none⟩ (.int .i64 (k + 1)))) := hid_mk (HS.out.setAt (i := 2) rfl 0 _)
              have hn2 := nx_of (Bq.get HE.out (i := 2) rfl)
              gi_wp2
              go_roundw
              case rel => exact ⟨k + 1, by omega, by omega, HE.out⟩
              case measure => rw [hn1, hn2]; omega
            obtain rfl : k = m := by omega
            gi_wp2
            have HE0 : Bq [(C4, 3, #[.int .i64 t]), (B4, 23, #[.int .i64 W, .int .i64 H]), (b25, 3, #[.int .i64 k]), (C2, 3, #[.int .i64 t]), (B2, 23, #[.int .i64 W, .int .i64 H]), (bi, 3, #[.int .i64 (n : Int)]), (bl, 30, #[.slice (some ⟨lg, 0, none⟩) n cap]), (lg, 3, cur), (br, 4, #[.bool true]), (bt, 3, #[.int .i64 t]), (bz, 23, #[.int .i64 W, .int .i64 H])] [D6, D5] w (wr.setCell ⟨br, 0, none⟩ (.bool true)) := HS.out.setAt (i := 8) rfl 0 _
            have HE := hid_mk HE0
            show LeavesInM _ _ _ _ _ _ (marks [D6, D5]) _ _
            refine Bq.leave (by simp) HE.out fun W' hb1 hb2 => ⟨.bool true, ?_, rfl, hb2⟩
            have hc5 := (show Blk W' br 4 #[.bool true] from hb1 _ (List.mem_of_getElem? (i := 8) rfl)).cell1
            simp [results, Try.f3, go_sem, hc5]
end Go.Proofs.Ytabgplniaiehpab.Pl
