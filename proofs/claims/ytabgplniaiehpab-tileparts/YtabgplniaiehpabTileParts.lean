/- Layer 12's statement TileParts (by tools/gen_tileparts.py). -/
import Derived.Test.YtabgplniaiehpabTileLaw
import Derived.Test.YtabgplniaiehpabTilePartsP
import Derived.Sort.LoopGhostIn
import Derived.Laws.MakeOwn
namespace Go.Proofs.Ytabgplniaiehpab.Pl
open Go.RowKit Go.Shelf
attribute [local go_sem] Oper.semAt_some
set_option linter.unusedVariables false
theorem info12 : (Try.prog.info? 3).map (fun i => (i.zero, i.size, i.bytes)) = some (some (.int .i64 0), 1, 8) := by kernel_rfl
theorem made12 (z : Value) (n : Nat) : madeCells #[z] n = Array.replicate n z := by
  refine Array.ext (by simp [madeCells]) fun i h1 h2 => ?_
  simp [madeCells, Nat.mod_one]
theorem make12 (m : Nat) (hm : m ≤ 4194304) (w : World) : (Instr.makeSlice 30 (.int .i64 m) (.int .i64 m)).run Try.prog w = .ok (.slice (some ⟨w.heap.size, 0, none⟩) m m) (w.alloc (.cells (metC (fun _ => 0) m) 3)) := by
  obtain ⟨i0, hi, hz0, hz1, hz2⟩ := info_parts info12
  have h := run_make (P := Try.prog) w 30 3 i0 (.int .i64 0) Try.underlying30 hi hz0 .i64 .i64 m m (by omega) (by omega) (by rw [hz2]; omega) (by omega)
  rw [h, hz1]
  simp only [Int.toNat_natCast, Nat.mul_one]
  rw [show (Value.int IntKind.i64 0).cells = #[.int .i64 0] from rfl, made12]
  congr 3
  unfold metC
  refine Array.ext (by simp) fun i h1 h2 => ?_
  simp
/-- At the outer loop's head. -/
def Ip (w : World) (W H c : Int) (n M bz bc br bn bm bG : Nat) (k : Nat) (a : Act) (X : World) : Prop :=
  ∃ (t p : Nat) (Ds : List Nat) (u : Nat → Value), (t + k = M) ∧ a = ⟨#[sz W H, .int .i64 c, .pointer (some ⟨bz, 0, none⟩), .pointer (some ⟨bc, 0, none⟩), .pointer (some ⟨br, 0, none⟩), .pointer (some ⟨bn, 0, none⟩), .pointer (some ⟨bm, 0, none⟩), .pointer (some ⟨p, 0, none⟩), (u 8), (u 9), (u 10), (u 11), (u 12), (u 13), (u 14), (u 15), (u 16), (u 17), (u 18), (u 19), (u 20), (u 21), (u 22), (u 23), (u 24), (u 25), (u 26), (u 27), (u 28), (u 29), (u 30), (u 31), (u 32), (u 33), (u 34), (u 35), (u 36), (u 37), (u 38), (u 39), (u 40), (u 41), (u 42), (u 43), (u 44), (u 45), (u 46), (u 47), (u 48), (u 49), (u 50), (u 51), (u 52), (u 53), (u 54), (u 55), (u 56), (u 57), (u 58), (u 59), (u 60), (u 61), (u 62), (u 63), (u 64), (u 65), (u 66), (u 67), (u 68), (u 69), (u 70), (u 71), (u 72), (u 73), (u 74), (u 75), (u 76), (u 77), (u 78), (u 79), (u 80), (u 81), (u 82), (u 83), (u 84), (u 85), (u 86), (u 87), (u 88), (u 89), (u 90), (u 91), (u 92), (u 93), (u 94), (u 95), (u 96), (u 97), (u 98), (u 99), (u 100), (u 101), (u 102), (u 103), (u 104), (u 105), (u 106), (u 107), (u 108), (u 109), (u 110), (u 111), (u 112), (u 113), (u 114), (u 115), (u 116), (u 117), (u 118), (u 119), (u 120), (u 121), (u 122), (u 123)], marks Ds⟩ ∧ Hid (Bq [(p, 3, #[.int .i64 t]), (bm, 30, #[.slice (some ⟨bG, 0, none⟩) n n]), (bG, 3, metC (metF W H t []) n), (bn, 3, #[.int .i64 n]), (br, 4, #[.bool false]), (bc, 3, #[.int .i64 c]), (bz, 23, #[.int .i64 W, .int .i64 H])] Ds w X)
theorem ip_mk {w : World} {W H c : Int} {n M bz bc br bn bm bG k : Nat} {a : Act} {X : World} (t p : Nat) (Ds : List Nat) (htk : t + k = M) (ha : a = ⟨#[sz W H, .int .i64 c, .pointer (some ⟨bz, 0, none⟩), .pointer (some ⟨bc, 0, none⟩), .pointer (some ⟨br, 0, none⟩), .pointer (some ⟨bn, 0, none⟩), .pointer (some ⟨bm, 0, none⟩), .pointer (some ⟨p, 0, none⟩), (a.tmps.toList.getD 8 undef), (a.tmps.toList.getD 9 undef), (a.tmps.toList.getD 10 undef), (a.tmps.toList.getD 11 undef), (a.tmps.toList.getD 12 undef), (a.tmps.toList.getD 13 undef), (a.tmps.toList.getD 14 undef), (a.tmps.toList.getD 15 undef), (a.tmps.toList.getD 16 undef), (a.tmps.toList.getD 17 undef), (a.tmps.toList.getD 18 undef), (a.tmps.toList.getD 19 undef), (a.tmps.toList.getD 20 undef), (a.tmps.toList.getD 21 undef), (a.tmps.toList.getD 22 undef), (a.tmps.toList.getD 23 undef), (a.tmps.toList.getD 24 undef), (a.tmps.toList.getD 25 undef), (a.tmps.toList.getD 26 undef), (a.tmps.toList.getD 27 undef), (a.tmps.toList.getD 28 undef), (a.tmps.toList.getD 29 undef), (a.tmps.toList.getD 30 undef), (a.tmps.toList.getD 31 undef), (a.tmps.toList.getD 32 undef), (a.tmps.toList.getD 33 undef), (a.tmps.toList.getD 34 undef), (a.tmps.toList.getD 35 undef), (a.tmps.toList.getD 36 undef), (a.tmps.toList.getD 37 undef), (a.tmps.toList.getD 38 undef), (a.tmps.toList.getD 39 undef), (a.tmps.toList.getD 40 undef), (a.tmps.toList.getD 41 undef), (a.tmps.toList.getD 42 undef), (a.tmps.toList.getD 43 undef), (a.tmps.toList.getD 44 undef), (a.tmps.toList.getD 45 undef), (a.tmps.toList.getD 46 undef), (a.tmps.toList.getD 47 undef), (a.tmps.toList.getD 48 undef), (a.tmps.toList.getD 49 undef), (a.tmps.toList.getD 50 undef), (a.tmps.toList.getD 51 undef), (a.tmps.toList.getD 52 undef), (a.tmps.toList.getD 53 undef), (a.tmps.toList.getD 54 undef), (a.tmps.toList.getD 55 undef), (a.tmps.toList.getD 56 undef), (a.tmps.toList.getD 57 undef), (a.tmps.toList.getD 58 undef), (a.tmps.toList.getD 59 undef), (a.tmps.toList.getD 60 undef), (a.tmps.toList.getD 61 undef), (a.tmps.toList.getD 62 undef), (a.tmps.toList.getD 63 undef), (a.tmps.toList.getD 64 undef), (a.tmps.toList.getD 65 undef), (a.tmps.toList.getD 66 undef), (a.tmps.toList.getD 67 undef), (a.tmps.toList.getD 68 undef), (a.tmps.toList.getD 69 undef), (a.tmps.toList.getD 70 undef), (a.tmps.toList.getD 71 undef), (a.tmps.toList.getD 72 undef), (a.tmps.toList.getD 73 undef), (a.tmps.toList.getD 74 undef), (a.tmps.toList.getD 75 undef), (a.tmps.toList.getD 76 undef), (a.tmps.toList.getD 77 undef), (a.tmps.toList.getD 78 undef), (a.tmps.toList.getD 79 undef), (a.tmps.toList.getD 80 undef), (a.tmps.toList.getD 81 undef), (a.tmps.toList.getD 82 undef), (a.tmps.toList.getD 83 undef), (a.tmps.toList.getD 84 undef), (a.tmps.toList.getD 85 undef), (a.tmps.toList.getD 86 undef), (a.tmps.toList.getD 87 undef), (a.tmps.toList.getD 88 undef), (a.tmps.toList.getD 89 undef), (a.tmps.toList.getD 90 undef), (a.tmps.toList.getD 91 undef), (a.tmps.toList.getD 92 undef), (a.tmps.toList.getD 93 undef), (a.tmps.toList.getD 94 undef), (a.tmps.toList.getD 95 undef), (a.tmps.toList.getD 96 undef), (a.tmps.toList.getD 97 undef), (a.tmps.toList.getD 98 undef), (a.tmps.toList.getD 99 undef), (a.tmps.toList.getD 100 undef), (a.tmps.toList.getD 101 undef), (a.tmps.toList.getD 102 undef), (a.tmps.toList.getD 103 undef), (a.tmps.toList.getD 104 undef), (a.tmps.toList.getD 105 undef), (a.tmps.toList.getD 106 undef), (a.tmps.toList.getD 107 undef), (a.tmps.toList.getD 108 undef), (a.tmps.toList.getD 109 undef), (a.tmps.toList.getD 110 undef), (a.tmps.toList.getD 111 undef), (a.tmps.toList.getD 112 undef), (a.tmps.toList.getD 113 undef), (a.tmps.toList.getD 114 undef), (a.tmps.toList.getD 115 undef), (a.tmps.toList.getD 116 undef), (a.tmps.toList.getD 117 undef), (a.tmps.toList.getD 118 undef), (a.tmps.toList.getD 119 undef), (a.tmps.toList.getD 120 undef), (a.tmps.toList.getD 121 undef), (a.tmps.toList.getD 122 undef), (a.tmps.toList.getD 123 undef)], marks Ds⟩) (hb : Bq [(p, 3, #[.int .i64 t]), (bm, 30, #[.slice (some ⟨bG, 0, none⟩) n n]), (bG, 3, metC (metF W H t []) n), (bn, 3, #[.int .i64 n]), (br, 4, #[.bool false]), (bc, 3, #[.int .i64 c]), (bz, 23, #[.int .i64 W, .int .i64 H])] Ds w X) : Ip w W H c n M bz bc br bn bm bG k a X :=
  ⟨t, p, Ds, fun i => a.tmps.toList.getD i undef, htk, ha, hb⟩
set_option maxRecDepth 100000 in
set_option maxHeartbeats 64000000 in
theorem parts12_walk (W H c : Int) (w : World) : Calls Try.prog 4 #[sz W H, .int .i64 c] w fun e w' => e = .returned (.bool true) ∧ Below w.heap.size w w' := by
  have CN := hid_mk (fun X => cells_any W H X)
  have CT := hid_mk (fun X => count_any W H X)
  have HCB := cellsN_bd W H
  have HTB := cellsN_bd (tW W H) (tH W H)
  rw [show cellsN (tW W H) (tH W H) = countN W H from rfl] at HTB
  have HMT := hid_mk (fun t (h1 : 0 ≤ t) (h2 : t < countN W H) => (tileB_iff (W := W) (H := H)).2 ⟨h1, h2⟩)
  have HIN := hid_mk (fun (i : Nat) (h2 : (i : Int) < cellsN W H) => (show inB W H i = true from blw_iff.2 ⟨by omega, h2⟩))
  obtain ⟨n, hn⟩ : ∃ n : Nat, cellsN W H = (n : Int) := ⟨(cellsN W H).toNat, by omega⟩
  obtain ⟨M, hM⟩ : ∃ M : Nat, countN W H = (M : Int) := ⟨(countN W H).toNat, by omega⟩
  have HZ := hid_mk (metC_congr (n := n) (f := metF W H 0 []) (g := fun _ => 0) (fun i hi => metF_zero (by have := HIN.out i (by omega); exact this)))
  have HAL := hid_mk (fun (i : Nat) (hi : i < n) => metF_all (c := i) hM (HIN.out i (by omega)))
  have HNN := hid_mk hn
  have HMM := hid_mk hM
  rw [hn] at CN HCB
  rw [hM] at CT HTB HMT
  clear hn hM
  have hmk := fun X => make12 n (by omega) X
  have HMK := hid_mk hmk
  clear hmk
  refine (show ∀ w0, Hid (Bq [] [] w w0) → Calls Try.prog 4 #[sz W H, .int .i64 c] w0 fun e w' => e = .returned (.bool true) ∧ Below w.heap.size w w' from fun w0 HS => ?_) w (Bq.start w)
  obtain ⟨w1, hw1⟩ : ∃ w1, w1 = w0.alloc (.cells #[.int .i64 W, .int .i64 H] 23) := ⟨_, rfl⟩
  obtain ⟨bz, hbz⟩ : ∃ bz, bz = w0.heap.size := ⟨_, rfl⟩
  have Hw1 : Hid (Bq [(bz, 23, #[.int .i64 W, .int .i64 H])] [] w w1) := by show Bq _ _ _ _; rw [hw1, hbz]; exact HS.out.alloc _ _
  obtain ⟨w2, hw2⟩ : ∃ w2, w2 = w1.alloc (.cells #[.int .i64 c] 3) := ⟨_, rfl⟩
  obtain ⟨bc, hbc⟩ : ∃ bc, bc = w1.heap.size := ⟨_, rfl⟩
  have l_bz_bc : bz < bc := by rw [hbc]; exact Hw1.out.ltAt (i := 0) rfl
  have kbc : bz + 1 = bc := by rw [hbc, hw1, hbz]; simp
  have Hw2 : Hid (Bq [(bc, 3, #[.int .i64 c]), (bz, 23, #[.int .i64 W, .int .i64 H])] [] w w2) := by show Bq _ _ _ _; rw [hw2, hbc]; exact Hw1.out.alloc _ _
  obtain ⟨w3, hw3⟩ : ∃ w3, w3 = w2.alloc (.cells #[.bool false] 4) := ⟨_, rfl⟩
  obtain ⟨br, hbr⟩ : ∃ br, br = w2.heap.size := ⟨_, rfl⟩
  have l_bc_br : bc < br := by rw [hbr]; exact Hw2.out.ltAt (i := 0) rfl
  have l_bz_br : bz < br := by rw [hbr]; exact Hw2.out.ltAt (i := 1) rfl
  have kbr : bc + 1 = br := by rw [hbr, hw2, hbc]; simp
  have Hw3 : Hid (Bq [(br, 4, #[.bool false]), (bc, 3, #[.int .i64 c]), (bz, 23, #[.int .i64 W, .int .i64 H])] [] w w3) := by show Bq _ _ _ _; rw [hw3, hbr]; exact Hw2.out.alloc _ _
  refine (callsIn_wide (n := 20)).1 ?_
  refine callsIn_of_wp_marks Try.func4 rfl trivial ?_ rfl
  simp only [Try.ntmps4, List.size_toArray, List.length_cons, List.length_nil, Nat.reduceAdd, Nat.reduceSub, Array.replicate_succ, Array.replicate_zero, List.push_toArray, List.append_toArray, List.nil_append, List.cons_append]
  gi_wp2_with fail
  try simp only [← hbz, ← hw1, kbc, ← hw2, kbr, ← hw3]
  clear kbc kbr hw1 hw2 hw3
  clear hbz hbc hbr
  replace HS := Hw3
  clear Hw1 Hw2 Hw3
  refine ⟨trivial, ?_⟩
  refine (callsIn_wide.2 (awake12_any _)).mono ?_
  rintro _ w4 ⟨rfl, hb⟩
  replace HS := hid_mk (HS.out.below hb)
  clear hb
  have x_r : Blk w4 br 4 #[.bool false] := Bq.get HS.out (i := 0) rfl
  have c_r := x_r.cell1
  have f_r := x_r.frozen 0
  have e_r := x_r.lt
  have x_c : Blk w4 bc 3 #[.int .i64 c] := Bq.get HS.out (i := 1) rfl
  have c_c := x_c.cell1
  have f_c := x_c.frozen 0
  have e_c := x_c.lt
  have x_z : Blk w4 bz 23 #[.int .i64 W, .int .i64 H] := Bq.get HS.out (i := 2) rfl
  obtain ⟨c_z, d_z⟩ := x_z.cells2
  have f_z := x_z.frozen 0
  have e_z := x_z.lt
  gi_wp2_with fail
  refine ⟨trivial, ?_⟩
  refine (callsIn_wide.2 (CN.out _)).mono ?_
  rintro _ w5 ⟨rfl, hb⟩
  clear x_r c_r f_r e_r x_c c_c f_c e_c x_z c_z d_z f_z e_z
  replace HS := hid_mk (HS.out.below hb)
  clear hb
  have x_r : Blk w5 br 4 #[.bool false] := Bq.get HS.out (i := 0) rfl
  have c_r := x_r.cell1
  have f_r := x_r.frozen 0
  have e_r := x_r.lt
  have x_c : Blk w5 bc 3 #[.int .i64 c] := Bq.get HS.out (i := 1) rfl
  have c_c := x_c.cell1
  have f_c := x_c.frozen 0
  have e_c := x_c.lt
  have x_z : Blk w5 bz 23 #[.int .i64 W, .int .i64 H] := Bq.get HS.out (i := 2) rfl
  obtain ⟨c_z, d_z⟩ := x_z.cells2
  have f_z := x_z.frozen 0
  have e_z := x_z.lt
  by_cases hn9 : 900 < (n : Int)
  · skip
    gi_wp2
    have HE0 : Bq [(br, 4, #[.bool true]), (bc, 3, #[.int .i64 c]), (bz, 23, #[.int .i64 W, .int .i64 H])] [] w (w5.setCell ⟨br, 0, none⟩ (.bool true)) := HS.out.setAt (i := 0) rfl 0 _
    have HE := hid_mk (HE0.below ((Below.refl _ _).alloc (Nat.le_refl _) (.cells #[.int .i64 n] 3)))
    show LeavesInM _ _ _ _ _ _ (marks []) _ _
    refine Bq.leave (by simp) HE.out fun W' hb1 hb2 => ⟨.bool true, ?_, rfl, hb2⟩
    have hc5 := (show Blk W' br 4 #[.bool true] from hb1 _ (List.mem_of_getElem? (i := 0) rfl)).cell1
    simp [results, Try.f4, go_sem, hc5]
  have hn0 : ¬ (n : Int) < 0 := by omega
  have hmk := HMK.out
  obtain ⟨w6, hw6⟩ : ∃ w6, w6 = w5.alloc (.cells #[.int .i64 n] 3) := ⟨_, rfl⟩
  obtain ⟨bn, hbn⟩ : ∃ bn, bn = w5.heap.size := ⟨_, rfl⟩
  have l_br_bn : br < bn := by rw [hbn]; exact HS.out.ltAt (i := 0) rfl
  have l_bc_bn : bc < bn := by rw [hbn]; exact HS.out.ltAt (i := 1) rfl
  have l_bz_bn : bz < bn := by rw [hbn]; exact HS.out.ltAt (i := 2) rfl
  have Hw6 : Hid (Bq [(bn, 3, #[.int .i64 n]), (br, 4, #[.bool false]), (bc, 3, #[.int .i64 c]), (bz, 23, #[.int .i64 W, .int .i64 H])] [] w w6) := by show Bq _ _ _ _; rw [hw6, hbn]; exact HS.out.alloc _ _
  obtain ⟨w7, hw7⟩ : ∃ w7, w7 = w6.alloc (.cells (metC (fun _ => 0) n) 3) := ⟨_, rfl⟩
  obtain ⟨bG, hbG⟩ : ∃ bG, bG = w6.heap.size := ⟨_, rfl⟩
  have l_bn_bG : bn < bG := by rw [hbG]; exact Hw6.out.ltAt (i := 0) rfl
  have l_br_bG : br < bG := by rw [hbG]; exact Hw6.out.ltAt (i := 1) rfl
  have l_bc_bG : bc < bG := by rw [hbG]; exact Hw6.out.ltAt (i := 2) rfl
  have l_bz_bG : bz < bG := by rw [hbG]; exact Hw6.out.ltAt (i := 3) rfl
  have kbG : bn + 1 = bG := by rw [hbG, hw6, hbn]; simp
  have Hw7 : Hid (Bq [(bG, 3, (metC (fun _ => 0) n)), (bn, 3, #[.int .i64 n]), (br, 4, #[.bool false]), (bc, 3, #[.int .i64 c]), (bz, 23, #[.int .i64 W, .int .i64 H])] [] w w7) := by show Bq _ _ _ _; rw [hw7, hbG]; exact Hw6.out.alloc _ _
  obtain ⟨w8, hw8⟩ : ∃ w8, w8 = w7.alloc (.cells #[.slice (some ⟨bG, 0, none⟩) n n] 30) := ⟨_, rfl⟩
  obtain ⟨bm, hbm⟩ : ∃ bm, bm = w7.heap.size := ⟨_, rfl⟩
  have l_bG_bm : bG < bm := by rw [hbm]; exact Hw7.out.ltAt (i := 0) rfl
  have l_bn_bm : bn < bm := by rw [hbm]; exact Hw7.out.ltAt (i := 1) rfl
  have l_br_bm : br < bm := by rw [hbm]; exact Hw7.out.ltAt (i := 2) rfl
  have l_bc_bm : bc < bm := by rw [hbm]; exact Hw7.out.ltAt (i := 3) rfl
  have l_bz_bm : bz < bm := by rw [hbm]; exact Hw7.out.ltAt (i := 4) rfl
  have kbm : bG + 1 = bm := by rw [hbm, hw7, hbG]; simp
  have Hw8 : Hid (Bq [(bm, 30, #[.slice (some ⟨bG, 0, none⟩) n n]), (bG, 3, (metC (fun _ => 0) n)), (bn, 3, #[.int .i64 n]), (br, 4, #[.bool false]), (bc, 3, #[.int .i64 c]), (bz, 23, #[.int .i64 W, .int .i64 H])] [] w w8) := by show Bq _ _ _ _; rw [hw8, hbm]; exact Hw7.out.alloc _ _
  obtain ⟨w9, hw9⟩ : ∃ w9, w9 = w8.alloc (.cells #[.int .i64 0] 3) := ⟨_, rfl⟩
  obtain ⟨bt, hbt⟩ : ∃ bt, bt = w8.heap.size := ⟨_, rfl⟩
  have l_bm_bt : bm < bt := by rw [hbt]; exact Hw8.out.ltAt (i := 0) rfl
  have l_bG_bt : bG < bt := by rw [hbt]; exact Hw8.out.ltAt (i := 1) rfl
  have l_bn_bt : bn < bt := by rw [hbt]; exact Hw8.out.ltAt (i := 2) rfl
  have l_br_bt : br < bt := by rw [hbt]; exact Hw8.out.ltAt (i := 3) rfl
  have l_bc_bt : bc < bt := by rw [hbt]; exact Hw8.out.ltAt (i := 4) rfl
  have l_bz_bt : bz < bt := by rw [hbt]; exact Hw8.out.ltAt (i := 5) rfl
  have kbt : bm + 1 = bt := by rw [hbt, hw8, hbm]; simp
  have Hw9 : Hid (Bq [(bt, 3, #[.int .i64 0]), (bm, 30, #[.slice (some ⟨bG, 0, none⟩) n n]), (bG, 3, (metC (fun _ => 0) n)), (bn, 3, #[.int .i64 n]), (br, 4, #[.bool false]), (bc, 3, #[.int .i64 c]), (bz, 23, #[.int .i64 W, .int .i64 H])] [] w w9) := by show Bq _ _ _ _; rw [hw9, hbt]; exact Hw8.out.alloc _ _
  gi_wp2_with fail
  try simp only [← hbn, ← hw6, kbG, ← hw7, kbm, ← hw8, kbt, ← hw9]
  clear kbG kbm kbt hw6 hw7 hw8 hw9
  clear hbn hbG hbm hbt
  clear x_r c_r f_r e_r x_c c_c f_c e_c x_z c_z d_z f_z e_z
  replace HS := Hw9
  clear Hw6 Hw7 Hw8 Hw9
  have x_t : Blk w9 bt 3 #[.int .i64 0] := Bq.get HS.out (i := 0) rfl
  have c_t := x_t.cell1
  have f_t := x_t.frozen 0
  have e_t := x_t.lt
  have x_m : Blk w9 bm 30 #[.slice (some ⟨bG, 0, none⟩) n n] := Bq.get HS.out (i := 1) rfl
  have c_m := x_m.cell1
  have f_m := x_m.frozen 0
  have e_m := x_m.lt
  have x_n : Blk w9 bn 3 #[.int .i64 n] := Bq.get HS.out (i := 3) rfl
  have c_n := x_n.cell1
  have f_n := x_n.frozen 0
  have e_n := x_n.lt
  have x_r : Blk w9 br 4 #[.bool false] := Bq.get HS.out (i := 4) rfl
  have c_r := x_r.cell1
  have f_r := x_r.frozen 0
  have e_r := x_r.lt
  have x_c : Blk w9 bc 3 #[.int .i64 c] := Bq.get HS.out (i := 5) rfl
  have c_c := x_c.cell1
  have f_c := x_c.frozen 0
  have e_c := x_c.lt
  have x_z : Blk w9 bz 23 #[.int .i64 W, .int .i64 H] := Bq.get HS.out (i := 6) rfl
  obtain ⟨c_z, d_z⟩ := x_z.cells2
  have f_z := x_z.frozen 0
  have e_z := x_z.lt
  clear hmk
  have H0 : Hid (Bq [(bt, 3, #[.int .i64 ((0 : Nat) : Int)]), (bm, 30, #[.slice (some ⟨bG, 0, none⟩) n n]), (bG, 3, metC (metF W H ((0 : Nat) : Int) []) n), (bn, 3, #[.int .i64 n]), (br, 4, #[.bool false]), (bc, 3, #[.int .i64 c]), (bz, 23, #[.int .i64 W, .int .i64 H])] [] w w9) := by have h := HS.out; rw [← HZ.out] at h; exact h
  refine wpIn_loop_ghost_k (Ip w W H c n M bz bc br bn bm bG) M ?_ ?_
  · exact ip_mk 0 bt [] (by omega) rfl H0.out
  clear x_t c_t f_t e_t x_m c_m f_m e_m x_n c_n f_n e_n x_r c_r f_r e_r x_c c_c f_c e_c x_z c_z d_z f_z e_z
  clear HS H0 HZ
  intro gk _ wr hI J Kk hJ hK
  obtain ⟨t, p, Ds, u, htk, rfl, HS⟩ := hI
  have x_t : Blk wr p 3 #[.int .i64 t] := Bq.get HS.out (i := 0) rfl
  have c_t := x_t.cell1
  have f_t := x_t.frozen 0
  have e_t := x_t.lt
  have x_m : Blk wr bm 30 #[.slice (some ⟨bG, 0, none⟩) n n] := Bq.get HS.out (i := 1) rfl
  have c_m := x_m.cell1
  have f_m := x_m.frozen 0
  have e_m := x_m.lt
  have x_n : Blk wr bn 3 #[.int .i64 n] := Bq.get HS.out (i := 3) rfl
  have c_n := x_n.cell1
  have f_n := x_n.frozen 0
  have e_n := x_n.lt
  have x_r : Blk wr br 4 #[.bool false] := Bq.get HS.out (i := 4) rfl
  have c_r := x_r.cell1
  have f_r := x_r.frozen 0
  have e_r := x_r.lt
  have x_c : Blk wr bc 3 #[.int .i64 c] := Bq.get HS.out (i := 5) rfl
  have c_c := x_c.cell1
  have f_c := x_c.frozen 0
  have e_c := x_c.lt
  have x_z : Blk wr bz 23 #[.int .i64 W, .int .i64 H] := Bq.get HS.out (i := 6) rfl
  obtain ⟨c_z, d_z⟩ := x_z.cells2
  have f_z := x_z.frozen 0
  have e_z := x_z.lt
  have gn := Grow.ne wr
  have G_t : ∀ g : Grow wr, g.w.cell? ⟨p, 0, none⟩ = some _ := fun g => Grow.cell e_t c_t g
  have G_z : ∀ g : Grow wr, g.w.cell? ⟨bz, 0, none⟩ = some _ := fun g => Grow.cell e_z c_z g
  have K_z : ∀ g : Grow wr, g.w.cell? ⟨bz, 1, none⟩ = some _ := fun g => Grow.cell e_z d_z g
  gi_wp2_with fail
  refine wpIn_wide.2 ?_
  refine wp_region_grow (by kernel_rfl) (by kernel_rfl) ?_
  repeat (go_big_quiet_step ((go_at_call 13; exact grow_call (CT.out _))))
  refine wpQuiet_nil ?_
  rintro w10 ⟨⟨_, hb⟩, rfl⟩
  clear G_t G_z K_z gn
  clear x_t c_t f_t e_t x_m c_m f_m e_m x_n c_n f_n e_n x_r c_r f_r e_r x_c c_c f_c e_c x_z c_z d_z f_z e_z
  replace HS := hid_mk (HS.out.below hb)
  clear hb
  have x_t : Blk w10 p 3 #[.int .i64 t] := Bq.get HS.out (i := 0) rfl
  have c_t := x_t.cell1
  have f_t := x_t.frozen 0
  have e_t := x_t.lt
  have x_m : Blk w10 bm 30 #[.slice (some ⟨bG, 0, none⟩) n n] := Bq.get HS.out (i := 1) rfl
  have c_m := x_m.cell1
  have f_m := x_m.frozen 0
  have e_m := x_m.lt
  have x_n : Blk w10 bn 3 #[.int .i64 n] := Bq.get HS.out (i := 3) rfl
  have c_n := x_n.cell1
  have f_n := x_n.frozen 0
  have e_n := x_n.lt
  have x_r : Blk w10 br 4 #[.bool false] := Bq.get HS.out (i := 4) rfl
  have c_r := x_r.cell1
  have f_r := x_r.frozen 0
  have e_r := x_r.lt
  have x_c : Blk w10 bc 3 #[.int .i64 c] := Bq.get HS.out (i := 5) rfl
  have c_c := x_c.cell1
  have f_c := x_c.frozen 0
  have e_c := x_c.lt
  have x_z : Blk w10 bz 23 #[.int .i64 W, .int .i64 H] := Bq.get HS.out (i := 6) rfl
  obtain ⟨c_z, d_z⟩ := x_z.cells2
  have f_z := x_z.frozen 0
  have e_z := x_z.lt
  by_cases hlt : t < M
  · have hti : (t : Int) < (M : Int) := by omega
    have htl := HMT.out (t : Int) (by omega) hti
    have HTL := hid_mk htl
    clear htl
    obtain ⟨w11, hw11⟩ : ∃ w11, w11 = w10.alloc (.cells #[.int .i64 (-1)] 3) := ⟨_, rfl⟩
    obtain ⟨b8, hb8⟩ : ∃ b8, b8 = w10.heap.size := ⟨_, rfl⟩
    have l_p_b8 : p < b8 := by rw [hb8]; exact HS.out.ltAt (i := 0) rfl
    have l_bm_b8 : bm < b8 := by rw [hb8]; exact HS.out.ltAt (i := 1) rfl
    have l_bG_b8 : bG < b8 := by rw [hb8]; exact HS.out.ltAt (i := 2) rfl
    have l_bn_b8 : bn < b8 := by rw [hb8]; exact HS.out.ltAt (i := 3) rfl
    have l_br_b8 : br < b8 := by rw [hb8]; exact HS.out.ltAt (i := 4) rfl
    have l_bc_b8 : bc < b8 := by rw [hb8]; exact HS.out.ltAt (i := 5) rfl
    have l_bz_b8 : bz < b8 := by rw [hb8]; exact HS.out.ltAt (i := 6) rfl
    have Hw11 : Hid (Bq [(b8, 3, #[.int .i64 (-1)]), (p, 3, #[.int .i64 t]), (bm, 30, #[.slice (some ⟨bG, 0, none⟩) n n]), (bG, 3, metC (metF W H t []) n), (bn, 3, #[.int .i64 n]), (br, 4, #[.bool false]), (bc, 3, #[.int .i64 c]), (bz, 23, #[.int .i64 W, .int .i64 H])] Ds w w11) := by show Bq _ _ _ _; rw [hw11, hb8]; exact HS.out.alloc _ _
    obtain ⟨w12, hw12⟩ : ∃ w12, w12 = w11.alloc (.cells #[.int .i64 (-1)] 3) := ⟨_, rfl⟩
    obtain ⟨b9, hb9⟩ : ∃ b9, b9 = w11.heap.size := ⟨_, rfl⟩
    have l_b8_b9 : b8 < b9 := by rw [hb9]; exact Hw11.out.ltAt (i := 0) rfl
    have l_p_b9 : p < b9 := by rw [hb9]; exact Hw11.out.ltAt (i := 1) rfl
    have l_bm_b9 : bm < b9 := by rw [hb9]; exact Hw11.out.ltAt (i := 2) rfl
    have l_bG_b9 : bG < b9 := by rw [hb9]; exact Hw11.out.ltAt (i := 3) rfl
    have l_bn_b9 : bn < b9 := by rw [hb9]; exact Hw11.out.ltAt (i := 4) rfl
    have l_br_b9 : br < b9 := by rw [hb9]; exact Hw11.out.ltAt (i := 5) rfl
    have l_bc_b9 : bc < b9 := by rw [hb9]; exact Hw11.out.ltAt (i := 6) rfl
    have l_bz_b9 : bz < b9 := by rw [hb9]; exact Hw11.out.ltAt (i := 7) rfl
    have kb9 : b8 + 1 = b9 := by rw [hb9, hw11, hb8]; simp
    have Hw12 : Hid (Bq [(b9, 3, #[.int .i64 (-1)]), (b8, 3, #[.int .i64 (-1)]), (p, 3, #[.int .i64 t]), (bm, 30, #[.slice (some ⟨bG, 0, none⟩) n n]), (bG, 3, metC (metF W H t []) n), (bn, 3, #[.int .i64 n]), (br, 4, #[.bool false]), (bc, 3, #[.int .i64 c]), (bz, 23, #[.int .i64 W, .int .i64 H])] Ds w w12) := by show Bq _ _ _ _; rw [hw12, hb9]; exact Hw11.out.alloc _ _
    gi_wp2_with fail
    try simp only [← hb8, ← hw11, kb9, ← hw12]
    clear kb9 hw11 hw12
    clear hb8 hb9
    clear x_t c_t f_t e_t x_m c_m f_m e_m x_n c_n f_n e_n x_r c_r f_r e_r x_c c_c f_c e_c x_z c_z d_z f_z e_z
    replace HS := Hw12
    clear Hw11 Hw12
    refine ⟨trivial, ?_⟩
    refine (callsIn_wide.2 (cells_ab W H t _)).mono ?_
    rintro _ w13 ⟨B1, C1, rfl, hbx, hB, hC, hb⟩
    have hnf := cellsF_nil B1 C1
    replace HS := hid_mk (HS.out.below hb)
    clear hbx hB hC hb
    have x_last : Blk w13 b9 3 #[.int .i64 (-1)] := Bq.get HS.out (i := 0) rfl
    have c_last := x_last.cell1
    have f_last := x_last.frozen 0
    have e_last := x_last.lt
    have x_best : Blk w13 b8 3 #[.int .i64 (-1)] := Bq.get HS.out (i := 1) rfl
    have c_best := x_best.cell1
    have f_best := x_best.frozen 0
    have e_best := x_best.lt
    have x_t : Blk w13 p 3 #[.int .i64 t] := Bq.get HS.out (i := 2) rfl
    have c_t := x_t.cell1
    have f_t := x_t.frozen 0
    have e_t := x_t.lt
    have x_m : Blk w13 bm 30 #[.slice (some ⟨bG, 0, none⟩) n n] := Bq.get HS.out (i := 3) rfl
    have c_m := x_m.cell1
    have f_m := x_m.frozen 0
    have e_m := x_m.lt
    have x_n : Blk w13 bn 3 #[.int .i64 n] := Bq.get HS.out (i := 5) rfl
    have c_n := x_n.cell1
    have f_n := x_n.frozen 0
    have e_n := x_n.lt
    have x_r : Blk w13 br 4 #[.bool false] := Bq.get HS.out (i := 6) rfl
    have c_r := x_r.cell1
    have f_r := x_r.frozen 0
    have e_r := x_r.lt
    have x_c : Blk w13 bc 3 #[.int .i64 c] := Bq.get HS.out (i := 7) rfl
    have c_c := x_c.cell1
    have f_c := x_c.frozen 0
    have e_c := x_c.lt
    have x_z : Blk w13 bz 23 #[.int .i64 W, .int .i64 H] := Bq.get HS.out (i := 8) rfl
    obtain ⟨c_z, d_z⟩ := x_z.cells2
    have f_z := x_z.frozen 0
    have e_z := x_z.lt
    gi_wp2_with fail
    refine ⟨trivial, ?_⟩
    refine (callsIn_wide.2 (cells_ab W H t _)).mono ?_
    rintro _ w14 ⟨B2, C2, rfl, hbx, hB, hC, hb⟩
    clear x_last c_last f_last e_last x_best c_best f_best e_best x_t c_t f_t e_t x_m c_m f_m e_m x_n c_n f_n e_n x_r c_r f_r e_r x_c c_c f_c e_c x_z c_z d_z f_z e_z
    replace HS := hid_mk (HS.out.take2 hb hbx.1 hB hbx.2 hC (bx2_ne hbx))
    clear hbx hB hC hb
    have x_last : Blk w14 b9 3 #[.int .i64 (-1)] := Bq.get HS.out (i := 2) rfl
    have c_last := x_last.cell1
    have f_last := x_last.frozen 0
    have e_last := x_last.lt
    have x_best : Blk w14 b8 3 #[.int .i64 (-1)] := Bq.get HS.out (i := 3) rfl
    have c_best := x_best.cell1
    have f_best := x_best.frozen 0
    have e_best := x_best.lt
    have x_t : Blk w14 p 3 #[.int .i64 t] := Bq.get HS.out (i := 4) rfl
    have c_t := x_t.cell1
    have f_t := x_t.frozen 0
    have e_t := x_t.lt
    have x_m : Blk w14 bm 30 #[.slice (some ⟨bG, 0, none⟩) n n] := Bq.get HS.out (i := 5) rfl
    have c_m := x_m.cell1
    have f_m := x_m.frozen 0
    have e_m := x_m.lt
    have x_n : Blk w14 bn 3 #[.int .i64 n] := Bq.get HS.out (i := 7) rfl
    have c_n := x_n.cell1
    have f_n := x_n.frozen 0
    have e_n := x_n.lt
    have x_r : Blk w14 br 4 #[.bool false] := Bq.get HS.out (i := 8) rfl
    have c_r := x_r.cell1
    have f_r := x_r.frozen 0
    have e_r := x_r.lt
    have x_c : Blk w14 bc 3 #[.int .i64 c] := Bq.get HS.out (i := 9) rfl
    have c_c := x_c.cell1
    have f_c := x_c.frozen 0
    have e_c := x_c.lt
    have x_z : Blk w14 bz 23 #[.int .i64 W, .int .i64 H] := Bq.get HS.out (i := 10) rfl
    obtain ⟨c_z, d_z⟩ := x_z.cells2
    have f_z := x_z.frozen 0
    have e_z := x_z.lt
    clear hnf
    gi_wp2_with fail
    refine range_ownZ rfl (by omega) (gf := 31) (lb := #[.pointer (some ⟨B2, 0, none⟩), .pointer (some ⟨C2, 0, none⟩)]) rfl trivial (enters_of Try.func31 (by kernel_rfl) rfl) (cells1_z _ (by omega) _ _ W H t _ ⟨Bq.get HS.out (i := 1) rfl, Bq.get HS.out (i := 0) rfl⟩) (Below.refl _ _) (fun _ => rfl)
      (fun Z pre A => w14.heap.size ≤ A.heap.size ∧ Bq [(C2, 3, #[.int .i64 t]), (B2, 23, #[.int .i64 W, .int .i64 H]), (b9, 3, #[.int .i64 (lastI pre)]), (b8, 3, #[.int .i64 (bestN W H c pre)]), (p, 3, #[.int .i64 t]), (bm, 30, #[.slice (some ⟨bG, 0, none⟩) n n]), (bG, 3, metC (metF W H t pre) n), (bn, 3, #[.int .i64 n]), (br, 4, #[.bool false]), (bc, 3, #[.int .i64 c]), (bz, 23, #[.int .i64 W, .int .i64 H])] Ds w A) (fun Z cc pre A => False)
      (fun Z => Bq.owns (fun _ => rfl) HS.out.nlt HS.out.mlt HS.out.bl.size)
      (fun Z cc => fun s A A' row hs hg hr => hs.elim)
      (fun Z => ⟨Nat.le_refl _, HS.out⟩) (fun _ _ _ hs => ⟨Bq.get hs.2 (i := 1) rfl, Bq.get hs.2 (i := 0) rfl⟩) ?a11 ?assign1 ?body1 ?done1 ?stop1
    case assign1 =>
      intro lq x A Kk hK
      gi_wp2
      exact hK
    case body1 =>
      rintro lq Z pre x A hZ0 hZ1 ⟨hA0, hQ⟩ ⟨hpl, hpx⟩
      have HQ := hid_mk hQ
      clear hQ
      have m_last := e_last
      have m_best := e_best
      have m_t := e_t
      have m_m := e_m
      have m_n := e_n
      have m_r := e_r
      have m_c := e_c
      have m_z := e_z
      clear x_last c_last f_last e_last x_best c_best f_best e_best x_t c_t f_t e_t x_m c_m f_m e_m x_n c_n f_n e_n x_r c_r f_r e_r x_c c_c f_c e_c x_z c_z d_z f_z e_z
      have HBK : Hid (BK w14.heap.size Z A A) := BK.refl _ _ _
      have hZc : Z ≤ A.heap.size := hZ1
      have hAc : w14.heap.size ≤ A.heap.size := hA0
      have x_last : Blk A b9 3 #[.int .i64 (lastI pre)] := Bq.get HQ.out (i := 2) rfl
      have c_last := x_last.cell1
      have f_last := x_last.frozen 0
      have e_last := x_last.lt
      have x_best : Blk A b8 3 #[.int .i64 (bestN W H c pre)] := Bq.get HQ.out (i := 3) rfl
      have c_best := x_best.cell1
      have f_best := x_best.frozen 0
      have e_best := x_best.lt
      have x_t : Blk A p 3 #[.int .i64 t] := Bq.get HQ.out (i := 4) rfl
      have c_t := x_t.cell1
      have f_t := x_t.frozen 0
      have e_t := x_t.lt
      have x_m : Blk A bm 30 #[.slice (some ⟨bG, 0, none⟩) n n] := Bq.get HQ.out (i := 5) rfl
      have c_m := x_m.cell1
      have f_m := x_m.frozen 0
      have e_m := x_m.lt
      have x_n : Blk A bn 3 #[.int .i64 n] := Bq.get HQ.out (i := 7) rfl
      have c_n := x_n.cell1
      have f_n := x_n.frozen 0
      have e_n := x_n.lt
      have x_r : Blk A br 4 #[.bool false] := Bq.get HQ.out (i := 8) rfl
      have c_r := x_r.cell1
      have f_r := x_r.frozen 0
      have e_r := x_r.lt
      have x_c : Blk A bc 3 #[.int .i64 c] := Bq.get HQ.out (i := 9) rfl
      have c_c := x_c.cell1
      have f_c := x_c.frozen 0
      have e_c := x_c.lt
      have x_z : Blk A bz 23 #[.int .i64 W, .int .i64 H] := Bq.get HQ.out (i := 10) rfl
      obtain ⟨c_z, d_z⟩ := x_z.cells2
      have f_z := x_z.frozen 0
      have e_z := x_z.lt
      have mG : bG < w14.heap.size := HS.out.ltAt (i := 6) rfl
      obtain ⟨q1, q2, q3, q4, q5, q6, q7⟩ := part_step (show pre ++ [x] <+: cellsL W H t from hpx)
      have q8 := last_bd ((List.prefix_append pre [x]).trans (show pre ++ [x] <+: cellsL W H t from hpx))
      rw [HNN.out] at q7
      obtain ⟨i, rfl⟩ : ∃ i : Nat, x = (i : Int) := ⟨x.toNat, by omega⟩
      have hin : i < n := by omega
      have hii : (i : Int) < (n : Int) := by omega
      have CX := hid_mk (fun X => of_yes W H i X q3)
      rw [q4] at CX
      have CA := hid_mk (fun X => away_any W H c i X)
      have hbb := bestN_bd W H c pre
      have hdd := away_bd W H c i
      have hmf := metF_bd W H t pre i
      have HME := hid_mk (show metC (metF W H t (pre ++ [(i : Int)])) n = (metC (metF W H t pre) n).setIfInBounds i (.int .i64 (metF W H t pre i + 1)) from by rw [metC_set]; exact metC_congr fun k _ => metF_snoc q2 k)
      have HBN := hid_mk (bestN_snoc W H c pre i)
      have x_G : Blk A bG 3 (metC (metF W H t pre) n) := Bq.get HQ.out (i := 6) rfl
      have HGC := hid_mk (metC_at (f := metF W H t pre) hin)
      generalize lastI pre = la at *
      generalize bestN W H c pre = be at *
      generalize awayN W H c i = d at *
      generalize metF W H t pre i = mf at *
      clear q2 q3 q4 q5 hpx hpl
      clear x_G
      gi_wp2_with fail
      refine ⟨trivial, ?_⟩
      refine (CallsIn.inRound lq (callsIn_wide.2 (CX.out _))).mono ?_
      rintro _ w15 ⟨rfl, hb⟩
      clear x_last c_last f_last e_last x_best c_best f_best e_best x_t c_t f_t e_t x_m c_m f_m e_m x_n c_n f_n e_n x_r c_r f_r e_r x_c c_c f_c e_c x_z c_z d_z f_z e_z
      replace HBK := hid_mk (HBK.out.trans (BK.of_below hb hZc))
      replace hZc := Nat.le_trans hZc hb.size
      replace hAc := Nat.le_trans hAc hb.size
      replace HQ := hid_mk (HQ.out.below hb)
      clear hb
      have x_last : Blk w15 b9 3 #[.int .i64 la] := Bq.get HQ.out (i := 2) rfl
      have c_last := x_last.cell1
      have f_last := x_last.frozen 0
      have e_last := x_last.lt
      have x_best : Blk w15 b8 3 #[.int .i64 be] := Bq.get HQ.out (i := 3) rfl
      have c_best := x_best.cell1
      have f_best := x_best.frozen 0
      have e_best := x_best.lt
      have x_t : Blk w15 p 3 #[.int .i64 t] := Bq.get HQ.out (i := 4) rfl
      have c_t := x_t.cell1
      have f_t := x_t.frozen 0
      have e_t := x_t.lt
      have x_m : Blk w15 bm 30 #[.slice (some ⟨bG, 0, none⟩) n n] := Bq.get HQ.out (i := 5) rfl
      have c_m := x_m.cell1
      have f_m := x_m.frozen 0
      have e_m := x_m.lt
      have x_n : Blk w15 bn 3 #[.int .i64 n] := Bq.get HQ.out (i := 7) rfl
      have c_n := x_n.cell1
      have f_n := x_n.frozen 0
      have e_n := x_n.lt
      have x_r : Blk w15 br 4 #[.bool false] := Bq.get HQ.out (i := 8) rfl
      have c_r := x_r.cell1
      have f_r := x_r.frozen 0
      have e_r := x_r.lt
      have x_c : Blk w15 bc 3 #[.int .i64 c] := Bq.get HQ.out (i := 9) rfl
      have c_c := x_c.cell1
      have f_c := x_c.frozen 0
      have e_c := x_c.lt
      have x_z : Blk w15 bz 23 #[.int .i64 W, .int .i64 H] := Bq.get HQ.out (i := 10) rfl
      obtain ⟨c_z, d_z⟩ := x_z.cells2
      have f_z := x_z.frozen 0
      have e_z := x_z.lt
      have x_G : Blk w15 bG 3 (metC (metF W H t pre) n) := Bq.get HQ.out (i := 6) rfl
      have c_G := x_G.at HGC.out
      have f_G := x_G.frozen i
      have e_G := x_G.lt
      have p1 : ¬ (i : Int) ≤ la := by omega
      have p2 : ¬ (n : Int) ≤ (i : Int) := by omega
      obtain ⟨A2, hA2⟩ : ∃ A2, A2 = (w15.setCell ⟨b9, 0, none⟩ (.int .i64 i)).setCell ⟨bG, i, none⟩ (.int .i64 (mf + 1)) := ⟨_, rfl⟩
      have HQ2 : Hid (Bq [(C2, 3, #[.int .i64 t]), (B2, 23, #[.int .i64 W, .int .i64 H]), (b9, 3, #[.int .i64 i]), (b8, 3, #[.int .i64 be]), (p, 3, #[.int .i64 t]), (bm, 30, #[.slice (some ⟨bG, 0, none⟩) n n]), (bG, 3, (metC (metF W H t pre) n).setIfInBounds i (.int .i64 (mf + 1))), (bn, 3, #[.int .i64 n]), (br, 4, #[.bool false]), (bc, 3, #[.int .i64 c]), (bz, 23, #[.int .i64 W, .int .i64 H])] Ds w A2) := by show Bq _ _ _ _; rw [hA2]; exact (HQ.out.setAt (i := 2) rfl 0 _).setAt (i := 6) rfl i _
      have HBK2 : Hid (BK w14.heap.size Z A A2) := by show BK _ _ _ _; rw [hA2]; exact (HBK.out.trans (bk_set _ m_last)).trans (bk_set _ mG)
      have hs2 : A2.heap.size = w15.heap.size := by rw [hA2, size_set, size_set]
      gi_wp2_with fail
      rw [← hA2]
      refine ⟨trivial, ?_⟩
      refine (CallsIn.inRound lq (callsIn_wide.2 (CA.out _))).mono ?_
      rintro _ A3 ⟨rfl, hb⟩
      clear x_last c_last f_last e_last x_best c_best f_best e_best x_t c_t f_t e_t x_m c_m f_m e_m x_n c_n f_n e_n x_r c_r f_r e_r x_c c_c f_c e_c x_z c_z d_z f_z e_z
      clear x_G c_G f_G e_G hA2
      replace HQ := HQ2
      replace HBK := HBK2
      rw [← hs2] at hZc hAc
      clear HQ2 HBK2 hs2
      replace HBK := hid_mk (HBK.out.trans (BK.of_below hb hZc))
      replace hZc := Nat.le_trans hZc hb.size
      replace hAc := Nat.le_trans hAc hb.size
      replace HQ := hid_mk (HQ.out.below hb)
      clear hb
      have x_last : Blk A3 b9 3 #[.int .i64 i] := Bq.get HQ.out (i := 2) rfl
      have c_last := x_last.cell1
      have f_last := x_last.frozen 0
      have e_last := x_last.lt
      have x_best : Blk A3 b8 3 #[.int .i64 be] := Bq.get HQ.out (i := 3) rfl
      have c_best := x_best.cell1
      have f_best := x_best.frozen 0
      have e_best := x_best.lt
      have x_t : Blk A3 p 3 #[.int .i64 t] := Bq.get HQ.out (i := 4) rfl
      have c_t := x_t.cell1
      have f_t := x_t.frozen 0
      have e_t := x_t.lt
      have x_m : Blk A3 bm 30 #[.slice (some ⟨bG, 0, none⟩) n n] := Bq.get HQ.out (i := 5) rfl
      have c_m := x_m.cell1
      have f_m := x_m.frozen 0
      have e_m := x_m.lt
      have x_n : Blk A3 bn 3 #[.int .i64 n] := Bq.get HQ.out (i := 7) rfl
      have c_n := x_n.cell1
      have f_n := x_n.frozen 0
      have e_n := x_n.lt
      have x_r : Blk A3 br 4 #[.bool false] := Bq.get HQ.out (i := 8) rfl
      have c_r := x_r.cell1
      have f_r := x_r.frozen 0
      have e_r := x_r.lt
      have x_c : Blk A3 bc 3 #[.int .i64 c] := Bq.get HQ.out (i := 9) rfl
      have c_c := x_c.cell1
      have f_c := x_c.frozen 0
      have e_c := x_c.lt
      have x_z : Blk A3 bz 23 #[.int .i64 W, .int .i64 H] := Bq.get HQ.out (i := 10) rfl
      obtain ⟨c_z, d_z⟩ := x_z.cells2
      have f_z := x_z.frozen 0
      have e_z := x_z.lt
      by_cases hb0 : be < 0
      · skip
        gi_wp2
        refine ⟨(HBK.out).trans (bk_set _ m_best), ?_, ?_⟩
        · rw [size_set]; exact hAc
        · rw [lastI_snoc, HBN.out, if_pos (.inl hb0), HME.out]; exact (HQ.out).setAt (i := 3) rfl 0 _
      by_cases hb1 : d < be
      · skip
        gi_wp2
        refine ⟨(HBK.out).trans (bk_set _ m_best), ?_, ?_⟩
        · rw [size_set]; exact hAc
        · rw [lastI_snoc, HBN.out, if_pos (.inr hb1), HME.out]; exact (HQ.out).setAt (i := 3) rfl 0 _
      · skip
        gi_wp2
        refine ⟨HBK.out, ?_, ?_⟩
        · exact hAc
        · rw [lastI_snoc, HBN.out, if_neg (by omega), HME.out]; exact HQ.out
    case stop1 =>
      intro D Z cc pre A hD hpre hs
      exact hs.elim
    case done1 =>
      rintro D1 Z ys A16 hD hys ⟨hA0, hQ⟩ hK
      obtain rfl := show ys = _ from hys
      rw [bestN_all HTL.out, metC_congr (fun k hk => metF_next HTL.out (HIN.out k (by rw [HNN.out]; omega)))] at hQ
      replace HS := hid_mk (hQ.mark hK hD HS.out.mlt HS.out.bl.size)
      clear x_last c_last f_last e_last x_best c_best f_best e_best x_t c_t f_t e_t x_m c_m f_m e_m x_n c_n f_n e_n x_r c_r f_r e_r x_c c_c f_c e_c x_z c_z d_z f_z e_z
      clear hQ hK hD hA0 hys
      have hla := last_all HTL.out
      have hlb := last_bd (W := W) (H := H) (t := t) List.prefix_rfl
      generalize lastI (cellsL W H t) = la at *
      have hdz := taway_zero (W := W) (H := H) (c := c) (t := t)
      have CD := hid_mk (fun X => taway_any W H c t X)
      have CO := hid_mk (fun X => tof_any W H c X)
      have hdb := taway_bd W H c t
      generalize tawayN W H c t = d at *
      generalize ofN W H c = own at *
      generalize inB W H c = ok at *
      have x_last : Blk A16 b9 3 #[.int .i64 la] := Bq.get HS.out (i := 2) rfl
      have c_last := x_last.cell1
      have f_last := x_last.frozen 0
      have e_last := x_last.lt
      have x_best : Blk A16 b8 3 #[.int .i64 d] := Bq.get HS.out (i := 3) rfl
      have c_best := x_best.cell1
      have f_best := x_best.frozen 0
      have e_best := x_best.lt
      have x_t : Blk A16 p 3 #[.int .i64 t] := Bq.get HS.out (i := 4) rfl
      have c_t := x_t.cell1
      have f_t := x_t.frozen 0
      have e_t := x_t.lt
      have x_m : Blk A16 bm 30 #[.slice (some ⟨bG, 0, none⟩) n n] := Bq.get HS.out (i := 5) rfl
      have c_m := x_m.cell1
      have f_m := x_m.frozen 0
      have e_m := x_m.lt
      have x_n : Blk A16 bn 3 #[.int .i64 n] := Bq.get HS.out (i := 7) rfl
      have c_n := x_n.cell1
      have f_n := x_n.frozen 0
      have e_n := x_n.lt
      have x_r : Blk A16 br 4 #[.bool false] := Bq.get HS.out (i := 8) rfl
      have c_r := x_r.cell1
      have f_r := x_r.frozen 0
      have e_r := x_r.lt
      have x_c : Blk A16 bc 3 #[.int .i64 c] := Bq.get HS.out (i := 9) rfl
      have c_c := x_c.cell1
      have f_c := x_c.frozen 0
      have e_c := x_c.lt
      have x_z : Blk A16 bz 23 #[.int .i64 W, .int .i64 H] := Bq.get HS.out (i := 10) rfl
      obtain ⟨c_z, d_z⟩ := x_z.cells2
      have f_z := x_z.frozen 0
      have e_z := x_z.lt
      gi_wp2_with fail
      refine ⟨trivial, ?_⟩
      refine (callsIn_wide.2 (CO.out _)).mono ?_
      rintro _ w17 ⟨rfl, hb⟩
      clear x_last c_last f_last e_last x_best c_best f_best e_best x_t c_t f_t e_t x_m c_m f_m e_m x_n c_n f_n e_n x_r c_r f_r e_r x_c c_c f_c e_c x_z c_z d_z f_z e_z
      replace HS := hid_mk (HS.out.below hb)
      clear hb
      have x_last : Blk w17 b9 3 #[.int .i64 la] := Bq.get HS.out (i := 2) rfl
      have c_last := x_last.cell1
      have f_last := x_last.frozen 0
      have e_last := x_last.lt
      have x_best : Blk w17 b8 3 #[.int .i64 d] := Bq.get HS.out (i := 3) rfl
      have c_best := x_best.cell1
      have f_best := x_best.frozen 0
      have e_best := x_best.lt
      have x_t : Blk w17 p 3 #[.int .i64 t] := Bq.get HS.out (i := 4) rfl
      have c_t := x_t.cell1
      have f_t := x_t.frozen 0
      have e_t := x_t.lt
      have x_m : Blk w17 bm 30 #[.slice (some ⟨bG, 0, none⟩) n n] := Bq.get HS.out (i := 5) rfl
      have c_m := x_m.cell1
      have f_m := x_m.frozen 0
      have e_m := x_m.lt
      have x_n : Blk w17 bn 3 #[.int .i64 n] := Bq.get HS.out (i := 7) rfl
      have c_n := x_n.cell1
      have f_n := x_n.frozen 0
      have e_n := x_n.lt
      have x_r : Blk w17 br 4 #[.bool false] := Bq.get HS.out (i := 8) rfl
      have c_r := x_r.cell1
      have f_r := x_r.frozen 0
      have e_r := x_r.lt
      have x_c : Blk w17 bc 3 #[.int .i64 c] := Bq.get HS.out (i := 9) rfl
      have c_c := x_c.cell1
      have f_c := x_c.frozen 0
      have e_c := x_c.lt
      have x_z : Blk w17 bz 23 #[.int .i64 W, .int .i64 H] := Bq.get HS.out (i := 10) rfl
      obtain ⟨c_z, d_z⟩ := x_z.cells2
      have f_z := x_z.frozen 0
      have e_z := x_z.lt
      have hla2 : decide (la < 0) = false := by simpa using hla
      have hdd : (d != d) = false := by simp
      by_cases hz : d = 0
      · obtain ⟨k1, _, k2⟩ := hdz.1 hz
        subst hz k1 k2
        clear hdz
        have gn := Grow.ne w17
        have G_t : ∀ g : Grow w17, g.w.cell? ⟨p, 0, none⟩ = some _ := fun g => Grow.cell e_t c_t g
        have G_z : ∀ g : Grow w17, g.w.cell? ⟨bz, 0, none⟩ = some _ := fun g => Grow.cell e_z c_z g
        have K_z : ∀ g : Grow w17, g.w.cell? ⟨bz, 1, none⟩ = some _ := fun g => Grow.cell e_z d_z g
        have G_c : ∀ g : Grow w17, g.w.cell? ⟨bc, 0, none⟩ = some _ := fun g => Grow.cell e_c c_c g
        have G_last : ∀ g : Grow w17, g.w.cell? ⟨b9, 0, none⟩ = some _ := fun g => Grow.cell e_last c_last g
        have G_best : ∀ g : Grow w17, g.w.cell? ⟨b8, 0, none⟩ = some _ := fun g => Grow.cell e_best c_best g
        gi_wp2_with fail
        refine wpIn_wide.2 ?_
        refine wp_region_grow (by kernel_rfl) (by kernel_rfl) ?_
        repeat (go_big_quiet_step ((go_at_call 14; exact grow_call (CD.out _))))
        refine wpQuiet_nil ?_
        rintro w18 ⟨⟨_, hb⟩, rfl⟩
        clear G_t G_z K_z G_c G_last G_best gn
        clear x_last c_last f_last e_last x_best c_best f_best e_best x_t c_t f_t e_t x_m c_m f_m e_m x_n c_n f_n e_n x_r c_r f_r e_r x_c c_c f_c e_c x_z c_z d_z f_z e_z
        replace HS := hid_mk (HS.out.below hb)
        clear hb
        have x_last : Blk w18 b9 3 #[.int .i64 la] := Bq.get HS.out (i := 2) rfl
        have c_last := x_last.cell1
        have f_last := x_last.frozen 0
        have e_last := x_last.lt
        have x_best : Blk w18 b8 3 #[.int .i64 0] := Bq.get HS.out (i := 3) rfl
        have c_best := x_best.cell1
        have f_best := x_best.frozen 0
        have e_best := x_best.lt
        have x_t : Blk w18 p 3 #[.int .i64 t] := Bq.get HS.out (i := 4) rfl
        have c_t := x_t.cell1
        have f_t := x_t.frozen 0
        have e_t := x_t.lt
        have x_m : Blk w18 bm 30 #[.slice (some ⟨bG, 0, none⟩) n n] := Bq.get HS.out (i := 5) rfl
        have c_m := x_m.cell1
        have f_m := x_m.frozen 0
        have e_m := x_m.lt
        have x_n : Blk w18 bn 3 #[.int .i64 n] := Bq.get HS.out (i := 7) rfl
        have c_n := x_n.cell1
        have f_n := x_n.frozen 0
        have e_n := x_n.lt
        have x_r : Blk w18 br 4 #[.bool false] := Bq.get HS.out (i := 8) rfl
        have c_r := x_r.cell1
        have f_r := x_r.frozen 0
        have e_r := x_r.lt
        have x_c : Blk w18 bc 3 #[.int .i64 c] := Bq.get HS.out (i := 9) rfl
        have c_c := x_c.cell1
        have f_c := x_c.frozen 0
        have e_c := x_c.lt
        have x_z : Blk w18 bz 23 #[.int .i64 W, .int .i64 H] := Bq.get HS.out (i := 10) rfl
        obtain ⟨c_z, d_z⟩ := x_z.cells2
        have f_z := x_z.frozen 0
        have e_z := x_z.lt
        have HN0 : Bq [(bm, 30, #[.slice (some ⟨bG, 0, none⟩) n n]), (bG, 3, metC (metF W H ((t + 1 : Nat) : Int) []) n), (bn, 3, #[.int .i64 n]), (br, 4, #[.bool false]), (bc, 3, #[.int .i64 c]), (bz, 23, #[.int .i64 W, .int .i64 H])] (D1 :: Ds) w w18 := HS.out.sub (.cons _ (.cons _ (.cons _ (.cons _ (.cons _ (.cons_cons _ (.cons_cons _ (.cons_cons _ (.cons_cons _ (.cons_cons _ (.cons_cons _ .slnil)))))))))))
        have HN : Hid (Bq [(w18.heap.size, 3, #[.int .i64 ((t + 1 : Nat) : Int)]), (bm, 30, #[.slice (some ⟨bG, 0, none⟩) n n]), (bG, 3, metC (metF W H ((t + 1 : Nat) : Int) []) n), (bn, 3, #[.int .i64 n]), (br, 4, #[.bool false]), (bc, 3, #[.int .i64 c]), (bz, 23, #[.int .i64 W, .int .i64 H])] (D1 :: Ds) w (w18.alloc (.cells #[.int .i64 ((t : Int) + 1)] 3))) := HN0.alloc _ _
        clear HN0
        gi_wp2_with fail
        refine Handed.intro (gk - 1) (by omega) ?_
        exact hJ _ _ _ (ip_mk (t + 1) w18.heap.size (D1 :: Ds) (by omega) rfl HN.out)
      have hz0 : (d == 0) = false := by simpa using hz
      cases ok
      · clear hdz
        have gn := Grow.ne w17
        have G_t : ∀ g : Grow w17, g.w.cell? ⟨p, 0, none⟩ = some _ := fun g => Grow.cell e_t c_t g
        have G_z : ∀ g : Grow w17, g.w.cell? ⟨bz, 0, none⟩ = some _ := fun g => Grow.cell e_z c_z g
        have K_z : ∀ g : Grow w17, g.w.cell? ⟨bz, 1, none⟩ = some _ := fun g => Grow.cell e_z d_z g
        have G_c : ∀ g : Grow w17, g.w.cell? ⟨bc, 0, none⟩ = some _ := fun g => Grow.cell e_c c_c g
        have G_last : ∀ g : Grow w17, g.w.cell? ⟨b9, 0, none⟩ = some _ := fun g => Grow.cell e_last c_last g
        have G_best : ∀ g : Grow w17, g.w.cell? ⟨b8, 0, none⟩ = some _ := fun g => Grow.cell e_best c_best g
        gi_wp2_with fail
        refine wpIn_wide.2 ?_
        refine wp_region_grow (by kernel_rfl) (by kernel_rfl) ?_
        repeat (go_big_quiet_step ((go_at_call 14; exact grow_call (CD.out _))))
        refine wpQuiet_nil ?_
        rintro w19 ⟨⟨_, hb⟩, rfl⟩
        clear G_t G_z K_z G_c G_last G_best gn
        clear x_last c_last f_last e_last x_best c_best f_best e_best x_t c_t f_t e_t x_m c_m f_m e_m x_n c_n f_n e_n x_r c_r f_r e_r x_c c_c f_c e_c x_z c_z d_z f_z e_z
        replace HS := hid_mk (HS.out.below hb)
        clear hb
        have x_last : Blk w19 b9 3 #[.int .i64 la] := Bq.get HS.out (i := 2) rfl
        have c_last := x_last.cell1
        have f_last := x_last.frozen 0
        have e_last := x_last.lt
        have x_best : Blk w19 b8 3 #[.int .i64 d] := Bq.get HS.out (i := 3) rfl
        have c_best := x_best.cell1
        have f_best := x_best.frozen 0
        have e_best := x_best.lt
        have x_t : Blk w19 p 3 #[.int .i64 t] := Bq.get HS.out (i := 4) rfl
        have c_t := x_t.cell1
        have f_t := x_t.frozen 0
        have e_t := x_t.lt
        have x_m : Blk w19 bm 30 #[.slice (some ⟨bG, 0, none⟩) n n] := Bq.get HS.out (i := 5) rfl
        have c_m := x_m.cell1
        have f_m := x_m.frozen 0
        have e_m := x_m.lt
        have x_n : Blk w19 bn 3 #[.int .i64 n] := Bq.get HS.out (i := 7) rfl
        have c_n := x_n.cell1
        have f_n := x_n.frozen 0
        have e_n := x_n.lt
        have x_r : Blk w19 br 4 #[.bool false] := Bq.get HS.out (i := 8) rfl
        have c_r := x_r.cell1
        have f_r := x_r.frozen 0
        have e_r := x_r.lt
        have x_c : Blk w19 bc 3 #[.int .i64 c] := Bq.get HS.out (i := 9) rfl
        have c_c := x_c.cell1
        have f_c := x_c.frozen 0
        have e_c := x_c.lt
        have x_z : Blk w19 bz 23 #[.int .i64 W, .int .i64 H] := Bq.get HS.out (i := 10) rfl
        obtain ⟨c_z, d_z⟩ := x_z.cells2
        have f_z := x_z.frozen 0
        have e_z := x_z.lt
        have HN0 : Bq [(bm, 30, #[.slice (some ⟨bG, 0, none⟩) n n]), (bG, 3, metC (metF W H ((t + 1 : Nat) : Int) []) n), (bn, 3, #[.int .i64 n]), (br, 4, #[.bool false]), (bc, 3, #[.int .i64 c]), (bz, 23, #[.int .i64 W, .int .i64 H])] (D1 :: Ds) w w19 := HS.out.sub (.cons _ (.cons _ (.cons _ (.cons _ (.cons _ (.cons_cons _ (.cons_cons _ (.cons_cons _ (.cons_cons _ (.cons_cons _ (.cons_cons _ .slnil)))))))))))
        have HN : Hid (Bq [(w19.heap.size, 3, #[.int .i64 ((t + 1 : Nat) : Int)]), (bm, 30, #[.slice (some ⟨bG, 0, none⟩) n n]), (bG, 3, metC (metF W H ((t + 1 : Nat) : Int) []) n), (bn, 3, #[.int .i64 n]), (br, 4, #[.bool false]), (bc, 3, #[.int .i64 c]), (bz, 23, #[.int .i64 W, .int .i64 H])] (D1 :: Ds) w (w19.alloc (.cells #[.int .i64 ((t : Int) + 1)] 3))) := HN0.alloc _ _
        clear HN0
        gi_wp2_with fail
        refine Handed.intro (gk - 1) (by omega) ?_
        exact hJ _ _ _ (ip_mk (t + 1) w19.heap.size (D1 :: Ds) (by omega) rfl HN.out)
      · have hown : (own == (t : Int)) = false := by simp; exact fun e => hz (hdz.2 ⟨rfl, HTL.out, e⟩)
        clear hdz
        have gn := Grow.ne w17
        have G_t : ∀ g : Grow w17, g.w.cell? ⟨p, 0, none⟩ = some _ := fun g => Grow.cell e_t c_t g
        have G_z : ∀ g : Grow w17, g.w.cell? ⟨bz, 0, none⟩ = some _ := fun g => Grow.cell e_z c_z g
        have K_z : ∀ g : Grow w17, g.w.cell? ⟨bz, 1, none⟩ = some _ := fun g => Grow.cell e_z d_z g
        have G_c : ∀ g : Grow w17, g.w.cell? ⟨bc, 0, none⟩ = some _ := fun g => Grow.cell e_c c_c g
        have G_last : ∀ g : Grow w17, g.w.cell? ⟨b9, 0, none⟩ = some _ := fun g => Grow.cell e_last c_last g
        have G_best : ∀ g : Grow w17, g.w.cell? ⟨b8, 0, none⟩ = some _ := fun g => Grow.cell e_best c_best g
        gi_wp2_with fail
        refine wpIn_wide.2 ?_
        refine wp_region_grow (by kernel_rfl) (by kernel_rfl) ?_
        repeat (go_big_quiet_step ((go_at_call 14; exact grow_call (CD.out _))))
        refine wpQuiet_nil ?_
        rintro w20 ⟨⟨_, hb⟩, rfl⟩
        clear G_t G_z K_z G_c G_last G_best gn
        clear x_last c_last f_last e_last x_best c_best f_best e_best x_t c_t f_t e_t x_m c_m f_m e_m x_n c_n f_n e_n x_r c_r f_r e_r x_c c_c f_c e_c x_z c_z d_z f_z e_z
        replace HS := hid_mk (HS.out.below hb)
        clear hb
        have x_last : Blk w20 b9 3 #[.int .i64 la] := Bq.get HS.out (i := 2) rfl
        have c_last := x_last.cell1
        have f_last := x_last.frozen 0
        have e_last := x_last.lt
        have x_best : Blk w20 b8 3 #[.int .i64 d] := Bq.get HS.out (i := 3) rfl
        have c_best := x_best.cell1
        have f_best := x_best.frozen 0
        have e_best := x_best.lt
        have x_t : Blk w20 p 3 #[.int .i64 t] := Bq.get HS.out (i := 4) rfl
        have c_t := x_t.cell1
        have f_t := x_t.frozen 0
        have e_t := x_t.lt
        have x_m : Blk w20 bm 30 #[.slice (some ⟨bG, 0, none⟩) n n] := Bq.get HS.out (i := 5) rfl
        have c_m := x_m.cell1
        have f_m := x_m.frozen 0
        have e_m := x_m.lt
        have x_n : Blk w20 bn 3 #[.int .i64 n] := Bq.get HS.out (i := 7) rfl
        have c_n := x_n.cell1
        have f_n := x_n.frozen 0
        have e_n := x_n.lt
        have x_r : Blk w20 br 4 #[.bool false] := Bq.get HS.out (i := 8) rfl
        have c_r := x_r.cell1
        have f_r := x_r.frozen 0
        have e_r := x_r.lt
        have x_c : Blk w20 bc 3 #[.int .i64 c] := Bq.get HS.out (i := 9) rfl
        have c_c := x_c.cell1
        have f_c := x_c.frozen 0
        have e_c := x_c.lt
        have x_z : Blk w20 bz 23 #[.int .i64 W, .int .i64 H] := Bq.get HS.out (i := 10) rfl
        obtain ⟨c_z, d_z⟩ := x_z.cells2
        have f_z := x_z.frozen 0
        have e_z := x_z.lt
        have HN0 : Bq [(bm, 30, #[.slice (some ⟨bG, 0, none⟩) n n]), (bG, 3, metC (metF W H ((t + 1 : Nat) : Int) []) n), (bn, 3, #[.int .i64 n]), (br, 4, #[.bool false]), (bc, 3, #[.int .i64 c]), (bz, 23, #[.int .i64 W, .int .i64 H])] (D1 :: Ds) w w20 := HS.out.sub (.cons _ (.cons _ (.cons _ (.cons _ (.cons _ (.cons_cons _ (.cons_cons _ (.cons_cons _ (.cons_cons _ (.cons_cons _ (.cons_cons _ .slnil)))))))))))
        have HN : Hid (Bq [(w20.heap.size, 3, #[.int .i64 ((t + 1 : Nat) : Int)]), (bm, 30, #[.slice (some ⟨bG, 0, none⟩) n n]), (bG, 3, metC (metF W H ((t + 1 : Nat) : Int) []) n), (bn, 3, #[.int .i64 n]), (br, 4, #[.bool false]), (bc, 3, #[.int .i64 c]), (bz, 23, #[.int .i64 W, .int .i64 H])] (D1 :: Ds) w (w20.alloc (.cells #[.int .i64 ((t : Int) + 1)] 3))) := HN0.alloc _ _
        clear HN0
        gi_wp2_with fail
        refine Handed.intro (gk - 1) (by omega) ?_
        exact hJ _ _ _ (ip_mk (t + 1) w20.heap.size (D1 :: Ds) (by omega) rfl HN.out)
  · obtain rfl : t = M := by omega
    have hti : ¬ (t : Int) < (t : Int) := by omega
    clear htk
    have x_G : Blk w10 bG 3 (metC (metF W H t []) n) := Bq.get HS.out (i := 2) rfl
    have HG := hid_mk x_G
    clear x_G hlt
    gi_wp2
    gi_loopw [16] (fun vi wr => ∃ i : Nat, vi = .int .i64 i ∧ i ≤ n ∧ wr = w10) (fun vi _ => n - (intOf vi).toNat)
    case atStart => exact ⟨0, rfl, Nat.zero_le _, rfl⟩
    case round =>
      obtain ⟨i, rfl, hi, rfl⟩ := hrel
      by_cases hin : i < n
      · have hii : (i : Int) < (n : Int) := by omega
        have c_G := HG.out.at (metC_at (f := metF W H t []) hin)
        rw [HAL.out i hin] at c_G
        gi_wp2
        go_roundw
        case rel => exact ⟨i + 1, by go_num, by omega, by first | rfl | trivial⟩
        case measure => simp [intOf]; omega
      · obtain rfl : n = i := by omega
        have hii : ¬ (n : Int) < (n : Int) := by omega
        gi_wp2
        have HE0 : Bq [(p, 3, #[.int .i64 t]), (bm, 30, #[.slice (some ⟨bG, 0, none⟩) n n]), (bG, 3, metC (metF W H t []) n), (bn, 3, #[.int .i64 n]), (br, 4, #[.bool true]), (bc, 3, #[.int .i64 c]), (bz, 23, #[.int .i64 W, .int .i64 H])] Ds w (wr.setCell ⟨br, 0, none⟩ (.bool true)) := HS.out.setAt (i := 4) rfl 0 _
        have HE := hid_mk HE0
        show LeavesInM _ _ _ _ _ _ (marks Ds) _ _
        refine Bq.leave (by simp) HE.out fun W' hb1 hb2 => ⟨.bool true, ?_, rfl, hb2⟩
        have hc5 := (show Blk W' br 4 #[.bool true] from hb1 _ (List.mem_of_getElem? (i := 4) rfl)).cell1
        simp [results, Try.f4, go_sem, hc5]
end Go.Proofs.Ytabgplniaiehpab.Pl
