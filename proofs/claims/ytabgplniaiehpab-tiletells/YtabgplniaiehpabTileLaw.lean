/- Layer 12's statements: awake; TileKnown's walk. -/
import Derived.Test.YtabgplniaiehpabTileBes
import Derived.Test.YtabgplniaiehpabBoxes
namespace Go.Proofs.Ytabgplniaiehpab.Pl
open Go.RowKit Go.Shelf
attribute [local go_sem] Oper.semAt_some
set_option linter.unusedVariables false
theorem bx2_ne {B C : Nat} {W H c : Int} {w : World} (h : Bx2 B C W H c w) : C ≠ B := fun e => by
  subst e
  have h1 : w.heap[C]? = some (.cells #[.int .i64 W, .int .i64 H] 23 (0, 0)) := h.1
  have h2 : w.heap[C]? = some (.cells #[.int .i64 c] 3 (0, 0)) := h.2
  rw [h1] at h2
  have := Option.some.inj h2
  injection this with h3
  have := congrArg Array.size h3
  simp at this
/-- The last one told. -/
def lastO (l : List Int) : Int := l.getLast?.getD 0
theorem lastO_snoc (l : List Int) (x : Int) : lastO (l ++ [x]) = x := by simp [lastO]
/-- Numbers as digits. -/
def digO (l : List Int) : Int := l.foldl (fun a x => 10 * a + x) 0
theorem digO_snoc (l : List Int) (x : Int) : digO (l ++ [x]) = 10 * digO l + x := by simp [digO, List.foldl_append]
theorem dig_bd {pre : List Int} {x : Int} (h : PartOf [0, 2, 4] (pre ++ [x])) : 0 ≤ digO pre ∧ digO pre ≤ 100 ∧ 0 ≤ x ∧ x ≤ 4 := by
  obtain ⟨t, ht⟩ := h
  rcases pre with _ | ⟨a, _ | ⟨b, _ | ⟨c, pre⟩⟩⟩
  · simp at ht; simp [digO]; omega
  · simp at ht; simp [digO]; omega
  · simp at ht; simp [digO]; omega
  · simp at ht
theorem ex_all : ofN 20 10 160 = 3 ∧ inB 20 10 160 = true ∧ bxN 20 10 5 = 16 ∧ byN 20 10 5 = 8 ∧ bwN 20 10 5 = 4 ∧ bhN 20 10 5 = 2 ∧ tileB 20 10 5 = true ∧ (cellsL 20 10 5).length = 8 ∧ tbesL 20 10 1 = [0, 2, 4] ∧ countN 20 10 = 6 ∧ tawayN 20 10 0 4 = 16 := by decide +kernel
theorem ex_more : ofN 20 10 7 = 0 ∧ ofN 20 10 8 = 1 ∧ inB 20 10 200 = false ∧ bxN 20 10 2 = 16 ∧ byN 20 10 2 = 0 ∧ bwN 20 10 2 = 4 ∧ bhN 20 10 2 = 8 ∧ tileB 20 10 2 = true ∧ tileB 20 10 6 = false ∧ lastO (cellsL 20 10 5) = 199 ∧ tawayN 20 10 0 1 = 8 ∧ tawayN 20 10 0 6 = -1 ∧ tawayN 20 10 200 0 = -1 ∧ countN 0 0 = 0 ∧ countN 4096 1024 = 65536 := by decide +kernel
-- the walks
set_option maxRecDepth 100000 in
set_option maxHeartbeats 6400000 in
theorem awake12_any (w : World) : Calls Try.prog 8 #[] w fun e w' => e = .returned (.bool true) ∧ Below w.heap.size w w' := by
  obtain ⟨x1, x2, x3, x4, x5, x6, x7, x8, x9, x10, x11⟩ := ex_all
  have CO := hid_mk (fun W => tof_any 20 10 160 W)
  rw [x1, x2] at CO
  have CB := hid_mk (fun W => box_any 20 10 5 W)
  rw [x3, x4, x5, x6, x7] at CB
  have CN := hid_mk (fun W => count_any 20 10 W)
  rw [x10] at CN
  have CA := hid_mk (fun W => taway_any 20 10 0 4 W)
  rw [x11] at CA
  have X8 := hid_mk x8
  have X9 := hid_mk x9
  clear x1 x2 x3 x4 x5 x6 x7 x8 x9 x10 x11
  refine (show ∀ w0, Hid (Bq [] [] w w0) → Calls Try.prog 8 #[] w0 fun e w' => e = .returned (.bool true) ∧ Below w.heap.size w w' from fun w0 HS => ?_) w (Bq.start w)
  obtain ⟨w1, hw1⟩ : ∃ w1, w1 = w0.alloc (.cells #[.int .i64 20, .int .i64 10] 23) := ⟨_, rfl⟩
  obtain ⟨bz, hbz⟩ : ∃ bz, bz = w0.heap.size := ⟨_, rfl⟩
  have Hw1 : Hid (Bq [(bz, 23, #[.int .i64 20, .int .i64 10])] [] w w1) := by show Bq _ _ _ _; rw [hw1, hbz]; exact HS.out.alloc _ _
  refine (callsIn_wide (n := 20)).1 ?_
  refine callsIn_of_wp_marks Try.func8 rfl trivial ?_ rfl
  simp only [Try.ntmps8, List.size_toArray, List.length_nil, Nat.reduceSub, Array.replicate_succ, Array.replicate_zero, List.push_toArray, List.append_toArray, List.nil_append, List.cons_append]
  gi_wp2_with fail
  try simp only [← hbz, ← hw1]
  clear hw1
  clear hbz
  replace HS := Hw1
  clear Hw1
  refine ⟨trivial, ?_⟩
  refine (callsIn_wide.2 (CO.out _)).mono ?_
  rintro _ w2 ⟨rfl, hb⟩
  replace HS := hid_mk (HS.out.below hb)
  clear hb
  have x_z : Blk w2 bz 23 #[.int .i64 20, .int .i64 10] := Bq.get HS.out (i := 0) rfl
  obtain ⟨c_z, d_z⟩ := x_z.cells2
  have f_z := x_z.frozen 0
  have e_z := x_z.lt
  gi_wp2_with fail
  refine ⟨trivial, ?_⟩
  refine (callsIn_wide.2 (CB.out _)).mono ?_
  rintro _ w3 ⟨rfl, hb⟩
  clear x_z c_z d_z f_z e_z
  replace HS := hid_mk (HS.out.below hb)
  clear hb
  have x_z : Blk w3 bz 23 #[.int .i64 20, .int .i64 10] := Bq.get HS.out (i := 0) rfl
  obtain ⟨c_z, d_z⟩ := x_z.cells2
  have f_z := x_z.frozen 0
  have e_z := x_z.lt
  obtain ⟨w4, hw4⟩ : ∃ w4, w4 = w3.alloc (.cells #[.int .i64 0] 3) := ⟨_, rfl⟩
  obtain ⟨bn, hbn⟩ : ∃ bn, bn = w3.heap.size := ⟨_, rfl⟩
  have l_bz_bn : bz < bn := by rw [hbn]; exact HS.out.ltAt (i := 0) rfl
  have Hw4 : Hid (Bq [(bn, 3, #[.int .i64 0]), (bz, 23, #[.int .i64 20, .int .i64 10])] [] w w4) := by show Bq _ _ _ _; rw [hw4, hbn]; exact HS.out.alloc _ _
  gi_wp2_with fail
  try simp only [← hbn, ← hw4]
  clear hw4
  clear hbn
  clear x_z c_z d_z f_z e_z
  replace HS := Hw4
  clear Hw4
  refine ⟨trivial, ?_⟩
  refine (callsIn_wide.2 (cells_ab 20 10 5 _)).mono ?_
  rintro _ w5 ⟨B1, C1, rfl, hbx, hB, hC, hb⟩
  have hnf := cellsF_nil B1 C1
  replace HS := hid_mk (HS.out.below hb)
  clear hbx hB hC hb
  have x_n : Blk w5 bn 3 #[.int .i64 0] := Bq.get HS.out (i := 0) rfl
  have c_n := x_n.cell1
  have f_n := x_n.frozen 0
  have e_n := x_n.lt
  have x_z : Blk w5 bz 23 #[.int .i64 20, .int .i64 10] := Bq.get HS.out (i := 1) rfl
  obtain ⟨c_z, d_z⟩ := x_z.cells2
  have f_z := x_z.frozen 0
  have e_z := x_z.lt
  gi_wp2_with fail
  refine ⟨trivial, ?_⟩
  refine (callsIn_wide.2 (cells_ab 20 10 5 _)).mono ?_
  rintro _ w6 ⟨B2, C2, rfl, hbx, hB, hC, hb⟩
  clear x_n c_n f_n e_n x_z c_z d_z f_z e_z
  replace HS := hid_mk (HS.out.take2 hb hbx.1 hB hbx.2 hC (bx2_ne hbx))
  clear hbx hB hC hb
  have x_n : Blk w6 bn 3 #[.int .i64 0] := Bq.get HS.out (i := 2) rfl
  have c_n := x_n.cell1
  have f_n := x_n.frozen 0
  have e_n := x_n.lt
  have x_z : Blk w6 bz 23 #[.int .i64 20, .int .i64 10] := Bq.get HS.out (i := 3) rfl
  obtain ⟨c_z, d_z⟩ := x_z.cells2
  have f_z := x_z.frozen 0
  have e_z := x_z.lt
  clear hnf
  gi_wp2_with fail
  refine range_ownZ rfl (by omega) (gf := 31) (lb := #[.pointer (some ⟨B2, 0, none⟩), .pointer (some ⟨C2, 0, none⟩)]) rfl trivial (enters_of Try.func31 (by kernel_rfl) rfl) (cells1_z _ (by omega) _ _ 20 10 5 _ ⟨Bq.get HS.out (i := 1) rfl, Bq.get HS.out (i := 0) rfl⟩) (Below.refl _ _) (fun _ => rfl)
    (fun Z pre A => w6.heap.size ≤ A.heap.size ∧ Bq [(C2, 3, #[.int .i64 5]), (B2, 23, #[.int .i64 20, .int .i64 10]), (bn, 3, #[.int .i64 (pre.length : Nat)]), (bz, 23, #[.int .i64 20, .int .i64 10])] [] w A) (fun Z cc pre A => False)
    (fun Z => Bq.owns (fun _ => rfl) HS.out.nlt HS.out.mlt HS.out.bl.size)
    (fun Z cc => fun s A A' row hs hg hr => hs.elim)
    (fun Z => ⟨Nat.le_refl _, HS.out⟩) (fun _ _ _ hs => ⟨Bq.get hs.2 (i := 1) rfl, Bq.get hs.2 (i := 0) rfl⟩) ?a11 ?assign1 ?body1 ?done1 ?stop1
  case assign1 =>
    intro lq x A Kk hK
    gi_wp2
    exact hK
  case body1 =>
    rintro lq Z pre x A hZ0 hZ1 ⟨hA0, hQ⟩ ⟨hpl, hpx⟩
    have HQ := hid_mk hQ
    clear hQ
    have m_n := e_n
    have m_z := e_z
    clear x_n c_n f_n e_n x_z c_z d_z f_z e_z
    have HBK : Hid (BK w6.heap.size Z A A) := BK.refl _ _ _
    have hZc : Z ≤ A.heap.size := hZ1
    have hAc : w6.heap.size ≤ A.heap.size := hA0
    have x_n : Blk A bn 3 #[.int .i64 (pre.length : Nat)] := Bq.get HQ.out (i := 2) rfl
    have c_n := x_n.cell1
    have f_n := x_n.frozen 0
    have e_n := x_n.lt
    have x_z : Blk A bz 23 #[.int .i64 20, .int .i64 10] := Bq.get HQ.out (i := 3) rfl
    obtain ⟨c_z, d_z⟩ := x_z.cells2
    have f_z := x_z.frozen 0
    have e_z := x_z.lt
    rw [X8.out] at hpl
    gi_wp2
    exact ⟨bk_set _ m_n, by rw [size_set]; exact hA0, by rw [List.length_append]; exact HQ.out.setAt (i := 2) rfl 0 _⟩
  case stop1 =>
    intro D Z cc pre A hD hpre hs
    exact hs.elim
  case done1 =>
    rintro D1 Z ys A7 hD hys ⟨hA0, hQ⟩ hK
    obtain rfl := show ys = _ from hys
    rw [X8.out] at hQ
    replace HS := hid_mk (hQ.mark hK hD HS.out.mlt HS.out.bl.size)
    clear x_n c_n f_n e_n x_z c_z d_z f_z e_z
    clear hQ hK hD hA0 hys
    replace HS : Hid (Bq [(C2, 3, #[.int .i64 5]), (B2, 23, #[.int .i64 20, .int .i64 10]), (bn, 3, #[.int .i64 8]), (bz, 23, #[.int .i64 20, .int .i64 10])] [D1] w A7) := HS
    have x_n : Blk A7 bn 3 #[.int .i64 8] := Bq.get HS.out (i := 2) rfl
    have c_n := x_n.cell1
    have f_n := x_n.frozen 0
    have e_n := x_n.lt
    have x_z : Blk A7 bz 23 #[.int .i64 20, .int .i64 10] := Bq.get HS.out (i := 3) rfl
    obtain ⟨c_z, d_z⟩ := x_z.cells2
    have f_z := x_z.frozen 0
    have e_z := x_z.lt
    obtain ⟨w8, hw8⟩ : ∃ w8, w8 = A7.alloc (.cells #[.int .i64 0] 3) := ⟨_, rfl⟩
    obtain ⟨bm, hbm⟩ : ∃ bm, bm = A7.heap.size := ⟨_, rfl⟩
    have l_C2_bm : C2 < bm := by rw [hbm]; exact HS.out.ltAt (i := 0) rfl
    have l_B2_bm : B2 < bm := by rw [hbm]; exact HS.out.ltAt (i := 1) rfl
    have l_bn_bm : bn < bm := by rw [hbm]; exact HS.out.ltAt (i := 2) rfl
    have l_bz_bm : bz < bm := by rw [hbm]; exact HS.out.ltAt (i := 3) rfl
    have Hw8 : Hid (Bq [(bm, 3, #[.int .i64 0]), (C2, 3, #[.int .i64 5]), (B2, 23, #[.int .i64 20, .int .i64 10]), (bn, 3, #[.int .i64 8]), (bz, 23, #[.int .i64 20, .int .i64 10])] [D1] w w8) := by show Bq _ _ _ _; rw [hw8, hbm]; exact HS.out.alloc _ _
    gi_wp2_with fail
    try simp only [← hbm, ← hw8]
    clear hw8
    clear hbm
    clear x_n c_n f_n e_n x_z c_z d_z f_z e_z
    replace HS := Hw8
    clear Hw8
    refine ⟨trivial, ?_⟩
    refine (callsIn_wide.2 (tbes_ab 20 10 1 _)).mono ?_
    rintro _ w9 ⟨B3, C3, rfl, hbx, hB, hC, hb⟩
    have hnf := tbesF_nil B3 C3
    replace HS := hid_mk (HS.out.below hb)
    clear hbx hB hC hb
    have x_m : Blk w9 bm 3 #[.int .i64 0] := Bq.get HS.out (i := 0) rfl
    have c_m := x_m.cell1
    have f_m := x_m.frozen 0
    have e_m := x_m.lt
    have x_n : Blk w9 bn 3 #[.int .i64 8] := Bq.get HS.out (i := 3) rfl
    have c_n := x_n.cell1
    have f_n := x_n.frozen 0
    have e_n := x_n.lt
    have x_z : Blk w9 bz 23 #[.int .i64 20, .int .i64 10] := Bq.get HS.out (i := 4) rfl
    obtain ⟨c_z, d_z⟩ := x_z.cells2
    have f_z := x_z.frozen 0
    have e_z := x_z.lt
    gi_wp2_with fail
    refine ⟨trivial, ?_⟩
    refine (callsIn_wide.2 (tbes_ab 20 10 1 _)).mono ?_
    rintro _ w10 ⟨B4, C4, rfl, hbx, hB, hC, hb⟩
    clear x_m c_m f_m e_m x_n c_n f_n e_n x_z c_z d_z f_z e_z
    replace HS := hid_mk (HS.out.take2 hb hbx.1 hB hbx.2 hC (bx2_ne hbx))
    clear hbx hB hC hb
    have x_m : Blk w10 bm 3 #[.int .i64 0] := Bq.get HS.out (i := 2) rfl
    have c_m := x_m.cell1
    have f_m := x_m.frozen 0
    have e_m := x_m.lt
    have x_n : Blk w10 bn 3 #[.int .i64 8] := Bq.get HS.out (i := 5) rfl
    have c_n := x_n.cell1
    have f_n := x_n.frozen 0
    have e_n := x_n.lt
    have x_z : Blk w10 bz 23 #[.int .i64 20, .int .i64 10] := Bq.get HS.out (i := 6) rfl
    obtain ⟨c_z, d_z⟩ := x_z.cells2
    have f_z := x_z.frozen 0
    have e_z := x_z.lt
    clear hnf
    gi_wp2_with fail
    refine range_ownZ rfl (by omega) (gf := 32) (lb := #[.pointer (some ⟨B4, 0, none⟩), .pointer (some ⟨C4, 0, none⟩)]) rfl trivial (enters_of Try.func32 (by kernel_rfl) rfl) (tbes1_z _ (by omega) _ _ 20 10 1 _ ⟨Bq.get HS.out (i := 1) rfl, Bq.get HS.out (i := 0) rfl⟩) (Below.refl _ _) (fun _ => rfl)
      (fun Z pre A => w10.heap.size ≤ A.heap.size ∧ Bq [(C4, 3, #[.int .i64 1]), (B4, 23, #[.int .i64 20, .int .i64 10]), (bm, 3, #[.int .i64 (digO pre)]), (C2, 3, #[.int .i64 5]), (B2, 23, #[.int .i64 20, .int .i64 10]), (bn, 3, #[.int .i64 8]), (bz, 23, #[.int .i64 20, .int .i64 10])] [D1] w A) (fun Z cc pre A => False)
      (fun Z => Bq.owns (fun _ => rfl) HS.out.nlt HS.out.mlt HS.out.bl.size)
      (fun Z cc => fun s A A' row hs hg hr => hs.elim)
      (fun Z => ⟨Nat.le_refl _, HS.out⟩) (fun _ _ _ hs => trivial) ?a12 ?assign2 ?body2 ?done2 ?stop2
    case assign2 =>
      intro lq x A Kk hK
      gi_wp2
      exact hK
    case body2 =>
      rintro lq Z pre x A hZ0 hZ1 ⟨hA0, hQ⟩ ⟨hpl, hpx⟩
      have HQ := hid_mk hQ
      clear hQ
      have m_m := e_m
      have m_n := e_n
      have m_z := e_z
      clear x_m c_m f_m e_m x_n c_n f_n e_n x_z c_z d_z f_z e_z
      have HBK : Hid (BK w10.heap.size Z A A) := BK.refl _ _ _
      have hZc : Z ≤ A.heap.size := hZ1
      have hAc : w10.heap.size ≤ A.heap.size := hA0
      have x_m : Blk A bm 3 #[.int .i64 (digO pre)] := Bq.get HQ.out (i := 2) rfl
      have c_m := x_m.cell1
      have f_m := x_m.frozen 0
      have e_m := x_m.lt
      have x_n : Blk A bn 3 #[.int .i64 8] := Bq.get HQ.out (i := 5) rfl
      have c_n := x_n.cell1
      have f_n := x_n.frozen 0
      have e_n := x_n.lt
      have x_z : Blk A bz 23 #[.int .i64 20, .int .i64 10] := Bq.get HQ.out (i := 6) rfl
      obtain ⟨c_z, d_z⟩ := x_z.cells2
      have f_z := x_z.frozen 0
      have e_z := x_z.lt
      rw [X9.out] at hpx
      have hdg := dig_bd hpx
      gi_wp2
      exact ⟨bk_set _ m_m, by rw [size_set]; exact hA0, by rw [digO_snoc]; exact HQ.out.setAt (i := 2) rfl 0 _⟩
    case stop2 =>
      intro D Z cc pre A hD hpre hs
      exact hs.elim
    case done2 =>
      rintro D2 Z ys A11 hD hys ⟨hA0, hQ⟩ hK
      obtain rfl := show ys = _ from hys
      rw [X9.out] at hQ
      replace HS := hid_mk (hQ.mark hK hD HS.out.mlt HS.out.bl.size)
      clear x_m c_m f_m e_m x_n c_n f_n e_n x_z c_z d_z f_z e_z
      clear hQ hK hD hA0 hys
      replace HS : Hid (Bq [(C4, 3, #[.int .i64 1]), (B4, 23, #[.int .i64 20, .int .i64 10]), (bm, 3, #[.int .i64 24]), (C2, 3, #[.int .i64 5]), (B2, 23, #[.int .i64 20, .int .i64 10]), (bn, 3, #[.int .i64 8]), (bz, 23, #[.int .i64 20, .int .i64 10])] [D2, D1] w A11) := HS
      have x_m : Blk A11 bm 3 #[.int .i64 24] := Bq.get HS.out (i := 2) rfl
      have c_m := x_m.cell1
      have f_m := x_m.frozen 0
      have e_m := x_m.lt
      have x_n : Blk A11 bn 3 #[.int .i64 8] := Bq.get HS.out (i := 5) rfl
      have c_n := x_n.cell1
      have f_n := x_n.frozen 0
      have e_n := x_n.lt
      have x_z : Blk A11 bz 23 #[.int .i64 20, .int .i64 10] := Bq.get HS.out (i := 6) rfl
      obtain ⟨c_z, d_z⟩ := x_z.cells2
      have f_z := x_z.frozen 0
      have e_z := x_z.lt
      gi_wp2_with fail
      refine ⟨trivial, ?_⟩
      refine (callsIn_wide.2 (CN.out _)).mono ?_
      rintro _ w12 ⟨rfl, hb⟩
      clear x_m c_m f_m e_m x_n c_n f_n e_n x_z c_z d_z f_z e_z
      replace HS := hid_mk (HS.out.below hb)
      clear hb
      have x_m : Blk w12 bm 3 #[.int .i64 24] := Bq.get HS.out (i := 2) rfl
      have c_m := x_m.cell1
      have f_m := x_m.frozen 0
      have e_m := x_m.lt
      have x_n : Blk w12 bn 3 #[.int .i64 8] := Bq.get HS.out (i := 5) rfl
      have c_n := x_n.cell1
      have f_n := x_n.frozen 0
      have e_n := x_n.lt
      have x_z : Blk w12 bz 23 #[.int .i64 20, .int .i64 10] := Bq.get HS.out (i := 6) rfl
      obtain ⟨c_z, d_z⟩ := x_z.cells2
      have f_z := x_z.frozen 0
      have e_z := x_z.lt
      gi_wp2_with fail
      refine ⟨trivial, ?_⟩
      refine (callsIn_wide.2 (CA.out _)).mono ?_
      rintro _ w13 ⟨rfl, hb⟩
      clear x_m c_m f_m e_m x_n c_n f_n e_n x_z c_z d_z f_z e_z
      replace HS := hid_mk (HS.out.below hb)
      clear hb
      have x_m : Blk w13 bm 3 #[.int .i64 24] := Bq.get HS.out (i := 2) rfl
      have c_m := x_m.cell1
      have f_m := x_m.frozen 0
      have e_m := x_m.lt
      have x_n : Blk w13 bn 3 #[.int .i64 8] := Bq.get HS.out (i := 5) rfl
      have c_n := x_n.cell1
      have f_n := x_n.frozen 0
      have e_n := x_n.lt
      have x_z : Blk w13 bz 23 #[.int .i64 20, .int .i64 10] := Bq.get HS.out (i := 6) rfl
      obtain ⟨c_z, d_z⟩ := x_z.cells2
      have f_z := x_z.frozen 0
      have e_z := x_z.lt
      gi_wp2
      show LeavesInM _ _ _ _ _ _ (marks [D2, D1]) _ _
      refine Bq.leave (by simp) HS.out fun W' hb1 hb2 => ⟨.bool true, ?_, rfl, hb2⟩
      simp [results, Try.f8, go_sem]
end Go.Proofs.Ytabgplniaiehpab.Pl
