/- The walk of PlaceBack: it returns true in whatever world; nothing that lay turns. -/
import Derived.Test.YtdmdoddlhjkkiaaTurnedWalk
namespace Go.Proofs.Ytdmdoddlhjkkiaa
open Go.RowKit Go.Shelf

theorem idx_at {W H c : Int} (h : inB W H c = true) : idxN W H (c % W) (c / W) = c ∧ atB W H (c % W) (c / W) = true := by
  obtain ⟨a1, a2, a3, a4, a5, a6, a7, a8, a9, a10, a11⟩ := at_bd h
  have k : atB W H (c % W) (c / W) = true := atB_iff.2 ⟨(inB_iff.1 h).1, a7, a8, a9, a10⟩
  exact ⟨by unfold idxN; rw [if_pos k]; exact a11, k⟩
theorem mul40 {k W : Int} (a : 0 ≤ k) (b : k ≤ 40) (c : 0 ≤ W) (d : W ≤ 40) : 0 ≤ k * W ∧ k * W ≤ 1600 := by
  have h1 := Int.mul_nonneg a c
  have h2 : k * W ≤ k * 40 := Int.mul_le_mul_of_nonneg_left d a
  omega
theorem idx_small {W H a b : Int} (hr : rt W H = true) (a0 : 0 ≤ a) (a1 : a < W) (b0 : 0 ≤ b) (b1 : b < H) : idxN W H a b = b * W + a ∧ atB W H a b = true := by
  have k : atB W H a b = true := atB_iff.2 ⟨hr, a0, a1, b0, b1⟩
  exact ⟨by unfold idxN; rw [if_pos k], k⟩

set_option maxRecDepth 100000 in
set_option maxHeartbeats 4000000 in
theorem back_tt (W H c x y : Int) (w : World) (hI : inB W H c = true) (hT : atB W H x y = true) : Calls Try.prog 5 #[sz W H, .int .i64 c, .int .i64 x, .int .i64 y] w fun e w' => e = .returned (.bool true) ∧ Below w.heap.size w w' := by
  obtain ⟨a1, a2, a3, a4, a5, a6, a7, a8, a9, a10, _⟩ := at_bd hI
  have hC : cellsN W H = W * H := by unfold cellsN; rw [(inB_iff.1 hI).1]; rfl
  have hlt : c < W * H := (inB_iff.1 hI).2.2
  have HC : Hid (cellsN W H = W * H) := hC; clear hC
  obtain ⟨hJ1, hJ2⟩ := idx_at hI
  have HJ1 : Hid (idxN W H (c % W) (c / W) = c) := hJ1; clear hJ1
  have HJ2 : Hid (atB W H (c % W) (c / W) = true) := hJ2; clear hJ2
  have HI : Hid (inB W H c = true) := hI; clear hI
  obtain ⟨hI1, hI2, hI3⟩ := idxN_in hT
  obtain ⟨i, hi⟩ : ∃ i, idxN W H x y = i := ⟨_, rfl⟩
  rw [hi] at hI1 hI2 hI3
  have Hi1 : Hid (inB W H i = true) := hI1; clear hI1
  have Hi2 : Hid (i % W = x) := hI2; clear hI2
  have Hi3 : Hid (i / W = y) := hI3; clear hI3
  have Hi : Hid (idxN W H x y = i) := hi; clear hi
  have HT : Hid (atB W H x y = true) := hT; clear hT
  go_enter Try.func5, Try.ntmps5
  go_wp2_with fail
  refine (awake_any _).mono ?_
  rintro e w1 ⟨rfl, hb1⟩
  have z1 := (Blk.new w 23 #[.int .i64 W, .int .i64 H]).below hb1
  have B1 : Below w.heap.size w w1 := below_step (below_new (Below.refl _ w) (Nat.le_refl _) _) hb1 (Nat.le_refl _)
  obtain ⟨z1a, z1b⟩ := z1.cells2
  clear hb1
  go_wp2_with fail
  refine (at_yes _ _ _ _ HI.out).mono ?_
  rintro e w2 ⟨rfl, hb2⟩
  have z2 := z1.below hb2
  have B2 := below_step B1 hb2 (Nat.le_refl _)
  obtain ⟨z2a, z2b⟩ := z2.cells2
  clear z1a z1b hb2
  go_wp2_with fail
  refine (index_as _ HJ1.out HJ2.out).mono ?_
  rintro e w3 ⟨rfl, hb3⟩
  have z3 := z2.below hb3
  have B3 := below_step B2 hb3 (Nat.le_refl _)
  obtain ⟨z3a, z3b⟩ := z3.cells2
  clear z2a z2b hb3
  go_wp2_with fail
  refine (cells_as _ HC.out).mono ?_
  rintro e w4 ⟨rfl, hb4⟩
  have z4 := z3.below hb4
  have B4 := below_step B3 hb4 (Nat.le_refl _)
  obtain ⟨z4a, z4b⟩ := z4.cells2
  clear z3a z3b hb4
  go_wp2_with fail
  refine (index_as _ Hi.out HT.out).mono ?_
  rintro e w5 ⟨rfl, hb5⟩
  have z5 := z4.below hb5
  have B5 := below_step B4 hb5 (Nat.le_refl _)
  obtain ⟨z5a, z5b⟩ := z5.cells2
  clear z4a z4b hb5
  go_wp2_with fail
  refine (at_yes _ _ _ _ Hi1.out).mono ?_
  rintro e w6 ⟨rfl, hb6⟩
  have z6 := z5.below hb6
  have B6 := below_step B5 hb6 (Nat.le_refl _)
  obtain ⟨z6a, z6b⟩ := z6.cells2
  rw [Hi2.out, Hi3.out]
  clear z5a z5b hb6
  go_wp2_with fail
  refine (cells_any _ _ _).mono ?_
  rintro e w7 ⟨rfl, hb7⟩
  have z7 := z6.below hb7
  have B7 := below_step B6 hb7 (Nat.le_refl _)
  obtain ⟨z7a, z7b⟩ := z7.cells2
  clear hb7
  cases hr : rt W H with
  | false =>
    rw [show cellsN W H = 0 from by unfold cellsN; rw [hr]; rfl]
    go_wp2
    go_ret
    exact ⟨rfl, B7⟩
  | true =>
    obtain ⟨r1, r2, r3, r4, r5⟩ := rt_iff.1 hr
    have hm := mul_bd r1 r2 r3 r4
    have hC : cellsN W H = W * H := by unfold cellsN; rw [hr]; rfl
    rw [hC]
    have HCC : Hid (cellsN W H = W * H) := hC; clear hC
    have HR : Hid (rt W H = true) := hr; clear hr
    by_cases hW : W ≤ 40
    · by_cases hH : H ≤ 40
      · go_wp2
        go_loopw [18, 19] (fun n b wr => ∃ k : Int, 0 ≤ k ∧ k ≤ H ∧ b = .int .i64 k ∧ n = .int .i64 (k * W) ∧ Blk wr w.heap.size 23 #[.int .i64 W, .int .i64 H] ∧ Below w.heap.size w wr) (fun _ b _ => (H - intOf b).toNat)
        case atStart => exact ⟨0, by omega, by omega, rfl, by simp, z7, B7⟩
        case round =>
          obtain ⟨k, k0, k1, rfl, rfl, zr, Br⟩ := hrel
          obtain ⟨zra, zrb⟩ := zr.cells2
          have km := mul40 k0 (by omega) (by omega) hW
          by_cases hlt : k < H
          · go_wp2
            go_loopw [18, 20] (fun n a wr => ∃ j : Int, 0 ≤ j ∧ j ≤ W ∧ a = .int .i64 j ∧ n = .int .i64 (k * W + j) ∧ Blk wr w.heap.size 23 #[.int .i64 W, .int .i64 H] ∧ Below w.heap.size w wr) (fun _ a _ => (W - intOf a).toNat)
            case atStart => exact ⟨0, by omega, by omega, rfl, by simp, zr, Br⟩
            case round =>
              obtain ⟨j, j0, j1, rfl, rfl, zs, Bs⟩ := hrel
              obtain ⟨zsa, zsb⟩ := zs.cells2
              by_cases hjt : j < W
              · obtain ⟨q1, q2⟩ := idx_small HR.out j0 hjt k0 hlt
                have Q1 : Hid (idxN W H j k = k * W + j) := q1; clear q1
                have Q2 : Hid (atB W H j k = true) := q2; clear q2
                go_wp2_with (go_at_call 9; refine (index_as _ Q1.out Q2.out).mono ?_; rintro e wx ⟨rfl, hbx⟩)
                go_roundw
                case rel => exact ⟨j + 1, by omega, by omega, rfl, by go_num, zs.below hbx, below_step Bs hbx (Nat.le_refl _)⟩
                case measure => simp [intOf]; omega
              · go_wp2
                go_roundw
                case rel => exact ⟨k + 1, by omega, by omega, rfl, by rw [Int.add_mul]; go_num, zs, Bs⟩
                case measure => simp [intOf]; omega
          · go_wp2_with (go_at_call 17; refine (cells_as _ HCC.out).mono ?_; rintro e wx ⟨rfl, hbx⟩)
            go_ret
            exact ⟨ret_of (congrArg Value.bool (show ((k * W : Int) == W * H) = true from by rw [show k = H from by omega, Int.mul_comm]; simp)), below_step Br hbx (Nat.le_refl _)⟩
      · have dH : decide (H ≤ 40) = false := by simpa using hH
        go_wp2
        go_ret
        exact ⟨rfl, B7⟩
    · have dW : decide (W ≤ 40) = false := by simpa using hW
      go_wp2
      go_ret
      exact ⟨rfl, B7⟩

set_option maxRecDepth 100000 in
set_option maxHeartbeats 4000000 in
theorem back_tf (W H c x y : Int) (w : World) (hI : inB W H c = true) (hT : atB W H x y = false) : Calls Try.prog 5 #[sz W H, .int .i64 c, .int .i64 x, .int .i64 y] w fun e w' => e = .returned (.bool true) ∧ Below w.heap.size w w' := by
  obtain ⟨a1, a2, a3, a4, a5, a6, a7, a8, a9, a10, _⟩ := at_bd hI
  have hC : cellsN W H = W * H := by unfold cellsN; rw [(inB_iff.1 hI).1]; rfl
  have hlt : c < W * H := (inB_iff.1 hI).2.2
  have HC : Hid (cellsN W H = W * H) := hC; clear hC
  obtain ⟨hJ1, hJ2⟩ := idx_at hI
  have HJ1 : Hid (idxN W H (c % W) (c / W) = c) := hJ1; clear hJ1
  have HJ2 : Hid (atB W H (c % W) (c / W) = true) := hJ2; clear hJ2
  have HI : Hid (inB W H c = true) := hI; clear hI
  have Hi : Hid (idxN W H x y = 0) := by show idxN W H x y = 0; unfold idxN; rw [hT]; rfl
  have HT : Hid (atB W H x y = false) := hT; clear hT
  go_enter Try.func5, Try.ntmps5
  go_wp2_with fail
  refine (awake_any _).mono ?_
  rintro e w1 ⟨rfl, hb1⟩
  have z1 := (Blk.new w 23 #[.int .i64 W, .int .i64 H]).below hb1
  have B1 : Below w.heap.size w w1 := below_step (below_new (Below.refl _ w) (Nat.le_refl _) _) hb1 (Nat.le_refl _)
  obtain ⟨z1a, z1b⟩ := z1.cells2
  clear hb1
  go_wp2_with fail
  refine (at_yes _ _ _ _ HI.out).mono ?_
  rintro e w2 ⟨rfl, hb2⟩
  have z2 := z1.below hb2
  have B2 := below_step B1 hb2 (Nat.le_refl _)
  obtain ⟨z2a, z2b⟩ := z2.cells2
  clear z1a z1b hb2
  go_wp2_with fail
  refine (index_as _ HJ1.out HJ2.out).mono ?_
  rintro e w3 ⟨rfl, hb3⟩
  have z3 := z2.below hb3
  have B3 := below_step B2 hb3 (Nat.le_refl _)
  obtain ⟨z3a, z3b⟩ := z3.cells2
  clear z2a z2b hb3
  go_wp2_with fail
  refine (cells_as _ HC.out).mono ?_
  rintro e w4 ⟨rfl, hb4⟩
  have z4 := z3.below hb4
  have B4 := below_step B3 hb4 (Nat.le_refl _)
  obtain ⟨z4a, z4b⟩ := z4.cells2
  clear z3a z3b hb4
  go_wp2_with fail
  refine (index_as _ Hi.out HT.out).mono ?_
  rintro e w5 ⟨rfl, hb5⟩
  have z5 := z4.below hb5
  have B5 := below_step B4 hb5 (Nat.le_refl _)
  obtain ⟨z5a, z5b⟩ := z5.cells2
  clear z4a z4b hb5
  go_wp2_with fail
  refine (cells_any _ _ _).mono ?_
  rintro e w7 ⟨rfl, hb7⟩
  have z7 := z5.below hb7
  have B7 := below_step B5 hb7 (Nat.le_refl _)
  obtain ⟨z7a, z7b⟩ := z7.cells2
  clear hb7
  cases hr : rt W H with
  | false =>
    rw [show cellsN W H = 0 from by unfold cellsN; rw [hr]; rfl]
    go_wp2
    go_ret
    exact ⟨rfl, B7⟩
  | true =>
    obtain ⟨r1, r2, r3, r4, r5⟩ := rt_iff.1 hr
    have hm := mul_bd r1 r2 r3 r4
    have hC : cellsN W H = W * H := by unfold cellsN; rw [hr]; rfl
    rw [hC]
    have HCC : Hid (cellsN W H = W * H) := hC; clear hC
    have HR : Hid (rt W H = true) := hr; clear hr
    by_cases hW : W ≤ 40
    · by_cases hH : H ≤ 40
      · go_wp2
        go_loopw [18, 19] (fun n b wr => ∃ k : Int, 0 ≤ k ∧ k ≤ H ∧ b = .int .i64 k ∧ n = .int .i64 (k * W) ∧ Blk wr w.heap.size 23 #[.int .i64 W, .int .i64 H] ∧ Below w.heap.size w wr) (fun _ b _ => (H - intOf b).toNat)
        case atStart => exact ⟨0, by omega, by omega, rfl, by simp, z7, B7⟩
        case round =>
          obtain ⟨k, k0, k1, rfl, rfl, zr, Br⟩ := hrel
          obtain ⟨zra, zrb⟩ := zr.cells2
          have km := mul40 k0 (by omega) (by omega) hW
          by_cases hlt : k < H
          · go_wp2
            go_loopw [18, 20] (fun n a wr => ∃ j : Int, 0 ≤ j ∧ j ≤ W ∧ a = .int .i64 j ∧ n = .int .i64 (k * W + j) ∧ Blk wr w.heap.size 23 #[.int .i64 W, .int .i64 H] ∧ Below w.heap.size w wr) (fun _ a _ => (W - intOf a).toNat)
            case atStart => exact ⟨0, by omega, by omega, rfl, by simp, zr, Br⟩
            case round =>
              obtain ⟨j, j0, j1, rfl, rfl, zs, Bs⟩ := hrel
              obtain ⟨zsa, zsb⟩ := zs.cells2
              by_cases hjt : j < W
              · obtain ⟨q1, q2⟩ := idx_small HR.out j0 hjt k0 hlt
                have Q1 : Hid (idxN W H j k = k * W + j) := q1; clear q1
                have Q2 : Hid (atB W H j k = true) := q2; clear q2
                go_wp2_with (go_at_call 9; refine (index_as _ Q1.out Q2.out).mono ?_; rintro e wx ⟨rfl, hbx⟩)
                go_roundw
                case rel => exact ⟨j + 1, by omega, by omega, rfl, by go_num, zs.below hbx, below_step Bs hbx (Nat.le_refl _)⟩
                case measure => simp [intOf]; omega
              · go_wp2
                go_roundw
                case rel => exact ⟨k + 1, by omega, by omega, rfl, by rw [Int.add_mul]; go_num, zs, Bs⟩
                case measure => simp [intOf]; omega
          · go_wp2_with (go_at_call 17; refine (cells_as _ HCC.out).mono ?_; rintro e wx ⟨rfl, hbx⟩)
            go_ret
            exact ⟨ret_of (congrArg Value.bool (show ((k * W : Int) == W * H) = true from by rw [show k = H from by omega, Int.mul_comm]; simp)), below_step Br hbx (Nat.le_refl _)⟩
      · have dH : decide (H ≤ 40) = false := by simpa using hH
        go_wp2
        go_ret
        exact ⟨rfl, B7⟩
    · have dW : decide (W ≤ 40) = false := by simpa using hW
      go_wp2
      go_ret
      exact ⟨rfl, B7⟩

set_option maxRecDepth 100000 in
set_option maxHeartbeats 4000000 in
theorem back_ft (W H c x y : Int) (w : World) (hI : inB W H c = false) (hT : atB W H x y = true) : Calls Try.prog 5 #[sz W H, .int .i64 c, .int .i64 x, .int .i64 y] w fun e w' => e = .returned (.bool true) ∧ Below w.heap.size w w' := by
  have HI : Hid (inB W H c = false) := hI; clear hI
  obtain ⟨hI1, hI2, hI3⟩ := idxN_in hT
  obtain ⟨i, hi⟩ : ∃ i, idxN W H x y = i := ⟨_, rfl⟩
  rw [hi] at hI1 hI2 hI3
  have Hi1 : Hid (inB W H i = true) := hI1; clear hI1
  have Hi2 : Hid (i % W = x) := hI2; clear hI2
  have Hi3 : Hid (i / W = y) := hI3; clear hI3
  have Hi : Hid (idxN W H x y = i) := hi; clear hi
  have HT : Hid (atB W H x y = true) := hT; clear hT
  go_enter Try.func5, Try.ntmps5
  go_wp2_with fail
  refine (awake_any _).mono ?_
  rintro e w1 ⟨rfl, hb1⟩
  have z1 := (Blk.new w 23 #[.int .i64 W, .int .i64 H]).below hb1
  have B1 : Below w.heap.size w w1 := below_step (below_new (Below.refl _ w) (Nat.le_refl _) _) hb1 (Nat.le_refl _)
  obtain ⟨z1a, z1b⟩ := z1.cells2
  clear hb1
  go_wp2_with fail
  refine (at_no _ _ _ _ HI.out).mono ?_
  rintro e w4 ⟨rfl, hb4⟩
  have z4 := z1.below hb4
  have B4 := below_step B1 hb4 (Nat.le_refl _)
  obtain ⟨z4a, z4b⟩ := z4.cells2
  clear z1a z1b hb4
  go_wp2_with fail
  refine (index_as _ Hi.out HT.out).mono ?_
  rintro e w5 ⟨rfl, hb5⟩
  have z5 := z4.below hb5
  have B5 := below_step B4 hb5 (Nat.le_refl _)
  obtain ⟨z5a, z5b⟩ := z5.cells2
  clear z4a z4b hb5
  go_wp2_with fail
  refine (at_yes _ _ _ _ Hi1.out).mono ?_
  rintro e w6 ⟨rfl, hb6⟩
  have z6 := z5.below hb6
  have B6 := below_step B5 hb6 (Nat.le_refl _)
  obtain ⟨z6a, z6b⟩ := z6.cells2
  rw [Hi2.out, Hi3.out]
  clear z5a z5b hb6
  go_wp2_with fail
  refine (cells_any _ _ _).mono ?_
  rintro e w7 ⟨rfl, hb7⟩
  have z7 := z6.below hb7
  have B7 := below_step B6 hb7 (Nat.le_refl _)
  obtain ⟨z7a, z7b⟩ := z7.cells2
  clear hb7
  cases hr : rt W H with
  | false =>
    rw [show cellsN W H = 0 from by unfold cellsN; rw [hr]; rfl]
    go_wp2
    go_ret
    exact ⟨rfl, B7⟩
  | true =>
    obtain ⟨r1, r2, r3, r4, r5⟩ := rt_iff.1 hr
    have hm := mul_bd r1 r2 r3 r4
    have hC : cellsN W H = W * H := by unfold cellsN; rw [hr]; rfl
    rw [hC]
    have HCC : Hid (cellsN W H = W * H) := hC; clear hC
    have HR : Hid (rt W H = true) := hr; clear hr
    by_cases hW : W ≤ 40
    · by_cases hH : H ≤ 40
      · go_wp2
        go_loopw [18, 19] (fun n b wr => ∃ k : Int, 0 ≤ k ∧ k ≤ H ∧ b = .int .i64 k ∧ n = .int .i64 (k * W) ∧ Blk wr w.heap.size 23 #[.int .i64 W, .int .i64 H] ∧ Below w.heap.size w wr) (fun _ b _ => (H - intOf b).toNat)
        case atStart => exact ⟨0, by omega, by omega, rfl, by simp, z7, B7⟩
        case round =>
          obtain ⟨k, k0, k1, rfl, rfl, zr, Br⟩ := hrel
          obtain ⟨zra, zrb⟩ := zr.cells2
          have km := mul40 k0 (by omega) (by omega) hW
          by_cases hlt : k < H
          · go_wp2
            go_loopw [18, 20] (fun n a wr => ∃ j : Int, 0 ≤ j ∧ j ≤ W ∧ a = .int .i64 j ∧ n = .int .i64 (k * W + j) ∧ Blk wr w.heap.size 23 #[.int .i64 W, .int .i64 H] ∧ Below w.heap.size w wr) (fun _ a _ => (W - intOf a).toNat)
            case atStart => exact ⟨0, by omega, by omega, rfl, by simp, zr, Br⟩
            case round =>
              obtain ⟨j, j0, j1, rfl, rfl, zs, Bs⟩ := hrel
              obtain ⟨zsa, zsb⟩ := zs.cells2
              by_cases hjt : j < W
              · obtain ⟨q1, q2⟩ := idx_small HR.out j0 hjt k0 hlt
                have Q1 : Hid (idxN W H j k = k * W + j) := q1; clear q1
                have Q2 : Hid (atB W H j k = true) := q2; clear q2
                go_wp2_with (go_at_call 9; refine (index_as _ Q1.out Q2.out).mono ?_; rintro e wx ⟨rfl, hbx⟩)
                go_roundw
                case rel => exact ⟨j + 1, by omega, by omega, rfl, by go_num, zs.below hbx, below_step Bs hbx (Nat.le_refl _)⟩
                case measure => simp [intOf]; omega
              · go_wp2
                go_roundw
                case rel => exact ⟨k + 1, by omega, by omega, rfl, by rw [Int.add_mul]; go_num, zs, Bs⟩
                case measure => simp [intOf]; omega
          · go_wp2_with (go_at_call 17; refine (cells_as _ HCC.out).mono ?_; rintro e wx ⟨rfl, hbx⟩)
            go_ret
            exact ⟨ret_of (congrArg Value.bool (show ((k * W : Int) == W * H) = true from by rw [show k = H from by omega, Int.mul_comm]; simp)), below_step Br hbx (Nat.le_refl _)⟩
      · have dH : decide (H ≤ 40) = false := by simpa using hH
        go_wp2
        go_ret
        exact ⟨rfl, B7⟩
    · have dW : decide (W ≤ 40) = false := by simpa using hW
      go_wp2
      go_ret
      exact ⟨rfl, B7⟩

set_option maxRecDepth 100000 in
set_option maxHeartbeats 4000000 in
theorem back_ff (W H c x y : Int) (w : World) (hI : inB W H c = false) (hT : atB W H x y = false) : Calls Try.prog 5 #[sz W H, .int .i64 c, .int .i64 x, .int .i64 y] w fun e w' => e = .returned (.bool true) ∧ Below w.heap.size w w' := by
  have HI : Hid (inB W H c = false) := hI; clear hI
  have Hi : Hid (idxN W H x y = 0) := by show idxN W H x y = 0; unfold idxN; rw [hT]; rfl
  have HT : Hid (atB W H x y = false) := hT; clear hT
  go_enter Try.func5, Try.ntmps5
  go_wp2_with fail
  refine (awake_any _).mono ?_
  rintro e w1 ⟨rfl, hb1⟩
  have z1 := (Blk.new w 23 #[.int .i64 W, .int .i64 H]).below hb1
  have B1 : Below w.heap.size w w1 := below_step (below_new (Below.refl _ w) (Nat.le_refl _) _) hb1 (Nat.le_refl _)
  obtain ⟨z1a, z1b⟩ := z1.cells2
  clear hb1
  go_wp2_with fail
  refine (at_no _ _ _ _ HI.out).mono ?_
  rintro e w4 ⟨rfl, hb4⟩
  have z4 := z1.below hb4
  have B4 := below_step B1 hb4 (Nat.le_refl _)
  obtain ⟨z4a, z4b⟩ := z4.cells2
  clear z1a z1b hb4
  go_wp2_with fail
  refine (index_as _ Hi.out HT.out).mono ?_
  rintro e w5 ⟨rfl, hb5⟩
  have z5 := z4.below hb5
  have B5 := below_step B4 hb5 (Nat.le_refl _)
  obtain ⟨z5a, z5b⟩ := z5.cells2
  clear z4a z4b hb5
  go_wp2_with fail
  refine (cells_any _ _ _).mono ?_
  rintro e w7 ⟨rfl, hb7⟩
  have z7 := z5.below hb7
  have B7 := below_step B5 hb7 (Nat.le_refl _)
  obtain ⟨z7a, z7b⟩ := z7.cells2
  clear hb7
  cases hr : rt W H with
  | false =>
    rw [show cellsN W H = 0 from by unfold cellsN; rw [hr]; rfl]
    go_wp2
    go_ret
    exact ⟨rfl, B7⟩
  | true =>
    obtain ⟨r1, r2, r3, r4, r5⟩ := rt_iff.1 hr
    have hm := mul_bd r1 r2 r3 r4
    have hC : cellsN W H = W * H := by unfold cellsN; rw [hr]; rfl
    rw [hC]
    have HCC : Hid (cellsN W H = W * H) := hC; clear hC
    have HR : Hid (rt W H = true) := hr; clear hr
    by_cases hW : W ≤ 40
    · by_cases hH : H ≤ 40
      · go_wp2
        go_loopw [18, 19] (fun n b wr => ∃ k : Int, 0 ≤ k ∧ k ≤ H ∧ b = .int .i64 k ∧ n = .int .i64 (k * W) ∧ Blk wr w.heap.size 23 #[.int .i64 W, .int .i64 H] ∧ Below w.heap.size w wr) (fun _ b _ => (H - intOf b).toNat)
        case atStart => exact ⟨0, by omega, by omega, rfl, by simp, z7, B7⟩
        case round =>
          obtain ⟨k, k0, k1, rfl, rfl, zr, Br⟩ := hrel
          obtain ⟨zra, zrb⟩ := zr.cells2
          have km := mul40 k0 (by omega) (by omega) hW
          by_cases hlt : k < H
          · go_wp2
            go_loopw [18, 20] (fun n a wr => ∃ j : Int, 0 ≤ j ∧ j ≤ W ∧ a = .int .i64 j ∧ n = .int .i64 (k * W + j) ∧ Blk wr w.heap.size 23 #[.int .i64 W, .int .i64 H] ∧ Below w.heap.size w wr) (fun _ a _ => (W - intOf a).toNat)
            case atStart => exact ⟨0, by omega, by omega, rfl, by simp, zr, Br⟩
            case round =>
              obtain ⟨j, j0, j1, rfl, rfl, zs, Bs⟩ := hrel
              obtain ⟨zsa, zsb⟩ := zs.cells2
              by_cases hjt : j < W
              · obtain ⟨q1, q2⟩ := idx_small HR.out j0 hjt k0 hlt
                have Q1 : Hid (idxN W H j k = k * W + j) := q1; clear q1
                have Q2 : Hid (atB W H j k = true) := q2; clear q2
                go_wp2_with (go_at_call 9; refine (index_as _ Q1.out Q2.out).mono ?_; rintro e wx ⟨rfl, hbx⟩)
                go_roundw
                case rel => exact ⟨j + 1, by omega, by omega, rfl, by go_num, zs.below hbx, below_step Bs hbx (Nat.le_refl _)⟩
                case measure => simp [intOf]; omega
              · go_wp2
                go_roundw
                case rel => exact ⟨k + 1, by omega, by omega, rfl, by rw [Int.add_mul]; go_num, zs, Bs⟩
                case measure => simp [intOf]; omega
          · go_wp2_with (go_at_call 17; refine (cells_as _ HCC.out).mono ?_; rintro e wx ⟨rfl, hbx⟩)
            go_ret
            exact ⟨ret_of (congrArg Value.bool (show ((k * W : Int) == W * H) = true from by rw [show k = H from by omega, Int.mul_comm]; simp)), below_step Br hbx (Nat.le_refl _)⟩
      · have dH : decide (H ≤ 40) = false := by simpa using hH
        go_wp2
        go_ret
        exact ⟨rfl, B7⟩
    · have dW : decide (W ≤ 40) = false := by simpa using hW
      go_wp2
      go_ret
      exact ⟨rfl, B7⟩

theorem back_any (W H c x y : Int) (w : World) : Calls Try.prog 5 #[sz W H, .int .i64 c, .int .i64 x, .int .i64 y] w fun e w' => e = .returned (.bool true) ∧ Below w.heap.size w w' := by
  cases hI : inB W H c with
  | true =>
    cases hT : atB W H x y with
    | true => exact back_tt W H c x y w hI hT
    | false => exact back_tf W H c x y w hI hT
  | false =>
    cases hT : atB W H x y with
    | true => exact back_ft W H c x y w hI hT
    | false => exact back_ff W H c x y w hI hT

end Go.Proofs.Ytdmdoddlhjkkiaa
