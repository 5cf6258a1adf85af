/- Contracts of layer 1's plain functions (place.Right, Cells, Index, At, Away and what they call) over the program of the seat: each returns what the plain function says, in whatever world; nothing that lay in memory turns. -/
import Derived.Test.YtabgplniaiehpabProg
import Derived.Test.YtabgplniaiehpabPlacePlain
import Derived.Test.YtabgplniaiehpabKit
namespace Go.Proofs.Ytabgplniaiehpab.Pl
open Go.RowKit

abbrev sz (W H : Int) : Value := .agg #[.int .i64 W, .int .i64 H]

set_option maxHeartbeats 400000 in
theorem side_any (n : Int) (w : World) : Calls Try.prog 39 #[.int .i64 n] w fun e w' => e = .returned (.bool (sideB n)) ∧ w' = w := by
  by_cases h1 : 1 ≤ n
  · go_enter Try.func39, Try.ntmps39
    go_wp2
    go_ret
    exact ⟨by simp [sideB, h1], rfl⟩
  · have hd : decide (1 ≤ n) = false := by simpa using h1
    go_enter Try.func39, Try.ntmps39
    go_wp2
    go_ret
    exact ⟨ret_of (by rw [show sideB n = false from by unfold sideB; rw [hd]; rfl]; rfl), rfl⟩

set_option maxHeartbeats 400000 in
theorem below_any (n m : Int) (w : World) : Calls Try.prog 37 #[.int .i64 n, .int .i64 m] w fun e w' => e = .returned (.bool (blw n m)) ∧ w' = w := by
  by_cases h1 : 0 ≤ n
  · go_enter Try.func37, Try.ntmps37
    go_wp2
    go_ret
    exact ⟨by simp [blw, h1], rfl⟩
  · have hd : decide (0 ≤ n) = false := by simpa using h1
    go_enter Try.func37, Try.ntmps37
    go_wp2
    go_ret
    exact ⟨ret_of (by rw [show blw n m = false from by unfold blw; rw [hd]; rfl]; rfl), rfl⟩


set_option maxHeartbeats 400000 in
theorem right_any (W H : Int) (w : World) : Calls Try.prog 34 #[sz W H] w fun e w' => e = .returned (.bool (rt W H)) ∧ Below w.heap.size w w' := by
  cases hW : sideB W with
  | false =>
    have HW : Hid (sideB W = false) := hW; clear hW
    go_enter Try.func34, Try.ntmps34
    go_wp2_with (go_at_call 39; refine (side_any _ _).mono ?_; rintro e w' ⟨rfl, rfl⟩; rw [HW.out])
    go_ret
    exact ⟨ret_of (by rw [show rt W H = false from by unfold rt; rw [HW.out]; rfl]; rfl), (Below.refl _ _).alloc (Nat.le_refl _) _⟩
  | true =>
    cases hH : sideB H with
    | false =>
      have HW : Hid (sideB W = true) := hW; clear hW
      have HH : Hid (sideB H = false) := hH; clear hH
      go_enter Try.func34, Try.ntmps34
      go_wp2_with fail
      refine (side_any _ _).mono ?_
      rintro e w' ⟨rfl, rfl⟩
      rw [HW.out]
      go_wp2_with fail
      refine (side_any _ _).mono ?_
      rintro e w' ⟨rfl, rfl⟩
      rw [HH.out]
      go_wp2
      go_ret
      exact ⟨ret_of (by rw [show rt W H = false from by unfold rt; rw [HW.out, HH.out]; rfl]; rfl), (Below.refl _ _).alloc (Nat.le_refl _) _⟩
    | true =>
      obtain ⟨a, b⟩ := sideB_iff.1 hW
      obtain ⟨c, d⟩ := sideB_iff.1 hH
      have hm := mul_bd a b c d
      have HW : Hid (sideB W = true) := hW; clear hW
      have HH : Hid (sideB H = true) := hH; clear hH
      go_enter Try.func34, Try.ntmps34
      go_wp2_with fail
      refine (side_any _ _).mono ?_
      rintro e w' ⟨rfl, rfl⟩
      rw [HW.out]
      go_wp2_with fail
      refine (side_any _ _).mono ?_
      rintro e w' ⟨rfl, rfl⟩
      rw [HH.out]
      go_wp2
      go_ret
      exact ⟨ret_of (by rw [show rt W H = decide (W * H ≤ 4194304) from by unfold rt; rw [HW.out, HH.out]; rfl]; rfl), (Below.refl _ _).alloc (Nat.le_refl _) _⟩

set_option maxHeartbeats 400000 in
theorem cells_any (W H : Int) (w : World) : Calls Try.prog 22 #[sz W H] w fun e w' => e = .returned (.int .i64 (cellsN W H)) ∧ Below w.heap.size w w' := by
  cases hr : rt W H with
  | false =>
    have HR : Hid (rt W H = false) := hr; clear hr
    go_enter Try.func22, Try.ntmps22
    go_wp2_with fail
    refine (right_any _ _ _).mono ?_
    rintro e w1 ⟨rfl, hb⟩
    rw [HR.out]
    go_wp2
    go_ret
    exact ⟨ret_of (by rw [show cellsN W H = 0 from by unfold cellsN; rw [HR.out]; rfl]; rfl), ((Below.refl _ _).alloc (Nat.le_refl _) _).trans (hb.mono (by simp))⟩
  | true =>
    obtain ⟨a, b, c, d, e⟩ := rt_iff.1 hr
    have hm := mul_bd a b c d
    have HR : Hid (rt W H = true) := hr; clear hr
    go_enter Try.func22, Try.ntmps22
    go_wp2_with fail
    refine (right_any _ _ _).mono ?_
    rintro e w1 ⟨rfl, hb⟩
    rw [HR.out]
    obtain ⟨hc, hf⟩ := bcell hb
    go_wp2
    go_ret
    exact ⟨ret_of (by rw [show cellsN W H = W * H from by unfold cellsN; rw [HR.out]; rfl]; rfl), ((Below.refl _ _).alloc (Nat.le_refl _) _).trans (hb.mono (by simp))⟩

set_option maxHeartbeats 1000000 in
theorem index_any (W H x y : Int) (w : World) : Calls Try.prog 26 #[sz W H, .int .i64 x, .int .i64 y] w fun e w' => e = .returned (.tuple #[.int .i64 (idxN W H x y), .bool (atB W H x y)]) ∧ Below w.heap.size w w' := by
  cases hr : rt W H with
  | false =>
    have hz : atB W H x y = false := by unfold atB; rw [hr]; rfl
    have hi : idxN W H x y = 0 := by unfold idxN; rw [hz]; rfl
    rw [hz, hi]
    clear hz hi
    have HR : Hid (rt W H = false) := hr; clear hr
    go_enter Try.func26, Try.ntmps26
    go_wp2_with fail
    refine (right_any _ _ _).mono ?_
    rintro e w1 ⟨rfl, hb⟩
    rw [HR.out]
    go_wp2
    go_ret2
    exact ⟨rfl, ((Below.refl _ _).alloc (Nat.le_refl _) _).trans (hb.mono (by simp))⟩
  | true =>
    cases hx : blw x W with
    | false =>
      have hz : atB W H x y = false := by unfold atB; rw [hr, hx]; rfl
      have hi : idxN W H x y = 0 := by unfold idxN; rw [hz]; rfl
      rw [hz, hi]
      clear hz hi
      have HR : Hid (rt W H = true) := hr; clear hr
      have HX : Hid (blw x W = false) := hx; clear hx
      go_enter Try.func26, Try.ntmps26
      go_wp2_with fail
      refine (right_any _ _ _).mono ?_
      rintro e w1 ⟨rfl, hb⟩
      rw [HR.out]
      obtain ⟨hc, hf⟩ := bcell hb
      go_wp2_with fail
      refine (below_any _ _ _).mono ?_
      rintro e w' ⟨rfl, rfl⟩
      rw [HX.out]
      go_wp2
      go_ret2
      exact ⟨rfl, ((Below.refl _ _).alloc (Nat.le_refl _) _).trans (hb.mono (by simp))⟩
    | true =>
      cases hy : blw y H with
      | false =>
        have hz : atB W H x y = false := by unfold atB; rw [hr, hx, hy]; rfl
        have hi : idxN W H x y = 0 := by unfold idxN; rw [hz]; rfl
        rw [hz, hi]
        clear hz hi
        have HR : Hid (rt W H = true) := hr; clear hr
        have HX : Hid (blw x W = true) := hx; clear hx
        have HY : Hid (blw y H = false) := hy; clear hy
        go_enter Try.func26, Try.ntmps26
        go_wp2_with fail
        refine (right_any _ _ _).mono ?_
        rintro e w1 ⟨rfl, hb⟩
        rw [HR.out]
        obtain ⟨hc, hf⟩ := bcell hb
        go_wp2_with fail
        refine (below_any _ _ _).mono ?_
        rintro e w' ⟨rfl, rfl⟩
        rw [HX.out]
        go_wp2_with fail
        refine (below_any _ _ _).mono ?_
        rintro e w' ⟨rfl, rfl⟩
        rw [HY.out]
        go_wp2
        go_ret2
        exact ⟨rfl, ((Below.refl _ _).alloc (Nat.le_refl _) _).trans (hb.mono (by simp))⟩
      | true =>
        have hz : atB W H x y = true := by unfold atB; rw [hr, hx, hy]; rfl
        have hi : idxN W H x y = y * W + x := by unfold idxN; rw [hz]; rfl
        rw [hz, hi]
        clear hz hi
        obtain ⟨x0, x1⟩ := blw_iff.1 hx
        obtain ⟨y0, y1⟩ := blw_iff.1 hy
        obtain ⟨a, b, c, d, e⟩ := rt_iff.1 hr
        have hm := idx_lt hr x0 x1 y0 y1
        have hm1 : 0 ≤ y * W := Int.mul_nonneg y0 (by omega)
        have HR : Hid (rt W H = true) := hr; clear hr
        have HX : Hid (blw x W = true) := hx; clear hx
        have HY : Hid (blw y H = true) := hy; clear hy
        go_enter Try.func26, Try.ntmps26
        go_wp2_with fail
        refine (right_any _ _ _).mono ?_
        rintro e w1 ⟨rfl, hb⟩
        rw [HR.out]
        obtain ⟨hc, hf⟩ := bcell hb
        go_wp2_with fail
        refine (below_any _ _ _).mono ?_
        rintro e w' ⟨rfl, rfl⟩
        rw [HX.out]
        go_wp2_with fail
        refine (below_any _ _ _).mono ?_
        rintro e w' ⟨rfl, rfl⟩
        rw [HY.out]
        go_wp2
        go_ret2
        exact ⟨rfl, ((Below.refl _ _).alloc (Nat.le_refl _) _).trans (hb.mono (by simp))⟩

set_option maxHeartbeats 1000000 in
theorem at_no (W H c : Int) (w : World) (h : inB W H c = false) : Calls Try.prog 25 #[sz W H, .int .i64 c] w fun e w' => e = .returned (.tuple #[.int .i64 0, .int .i64 0, .bool false]) ∧ Below w.heap.size w w' := by
  have HI : Hid (blw c (cellsN W H) = false) := h; clear h
  go_enter Try.func25, Try.ntmps25
  go_wp2_with fail
  refine (cells_any _ _ _).mono ?_
  rintro e w1 ⟨rfl, hb⟩
  go_wp2_with fail
  refine (below_any _ _ _).mono ?_
  rintro e w' ⟨rfl, rfl⟩
  rw [HI.out]
  go_wp2
  go_ret3
  exact ⟨rfl, ((Below.refl _ _).alloc (Nat.le_refl _) _).trans (hb.mono (by simp))⟩

set_option maxHeartbeats 1000000 in
theorem at_yes (W H c : Int) (w : World) (h : inB W H c = true) : Calls Try.prog 25 #[sz W H, .int .i64 c] w fun e w' => e = .returned (.tuple #[.int .i64 (c % W), .int .i64 (c / W), .bool true]) ∧ Below w.heap.size w w' := by
  obtain ⟨a1, a2, a3, a4, a5, a6, a7, a8, a9, a10, _⟩ := at_bd h
  have HI : Hid (blw c (cellsN W H) = true) := h; clear h
  go_enter Try.func25, Try.ntmps25
  go_wp2_with fail
  refine (cells_any _ _ _).mono ?_
  rintro e w1 ⟨rfl, hb⟩
  obtain ⟨hc, hf⟩ := bcell hb
  go_wp2_with fail
  refine (below_any _ _ _).mono ?_
  rintro e w' ⟨rfl, rfl⟩
  rw [HI.out]
  go_wp2
  go_quiet (fail)
  go_wp2
  go_ret3
  exact ⟨rfl, below_drewN (((Below.refl _ _).alloc (Nat.le_refl _) _).trans (hb.mono (by simp))) _⟩

set_option maxHeartbeats 1000000 in
theorem apart_any (m n : Int) (w : World) (h0 : 0 ≤ m) (h1 : m ≤ 4096) (h2 : 0 ≤ n) (h3 : n ≤ 4096) : Calls Try.prog 35 #[.int .i64 m, .int .i64 n] w fun e w' => e = .returned (.int .i64 (apartN m n)) ∧ w' = w := by
  go_enter Try.func35, Try.ntmps35
  go_wp2
  all_goals
    go_ret
    exact ⟨ret_of (congrArg (Value.int IntKind.i64) (show _ = apartN m n from by unfold apartN; omega)), rfl⟩

theorem apartN_bd {m n k : Int} (h0 : 0 ≤ m) (h1 : m < k) (h2 : 0 ≤ n) (h3 : n < k) : 0 ≤ apartN m n ∧ apartN m n < k := by unfold apartN; omega

set_option maxHeartbeats 1000000 in
theorem away_any (W H a b : Int) (w : World) : Calls Try.prog 23 #[sz W H, .int .i64 a, .int .i64 b] w fun e w' => e = .returned (.int .i64 (awayN W H a b)) ∧ Below w.heap.size w w' := by
  cases ha : inB W H a with
  | false =>
    have hz : awayN W H a b = -1 := by unfold awayN; rw [ha]; simp
    rw [hz]
    clear hz
    cases hb : inB W H b with
    | false =>
      have HA : Hid (inB W H a = false) := ha; clear ha
      have HB : Hid (inB W H b = false) := hb; clear hb
      go_enter Try.func23, Try.ntmps23
      go_wp2_with fail
      refine (at_no _ _ _ _ HA.out).mono ?_
      rintro e w1 ⟨rfl, hb1⟩
      obtain ⟨hc, hf⟩ := bcell hb1
      go_wp2_with fail
      refine (at_no _ _ _ _ HB.out).mono ?_
      rintro e w2 ⟨rfl, hb2⟩
      go_wp2
      go_ret
      exact ⟨rfl, (((Below.refl _ _).alloc (Nat.le_refl _) _).trans (hb1.mono (by simp))).trans (hb2.mono (by have := hb1.size; simp at this; omega))⟩
    | true =>
      have HA : Hid (inB W H a = false) := ha; clear ha
      have HB : Hid (inB W H b = true) := hb; clear hb
      go_enter Try.func23, Try.ntmps23
      go_wp2_with fail
      refine (at_no _ _ _ _ HA.out).mono ?_
      rintro e w1 ⟨rfl, hb1⟩
      obtain ⟨hc, hf⟩ := bcell hb1
      go_wp2_with fail
      refine (at_yes _ _ _ _ HB.out).mono ?_
      rintro e w2 ⟨rfl, hb2⟩
      go_wp2
      go_ret
      exact ⟨rfl, (((Below.refl _ _).alloc (Nat.le_refl _) _).trans (hb1.mono (by simp))).trans (hb2.mono (by have := hb1.size; simp at this; omega))⟩
  | true =>
    cases hb : inB W H b with
    | false =>
      have hz : awayN W H a b = -1 := by unfold awayN; rw [hb]; simp
      rw [hz]
      clear hz
      have HA : Hid (inB W H a = true) := ha; clear ha
      have HB : Hid (inB W H b = false) := hb; clear hb
      go_enter Try.func23, Try.ntmps23
      go_wp2_with fail
      refine (at_yes _ _ _ _ HA.out).mono ?_
      rintro e w1 ⟨rfl, hb1⟩
      obtain ⟨hc, hf⟩ := bcell hb1
      go_wp2_with fail
      refine (at_no _ _ _ _ HB.out).mono ?_
      rintro e w2 ⟨rfl, hb2⟩
      go_wp2
      go_ret
      exact ⟨rfl, (((Below.refl _ _).alloc (Nat.le_refl _) _).trans (hb1.mono (by simp))).trans (hb2.mono (by have := hb1.size; simp at this; omega))⟩
    | true =>
      have hz : awayN W H a b = apartN (a % W) (b % W) + apartN (a / W) (b / W) := by unfold awayN; rw [ha, hb]; simp
      rw [hz]
      clear hz
      obtain ⟨a1, a2, a3, a4, _, _, a7, a8, a9, a10, _⟩ := at_bd ha
      obtain ⟨_, _, _, _, _, _, b7, b8, b9, b10, _⟩ := at_bd hb
      have HA : Hid (inB W H a = true) := ha; clear ha
      have HB : Hid (inB W H b = true) := hb; clear hb
      have k1 := apartN_bd a7 a8 b7 b8
      have k2 := apartN_bd a9 a10 b9 b10
      go_enter Try.func23, Try.ntmps23
      go_wp2_with fail
      refine (at_yes _ _ _ _ HA.out).mono ?_
      rintro e w1 ⟨rfl, hb1⟩
      obtain ⟨hc, hf⟩ := bcell hb1
      go_wp2_with fail
      refine (at_yes _ _ _ _ HB.out).mono ?_
      rintro e w2 ⟨rfl, hb2⟩
      go_wp2_with fail
      refine (apart_any _ _ _ (by omega) (by omega) (by omega) (by omega)).mono ?_
      rintro e w' ⟨rfl, rfl⟩
      go_wp2_with fail
      refine (apart_any _ _ _ (by omega) (by omega) (by omega) (by omega)).mono ?_
      rintro e w' ⟨rfl, rfl⟩
      go_wp2
      go_ret
      exact ⟨rfl, (((Below.refl _ _).alloc (Nat.le_refl _) _).trans (hb1.mono (by simp))).trans (hb2.mono (by have := hb1.size; simp at this; omega))⟩

end Go.Proofs.Ytabgplniaiehpab.Pl
