/- The walk of PlaceTurned: it returns true in whatever world; nothing that lay turns. -/
import Derived.Test.YtdmdoddlhjkkiaaAwake
import Derived.Test.YtdmdoddlhjkkiaaPlainTwo
namespace Go.Proofs.Ytdmdoddlhjkkiaa
open Go.RowKit Go.Shelf

theorem right_as {W H : Int} {R : Bool} (w : World) (h : rt W H = R) : Calls Try.prog 15 #[sz W H] w fun e w' => e = .returned (.bool R) ∧ Below w.heap.size w w' := by
  rw [← h]; exact right_any W H w
theorem cells_as {W H N : Int} (w : World) (h : cellsN W H = N) : Calls Try.prog 17 #[sz W H] w fun e w' => e = .returned (.int .i64 N) ∧ Below w.heap.size w w' := by
  rw [← h]; exact cells_any W H w
theorem away_as {W H a b N : Int} (w : World) (h : awayN W H a b = N) : Calls Try.prog 14 #[sz W H, .int .i64 a, .int .i64 b] w fun e w' => e = .returned (.int .i64 N) ∧ Below w.heap.size w w' := by
  rw [← h]; exact away_any W H a b w
theorem beside_as {W H a b : Int} {R : Bool} (w : World) (h : decide (awayN W H a b = 1) = R) : Calls Try.prog 13 #[sz W H, .int .i64 a, .int .i64 b] w fun e w' => e = .returned (.bool R) ∧ Below w.heap.size w w' := by
  rw [← h, ← beside_eq]; exact beside_any W H a b w
theorem index_as {W H x y : Int} {N : Int} {R : Bool} (w : World) (h : idxN W H x y = N) (k : atB W H x y = R) : Calls Try.prog 9 #[sz W H, .int .i64 x, .int .i64 y] w fun e w' => e = .returned (.tuple #[.int .i64 N, .bool R]) ∧ Below w.heap.size w w' := by
  rw [← h, ← k]; exact index_any W H x y w

set_option maxRecDepth 100000 in
set_option maxHeartbeats 2000000 in
theorem turned_any (W H x y u v : Int) (w : World) : Calls Try.prog 7 #[sz W H, .int .i64 x, .int .i64 y, .int .i64 u, .int .i64 v] w fun e w' => e = .returned (.bool true) ∧ Below w.heap.size w w' := by
  obtain ⟨R, hR⟩ : ∃ R, rt W H = R := ⟨_, rfl⟩
  have HR1 : Hid (rt W H = R) := hR
  have HR2 : Hid (rt H W = R) := (rt_swap H W).trans hR
  clear hR
  obtain ⟨N, hN⟩ : ∃ N, cellsN W H = N := ⟨_, rfl⟩
  have HN1 : Hid (cellsN W H = N) := hN
  have HN2 : Hid (cellsN H W = N) := (cellsN_swap H W).trans hN
  clear hN
  obtain ⟨ok, hok⟩ : ∃ ok, atB W H x y = ok := ⟨_, rfl⟩
  obtain ⟨is, his⟩ : ∃ is, atB W H u v = is := ⟨_, rfl⟩
  obtain ⟨i, hi⟩ : ∃ i, idxN W H x y = i := ⟨_, rfl⟩
  obtain ⟨j, hj⟩ : ∃ j, idxN W H u v = j := ⟨_, rfl⟩
  obtain ⟨k, hk⟩ : ∃ k, idxN H W y x = k := ⟨_, rfl⟩
  obtain ⟨m, hm⟩ : ∃ m, idxN H W v u = m := ⟨_, rfl⟩
  have HA : Hid (ok = true → is = true → ∃ D, awayN W H i j = D ∧ awayN H W k m = D) := by
    rintro rfl rfl
    subst hi hj hk hm
    exact ⟨_, rfl, away_turn hok his⟩
  have HO1 : Hid (atB W H x y = ok) := hok
  have HO2 : Hid (atB H W y x = ok) := (atB_swap W H x y).trans hok
  have HI1 : Hid (atB W H u v = is) := his
  have HI2 : Hid (atB H W v u = is) := (atB_swap W H u v).trans his
  have Hi : Hid (idxN W H x y = i) := hi
  have Hj : Hid (idxN W H u v = j) := hj
  have Hk : Hid (idxN H W y x = k) := hk
  have Hm : Hid (idxN H W v u = m) := hm
  clear hok his hi hj hk hm
  go_enter Try.func7, Try.ntmps7
  go_wp2_with fail
  refine (awake_any _).mono ?_
  rintro e w1 ⟨rfl, hb1⟩
  have hz1 := (Blk.new w 23 #[.int .i64 W, .int .i64 H]).below hb1
  have hB1 : Below w.heap.size w w1 := below_step (below_new (Below.refl _ w) (Nat.le_refl _) _) hb1 (Nat.le_refl _)
  obtain ⟨z10, z11⟩ := hz1.cells2
  clear hb1
  have hl1 := hz1.lt
  go_wp2_with fail
  refine (index_as _ Hi.out HO1.out).mono ?_
  rintro e w2 ⟨rfl, hb2⟩
  have hz2 := (hz1.alloc (.cells #[.int .i64 H, .int .i64 W] 23)).below hb2
  have ht2 := (Blk.new w1 23 #[.int .i64 H, .int .i64 W]).below hb2
  have hB2 := below_step (below_new hB1 (Nat.le_refl _) _) hb2 (Nat.le_refl _)
  generalize w1.heap.size = T at *
  clear hb2 z10 z11 hz1 hB1
  obtain ⟨z20, z21⟩ := hz2.cells2
  go_wp2_with fail
  refine (index_as _ Hj.out HI1.out).mono ?_
  rintro e w3 ⟨rfl, hb3⟩
  have hz3 := hz2.below hb3
  have ht3 := ht2.below hb3
  have hB3 := below_step hB2 hb3 (Nat.le_refl _)
  clear hb3 z20 z21 hz2 ht2 hB2
  obtain ⟨t30, t31⟩ := ht3.cells2
  go_wp2_with fail
  refine (index_as _ Hk.out HO2.out).mono ?_
  rintro e w4 ⟨rfl, hb4⟩
  have hz4 := hz3.below hb4
  have ht4 := ht3.below hb4
  have hB4 := below_step hB3 hb4 (Nat.le_refl _)
  clear hb4 t30 t31 hz3 ht3 hB3
  obtain ⟨t40, t41⟩ := ht4.cells2
  go_wp2_with fail
  refine (index_as _ Hm.out HI2.out).mono ?_
  rintro e w5 ⟨rfl, hb5⟩
  have hz5 := hz4.below hb5
  have ht5 := ht4.below hb5
  have hB5 := below_step hB4 hb5 (Nat.le_refl _)
  clear hb5 t40 t41 hz4 ht4 hB4
  go_wp2
  have a0 := Grow.cell hz5.lt hz5.cells2.1
  have a1 := Grow.cell hz5.lt hz5.cells2.2
  have b0 := Grow.cell ht5.lt ht5.cells2.1
  have b1 := Grow.cell ht5.lt ht5.cells2.2
  have hne := Grow.ne w5
  refine wp_region_grow (by kernel_rfl) (by kernel_rfl) ?_
  repeat (go_big_quiet_step (first | (go_at_call 15; exact grow_call (right_as _ (by first | exact HR1.out | exact HR2.out))) | (go_at_call 17; exact grow_call (cells_as _ (by first | exact HN1.out | exact HN2.out)))))
  refine wpQuiet_nil ?_
  rintro w6 ⟨⟨_, hb6⟩, rfl⟩
  have hz6 := hz5.below hb6
  have ht6 := ht5.below hb6
  have hB6 := below_step hB5 hb6 (Nat.le_refl _)
  clear hne a0 a1 b0 b1 hz5 ht5 hb6 hB5
  cases ok with
  | false =>
    go_wp2
    go_ret
    exact ⟨rfl, hB6⟩
  | true =>
    cases is with
    | false =>
      go_wp2
      go_ret
      exact ⟨rfl, hB6⟩
    | true =>
      obtain ⟨D, hD1, hD2⟩ := HA.out rfl rfl
      have HD1 : Hid (awayN W H i j = D) := hD1
      have HD2 : Hid (awayN H W k m = D) := hD2
      obtain ⟨E, hE⟩ : ∃ E, decide (D = 1) = E := ⟨_, rfl⟩
      have HE1 : Hid (decide (awayN W H i j = 1) = E) := by rw [hD1]; exact hE
      have HE2 : Hid (decide (awayN H W k m = 1) = E) := by rw [hD2]; exact hE
      clear hE hD1 hD2
      go_wp2
      have a0 := Grow.cell hz6.lt hz6.cells2.1
      have a1 := Grow.cell hz6.lt hz6.cells2.2
      have b0 := Grow.cell ht6.lt ht6.cells2.1
      have b1 := Grow.cell ht6.lt ht6.cells2.2
      have hne := Grow.ne w6
      refine wp_region_grow (by kernel_rfl) (by kernel_rfl) ?_
      repeat (go_big_quiet_step (first | (go_at_call 14; exact grow_call (away_as _ (by first | exact HD1.out | exact HD2.out))) | (go_at_call 13; exact grow_call (beside_as _ (by first | exact HE1.out | exact HE2.out)))))
      refine wpQuiet_nil ?_
      rintro w7 ⟨⟨_, hb7⟩, rfl⟩
      go_wp2
      go_ret
      exact ⟨rfl, below_step hB6 hb7 (Nat.le_refl _)⟩

end Go.Proofs.Ytdmdoddlhjkkiaa
