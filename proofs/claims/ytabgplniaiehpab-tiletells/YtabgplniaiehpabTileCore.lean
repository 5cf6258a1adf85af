/- Contracts of layer 12's plain functions (tile): each returns what the plain function says, in whatever world; nothing that lay in memory turns. -/
import Derived.Test.YtabgplniaiehpabPlaceCore
import Derived.Test.YtabgplniaiehpabTilePlain
import Derived.BigQuiet
namespace Go.Proofs.Ytabgplniaiehpab.Pl
open Go.RowKit
set_option linter.unusedVariables false

theorem blk_store2 {W : World} {B : Nat} {t : TypeId} {a b : Value} (h : Blk W B t #[a, b]) (a' b' : Value) : Blk ((W.setCell ⟨B, 0, none⟩ a').setCell ⟨B, 1, none⟩ b') B t #[a', b'] := by simpa using (h.setAt 0 a').setAt 1 b'
theorem results_5 {fn : Func} {t u v z y : Tmp} (h : fn.results = #[.tmp t, .tmp u, .tmp v, .tmp z, .tmp y]) (tmps : Array Value) (P : Program) (w : World) :
    (results fn tmps).run P w = .ok (.tuple #[tmps.getD t undef, tmps.getD u undef, tmps.getD v undef, tmps.getD z undef, tmps.getD y undef]) w := by
  simp [results, h]

set_option maxHeartbeats 400000 in
theorem side_t (n : Int) (w : World) (h0 : 1 ≤ n) (h1 : n ≤ 4096) : Calls Try.prog 38 #[.int .i64 n] w fun e w' => e = .returned (.int .i64 (sideT n)) ∧ w' = w := by
  go_enter Try.func38, Try.ntmps38
  go_wp2
  go_ret
  exact ⟨ret_of (congrArg (Value.int IntKind.i64) (show _ = sideT n from by unfold sideT; omega)), rfl⟩

set_option maxHeartbeats 1000000 in
theorem intiles_any (W H : Int) (w : World) : Calls Try.prog 27 #[sz W H] w fun e w' => e = .returned (sz (tW W H) (tH W H)) ∧ Below w.heap.size w w' := by
  have h1 := Blk.new (w.alloc (.cells #[.int .i64 W, .int .i64 H] 23)) 23 #[.int .i64 0, .int .i64 0]
  have h2 := (Blk.new w 23 #[.int .i64 W, .int .i64 H]).alloc (.cells #[.int .i64 0, .int .i64 0] 23)
  rw [World.size_alloc] at h1
  cases hr : rt W H with
  | false =>
    rw [(tWH_no hr).1, (tWH_no hr).2]
    have HR : Hid (rt W H = false) := hr; clear hr
    have HB := hid_mk h1
    clear h1 h2
    go_enter Try.func27, Try.ntmps27
    go_wp2_with fail
    refine (right_any _ _ _).mono ?_
    rintro e w1 ⟨rfl, hb⟩
    rw [HR.out]
    have HB1 := hid_mk (HB.out.below hb)
    have hs := hb.size
    have c0 := HB1.out.at (j := 0) rfl
    have c1 := HB1.out.at (j := 1) rfl
    have f0 := HB1.out.frozen 0
    have f1 := HB1.out.frozen 1
    simp only [List.getElem_toArray, List.getElem_cons_zero, List.getElem_cons_succ] at c0 c1
    have HBW : Hid (Below w.heap.size w w1) := (((Below.refl _ _).alloc (Nat.le_refl _) _).alloc (by simp) _).trans (hb.mono (by simp; omega))
    clear hb
    go_wp2
    refine bodyPost_ret (results_cell_row rfl _ _ (w.heap.size + 1) 23 _ (0, 0) _ rfl (blk_store2 HB1.out _ _) Try.underlying23 rfl (by kernel_rfl)) rfl ?_
    exact ⟨rfl, (HBW.out.setCell (by simp) _).setCell (by simp) _⟩
  | true =>
    obtain ⟨a, b, c, d, e⟩ := rt_iff.1 hr
    rw [(tWH_yes hr).1, (tWH_yes hr).2]
    have HR : Hid (rt W H = true) := hr; clear hr
    have HB := hid_mk h1
    have HZ := hid_mk h2
    clear h1 h2
    go_enter Try.func27, Try.ntmps27
    go_wp2_with fail
    refine (right_any _ _ _).mono ?_
    rintro e w1 ⟨rfl, hb⟩
    rw [HR.out]
    have HB1 := hid_mk (HB.out.below hb)
    have HZ1 := HZ.out.below hb
    have z0 := HZ1.cells2.1
    have z1 := HZ1.cells2.2
    have hzl := HZ1.lt
    have HBW : Hid (Below w.heap.size w w1) := (((Below.refl _ _).alloc (Nat.le_refl _) _).alloc (by simp) _).trans (hb.mono (by simp; omega))
    have HS : Hid (∀ (g : Grow w1) x, x = W ∨ x = H → Calls Try.prog 38 #[.int .i64 x] g.w fun e w' => e = .returned (.int .i64 (sideT x)) ∧ Below g.w.heap.size g.w w') := fun g x hx => (side_t x g.w (by rcases hx with rfl | rfl <;> assumption) (by rcases hx with rfl | rfl <;> assumption)).mono fun e w' h => ⟨h.1, by rw [h.2]; exact Below.refl _ _⟩
    have gn := Grow.ne w1
    have g0 : ∀ g : Grow w1, g.w.cell? ⟨w.heap.size, 0, none⟩ = some (.int .i64 W) := fun g => Grow.cell hzl z0 g
    have g1 : ∀ g : Grow w1, g.w.cell? ⟨w.heap.size, 1, none⟩ = some (.int .i64 H) := fun g => Grow.cell hzl z1 g
    clear hb HZ1 HB HZ
    go_wp2
    refine wp_region_tail 7 (by kernel_rfl) (by kernel_rfl) (by kernel_rfl) ?_
    simp only [stillAt, stillOp, List.set_cons_succ, List.set_cons_zero, List.getElem?_cons_succ, List.getElem?_cons_zero, Option.getD_some, List.drop_succ_cons, List.drop_zero]
    repeat (go_big_quiet_step ((go_at_call 38; first | exact grow_call (HS.out _ _ (.inl rfl)) | exact grow_call (HS.out _ _ (.inr rfl)))))
    refine wpQuiet_nil ?_
    rintro w3 ⟨⟨_, hb3⟩, rfl⟩
    have HB3 := hid_mk (HB1.out.below hb3)
    have c0 := HB3.out.at (j := 0) rfl
    have c1 := HB3.out.at (j := 1) rfl
    have f0 := HB3.out.frozen 0
    have f1 := HB3.out.frozen 1
    simp only [List.getElem_toArray, List.getElem_cons_zero, List.getElem_cons_succ] at c0 c1
    have HW3 := hid_mk (below_step HBW.out hb3 (Nat.le_refl _))
    clear hb3
    go_wp2
    refine bodyPost_ret (results_cell_row rfl _ _ (w.heap.size + 1) 23 _ (0, 0) _ rfl (blk_store2 HB3.out _ _) Try.underlying23 rfl (by kernel_rfl)) rfl ?_
    exact ⟨rfl, (HW3.out.setCell (by simp) _).setCell (by simp) _⟩

set_option maxHeartbeats 1000000 in
theorem count_any (W H : Int) (w : World) : Calls Try.prog 13 #[sz W H] w fun e w' => e = .returned (.int .i64 (countN W H)) ∧ Below w.heap.size w w' := by
  go_enter Try.func13, Try.ntmps13
  go_wp2_with fail
  refine (intiles_any _ _ _).mono ?_
  rintro e w1 ⟨rfl, hb1⟩
  go_wp2_with fail
  refine (cells_any _ _ _).mono ?_
  rintro e w2 ⟨rfl, hb2⟩
  have HB : Hid (Below w.heap.size w w2) := below_step (((Below.refl _ _).alloc (Nat.le_refl _) _).trans (hb1.mono (by simp))) hb2 (Nat.le_refl _)
  clear hb1 hb2
  go_wp2
  go_ret
  exact ⟨rfl, HB.out⟩

set_option maxHeartbeats 1000000 in
theorem of_no (W H c : Int) (w : World) (h : inB W H c = false) : Calls Try.prog 11 #[sz W H, .int .i64 c] w fun e w' => e = .returned (.tuple #[.int .i64 0, .bool false]) ∧ Below w.heap.size w w' := by
  have HI := hid_mk h
  clear h
  go_enter Try.func11, Try.ntmps11
  go_wp2_with fail
  refine (at_no _ _ _ _ HI.out).mono ?_
  rintro e w1 ⟨rfl, hb1⟩
  have HB : Hid (Below w.heap.size w w1) := ((Below.refl _ _).alloc (Nat.le_refl _) _).trans (hb1.mono (by simp))
  clear hb1
  go_wp2
  go_ret2
  exact ⟨rfl, HB.out⟩
set_option maxHeartbeats 1000000 in
theorem of_yes (W H c : Int) (w : World) (h : inB W H c = true) : Calls Try.prog 11 #[sz W H, .int .i64 c] w fun e w' => e = .returned (.tuple #[.int .i64 (ofN W H c), .bool true]) ∧ Below w.heap.size w w' := by
  obtain ⟨_, _, _, o4, o5⟩ := of_bd h
  obtain ⟨a1, a2, a3, a4, _, _, a7, a8, a9, a10, _⟩ := at_bd h
  have HI := hid_mk h
  have HX : Hid (∀ W', Calls Try.prog 26 #[sz (tW W H) (tH W H), .int .i64 (c % W / 8), .int .i64 (c / W / 8)] W' fun e w' => e = .returned (.tuple #[.int .i64 (ofN W H c), .bool true]) ∧ Below W'.heap.size W' w') := fun W' => by
    have := index_any (tW W H) (tH W H) (c % W / 8) (c / W / 8) W'
    rw [o4, o5] at this
    exact this
  clear h o4 o5
  generalize ofN W H c = o at *
  generalize hu : c % W = u at *
  generalize hv : c / W = v at *
  go_enter Try.func11, Try.ntmps11
  go_wp2_with fail
  refine (at_yes _ _ _ _ HI.out).mono ?_
  rintro e w1 ⟨rfl, hb1⟩
  rw [hu, hv]
  obtain ⟨hc, hf⟩ := bcell hb1
  have HB : Hid (Below w.heap.size w w1) := ((Below.refl _ _).alloc (Nat.le_refl _) _).trans (hb1.mono (by simp))
  go_wp2_with fail
  refine (intiles_any _ _ _).mono ?_
  rintro e w2 ⟨rfl, hb2⟩
  have HB2 : Hid (Below w.heap.size w w2) := below_step HB.out hb2 (Nat.le_refl _)
  clear hb1 hb2 hc hf HB
  go_wp2_with fail
  refine (HX.out w2).mono ?_
  rintro e w3 ⟨rfl, hb3⟩
  have HB3 : Hid (Below w.heap.size w w3) := below_step HB2.out hb3 (Nat.le_refl _)
  clear hb3 HB2
  go_wp2
  go_ret2
  exact ⟨rfl, HB3.out⟩
theorem tof_any (W H c : Int) (w : World) : Calls Try.prog 11 #[sz W H, .int .i64 c] w fun e w' => e = .returned (.tuple #[.int .i64 (ofN W H c), .bool (inB W H c)]) ∧ Below w.heap.size w w' := by
  cases h : inB W H c with
  | true => exact of_yes W H c w h
  | false =>
    have : ofN W H c = 0 := by unfold ofN; rw [if_neg (by rw [h]; simp)]
    rw [this]
    exact of_no W H c w h

set_option maxHeartbeats 1000000 in
theorem box_no_any (W H t : Int) (w : World) (h : tileB W H t = false) : Calls Try.prog 18 #[sz W H, .int .i64 t] w fun e w' => e = .returned (.tuple #[.int .i64 0, .int .i64 0, .int .i64 0, .int .i64 0, .bool false]) ∧ Below w.heap.size w w' := by
  have HI : Hid (inB (tW W H) (tH W H) t = false) := h
  clear h
  go_enter Try.func18, Try.ntmps18
  go_wp2_with fail
  refine (intiles_any _ _ _).mono ?_
  rintro e w1 ⟨rfl, hb1⟩
  have HB : Hid (Below w.heap.size w w1) := ((Below.refl _ _).alloc (Nat.le_refl _) _).trans (hb1.mono (by simp))
  clear hb1
  go_wp2_with fail
  refine (at_no _ _ _ _ HI.out).mono ?_
  rintro e w2 ⟨rfl, hb2⟩
  have HB2 : Hid (Below w.heap.size w w2) := below_step HB.out hb2 (Nat.le_refl _)
  clear hb2 HB
  go_wp2
  refine bodyPost_ret (results_5 rfl _ _ _) rfl ?_
  exact ⟨rfl, HB2.out⟩
set_option maxHeartbeats 1000000 in
theorem box_yes_any (W H t : Int) (w : World) (h : tileB W H t = true) : Calls Try.prog 18 #[sz W H, .int .i64 t] w fun e w' => e = .returned (.tuple #[.int .i64 (bxN W H t), .int .i64 (byN W H t), .int .i64 (bwN W H t), .int .i64 (bhN W H t), .bool true]) ∧ Below w.heap.size w w' := by
  obtain ⟨b1, b2, b3, b4, b5, b6, b7, b8, b9, b10, b11, b12, b13, b14, b15, b16⟩ := box_bd h
  have HI : Hid (inB (tW W H) (tH W H) t = true) := h
  clear h
  generalize bxN W H t = bx at *
  generalize byN W H t = bY at *
  generalize bwN W H t = bw at *
  generalize bhN W H t = bh at *
  have z0 : Blk (w.alloc (.cells #[.int .i64 W, .int .i64 H] 23)) w.heap.size 23 #[.int .i64 W, .int .i64 H] := Blk.new w _ _
  have HZ := hid_mk z0
  clear z0
  go_enter Try.func18, Try.ntmps18
  go_wp2_with fail
  refine (intiles_any _ _ _).mono ?_
  rintro e w1 ⟨rfl, hb1⟩
  have HB : Hid (Below w.heap.size w w1) := ((Below.refl _ _).alloc (Nat.le_refl _) _).trans (hb1.mono (by simp))
  have HZ1 := hid_mk (HZ.out.below hb1)
  clear hb1 HZ
  go_wp2_with fail
  refine (at_yes _ _ _ _ HI.out).mono ?_
  rintro e w2 ⟨rfl, hb2⟩
  have HB2 : Hid (Below w.heap.size w w2) := below_step HB.out hb2 (Nat.le_refl _)
  have HZ2 := HZ1.out.below hb2
  have c0 := HZ2.cells2.1
  have c1 := HZ2.cells2.2
  clear hb2 HB HZ1 HZ2
  generalize t % tW W H = u at *
  generalize t / tW W H = v at *
  subst b13 b14
  have B15 := hid_mk b15
  have B16 := hid_mk b16
  clear b15 b16
  go_wp2
  go_quiet (fail)
  all_goals
    go_wp2
  all_goals
    refine bodyPost_ret (results_5 rfl _ _ _) rfl ?_
    refine ⟨ret_of ?_, below_drewN HB2.out _⟩
    rw [B15.out, B16.out]
    first
      | rfl
      | (congr 1; congr 1; simp; omega)

theorem box_any (W H t : Int) (w : World) : Calls Try.prog 18 #[sz W H, .int .i64 t] w fun e w' => e = .returned (.tuple #[.int .i64 (bxN W H t), .int .i64 (byN W H t), .int .i64 (bwN W H t), .int .i64 (bhN W H t), .bool (tileB W H t)]) ∧ Below w.heap.size w w' := by
  cases h : tileB W H t with
  | true => exact box_yes_any W H t w h
  | false =>
    obtain ⟨e1, e2, e3, e4⟩ := box_no h
    rw [e1, e2, e3, e4]
    exact box_no_any W H t w h

set_option maxHeartbeats 400000 in
theorem within_any (n f m : Int) (w : World) (h0 : 0 ≤ n) (h1 : n ≤ 4096) (h2 : 0 ≤ f) (h3 : f ≤ 4096) (h4 : 0 ≤ m) (h5 : m ≤ 4096) : Calls Try.prog 29 #[.int .i64 n, .int .i64 f, .int .i64 m] w fun e w' => e = .returned (.int .i64 (withinN n f m)) ∧ w' = w := by
  go_enter Try.func29, Try.ntmps29
  go_wp2
  all_goals
    go_ret
    exact ⟨ret_of (congrArg (Value.int IntKind.i64) (show _ = withinN n f m from by unfold withinN; omega)), rfl⟩

set_option maxHeartbeats 1600000 in
theorem taway_any (W H c t : Int) (w : World) : Calls Try.prog 14 #[sz W H, .int .i64 c, .int .i64 t] w fun e w' => e = .returned (.int .i64 (tawayN W H c t)) ∧ Below w.heap.size w w' := by
  have HBX := hid_mk (fun W' => box_any W H t W')
  have z0 : Blk (w.alloc (.cells #[.int .i64 W, .int .i64 H] 23)) w.heap.size 23 #[.int .i64 W, .int .i64 H] := Blk.new w _ _
  have HZ := hid_mk z0
  clear z0
  cases hc : inB W H c with
  | false =>
    rw [taway_no (by rw [hc]; simp)]
    have HI := hid_mk hc
    clear hc
    generalize bxN W H t = bx at *
    generalize byN W H t = bY at *
    generalize bwN W H t = bw at *
    generalize bhN W H t = bh at *
    generalize tileB W H t = tb at *
    go_enter Try.func14, Try.ntmps14
    go_wp2_with fail
    refine (at_no _ _ _ _ HI.out).mono ?_
    rintro e w1 ⟨rfl, hb1⟩
    have HB : Hid (Below w.heap.size w w1) := ((Below.refl _ _).alloc (Nat.le_refl _) _).trans (hb1.mono (by simp))
    have HZ1 := hid_mk (HZ.out.below hb1)
    have c0 := HZ1.out.cells2.1
    have c1 := HZ1.out.cells2.2
    clear hb1 HZ
    go_wp2_with fail
    refine (HBX.out w1).mono ?_
    rintro e w2 ⟨rfl, hb2⟩
    have HB2 : Hid (Below w.heap.size w w2) := below_step HB.out hb2 (Nat.le_refl _)
    clear hb2 HB HBX HZ1 c0 c1
    go_wp2
    go_ret
    exact ⟨rfl, HB2.out⟩
  | true =>
    cases ht : tileB W H t with
    | false =>
      rw [taway_no (by rw [ht]; simp)]
      have HI := hid_mk hc
      have HT := hid_mk ht
      clear hc ht
      generalize bxN W H t = bx at *
      generalize byN W H t = bY at *
      generalize bwN W H t = bw at *
      generalize bhN W H t = bh at *
      go_enter Try.func14, Try.ntmps14
      go_wp2_with fail
      refine (at_yes _ _ _ _ HI.out).mono ?_
      rintro e w1 ⟨rfl, hb1⟩
      have HB : Hid (Below w.heap.size w w1) := ((Below.refl _ _).alloc (Nat.le_refl _) _).trans (hb1.mono (by simp))
      have HZ1 := hid_mk (HZ.out.below hb1)
      have c0 := HZ1.out.cells2.1
      have c1 := HZ1.out.cells2.2
      clear hb1 HZ
      go_wp2_with fail
      refine (HBX.out w1).mono ?_
      rintro e w2 ⟨rfl, hb2⟩
      rw [HT.out]
      have HB2 : Hid (Below w.heap.size w w2) := below_step HB.out hb2 (Nat.le_refl _)
      clear hb2 HB HBX HZ1 c0 c1
      go_wp2
      go_ret
      exact ⟨rfl, HB2.out⟩
    | true =>
      obtain ⟨b1, b2, b3, b4, b5, b6, b7, b8, b9, b10, b11, b12, z1, z2, z3, z4⟩ := box_bd ht
      clear z1 z2 z3 z4
      obtain ⟨_, _, _, _, _, _, p1, p2, p3, p4, z5⟩ := at_bd hc
      clear z5
      have hat := nearest_at (c := c) ht
      have HV : Hid (tawayN W H c t = awayN W H c (nearestN W H c t)) := hid_mk (by unfold tawayN; rw [if_pos ⟨hc, ht⟩])
      have HX : Hid (∀ W', Calls Try.prog 26 #[sz W H, .int .i64 (withinN (c % W) (bxN W H t) (bwN W H t)), .int .i64 (withinN (c / W) (byN W H t) (bhN W H t))] W' fun e w' => e = .returned (.tuple #[.int .i64 (nearestN W H c t), .bool true]) ∧ Below W'.heap.size W' w') := fun W' => by
        have := index_any W H (withinN (c % W) (bxN W H t) (bwN W H t)) (withinN (c / W) (byN W H t) (bhN W H t)) W'
        rw [hat] at this
        exact this
      have HI := hid_mk hc
      have HT := hid_mk ht
      rw [HV.out]
      clear hc ht hat HV
      generalize nearestN W H c t = nr at *
      generalize bxN W H t = bx at *
      generalize byN W H t = bY at *
      generalize bwN W H t = bw at *
      generalize bhN W H t = bh at *
      have HW : Hid (∀ n f m (W' : World), (n = c % W ∧ f = bx ∧ m = bw) ∨ (n = c / W ∧ f = bY ∧ m = bh) → Calls Try.prog 29 #[.int .i64 n, .int .i64 f, .int .i64 m] W' fun e w' => e = .returned (.int .i64 (withinN n f m)) ∧ Below W'.heap.size W' w') := fun n f m W' h => by
        refine (within_any n f m W' ?_ ?_ ?_ ?_ ?_ ?_).mono fun e w' h => ⟨h.1, by rw [h.2]; exact Below.refl _ _⟩ <;> rcases h with ⟨rfl, rfl, rfl⟩ | ⟨rfl, rfl, rfl⟩ <;> omega
      generalize hu : c % W = u at *
      generalize hv : c / W = v at *
      go_enter Try.func14, Try.ntmps14
      go_wp2_with fail
      refine (at_yes _ _ _ _ HI.out).mono ?_
      rintro e w1 ⟨rfl, hb1⟩
      rw [hu, hv]
      have HB : Hid (Below w.heap.size w w1) := ((Below.refl _ _).alloc (Nat.le_refl _) _).trans (hb1.mono (by simp))
      have HZ1 := hid_mk (HZ.out.below hb1)
      have c0 := HZ1.out.cells2.1
      have c1 := HZ1.out.cells2.2
      clear hb1 HZ hu hv
      go_wp2_with fail
      refine (HBX.out w1).mono ?_
      rintro e w2 ⟨rfl, hb2⟩
      rw [HT.out]
      have HB2 : Hid (Below w.heap.size w w2) := below_step HB.out hb2 (Nat.le_refl _)
      have HZ2 := hid_mk (HZ1.out.below hb2)
      clear hb2 HB HBX HZ1 c0 c1
      have c0 := HZ2.out.cells2.1
      have c1 := HZ2.out.cells2.2
      have hzl := HZ2.out.lt
      have gn := Grow.ne w2
      have g0 : ∀ g : Grow w2, g.w.cell? ⟨w.heap.size, 0, none⟩ = some (.int .i64 W) := fun g => Grow.cell hzl c0 g
      have g1 : ∀ g : Grow w2, g.w.cell? ⟨w.heap.size, 1, none⟩ = some (.int .i64 H) := fun g => Grow.cell hzl c1 g
      go_wp2_with fail
      refine wp_region_grow (by kernel_rfl) (by kernel_rfl) ?_
      repeat (go_big_quiet_step (first
        | (go_at_call 29; first | with_reducible exact grow_call (HW.out _ _ _ _ (.inl ⟨rfl, rfl, rfl⟩)) | with_reducible exact grow_call (HW.out _ _ _ _ (.inr ⟨rfl, rfl, rfl⟩)))
        | (go_at_call 26; exact grow_call (HX.out _))))
      refine wpQuiet_nil ?_
      rintro w3 ⟨⟨_, hb3⟩, rfl⟩
      have HB3 : Hid (Below w.heap.size w w3) := below_step HB2.out hb3 (Nat.le_refl _)
      have HZ3 := hid_mk (HZ2.out.below hb3)
      clear hb3 HB2 HZ2 c0 c1 g0 g1 HW HX gn
      have c0 := HZ3.out.cells2.1
      have c1 := HZ3.out.cells2.2
      go_wp2_with fail
      refine (away_any W H c nr _).mono ?_
      rintro e w4 ⟨rfl, hb4⟩
      have HB4 : Hid (Below w.heap.size w w4) := below_step HB3.out hb4 (Nat.le_refl _)
      clear hb4 HB3 c0 c1 HZ3
      go_wp2
      go_ret
      exact ⟨rfl, HB4.out⟩
end Go.Proofs.Ytabgplniaiehpab.Pl
