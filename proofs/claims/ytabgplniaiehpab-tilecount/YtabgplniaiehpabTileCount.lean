/- Layer 12's statement TileCount (by tools/gen_tilecount.py). -/
import Derived.Test.YtabgplniaiehpabTileLaw
import Derived.Test.YtabgplniaiehpabTileLawP
namespace Go.Proofs.Ytabgplniaiehpab.Pl
open Go.RowKit Go.Shelf
attribute [local go_sem] Oper.semAt_some
set_option linter.unusedVariables false
set_option maxRecDepth 100000 in
set_option maxHeartbeats 16000000 in
theorem count12_walk (W H : Int) (w : World) : Calls Try.prog 7 #[sz W H] w fun e w' => e = .returned (.bool true) ∧ Below w.heap.size w w' := by
  have CN := hid_mk (fun X => cells_any W H X)
  have CT := hid_mk (fun X => count_any W H X)
  have HCB := cellsN_bd W H
  have HTB := cellsN_bd (tW W H) (tH W H)
  rw [show cellsN (tW W H) (tH W H) = countN W H from rfl] at HTB
  have HL := hid_mk (fun h => of_last (W := W) (H := H) h)
  have HS2 := hid_mk (fun k (hk : ((k : Nat) : Int) = countN W H) => sumT_all hk)
  have HZ := hid_mk (fun (h : rt W H = false) => count_no h)
  have HY := hid_mk (fun (h : rt W H = true) => count_yes h)
  have HSB := hid_mk (fun k (hk : ((k : Nat) : Int) ≤ countN W H) => sumT_bd hk)
  have HBX := hid_mk (fun t (h1 : 0 ≤ t) (h2 : t < countN W H) => (tileB_iff (W := W) (H := H)).2 ⟨h1, h2⟩)
  have HRT : Hid (1 ≤ cellsN W H ∨ rt W H = false) := hid_mk (by cases k : rt W H with | false => exact .inr rfl | true => left; obtain ⟨a, b, c, d, e⟩ := rt_iff.1 k; have := mul_bd a b c d; unfold cellsN; rw [if_pos k]; omega)
  obtain ⟨nc, hnc⟩ : ∃ nc, nc = cellsN W H := ⟨_, rfl⟩
  rw [← hnc] at CN HCB HL HS2 HRT
  clear hnc
  obtain ⟨M, hM⟩ : ∃ M : Nat, countN W H = (M : Int) := ⟨(countN W H).toNat, by omega⟩
  rw [hM] at CT HTB HL HS2 HZ HY HSB HBX
  clear hM
  refine (show ∀ w0, Hid (Bq [] [] w w0) → Calls Try.prog 7 #[sz W H] w0 fun e w' => e = .returned (.bool true) ∧ Below w.heap.size w w' from fun w0 HS => ?_) w (Bq.start w)
  obtain ⟨w1, hw1⟩ : ∃ w1, w1 = w0.alloc (.cells #[.int .i64 W, .int .i64 H] 23) := ⟨_, rfl⟩
  obtain ⟨bz, hbz⟩ : ∃ bz, bz = w0.heap.size := ⟨_, rfl⟩
  have Hw1 : Hid (Bq [(bz, 23, #[.int .i64 W, .int .i64 H])] [] w w1) := by show Bq _ _ _ _; rw [hw1, hbz]; exact HS.out.alloc _ _
  refine (callsIn_wide (n := 20)).1 ?_
  refine callsIn_of_wp_marks Try.func7 rfl trivial ?_ rfl
  simp only [Try.ntmps7, List.size_toArray, List.length_cons, List.length_nil, Nat.reduceAdd, Nat.reduceSub, Array.replicate_succ, Array.replicate_zero, List.push_toArray, List.append_toArray, List.nil_append, List.cons_append]
  gi_wp2_with fail
  try simp only [← hbz, ← hw1]
  clear hw1
  clear hbz
  replace HS := Hw1
  clear Hw1
  refine ⟨trivial, ?_⟩
  refine (callsIn_wide.2 (awake12_any _)).mono ?_
  rintro _ w2 ⟨rfl, hb⟩
  replace HS := hid_mk (HS.out.below hb)
  clear hb
  have x_z : Blk w2 bz 23 #[.int .i64 W, .int .i64 H] := Bq.get HS.out (i := 0) rfl
  obtain ⟨c_z, d_z⟩ := x_z.cells2
  have f_z := x_z.frozen 0
  have e_z := x_z.lt
  gi_wp2_with fail
  refine ⟨trivial, ?_⟩
  refine (callsIn_wide.2 (CN.out _)).mono ?_
  rintro _ w3 ⟨rfl, hb⟩
  clear x_z c_z d_z f_z e_z
  replace HS := hid_mk (HS.out.below hb)
  clear hb
  have x_z : Blk w3 bz 23 #[.int .i64 W, .int .i64 H] := Bq.get HS.out (i := 0) rfl
  obtain ⟨c_z, d_z⟩ := x_z.cells2
  have f_z := x_z.frozen 0
  have e_z := x_z.lt
  by_cases hn : 2500 < nc
  · gi_wp2
    show LeavesInM _ _ _ _ _ _ (marks []) _ _
    refine Bq.leave (by simp) HS.out fun W' hb1 hb2 => ⟨.bool true, ?_, rfl, hb2⟩
    simp [results, Try.f7, go_sem]
  gi_wp2_with fail
  refine ⟨trivial, ?_⟩
  refine (callsIn_wide.2 (CT.out _)).mono ?_
  rintro _ w4 ⟨rfl, hb⟩
  clear x_z c_z d_z f_z e_z
  replace HS := hid_mk (HS.out.below hb)
  clear hb
  have x_z : Blk w4 bz 23 #[.int .i64 W, .int .i64 H] := Bq.get HS.out (i := 0) rfl
  obtain ⟨c_z, d_z⟩ := x_z.cells2
  have f_z := x_z.frozen 0
  have e_z := x_z.lt
  by_cases hn1 : nc < 1
  · have hM0 := HZ.out (HRT.out.resolve_left (by omega))
    clear hn
    gi_wp2
    show LeavesInM _ _ _ _ _ _ (marks []) _ _
    refine Bq.leave (by simp) HS.out fun W' hb1 hb2 => ⟨.bool true, ?_, rfl, hb2⟩
    simp [results, Try.f7, go_sem]
  obtain ⟨hli, hlt, hrt⟩ := HL.out (by omega)
  have hmu := HY.out hrt
  obtain ⟨a1, a2, a3, a4, a5⟩ := rt_iff.1 hrt
  have hu := sideT_bd a1 a2
  have hv := sideT_bd a3 a4
  have huv : 0 ≤ sideT W * sideT H ∧ sideT W * sideT H ≤ 4194304 := by rw [← hmu]; omega
  have CO := hid_mk (fun X => of_yes W H (nc - 1) X hli)
  rw [hlt] at CO
  have eu : (W + 7) / 8 = sideT W := rfl
  have ev : (H + 7) / 8 = sideT H := rfl
  generalize sideT W = u at *
  generalize sideT H = v at *
  have HMU := hid_mk hmu
  clear hmu hli hlt hrt a5
  gi_wp2_with fail
  refine ⟨trivial, ?_⟩
  refine (callsIn_wide.2 (CO.out _)).mono ?_
  rintro _ w5 ⟨rfl, hb⟩
  clear x_z c_z d_z f_z e_z
  replace HS := hid_mk (HS.out.below hb)
  clear hb
  have x_z : Blk w5 bz 23 #[.int .i64 W, .int .i64 H] := Bq.get HS.out (i := 0) rfl
  obtain ⟨c_z, d_z⟩ := x_z.cells2
  have f_z := x_z.frozen 0
  have e_z := x_z.lt
  have hmu := HMU.out
  gi_wp2
  clear hu hv huv eu ev hmu
  gi_loopw [7, 8] (fun va vt wr => ∃ k : Nat, va = .int .i64 (sumT W H k) ∧ vt = .int .i64 k ∧ k ≤ M ∧ Hid (Bq [(bz, 23, #[.int .i64 W, .int .i64 H])] [] w wr)) (fun _ vt _ => M - (intOf vt).toNat)
  case atStart => exact ⟨0, rfl, rfl, Nat.zero_le _, HS.out⟩
  case round =>
    clear x_z c_z d_z f_z e_z
    clear HS
    obtain ⟨k, rfl, rfl, hk, HS⟩ := hrel
    have hsb := HSB.out k (by omega)
    have x_z : Blk wr bz 23 #[.int .i64 W, .int .i64 H] := Bq.get HS.out (i := 0) rfl
    obtain ⟨c_z, d_z⟩ := x_z.cells2
    have f_z := x_z.frozen 0
    have e_z := x_z.lt
    by_cases hlt : k < M
    · have ht := HBX.out (k : Int) (by omega) (by omega)
      have CB := hid_mk (fun X => box_yes_any W H k X ht)
      obtain ⟨b1, b2, b3, b4, b5, b6, b7, b8, b9, b10, z1, z2, z3, z4, z5, z6⟩ := box_bd ht
      clear z1 z2 z3 z4 z5 z6
      have hmul := box_mul ht
      have HK := hid_mk (show sumT W H (k + 1) = sumT W H k + bwN W H k * bhN W H k from rfl)
      have hki : (k : Int) < u * v := by rw [← HMU.out]; omega
      generalize bxN W H k = bx at *
      generalize byN W H k = bY at *
      generalize bwN W H k = bw at *
      generalize bhN W H k = bh at *
      generalize sumT W H k = sk at *
      clear ht
      gi_wp2_with fail
      refine ⟨trivial, ?_⟩
      refine (callsIn_wide.2 (CB.out _)).mono ?_
      rintro _ w6 ⟨rfl, hb⟩
      clear x_z c_z d_z f_z e_z
      replace HS := hid_mk (HS.out.below hb)
      clear hb
      have x_z : Blk w6 bz 23 #[.int .i64 W, .int .i64 H] := Bq.get HS.out (i := 0) rfl
      obtain ⟨c_z, d_z⟩ := x_z.cells2
      have f_z := x_z.frozen 0
      have e_z := x_z.lt
      have p1 : ¬ bw < 1 := by omega
      have p2 : ¬ bh < 1 := by omega
      have p3 : ¬ 8 < bw := by omega
      have p4 : ¬ 8 < bh := by omega
      gi_wp2
      go_roundw
      case rel => exact ⟨k + 1, by rw [HK.out], by go_num, by omega, HS.out⟩
      case measure => simp [intOf]; omega
    · obtain rfl : k = M := by omega
      have he := HS2.out k rfl
      have hki : ¬ (k : Int) < u * v := by rw [← HMU.out]; omega
      rw [he]
      gi_wp2
      show LeavesInM _ _ _ _ _ _ (marks []) _ _
      refine Bq.leave (by simp) HS.out fun W' hb1 hb2 => ⟨.bool true, ?_, rfl, hb2⟩
      simp [results, Try.f7, go_sem]
end Go.Proofs.Ytabgplniaiehpab.Pl
