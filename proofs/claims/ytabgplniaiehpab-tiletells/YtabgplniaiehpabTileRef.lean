/- The document's answer of layer 12 (tidewalkref12): across, Of, Count, Cells. -/
import Derived.Test.YtabgplniaiehpabPlaceRef
import Derived.Test.YtabgplniaiehpabTileLawP
import Derived.Test.YtabgplniaiehpabArenaWorld
import Derived.Deep.AppendLies
namespace Go.Proofs.Ytabgplniaiehpab.Pl
open Go.RowKit
set_option linter.unusedVariables false
theorem infoT3 : (Try.prog.info? 3).map (fun i => (i.zero, i.size, i.bytes)) = some (some (.int .i64 0), 1, 8) := by kernel_rfl
set_option maxRecDepth 100000 in
set_option maxHeartbeats 1600000 in
theorem racross_any (W H : Int) (w : World) (h0 : 1 ≤ W) (h1 : W ≤ 4096) : Calls Try.prog 28 #[sz W H] w fun e w' => e = .returned (.int .i64 (sideT W)) ∧ Below w.heap.size w w' := by
  have hs := sideT_bd h0 h1
  obtain ⟨m, hm⟩ : ∃ m : Nat, sideT W = (m : Int) := ⟨(sideT W).toNat, by omega⟩
  rw [hm] at hs ⊢
  obtain ⟨w1, hw1⟩ : ∃ w1, w1 = w.alloc (.cells #[.int .i64 W, .int .i64 H] 23) := ⟨_, rfl⟩
  obtain ⟨bz, hbz⟩ : ∃ bz, bz = w.heap.size := ⟨_, rfl⟩
  have x1 : Blk w1 bz 23 #[.int .i64 W, .int .i64 H] := by rw [hw1, hbz]; exact Blk.new w _ _
  have HB : Hid (Below w.heap.size w w1) := by show Below _ _ _; rw [hw1]; exact (Below.refl _ _).alloc (Nat.le_refl _) _
  obtain ⟨c0, c1⟩ := x1.cells2
  have HBZ := hid_mk hbz
  clear hm x1 hbz
  go_enter Try.func28, Try.ntmps28
  go_wp2
  rw [← hw1, ← HBZ.out]
  clear hw1
  go_loopw [3, 4] (fun vn vx wr => ∃ k : Nat, vn = .int .i64 k ∧ vx = .int .i64 (8 * (k : Int)) ∧ k ≤ m ∧ wr = w1) (fun vn _ _ => m - (intOf vn).toNat)
  case atStart => exact ⟨0, rfl, rfl, Nat.zero_le _, rfl⟩
  case round =>
    obtain ⟨k, rfl, rfl, hk, rfl⟩ := hrel
    by_cases hlt : k < m
    · have h8 : 8 * (k : Int) < W := by omega
      go_wp2
      go_roundw
      case rel => exact ⟨k + 1, by go_num, by go_num, by omega, by first | rfl | trivial⟩
      case measure => simp [intOf]; omega
    · obtain rfl : m = k := by omega
      have h8 : ¬ 8 * (m : Int) < W := by omega
      go_wp2
      go_ret
      exact ⟨rfl, HB.out⟩
/-- A cell's tile; below 0: there is no such cell. -/
def rofN (W H c : Int) : Int := if inB W H c = true then ofN W H c else -1
set_option maxHeartbeats 1600000 in
theorem rof_any (W H c : Int) (w : World) : Calls Try.prog 12 #[sz W H, .int .i64 c] w fun e w' => e = .returned (.int .i64 (rofN W H c)) ∧ Below w.heap.size w w' := by
  have z0 : Blk (w.alloc (.cells #[.int .i64 W, .int .i64 H] 23)) w.heap.size 23 #[.int .i64 W, .int .i64 H] := Blk.new w _ _
  have HZ := hid_mk z0
  clear z0
  cases hc : inB W H c with
  | false =>
    have HI := hid_mk hc
    have HE : Hid (rofN W H c = -1) := hid_mk (by unfold rofN; rw [if_neg (by rw [hc]; simp)])
    rw [HE.out]
    clear hc
    go_enter Try.func12, Try.ntmps12
    go_wp2_with fail
    refine (rat_no _ _ _ _ HI.out).mono ?_
    rintro e w1 ⟨rfl, hb1⟩
    have HB : Hid (Below w.heap.size w w1) := ((Below.refl _ _).alloc (Nat.le_refl _) _).trans (hb1.mono (by simp))
    clear hb1
    go_wp2
    go_ret
    exact ⟨rfl, HB.out⟩
  | true =>
    have hr := inB_rt hc
    obtain ⟨a1, a2, a3, a4, _, _, a7, a8, a9, a10, z5⟩ := at_bd hc
    clear z5
    have hs := sideT_bd a1 a2
    have hs2 := sideT_bd a3 a4
    have HI := hid_mk hc
    have HE : Hid (rofN W H c = c / W / 8 * sideT W + c % W / 8) := hid_mk (by unfold rofN ofN; rw [if_pos hc, if_pos hc, (tWH_yes hr).1])
    rw [HE.out]
    have hm : 0 ≤ c / W / 8 * sideT W ∧ c / W / 8 * sideT W ≤ 4096 * 512 := by
      have h1 : 0 ≤ c / W / 8 * sideT W := Int.mul_nonneg (by omega) (by omega)
      have h2 : c / W / 8 * sideT W ≤ 4096 * sideT W := Int.mul_le_mul_of_nonneg_right (by omega) (by omega)
      omega
    have CX := hid_mk (fun X => racross_any W H X a1 a2)
    clear hc hr
    generalize sideT W = s at *
    generalize hu : c % W = u at *
    generalize hv : c / W = v at *
    go_enter Try.func12, Try.ntmps12
    go_wp2_with fail
    refine (rat_yes _ _ _ _ HI.out).mono ?_
    rintro e w1 ⟨rfl, hb1⟩
    rw [hu, hv]
    have HB : Hid (Below w.heap.size w w1) := ((Below.refl _ _).alloc (Nat.le_refl _) _).trans (hb1.mono (by simp))
    obtain ⟨c0, c1⟩ := (HZ.out.below hb1).cells2
    clear hb1 hu hv
    go_wp2_with fail
    refine (CX.out w1).mono ?_
    rintro e w2 ⟨rfl, hb2⟩
    have HB2 : Hid (Below w.heap.size w w2) := below_step HB.out hb2 (Nat.le_refl _)
    clear hb2 HB c0 c1 HZ
    go_wp2
    go_ret
    exact ⟨rfl, HB2.out⟩
set_option maxHeartbeats 1600000 in
theorem rcount_any (W H : Int) (w : World) : Calls Try.prog 10 #[sz W H] w fun e w' => e = .returned (.int .i64 (countN W H)) ∧ Below w.heap.size w w' := by
  have z0 : Blk (w.alloc (.cells #[.int .i64 W, .int .i64 H] 23)) w.heap.size 23 #[.int .i64 W, .int .i64 H] := Blk.new w _ _
  have HZ := hid_mk z0
  clear z0
  have HCB := cellsN_bd W H
  have HTB := cellsN_bd (tW W H) (tH W H)
  rw [show cellsN (tW W H) (tH W H) = countN W H from rfl] at HTB
  have HL := hid_mk (fun h => of_last (W := W) (H := H) h)
  have HN0 : Hid (cellsN W H = 0 → countN W H = 0) := fun h => by
    cases k : rt W H with
    | false => exact count_no k
    | true => obtain ⟨a, b, c, d, e⟩ := rt_iff.1 k; have := mul_bd a b c d; unfold cellsN at h; rw [if_pos k] at h; omega
  have CN := hid_mk (fun X => rcells_any W H X)
  have CO : Hid (1 ≤ cellsN W H → ∀ X, Calls Try.prog 12 #[sz W H, .int .i64 (cellsN W H - 1)] X fun e w' => e = .returned (.int .i64 (countN W H - 1)) ∧ Below X.heap.size X w') := fun h X => by
    obtain ⟨k1, k2, _⟩ := HL.out h
    have := rof_any W H (cellsN W H - 1) X
    unfold rofN at this
    rw [if_pos k1, k2] at this
    exact this
  clear HL
  generalize cellsN W H = nc at *
  generalize countN W H = M at *
  by_cases h0 : nc = 0
  · have hM := HN0.out h0
    subst h0 hM
    clear CO HN0
    go_enter Try.func10, Try.ntmps10
    go_wp2_with fail
    refine (CN.out _).mono ?_
    rintro e w1 ⟨rfl, hb1⟩
    have HB : Hid (Below w.heap.size w w1) := ((Below.refl _ _).alloc (Nat.le_refl _) _).trans (hb1.mono (by simp))
    clear hb1
    go_wp2
    go_ret
    exact ⟨rfl, HB.out⟩
  · have hn0 : (nc == 0) = false := by simpa using h0
    have CO2 := hid_mk (CO.out (by omega))
    clear CO HN0
    go_enter Try.func10, Try.ntmps10
    go_wp2_with fail
    refine (CN.out _).mono ?_
    rintro e w1 ⟨rfl, hb1⟩
    have HB : Hid (Below w.heap.size w w1) := ((Below.refl _ _).alloc (Nat.le_refl _) _).trans (hb1.mono (by simp))
    obtain ⟨c0, c1⟩ := (HZ.out.below hb1).cells2
    clear hb1
    go_wp2_with fail
    refine (CO2.out w1).mono ?_
    rintro e w2 ⟨rfl, hb2⟩
    have HB2 : Hid (Below w.heap.size w w2) := below_step HB.out hb2 (Nat.le_refl _)
    clear hb2 HB c0 c1 HZ CO2
    go_wp2
    go_ret
    exact ⟨ret_of (congrArg (Value.int IntKind.i64) (by omega)), HB2.out⟩
def iCs (L : List Int) : List Value := L.map fun x => .int .i64 x
theorem iCs_at {L : List Int} {i : Nat} (h : i < L.length) : (iCs L)[i]? = some (.int .i64 L[i]) := by unfold iCs; simp [h]
/-- A list of one's own, made since w. -/
def OwnL (w w' : World) (v : Value) (L : List Int) : Prop := RowW w' 3 1 v L.length (iCs L) ∧ ∀ k, v.ownBlock = some k → w.heap.size ≤ k
/-- The cells of a tile among the first ones. -/
def partL (W H t : Int) (k : Nat) : List Int := (spanL 0 k).filter fun c => decide (ofN W H c = t)
theorem partL_succ (W H t : Int) (k : Nat) : partL W H t (k + 1) = partL W H t k ++ if ofN W H k = t then [(k : Int)] else [] := by
  unfold partL
  rw [span_succ, List.filter_append, Int.zero_add]
  by_cases e : ofN W H k = t
  · rw [if_pos e]; simp [e]
  · rw [if_neg e]; simp [e]
theorem partL_len (W H t : Int) (k : Nat) : (partL W H t k).length ≤ k := by
  unfold partL; exact Nat.le_trans (List.length_filter_le ..) (by rw [span_len]; exact Nat.le_refl _)
theorem partL_all {W H t : Int} {n : Nat} (hn : (n : Int) = cellsN W H) (ht : 0 ≤ t) : partL W H t n = cellsL W H t := by
  refine List.Perm.eq_of_pairwise (le := (· < ·)) (fun a b _ _ h1 h2 => by omega) ((span_sorted 0 n).sublist List.filter_sublist) (cells_sorted W H t) ?_
  refine (List.perm_ext_iff_of_nodup ((span_nodup 0 n).sublist List.filter_sublist) ((cells_sorted W H t).imp fun h e => by omega)).2 fun c => ?_
  rw [List.mem_filter, span_mem, cells_mem]
  simp only [decide_eq_true_eq]
  constructor
  · rintro ⟨⟨h1, h2⟩, h3⟩
    have hi : inB W H c = true := blw_iff.2 ⟨h1, by omega⟩
    exact ⟨by rw [← h3]; exact (of_bd hi).1, hi, h3⟩
  · rintro ⟨_, h2, h3⟩
    obtain ⟨k1, k2⟩ := blw_iff.1 (show blw c (cellsN W H) = true from h2)
    exact ⟨⟨k1, by omega⟩, h3⟩
set_option maxRecDepth 100000 in
set_option maxHeartbeats 3200000 in
theorem rtcells_any (W H t : Int) (w : World) : Calls Try.prog 16 #[sz W H, .int .i64 t] w fun e w' => ∃ v, e = .returned v ∧ OwnL w w' v (cellsL W H t) ∧ Below w.heap.size w w' := by
  obtain ⟨i0, hi, hz0, hz1, hz2⟩ := info_parts infoT3
  have HCB := cellsN_bd W H
  obtain ⟨n, hn⟩ : ∃ n : Nat, cellsN W H = (n : Int) := ⟨(cellsN W H).toNat, by omega⟩
  rw [hn] at HCB
  have CN := hid_mk (fun X => rcells_as (N := n) X hn)
  have HIN := hid_mk (fun (i : Nat) (h2 : i < n) => (show inB W H i = true from blw_iff.2 ⟨by omega, by rw [hn]; omega⟩))
  have HALL := hid_mk (fun ht => partL_all (t := t) hn.symm ht)
  have HNO : Hid (¬ 0 ≤ t → cellsL W H t = []) := fun h => cells_none (by
    cases k : tileB W H t with
    | false => rfl
    | true => exact absurd (tileB_iff.1 k).1 h)
  have CO : Hid (∀ (k : Nat) X, k < n → Calls Try.prog 12 #[sz W H, .int .i64 k] X fun e w' => e = .returned (.int .i64 (ofN W H k)) ∧ Below X.heap.size X w') := fun k X h => by
    have := rof_any W H k X
    unfold rofN at this
    rw [if_pos (HIN.out k h)] at this
    exact this
  clear hn
  obtain ⟨w1, hw1⟩ : ∃ w1, w1 = w.alloc (.cells #[.int .i64 W, .int .i64 H] 23) := ⟨_, rfl⟩
  obtain ⟨bz, hbz⟩ : ∃ bz, bz = w.heap.size := ⟨_, rfl⟩
  have x1 : Blk w1 bz 23 #[.int .i64 W, .int .i64 H] := by rw [hw1, hbz]; exact Blk.new w _ _
  have HB : Hid (Below w.heap.size w w1) := by show Below _ _ _; rw [hw1]; exact (Below.refl _ _).alloc (Nat.le_refl _) _
  have HX := hid_mk x1
  have HS1 : Hid (bz < w1.heap.size ∧ w.heap.size ≤ w1.heap.size) := ⟨x1.lt, by rw [hw1]; simp⟩
  have HBZ := hid_mk hbz
  clear x1 hbz
  go_enter Try.func16, Try.ntmps16
  go_wp2_with fail
  rw [← hw1, ← HBZ.out]
  clear hw1
  refine (CN.out w1).mono ?_
  rintro e w2 ⟨rfl, hb⟩
  have HX2 := hid_mk (HX.out.below hb)
  have HB2 := hid_mk (below_step HB.out hb (Nat.le_refl _))
  have HW2 : Hid (w1.heap.size ≤ w2.heap.size) := hb.size
  clear hb HX HB
  go_wp2
  by_cases ht : 0 ≤ t
  · go_loopw [5, 7] (fun vl vc wr => ∃ k : Nat, vc = .int .i64 k ∧ k ≤ n ∧ Hid (OwnL w1 wr vl (partL W H t k)) ∧ Hid (Blk wr bz 23 #[.int .i64 W, .int .i64 H]) ∧ Hid (Below w.heap.size w wr) ∧ Hid (w1.heap.size ≤ wr.heap.size)) (fun _ vc _ => n - (intOf vc).toNat)
    case atStart => exact ⟨0, rfl, Nat.zero_le _, ⟨RowW.empty _ _ _, fun k hk => by cases hk⟩, HX2.out, HB2.out, HW2.out⟩
    case round =>
      clear HX2 HB2
      obtain ⟨k, rfl, hk, HO, HX, HB, HS2⟩ := hrel
      by_cases hlt : k < n
      · have hki : (k : Int) < (n : Int) := by omega
        obtain ⟨c0, c1⟩ := HX.out.cells2
        go_wp2_with fail
        refine (CO.out k _ hlt).mono ?_
        rintro e w3 ⟨rfl, hb⟩
        have HX3 := hid_mk (HX.out.below hb)
        have HW13 : Hid (w1.heap.size ≤ w3.heap.size) := Nat.le_trans HS2.out hb.size
        have HB3 := hid_mk (below_step HB.out hb (Nat.le_refl _))
        have ho := HO.out
        have HO3 : Hid (OwnL w1 w3 _ (partL W H t k)) := ⟨ho.1.kept fun q hq => hb.block q (ho.1.lt hq), ho.2⟩
        have HPS := hid_mk (partL_succ W H t k)
        have hpl := partL_len W H t k
        clear hb ho HO HX HB c0 c1
        generalize partL W H t k = L at *
        by_cases e : ofN W H k = t
        · rw [if_pos e] at HPS
          have hn3 : Hid (RowW (w3.alloc (.cells #[.int .i64 (k : Int)] 3)) 3 1 _ L.length (iCs L)) := HO3.out.1.kept fun q hq => heap_alloc_old _ _ q (HO3.out.1.lt hq)
          have HE := hid_mk e
          clear e
          have e2 : (ofN W H k == t) = true := by rw [HE.out]; simp
          go_wp2_with (at_builtin; refine wpList_append_row _ rfl _ _ 30 rfl 3 i0 (.int .i64 0) 1 8 Try.underlying30 hi hz0 hz1 hz2 rfl _ _ _ rfl hn3.out ⟨w3.heap.size, 0, none⟩ 1 1 [.int .i64 (k : Int)] rfl rfl (World.news_of_block (Blk.new w3 _ _)) (by simp [Value.oneCell']) (by omega) (by unfold maxLen; omega) (by omega) ?_)
          intro g cap w4 hown hgrow hat hlt4
          have hO4 : Hid (OwnL w1 w4 (.slice (some ⟨g, 0, none⟩) (L.length + 1) cap) (L ++ [(k : Int)])) := by
            refine ⟨?_, fun q hq => ?_⟩
            · have e1 : (L ++ [(k : Int)]).length = L.length + 1 := by simp
              have e2 : iCs (L ++ [(k : Int)]) = iCs L ++ [.int .i64 (k : Int)] := by unfold iCs; simp
              rw [e1, e2]; exact hown
            · cases hq
              rcases hat with h | h
              · exact HO3.out.2 _ h
              · rw [h]; have := HB3.out.size; simp; have := HS1.out.2; have := HX3.out.lt; have := HW13.out; omega
          have hX4 : Hid (Blk w4 bz 23 #[.int .i64 W, .int .i64 H]) := (HX3.out.alloc _).kept hgrow (fun h => by have := HO3.out.2 bz h.symm; have := HS1.out.1; omega)
          have hB4 : Hid (Below w.heap.size w w4) := (below_new HB3.out (Nat.le_refl _) _).grown hgrow (by have := HB3.out.size; simp; omega) (fun r hr => Nat.le_trans HS1.out.2 (HO3.out.2 r hr))
          have HW4 : Hid (w1.heap.size ≤ w4.heap.size) := Nat.le_trans HW13.out (Nat.le_trans (by simp) hgrow.size)
          clear hown hgrow hat hlt4 HO3 HX3 HB3 hn3
          go_wp2
          go_roundw
          case rel => exact ⟨k + 1, by go_num, by omega, by rw [HPS.out]; exact hO4.out, hX4.out, hB4.out, HW4.out⟩
          case measure => simp [intOf]; omega
        · rw [if_neg e, List.append_nil] at HPS
          have e2 : (ofN W H k == t) = false := by simpa using e
          go_wp2
          go_roundw
          case rel => exact ⟨k + 1, by go_num, by omega, by rw [HPS.out]; exact HO3.out, HX3.out, HB3.out, HW13.out⟩
          case measure => simp [intOf]; omega
      · obtain rfl : n = k := by omega
        have hki : ¬ (n : Int) < (n : Int) := by omega
        go_wp2
        go_ret
        exact ⟨_, rfl, by rw [← HALL.out ht]; exact ⟨HO.out.1, fun q hq => Nat.le_trans HS1.out.2 (HO.out.2 q hq)⟩, HB.out⟩
  · go_loopw [5, 7] (fun vl vc wr => vl = .slice none 0 0 ∧ vc = .int .i64 0 ∧ wr = w2) (fun _ _ _ => 0)
    case atStart => exact ⟨rfl, rfl, rfl⟩
    case round =>
      obtain ⟨rfl, rfl, rfl⟩ := hrel
      have ht2 : t < 0 := by omega
      by_cases h0 : (0 : Int) < (n : Int)
      · go_wp2
        go_ret
        exact ⟨_, rfl, by rw [HNO.out (by omega)]; exact ⟨RowW.empty _ _ _, fun k hk => by cases hk⟩, HB2.out⟩
      · go_wp2
        go_ret
        exact ⟨_, rfl, by rw [HNO.out (by omega)]; exact ⟨RowW.empty _ _ _, fun k hk => by cases hk⟩, HB2.out⟩
end Go.Proofs.Ytabgplniaiehpab.Pl
