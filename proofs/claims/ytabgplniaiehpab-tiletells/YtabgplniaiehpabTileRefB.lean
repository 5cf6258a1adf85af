/- The document's answer of layer 12 (tidewalkref12): Away. -/
import Derived.Test.YtabgplniaiehpabTileRef
import Derived.Test.YtabgplniaiehpabTilePartsP
import Derived.BigQuiet
namespace Go.Proofs.Ytabgplniaiehpab.Pl
open Go.RowKit
set_option linter.unusedVariables false
theorem take_snocL {L : List Int} {i : Nat} (h : i < L.length) : L.take (i + 1) = L.take i ++ [L[i]] := by rw [List.take_succ_eq_append_getElem h]
set_option maxRecDepth 100000 in
set_option maxHeartbeats 3200000 in
theorem rtaway_any (W H c t : Int) (w : World) : Calls Try.prog 15 #[sz W H, .int .i64 c, .int .i64 t] w fun e w' => e = .returned (.int .i64 (tawayN W H c t)) ∧ Below w.heap.size w w' := by
  have CL := hid_mk (fun X => rtcells_any W H t X)
  have CA := hid_mk (fun x X => raway_any W H c x X)
  have hlen := cells_len64 W H t
  have HV : Hid (inB W H c = true → bestN W H c (cellsL W H t) = tawayN W H c t) := fun h => by
    cases k : tileB W H t with
    | true => exact bestN_all k
    | false => rw [cells_none k, taway_no (by rw [k]; simp)]; rfl
  have HP : Hid (∀ x ∈ cellsL W H t, inB W H c = true → 0 ≤ awayN W H c x) := fun x hx h => away_nonneg h (cells_mem.1 hx).2.1
  have HN : Hid (inB W H c = false → tawayN W H c t = -1 ∧ ∀ x, awayN W H c x = -1) := fun h => ⟨taway_no (by rw [h]; simp), fun x => away_no1 h⟩
  generalize cellsL W H t = L at *
  generalize tawayN W H c t = tw at *
  obtain ⟨m, hm⟩ : ∃ m, m = L.length := ⟨_, rfl⟩
  rw [← hm] at hlen
  have HM := hid_mk hm
  obtain ⟨w1, hw1⟩ : ∃ w1, w1 = w.alloc (.cells #[.int .i64 W, .int .i64 H] 23) := ⟨_, rfl⟩
  obtain ⟨bz, hbz⟩ : ∃ bz, bz = w.heap.size := ⟨_, rfl⟩
  have x1 : Blk w1 bz 23 #[.int .i64 W, .int .i64 H] := by rw [hw1, hbz]; exact Blk.new w _ _
  have HB : Hid (Below w.heap.size w w1) := by show Below _ _ _; rw [hw1]; exact (Below.refl _ _).alloc (Nat.le_refl _) _
  have HX := hid_mk x1
  have HBZ := hid_mk hbz
  clear x1 hbz hm
  go_enter Try.func15, Try.ntmps15
  go_wp2_with fail
  rw [← hw1, ← HBZ.out]
  clear hw1
  refine (CL.out w1).mono ?_
  rintro e w2 ⟨v, rfl, ho, hb⟩
  have HX2 := hid_mk (HX.out.below hb)
  have HB2 := hid_mk (below_step HB.out hb (Nat.le_refl _))
  obtain ⟨ao, cap, rfl⟩ := ho.1.form
  have hr := ho.1
  rw [← HM.out] at hr
  have HO2 := hid_mk hr
  rw [← HM.out]
  clear hb HX HB ho hr
  go_wp2
  go_loopw [7, 9] (fun vb vi wr => ∃ i : Nat, vb = .int .i64 (bestN W H c (L.take i)) ∧ vi = .int .i64 i ∧ i ≤ m ∧ (inB W H c = false → i = 0) ∧ Hid (RowW wr 3 1 (.slice ao m cap) m (iCs L)) ∧ Hid (Blk wr bz 23 #[.int .i64 W, .int .i64 H]) ∧ Hid (Below w.heap.size w wr)) (fun _ vi _ => m - (intOf vi).toNat)
  case atStart => exact ⟨0, rfl, rfl, Nat.zero_le _, fun _ => rfl, HO2.out, HX2.out, HB2.out⟩
  case round =>
    clear HX2 HB2 HO2
    obtain ⟨i, rfl, rfl, hi, hno, HO, HX, HB⟩ := hrel
    have hbb := bestN_bd W H c (L.take i)
    by_cases hlt : i < m
    · have hil : i < L.length := by rw [← HM.out]; exact hlt
      have hii : (i : Int) < (m : Int) := by omega
      obtain ⟨g, cap', e0⟩ := HO.out.led (by omega)
      cases e0
      have hgl := HO.out.lt (k := g) rfl
      have cg := HO.out.cell (iCs_at hil)
      obtain ⟨c0, c1⟩ := HX.out.cells2
      have hzl := HX.out.lt
      have gn := Grow.ne wr
      have g0 : ∀ g' : Grow wr, g'.w.cell? ⟨bz, 0, none⟩ = some (.int .i64 W) := fun g' => Grow.cell hzl c0 g'
      have g1 : ∀ g' : Grow wr, g'.w.cell? ⟨bz, 1, none⟩ = some (.int .i64 H) := fun g' => Grow.cell hzl c1 g'
      have g2 : ∀ g' : Grow wr, g'.w.cell? ⟨g, i, none⟩ = some (.int .i64 L[i]) := fun g' => Grow.cell hgl cg g'
      have HT := hid_mk (take_snocL hil)
      have HBN := hid_mk (bestN_snoc W H c (L.take i) L[i])
      have hp := HP.out L[i] (List.getElem_mem hil)
      have hn2 := fun h => (HN.out h).2 L[i]
      have hdd := away_bd W H c L[i]
      have CA2 := hid_mk (CA.out L[i])
      generalize L[i] = x at *
      generalize awayN W H c x = d at *
      generalize bestN W H c (L.take i) = be at *
      clear c0 c1 cg
      go_wp2_with fail
      refine wp_region_grow (by kernel_rfl) (by kernel_rfl) ?_
      repeat (go_big_quiet_step ((go_at_call 30; exact grow_call (CA2.out _))))
      refine wpQuiet_nil ?_
      rintro w3 ⟨⟨_, hb⟩, rfl⟩
      have HX3 := hid_mk (HX.out.below hb)
      have HB3 := hid_mk (below_step HB.out hb (Nat.le_refl _))
      have HO3 : Hid (RowW w3 3 1 (.slice (some ⟨g, 0, none⟩) m cap) m (iCs L)) := HO.out.kept fun q hq => hb.block q (HO.out.lt hq)
      clear hb HX HB HO g0 g1 g2 gn CA2
      cases hc : inB W H c with
      | false =>
        have hd : d < 0 := by rw [hn2 hc]; omega
        have HE := hid_mk (HN.out hc).1
        clear hp hn2 hno hc
        go_wp2
        go_ret
        exact ⟨ret_of (by rw [HE.out]; rfl), HB3.out⟩
      | true =>
        have hd : ¬ d < 0 := by have := hp hc; omega
        have hno2 : Hid (inB W H c = false → i + 1 = 0) := fun h => by rw [hc] at h; cases h
        clear hp hn2 hno hc
        by_cases q1 : be < 0
        · rw [if_pos (.inl q1)] at HBN
          go_wp2
          go_roundw
          case rel => exact ⟨i + 1, by rw [HT.out, HBN.out], by go_num, by omega, hno2.out, HO3.out, HX3.out, HB3.out⟩
          case measure => simp [intOf]; omega
        · by_cases q2 : d < be
          · rw [if_pos (.inr q2)] at HBN
            go_wp2
            go_roundw
            case rel => exact ⟨i + 1, by rw [HT.out, HBN.out], by go_num, by omega, hno2.out, HO3.out, HX3.out, HB3.out⟩
            case measure => simp [intOf]; omega
          · rw [if_neg (by omega)] at HBN
            go_wp2
            go_roundw
            case rel => exact ⟨i + 1, by rw [HT.out, HBN.out], by go_num, by omega, hno2.out, HO3.out, HX3.out, HB3.out⟩
            case measure => simp [intOf]; omega
    · obtain rfl : m = i := by omega
      have hii : ¬ (m : Int) < (m : Int) := by omega
      have hE : Hid (bestN W H c (L.take m) = tw) := by
        show _ = _
        cases hc : inB W H c with
        | true => rw [HM.out, List.take_length]; exact HV.out hc
        | false => rw [hno hc, (HN.out hc).1]; rfl
      rw [hE.out]
      go_wp2
      go_ret
      exact ⟨rfl, HB.out⟩
end Go.Proofs.Ytabgplniaiehpab.Pl
