/- The walk EdgesPlay. -/
import Derived.Test.YthdmmjboaoonbaaEdgesDuo
import Derived.Test.YthdmmjboaoonbaaEdgesActs9
namespace Go.Proofs.Ythdmmjboaoonbaa
open Go.RowKit
set_option linter.unusedVariables false

theorem firstN_all {L : List Int} (h : L.length ≤ 1000) : firstN L 1000 = L := by
  unfold firstN
  rw [if_neg (by decide)]
  exact List.take_of_length_le (by simpa using h)
set_option maxRecDepth 100000 in
set_option maxHeartbeats 6400000 in
theorem edgesplay_walk (ao : Option Addr) (ca : Nat) (qs : List A9.Ac) (w : World) (hkq : A9.AcAt w ao qs) (hlq : qs.length ≤ 9223372036854775807) :
    Calls Try.prog 4 #[.slice ao qs.length ca] w fun e w' => e = .returned (.bool true) ∧ Below w.heap.size w w' := by
  by_cases h200 : 200 < qs.length
  · generalize qs.length = m at *
    have hmi : (200 : Int) < (m : Int) := by omega
    clear hkq
    go_enter Try.func4, Try.ntmps4
    go_wp2_with fail
    refine (wakes9_any w).mono ?_
    rintro x w1 ⟨rfl, hb⟩
    go_wp2
    go_ret
    exact ⟨rfl, hb⟩
  have HKQ := hid_mk hkq
  obtain ⟨m, hm⟩ : ∃ m, m = qs.length := ⟨_, rfl⟩
  have HM := hid_mk hm
  rw [← hm] at h200 hlq ⊢
  have hmi : ¬ (200 : Int) < (m : Int) := by omega
  clear hkq hm
  go_enter Try.func4, Try.ntmps4
  go_wp2_with fail
  refine (snew_any (Below.refl _ _)).mono ?_
  rintro x w1 ⟨B, rfl, h1⟩
  have H0 := hid_mk (Duo9.start h1)
  clear h1
  go_wp2
  go_loopw [4, 5] (fun v4 v5 wr => ∃ (j : Nat) (s : Bg) (ws : List On) (bo : Option Addr) (cb : Nat), v5 = .int .i64 j ∧ v4 = .slice bo ws.length cb ∧ j ≤ m ∧ Hid (Duo9 w wr B s j (.slice bo ws.length cb) ws) ∧ Hid (Rel9 s ws)) (fun v4 v5 _ => m - (intOf v5).toNat)
  case atStart => exact ⟨0, bg0, [], none, 0, rfl, rfl, Nat.zero_le _, H0.out, Rel9.nil⟩
  case round =>
    obtain ⟨j, s, ws, bo, cb, rfl, rfl, hjm, HD, HRl⟩ := hrel
    by_cases hlt : j < m
    · rcases HKQ.out with hq0 | ⟨b, off, rfl, hbl, hc⟩
      · have := HM.out; rw [hq0] at this; simp at this; omega
      · obtain ⟨hin, hok⟩ := hc j (by rw [← HM.out]; exact hlt)
        replace hin := hin.below HD.out.bl hbl
        obtain ⟨od, ov, ol, oe⟩ := hok
        have hlti : (j : Int) < (m : Int) := by omega
        have hwn : ws.length ≤ 10000 := by
          rw [← HRl.out.n]
          obtain ⟨F, g1, _⟩ := HD.out
          have := g1.1.le
          omega
        generalize A9.aAt qs j = q at *
        obtain ⟨qd, qv, ql, qe⟩ := q
        obtain ⟨d0, d1, d2, d3⟩ := hin
        simp only at od ov ol oe d0 d1 d2 d3
        obtain ⟨X, hX⟩ : ∃ X, X = (wr.alloc (.cells #[.int .u8 qd, .int .i64 qv, .int .i64 ql, .int .i64 qe] 53)).alloc (.cells #[.int .i64 qv, .int .i64 ql, .int .i64 qe] 55) := ⟨_, rfl⟩
        have hbX : Below wr.heap.size wr X := by rw [hX]; exact below_new ((Below.refl _ _).alloc (Nat.le_refl _) _) (Nat.le_refl _) _
        obtain ⟨FX, hR0, hFX, hback⟩ := HD.out.round hbX
        have HR0 := hid_mk hR0
        have HBK := hid_mk hback
        have p1 : Blk X wr.heap.size 53 #[.int .u8 qd, .int .i64 qv, .int .i64 ql, .int .i64 qe] := by rw [hX]; exact (Blk.new wr _ _).alloc _
        have p2 : Blk X (wr.heap.size + 1) 55 #[.int .i64 qv, .int .i64 ql, .int .i64 qe] := by
          rw [hX]
          have := Blk.new (wr.alloc (.cells #[.int .u8 qd, .int .i64 qv, .int .i64 ql, .int .i64 qe] 53)) 55 #[.int .i64 qv, .int .i64 ql, .int .i64 qe]
          rwa [World.size_alloc] at this
        have hXs : X.heap.size = wr.heap.size + 2 := by rw [hX]; simp
        have hT : Hid (okT (qv, ql, qe)) := ⟨ov, ol, oe⟩
        have hP : Hid (okP (qv, ql)) := ⟨ov, ol⟩
        -- the cells of the act and of the thing, at whatever world of the round
        have CL : Hid (∀ W s k u ws, Rnd X FX W B s k u ws → (W.cell? ⟨wr.heap.size, 0, none⟩ = some (.int .u8 qd) ∧ W.cell? ⟨wr.heap.size, 1, none⟩ = some (.int .i64 qv) ∧ W.cell? ⟨wr.heap.size, 2, none⟩ = some (.int .i64 ql) ∧ W.cell? ⟨wr.heap.size, 3, none⟩ = some (.int .i64 qe)) ∧
            W.cell? ⟨wr.heap.size + 1, 0, none⟩ = some (.int .i64 qv) ∧ W.cell? ⟨wr.heap.size + 1, 1, none⟩ = some (.int .i64 ql) ∧ W.cell? ⟨wr.heap.size + 1, 2, none⟩ = some (.int .i64 qe)) := fun W s k u ws hr => by
          have n1 : ¬ FX wr.heap.size := fun hf => by have := hFX _ hf; omega
          have n2 : ¬ FX (wr.heap.size + 1) := fun hf => by have := hFX _ hf; omega
          refine ⟨⟨?_, ?_, ?_, ?_⟩, ?_, ?_, ?_⟩
          · exact (hr.cell (by omega) n1 0).trans (p1.at rfl)
          · exact (hr.cell (by omega) n1 1).trans (p1.at rfl)
          · exact (hr.cell (by omega) n1 2).trans (p1.at rfl)
          · exact (hr.cell (by omega) n1 3).trans (p1.at rfl)
          · exact (hr.cell (by omega) n2 0).trans (p2.at rfl)
          · exact (hr.cell (by omega) n2 1).trans (p2.at rfl)
          · exact (hr.cell (by omega) n2 2).trans (p2.at rfl)
        clear hc hbX hR0 hback p1 p2
        go_wp2_with fail
        have HRd := hid_mk (HR0.out.below (Below.refl X.heap.size X).drew)
        obtain ⟨⟨k0, k1, k2, k3⟩, z0, z1, z2⟩ := CL.out _ _ _ _ _ HRd.out
        skip
        obtain ⟨t, ht⟩ : ∃ t, t = decide (qe ∈ s.L (qv, ql)) := ⟨_, rfl⟩
        obtain ⟨z, hz⟩ : ∃ z, z = atW ws (qv, ql, qe) := ⟨_, rfl⟩
        have hzt : decide (0 ≤ z) = t := by
          rw [hz, ht]
          by_cases hm : qe ∈ s.L (qv, ql)
          · rw [decide_eq_true hm, decide_eq_true (atW_pos.2 (HRl.out.mem.1 hm))]
          · rw [decide_eq_false hm, decide_eq_false (fun h => hm (HRl.out.mem.2 (atW_pos.1 h)))]
        have HHas := hid_mk (HRd.out.has hT.out)
        have HAt := hid_mk (HRd.out.rat hwn qv ql qe)
        rw [← ht] at HHas
        rw [← hz] at HAt
        clear ht hz
        rw [← hX]
        clear hX
        go_region_held3 (fun w' => (w'.cell? ⟨wr.heap.size, 1, none⟩ = some (.int .i64 qv) ∧ w'.cell? ⟨wr.heap.size, 2, none⟩ = some (.int .i64 ql) ∧ w'.cell? ⟨wr.heap.size, 3, none⟩ = some (.int .i64 qe)) ∧ w'.cell? ⟨wr.heap.size + 1, 0, none⟩ = some (.int .i64 qv) ∧ w'.cell? ⟨wr.heap.size + 1, 1, none⟩ = some (.int .i64 ql) ∧ w'.cell? ⟨wr.heap.size + 1, 2, none⟩ = some (.int .i64 qe))
          (first | go_keep | (go_split_ands; exact ⟨⟨y1, y2, y3⟩, y4, y5, y6⟩) | (go_split_ands; assumption))
          (first
            | (go_at_call 16; refine HHas.out.mono ?_; rintro r wq ⟨rfl, rfl⟩)
            | (go_at_call 17; refine HAt.out.mono ?_; rintro r w2 ⟨rfl, hb2⟩; have HR2 := hid_mk (HRd.out.below hb2); obtain ⟨⟨y0, y1, y2, y3⟩, y4, y5, y6⟩ := CL.out _ _ _ _ _ HR2.out)
            | fail)
        rename_i hHeld
        clear hHeld HHas HAt HRd k0 k1 k2 k3 z0 z1 z2 HR0 HD hb2
        by_cases hd0 : qd = 0
        · have hd1 : (qd == 0) = true := by simpa using hd0
          clear hd0
          go_wp2_with fail
          refine (HR2.out.rput HRl.out hwn qv ql qe).mono ?_
          rintro r W3 ⟨ao2, cap2, rfl, hR3⟩
          have HR3 := hid_mk hR3
          clear y0 y1 y2 y3 y4 y5 y6 HR2 hR3
          obtain ⟨⟨k0, k1, k2, k3⟩, z0, z1, z2⟩ := CL.out _ _ _ _ _ HR3.out
          go_wp2_with fail
          refine (HR3.out.put (by omega) hT.out).mono ?_
          rintro r W4 ⟨rfl, hR4⟩
          have HR4 := hid_mk hR4
          have HRl2 := hid_mk (HRl.out.putB qv ql qe)
          clear hR4 HR3 HRl k0 k1 k2 k3 z0 z1 z2
          generalize putE s qv ql qe = pe at *
          generalize putB s qv ql qe = s' at *
          generalize putW s ws qv ql qe = ws' at *
          have hn' : s'.n = ws'.length := HRl2.out.n
          have hLe : s'.L (qv, ql) = ofW ws' (qv, ql) := HRl2.out.of _
          have hkl := HR4.out.ok.len (qv, ql)
          have hkn := HR4.out.ok.le
          have hwn' : ws'.length ≤ 10000 := by omega
          have hLl : (ofW ws' (qv, ql)).length ≤ 1000 := by rw [← hLe]; omega
          obtain ⟨⟨k0, k1, k2, k3⟩, z0, z1, z2⟩ := CL.out _ _ _ _ _ HR4.out
          have HLe := hid_mk hLe
          have HN' := hid_mk hn'
          have HLL := hid_mk hLl
          clear hkl hkn hLe hn' hLl
          go_wp2_with fail
          refine (HR4.out.rof hwn' qv ql).mono ?_
          rintro r W5 ⟨wo, wc, rfl, hwant, hb5⟩
          have HR5 := hid_mk (HR4.out.below hb5)
          have HW5 := hid_mk hwant
          obtain ⟨⟨k0, k1, k2, k3⟩, z0, z1, z2⟩ := CL.out _ _ _ _ _ HR5.out
          clear hb5 hwant HR4
          go_wp2_with fail
          refine (HR5.out.of (by omega) hP.out (most := 1000) (by decide)).mono ?_
          rintro r W6 ⟨go, gc, rfl, hgot, hb6⟩
          rw [HLe.out, firstN_all HLL.out] at hgot ⊢
          have HR6 := hid_mk (HR5.out.below hb6)
          have HG6 := hid_mk hgot
          have HW6 := hid_mk (HW5.out.below hb6)
          obtain ⟨⟨k0, k1, k2, k3⟩, z0, z1, z2⟩ := CL.out _ _ _ _ _ HR6.out
          clear hb6 hgot HR5 HW5
          go_wp2_with fail
          refine (same9_to (ofW ws' (qv, ql)) (ofW ws' (qv, ql)) HG6.out HW6.out rfl rfl (Nat.le_trans HLL.out (by decide)) (Nat.le_trans HLL.out (by decide)) true (by simp)).mono ?_
          rintro r W7 ⟨rfl, hb7⟩
          have HR7 := hid_mk (HR6.out.below hb7)
          obtain ⟨⟨k0, k1, k2, k3⟩, z0, z1, z2⟩ := CL.out _ _ _ _ _ HR7.out
          clear hb7 HR6 HG6 HW6
          have HMa := hid_mk (HR7.out.many hP.out)
          rw [HLe.out] at HMa
          go_wp2_with fail
          refine HMa.out.mono ?_
          rintro r W8 ⟨rfl, rfl⟩
          have HLn := hid_mk HR7.out.len
          rw [HN'.out] at HLn
          go_wp2_with fail
          refine HLn.out.mono ?_
          rintro r W9 ⟨rfl, rfl⟩
          clear HMa HLn k0 k1 k2 k3 z0 z1 z2
          have HD2 := hid_mk (HBK.out _ _ _ _ _ _ rfl HR7.out)
          clear HR7 HBK CL
          go_wp2
          go_roundw
          case rel => exact ⟨j + 1, _, _, _, _, by go_num, rfl, by omega, HD2.out, HRl2.out⟩
          case measure => simp [intOf]; omega
        · have hd1 : (qd == 0) = false := by simpa using hd0
          clear hd0
          go_wp2_with fail
          refine (HR2.out.rtake HRl.out hwn qv ql qe).mono ?_
          rintro r W3 ⟨ao2, cap2, rfl, hR3⟩
          have HR3 := hid_mk hR3
          clear y0 y1 y2 y3 y4 y5 y6 HR2 hR3
          obtain ⟨⟨k0, k1, k2, k3⟩, z0, z1, z2⟩ := CL.out _ _ _ _ _ HR3.out
          go_wp2_with fail
          refine (HR3.out.take (by omega) hT.out).mono ?_
          rintro r W4 ⟨rfl, hR4⟩
          have HR4 := hid_mk (hR4.mono (Nat.le_succ j))
          have HRl2 := hid_mk (HRl.out.takeB qv ql qe)
          clear hR4 HR3 HRl k0 k1 k2 k3 z0 z1 z2
          generalize decide (qe ∈ s.L (qv, ql)) = pe at *
          generalize takeB s qv ql qe = s' at *
          generalize takeX s ws qv ql qe = ws' at *
          have hn' : s'.n = ws'.length := HRl2.out.n
          have hLe : s'.L (qv, ql) = ofW ws' (qv, ql) := HRl2.out.of _
          have hkl := HR4.out.ok.len (qv, ql)
          have hkn := HR4.out.ok.le
          have hwn' : ws'.length ≤ 10000 := by omega
          have hLl : (ofW ws' (qv, ql)).length ≤ 1000 := by rw [← hLe]; omega
          obtain ⟨⟨k0, k1, k2, k3⟩, z0, z1, z2⟩ := CL.out _ _ _ _ _ HR4.out
          have HLe := hid_mk hLe
          have HN' := hid_mk hn'
          have HLL := hid_mk hLl
          clear hkl hkn hLe hn' hLl
          go_wp2_with fail
          refine (HR4.out.rof hwn' qv ql).mono ?_
          rintro r W5 ⟨wo, wc, rfl, hwant, hb5⟩
          have HR5 := hid_mk (HR4.out.below hb5)
          have HW5 := hid_mk hwant
          obtain ⟨⟨k0, k1, k2, k3⟩, z0, z1, z2⟩ := CL.out _ _ _ _ _ HR5.out
          clear hb5 hwant HR4
          go_wp2_with fail
          refine (HR5.out.of (by omega) hP.out (most := 1000) (by decide)).mono ?_
          rintro r W6 ⟨go, gc, rfl, hgot, hb6⟩
          rw [HLe.out, firstN_all HLL.out] at hgot ⊢
          have HR6 := hid_mk (HR5.out.below hb6)
          have HG6 := hid_mk hgot
          have HW6 := hid_mk (HW5.out.below hb6)
          obtain ⟨⟨k0, k1, k2, k3⟩, z0, z1, z2⟩ := CL.out _ _ _ _ _ HR6.out
          clear hb6 hgot HR5 HW5
          go_wp2_with fail
          refine (same9_to (ofW ws' (qv, ql)) (ofW ws' (qv, ql)) HG6.out HW6.out rfl rfl (Nat.le_trans HLL.out (by decide)) (Nat.le_trans HLL.out (by decide)) true (by simp)).mono ?_
          rintro r W7 ⟨rfl, hb7⟩
          have HR7 := hid_mk (HR6.out.below hb7)
          obtain ⟨⟨k0, k1, k2, k3⟩, z0, z1, z2⟩ := CL.out _ _ _ _ _ HR7.out
          clear hb7 HR6 HG6 HW6
          have HMa := hid_mk (HR7.out.many hP.out)
          rw [HLe.out] at HMa
          go_wp2_with fail
          refine HMa.out.mono ?_
          rintro r W8 ⟨rfl, rfl⟩
          have HLn := hid_mk HR7.out.len
          rw [HN'.out] at HLn
          go_wp2_with fail
          refine HLn.out.mono ?_
          rintro r W9 ⟨rfl, rfl⟩
          clear HMa HLn k0 k1 k2 k3 z0 z1 z2
          have HD2 := hid_mk (HBK.out _ _ _ _ _ _ rfl HR7.out)
          clear HR7 HBK CL
          go_wp2
          go_roundw
          case rel => exact ⟨j + 1, _, _, _, _, by go_num, rfl, by omega, HD2.out, HRl2.out⟩
          case measure => simp [intOf]; omega
    · obtain rfl : j = m := by omega
      have hB := HD.out.bl
      clear HD HRl
      go_wp2_with fail
      refine (wakes9_any _).mono ?_
      rintro r W3 ⟨rfl, hb⟩
      have HB := hid_mk (hB.trans (hb.mono hB.size))
      clear hb hB
      go_wp2
      go_ret
      exact ⟨rfl, HB.out⟩
end Go.Proofs.Ythdmmjboaoonbaa
