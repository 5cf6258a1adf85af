/- The walk of CellsPlay. -/
import Derived.Test.YtcflbekjiohfnaaCellDone
namespace Go.Proofs.Ytcflbekjiohfnaa
open Go.RowKit
set_option linter.unusedVariables false
attribute [local go_sem ↓] Go.wp_at_zero Go.wp_at_succ

theorem sumTo_mono (ls : List Nat) {i m : Nat} (h : i < m) : min (nAt ls i) 2001 ≤ sumTo ls m := by
  induction m with
  | zero => omega
  | succ m ih =>
    simp only [sumTo]
    by_cases e : i = m
    · subst e; omega
    · have := ih (by omega); omega
theorem great_false {zw zh : Int} {ls : List Nat} (h : greatN zw zh ls = false) : ls.length ≤ 60 ∧ (∀ i, i < ls.length → nAt ls i ≤ 2000) ∧ ¬ 900 < Pl.cellsN zw zh := by
  unfold greatN at h
  simp only [Bool.or_eq_false_iff, decide_eq_false_iff_not] at h
  obtain ⟨h1, h2, h3⟩ := h
  refine ⟨by omega, fun i hi => ?_, h3⟩
  have := sumTo_mono ls (i := i) (m := min ls.length 61) (by omega)
  omega
theorem nAt_len {qs : List Ac} {i : Nat} (h : i < qs.length) : nAt (qs.map (·.es.length)) i = (aAt qs i).es.length := by
  unfold nAt aAt; simp [List.getD_eq_getElem?_getD, List.getElem?_eq_getElem h]
theorem cells_pos {zw zh : Int} (h : Pl.rt zw zh = true) : 0 < Pl.cellsN zw zh := by
  obtain ⟨a, b, c, d, _⟩ := Pl.rt_iff.1 h
  have := Pl.mul_bd a b c d
  unfold Pl.cellsN; rw [if_pos h]; omega
theorem cells_nil {zw zh : Int} (h : Pl.rt zw zh = false) : Pl.cellsN zw zh = 0 := by unfold Pl.cellsN; rw [h]; rfl

set_option maxRecDepth 100000 in
set_option maxHeartbeats 4000000 in
theorem play_walk (zw zh : Int) (kao : Option Addr) (kcap : Nat) (ks : List Kd) (cl cls : Int) (ao : Option Addr) (cap : Nat) (qs : List Ac) (w : World) (hk : KAt w kao ks) (hw : Wk ks) (ha : AcAt w ao qs) (hl : qs.length ≤ 9223372036854775807) :
    Calls Try.prog 4 #[Pl.sz zw zh, .slice kao ks.length kcap, .int .i64 cl, .int .i64 cls, .slice ao qs.length cap] w fun e w' => e = .returned (.bool true) ∧ Below w.heap.size w w' := by
  obtain ⟨X, hX⟩ : ∃ X, X = w.alloc (.cells #[.int .i64 zw, .int .i64 zh] 26) := ⟨_, rfl⟩
  obtain ⟨H, hH⟩ : ∃ H, H = w.heap.size := ⟨_, rfl⟩
  have hXb : Below w.heap.size w X := by rw [hX]; exact (Below.refl _ _).alloc (Nat.le_refl _) _
  have hXs : X.heap.size = H + 1 := by rw [hX, hH]; simp
  have z01 : X.cell? ⟨H, 0, none⟩ = some (.int .i64 zw) ∧ X.cell? ⟨H, 1, none⟩ = some (.int .i64 zh) := by
    rw [hX, hH]; exact (Blk.new w 26 #[.int .i64 zw, .int .i64 zh]).cells2
  have HK : Hid (KAt X kao ks) := hk.below hXb
  have HA : Hid (AcAt X ao qs) := ha.below hXb
  obtain ⟨n, hn⟩ : ∃ n, qs.length = n := ⟨_, rfl⟩
  have HN : Hid (qs.length = n) := hn
  have HGr : Hid (greatN zw zh (qs.map (·.es.length)) = false → qs.length ≤ 60 ∧ (∀ i, i < qs.length → (aAt qs i).es.length ≤ 2000) ∧ ¬ 900 < Pl.cellsN zw zh) := fun hh => by
    obtain ⟨h1, h2, h3⟩ := great_false hh
    exact ⟨by simpa using h1, fun i hi => by have := h2 i (by simpa using hi); rwa [nAt_len hi] at this, h3⟩
  rw [hn]
  rw [hn] at hl
  clear hn hk ha
  go_enter Try.func4, Try.ntmps4
  go_wp2_with fail
  rw [← hX, ← hH]
  have hZl : H < X.heap.size := by omega
  have HXb : Hid (Below w.heap.size w X) := hXb
  have hwX : w.heap.size ≤ X.heap.size := hXb.size
  clear hX hXb hXs hH
  obtain ⟨z0, z1⟩ := z01
  refine (awake_any _).mono ?_
  rintro e w1 ⟨rfl, V1⟩
  have z0' := (V1.cell (p := ⟨H, 0, none⟩) hZl).trans z0
  have z1' := (V1.cell (p := ⟨H, 1, none⟩) hZl).trans z1
  go_wp2_with fail
  refine (great_wide zw zh ao cap n (qs.map (·.es.length)) _ (by rw [List.length_map]; exact HN.out) hl (HA.out.below V1).lens).mono ?_
  rintro e w2 ⟨rfl, hb2⟩
  have V2 : Below X.heap.size X w2 := below_step V1 hb2 (Nat.le_refl _)
  clear hb2 V1 z0' z1'
  have z0' := (V2.cell (p := ⟨H, 0, none⟩) hZl).trans z0
  have z1' := (V2.cell (p := ⟨H, 1, none⟩) hZl).trans z1
  cases hg : greatN zw zh (qs.map (·.es.length)) with
  | true =>
    clear hg
    generalize ks.length = kn at *
    go_wp2
    go_ret
    exact ⟨rfl, HXb.out.trans (V2.mono hwX)⟩
  | false =>
    obtain ⟨hn60, hq2, h900⟩ := HGr.out hg
    have HQ2 : Hid (∀ i, i < qs.length → (aAt qs i).es.length ≤ 2000) := hq2
    rw [HN.out] at hn60
    clear hg hq2 h900 HGr
    by_cases hk1 : 100 < ks.length
    · generalize ks.length = kn at *
      go_wp2
      go_ret
      exact ⟨rfl, HXb.out.trans (V2.mono hwX)⟩
    · have HK2 : Hid (KAt w2 kao ks) := HK.out.below V2
      cases hm : madeB zw zh ks cl with
      | false =>
        have HM : Hid (madeB zw zh ks cl = false) := hm
        go_wp2_with fail
        refine (made_no zw zh kao kcap ks.length ks cl w2 rfl HK2.out hw HM.out).mono ?_
        rintro e w3 ⟨rfl, hb3⟩
        have V3 : Below X.heap.size X w3 := below_step V2 hb3 (Nat.le_refl _)
        have z03 := (V3.cell (p := ⟨H, 0, none⟩) hZl).trans z0
        have z13 := (V3.cell (p := ⟨H, 1, none⟩) hZl).trans z1
        have HK3 : Hid (KAt w3 kao ks) := HK.out.below V3
        clear hb3 V2 z0' z1' HK2
        go_wp2_with fail
        refine (Pl.rcells_any zw zh _).mono ?_
        rintro e w4 ⟨rfl, hb4⟩
        have V4 : Below X.heap.size X w4 := below_step V3 hb4 (Nat.le_refl _)
        have HK4 : Hid (KAt w4 kao ks) := HK.out.below V4
        cases hrt : Pl.rt zw zh with
        | false =>
          rw [cells_nil hrt]
          clear hm HM hrt
          generalize ks.length = kn at *
          go_wp2
          go_ret
          exact ⟨rfl, HXb.out.trans (V4.mono hwX)⟩
        | true =>
          have ho : okT ks cl = false := by unfold madeB at hm; rw [hrt] at hm; simpa using hm
          have HO : Hid (okT ks cl = false) := ho
          have hc0 := cells_pos hrt
          clear hm HM hrt ho
          generalize Pl.cellsN zw zh = cn at *
          go_wp2_with fail
          refine (refRight_any kao kcap ks cl _ HK4.out hw).mono ?_
          rintro e w5 ⟨rfl, rfl⟩
          rw [HO.out]
          go_wp2
          go_ret
          exact ⟨rfl, HXb.out.trans (V4.mono hwX)⟩
      | true =>
        have hrt : Pl.rt zw zh = true := by unfold madeB at hm; simp at hm; exact hm.2
        have hok : okT ks cl = true := by unfold madeB at hm; simp at hm; exact hm.1
        have HM : Hid (madeB zw zh ks cl = true) := hm
        have HRt : Hid (Pl.rt zw zh = true) := hrt
        have HOk : Hid (okT ks cl = true) := hok
        obtain ⟨o1, o2, o3, o4, _⟩ := okT_iff.1 hok
        have HC0 : Hid (0 < Pl.cellsN zw zh) := cells_pos hrt
        clear hm hrt hok
        go_wp2_with fail
        refine (made_yes zw zh kao kcap ks.length ks cl w2 rfl HK2.out hw HM.out).mono ?_
        rintro e w3 ⟨F, B, K, T, rfl, hB3, hK3, hO3, hF3, hb3⟩
        have V3 : Below X.heap.size X w3 := below_step V2 hb3 (Nat.le_refl _)
        have z03 := (V3.cell (p := ⟨H, 0, none⟩) hZl).trans z0
        have z13 := (V3.cell (p := ⟨H, 1, none⟩) hZl).trans z1
        have hKX : X.heap.size ≤ K := Nat.le_trans V2.size hK3
        have O3 : Hid (Own w3 F B K T zw zh ks cl (List.replicate (zw * zh).toNat 0)) := hO3
        clear hb3 V2 z0' z1' HK2 hO3 hF3
        go_wp2_with fail
        refine (Pl.rcells_any zw zh _).mono ?_
        rintro e w4 ⟨rfl, hb4⟩
        have V4 : Below X.heap.size X w4 := below_step V3 hb4 (Nat.le_refl _)
        have O4 : Hid (Own w4 F B K T zw zh ks cl (List.replicate (zw * zh).toNat 0)) := O3.out.below hb4
        have HK4 : Hid (KAt w4 kao ks) := HK.out.below V4
        have z04 := (V4.cell (p := ⟨H, 0, none⟩) hZl).trans z0
        have z14 := (V4.cell (p := ⟨H, 1, none⟩) hZl).trans z1
        have hc0 := HC0.out
        generalize Pl.cellsN zw zh = cn at *
        clear hb4 V3 O3 z03 z13
        go_wp2_with fail
        refine (refRight_any kao kcap ks cl _ HK4.out hw).mono ?_
        rintro e w5 ⟨rfl, rfl⟩
        rw [HOk.out]
        go_wp2_with fail
        refine (refNew_any zw zh kao ks.length kcap cl _ HRt.out).mono ?_
        rintro e w6 ⟨RB, rfl, hG6, hb6⟩
        have V6 : Below X.heap.size X w6 := below_step V4 hb6 (Nat.le_refl _)
        have O6 : Hid (Own w6 F B K T zw zh ks cl (List.replicate (zw * zh).toNat 0)) := O4.out.below hb6
        have G6 : Hid (RG w6 w5.heap.size RB zw zh (.slice kao ks.length kcap) cl (List.replicate (zw * zh).toNat 0)) := hG6
        obtain ⟨bs, hbs⟩ : ∃ bs, bs = w5.heap.size := ⟨_, rfl⟩
        have hKb : K < bs := by rw [hbs]; exact O4.out.row.lt
        have hBb : B < bs := by rw [hbs]; exact O4.out.blk.lt
        have HFb : Hid (∀ b, F b → b < bs) := by rw [hbs]; exact O4.out.fb
        have hb6s : bs ≤ w6.heap.size := by rw [hbs]; exact hb6.size
        have hRX : X.heap.size ≤ RB := Nat.le_trans V4.size hG6.rb
        have hLl : (List.replicate (zw * zh).toNat (0 : Int)).length ≤ 4194304 := O4.out.l1.1
        rw [← hbs] at G6
        generalize hL0 : List.replicate (zw * zh).toNat (0 : Int) = L0 at *
        obtain ⟨M, hM⟩ : ∃ M, L0.length = M := ⟨_, rfl⟩
        have HM0 : Hid (L0.length = M) := hM
        rw [hM] at hLl
        clear hM hG6 hb6 hbs O4 V4 HK4 z04 z14 hL0
        go_wp2
        go_loopw [14] (fun i wr => ∃ (j : Nat) (L : List Int), j ≤ n ∧ i = .int .i64 j ∧ Hid (L.length = M) ∧ Hid (Own wr F B K T zw zh ks cl L) ∧ Hid (RG wr bs RB zw zh (.slice kao ks.length kcap) cl L) ∧ Below X.heap.size X wr ∧ bs ≤ wr.heap.size) (fun i _ => n - (intOf i).toNat)
        case atStart => exact ⟨0, L0, Nat.zero_le _, rfl, HM0, O6, G6, V6, hb6s⟩
        case round =>
          obtain ⟨j, L, hjn, rfl, HLM, OR, GR, VR, hbr⟩ := hrel
          by_cases hlt : j < n
          · rcases HA.out with h | ⟨ab, off, rfl, hc⟩
            · have := HN.out; rw [h] at this; simp at this; omega
            · obtain ⟨hin, hea⟩ := hc j (by rw [HN.out]; exact hlt)
              have hq2 := HQ2.out j (by rw [HN.out]; exact hlt)
              have hin' := hin.below VR
              have HEA : Hid (EAt X (aAt qs j).eo (aAt qs j).es) := hea
              clear hc hin hea
              generalize aAt qs j = q at *
              obtain ⟨i0, i1, i2, i3, i4, i5, i6⟩ := hin'
              have HD : Hid (Calls Try.prog 20 #[.pointer (some ⟨B, 0, none⟩), .pointer (some ⟨RB, 0, none⟩), acv q] wr fun e w' => ∃ v1 v2 er D, e = .returned (.tuple #[v1, v2, .int .i64 er, .int .i64 er]) ∧ Hid (IAt w' v1 D) ∧ Hid (IAt w' v2 D) ∧ D.length ≤ 4194304 ∧
                  Hid (Own w' F B K T zw zh ks cl (actL ks.length zw zh L q)) ∧ Hid (RG w' bs RB zw zh (.slice kao ks.length kcap) cl (actL ks.length zw zh L q)) ∧ Below X.heap.size wr w') :=
                done_any OR.out GR.out hKb hBb HFb.out hbr q (HEA.out.below VR) (by omega) (HEA.out.off hKX) (HEA.out.off hRX) VR.size hKX hRX
              have HLA : Hid ((actL ks.length zw zh L q).length = M) := by show _ = _; rw [actL_len]; exact HLM.out
              obtain ⟨d, eo, ec, es, x, y, a, b, k⟩ := q
              simp only [acv] at *
              go_wp2_with fail
              refine Calls.mono HD.out ?_
              rintro e w7 ⟨v1, v2, er, D, rfl, I1, I2, hDl, O7, G7, hb7⟩
              have V7 : Below X.heap.size X w7 := VR.trans hb7
              have hbr7 : bs ≤ w7.heap.size := Nat.le_trans hbr hb7.size
              clear HD OR GR
              go_wp2_with fail
              refine (same_any I1.out I2.out (by omega) (by omega)).mono ?_
              rintro e w8 ⟨rfl, hb8⟩
              rw [show decide (D = D) = true from by simp]
              have V8 : Below X.heap.size X w8 := below_step V7 hb8 (Nat.le_refl _)
              have hbr8 : bs ≤ w8.heap.size := Nat.le_trans hbr7 hb8.size
              have O8 : Hid (Own w8 F B K T zw zh ks cl (actL ks.length zw zh L ⟨d, eo, ec, es, x, y, a, b, k⟩)) := O7.out.below hb8
              have G8 : Hid (RG w8 bs RB zw zh (.slice kao ks.length kcap) cl (actL ks.length zw zh L ⟨d, eo, ec, es, x, y, a, b, k⟩)) := G7.out.below hb8
              clear O7 G7 I1 I2
              go_wp2
              go_roundw
              case rel => exact ⟨j + 1, _, by omega, by go_num, HLA, O8, G8, V8, hbr8⟩
              case measure => simp [intOf]; omega
          · obtain ⟨w9, hw9⟩ : ∃ w9, w9 = wr := ⟨_, rfl⟩
            have O9 : Hid (Own w9 F B K T zw zh ks cl L) := by rw [hw9]; exact OR
            have G9 : Hid (RG w9 bs RB zw zh (.slice kao ks.length kcap) cl L) := by rw [hw9]; exact GR
            have V9 : Below X.heap.size X w9 := by rw [hw9]; exact VR
            have hst : Below w9.heap.size w9 wr := by rw [hw9]; exact Below.refl _ _
            have HK9 : Hid (KAt w9 kao ks) := HK.out.below V9
            have HKin : Hid (Kin ks.length L) := O9.out.kin
            have hwf9 : Below w.heap.size w w9 := HXb.out.trans (V9.mono hwX)
            obtain ⟨lb, lc, hbl, _, _, hlbl, hrow⟩ := G9.out.ex
            have g4 : w9.cell? ⟨RB, 4, none⟩ = some (.slice (some ⟨lb, 0, none⟩) M lc) := by
              have := hbl.at (j := 4) rfl
              rwa [HLM.out] at this
            have HRow : Hid (RowC w9 lb L) := hrow
            clear OR GR VR hbr hw9 hbl hrow O6 G6 V6 HM0
            go_wp2
            go_loopw [19] (fun s wr => ∃ c : Int, s = .int .i64 c ∧ -1 ≤ c ∧ c ≤ M + 1 ∧ Below w9.heap.size w9 wr) (fun s _ => ((M : Int) + 1 - intOf s).toNat)
            case atStart => exact ⟨-1, rfl, by omega, by omega, hst⟩
            case round =>
              obtain ⟨c, rfl, hc0', hc1', hB⟩ := hrel
              have g4r := (hB.cell (p := ⟨RB, 4, none⟩) (cell_lt g4)).trans g4
              by_cases hle : c ≤ M
              · obtain ⟨mv, hmv⟩ : ∃ mv, gmayN ks cl L cls c = mv := ⟨_, rfl⟩
                obtain ⟨cv, hcv⟩ : ∃ cv, gcostN ks L c = cv := ⟨_, rfl⟩
                have MV : Hid (gmayN ks cl L cls c = mv) := hmv
                have CV : Hid (gcostN ks L c = cv) := hcv
                clear hmv hcv
                by_cases hneg : c < 0
                · have HH : Hid (hasN L.length c = false) := hasN_neg hneg
                  have HG0 : Hid (getN L c = 0) := by show _ = _; unfold getN; rw [HH.out]; rfl
                  go_wp2_with fail
                  refine (get_any (O9.out.gv.below hB) c).mono ?_
                  rintro e w10 ⟨rfl, rfl⟩
                  rw [HH.out, HG0.out]
                  go_wp2_with fail
                  refine (gmay_any (O9.out.gv.below hB) cls c).mono ?_
                  rintro e w11 ⟨rfl, hb11⟩
                  rw [MV.out]
                  have hB11 := below_step hB hb11 (Nat.le_refl _)
                  clear hb11
                  go_wp2_with fail
                  refine (rmay_any (G9.out.below hB11) (HK9.out.below hB11) hw o4 o2 cls c).mono ?_
                  rintro e w12 ⟨rfl, hb12⟩
                  rw [MV.out]
                  have hB12 := below_step hB11 hb12 (Nat.le_refl _)
                  clear hb12
                  go_wp2_with fail
                  refine (gcost_any (O9.out.gv.below hB12) c).mono ?_
                  rintro e w13 ⟨rfl, rfl⟩
                  rw [CV.out]
                  go_wp2_with fail
                  refine (rcost_any (G9.out.below hB12) (HK9.out.below hB12) HKin.out o2 c).mono ?_
                  rintro e w14 ⟨rfl, hb14⟩
                  rw [CV.out]
                  have hB14 := below_step hB12 hb14 (Nat.le_refl _)
                  clear hb14
                  go_wp2
                  go_roundw
                  case rel => exact ⟨c + 1, by go_num, by omega, by omega, hB14⟩
                  case measure => simp [intOf]; omega
                · by_cases hlt2 : c < M
                  · have HH : Hid (hasN L.length c = true) := hasN_iff.2 ⟨by omega, by rw [HLM.out]; exact hlt2⟩
                    have HG0 : Hid (getN L c = lAt L c.toNat) := by show _ = _; unfold getN; rw [HH.out]; rfl
                    have y0 := (hB.cell (p := ⟨lb, c.toNat, none⟩) hlbl).trans (HRow.out c.toNat (by rw [HLM.out]; omega)).1
                    generalize lAt L c.toNat = u at *
                    have hcn : 0 ≤ c := by omega
                    go_wp2_with fail
                    refine (get_any (O9.out.gv.below hB) c).mono ?_
                    rintro e w10 ⟨rfl, rfl⟩
                    rw [HH.out, HG0.out]
                    go_wp2_with fail
                    refine (gmay_any (O9.out.gv.below hB) cls c).mono ?_
                    rintro e w11 ⟨rfl, hb11⟩
                    rw [MV.out]
                    have hB11 := below_step hB hb11 (Nat.le_refl _)
                    clear hb11
                    go_wp2_with fail
                    refine (rmay_any (G9.out.below hB11) (HK9.out.below hB11) hw o4 o2 cls c).mono ?_
                    rintro e w12 ⟨rfl, hb12⟩
                    rw [MV.out]
                    have hB12 := below_step hB11 hb12 (Nat.le_refl _)
                    clear hb12
                    go_wp2_with fail
                    refine (gcost_any (O9.out.gv.below hB12) c).mono ?_
                    rintro e w13 ⟨rfl, rfl⟩
                    rw [CV.out]
                    go_wp2_with fail
                    refine (rcost_any (G9.out.below hB12) (HK9.out.below hB12) HKin.out o2 c).mono ?_
                    rintro e w14 ⟨rfl, hb14⟩
                    rw [CV.out]
                    have hB14 := below_step hB12 hb14 (Nat.le_refl _)
                    clear hb14
                    go_wp2
                    go_roundw
                    case rel => exact ⟨c + 1, by go_num, by omega, by omega, hB14⟩
                    case measure => simp [intOf]; omega
                  · have HH : Hid (hasN L.length c = false) := by
                      show _ = _
                      cases hh : hasN L.length c with
                      | false => rfl
                      | true => have := hasN_iff.1 hh; rw [HLM.out] at this; omega
                    have HG0 : Hid (getN L c = 0) := by show _ = _; unfold getN; rw [HH.out]; rfl
                    have hcn : 0 ≤ c := by omega
                    go_wp2_with fail
                    refine (get_any (O9.out.gv.below hB) c).mono ?_
                    rintro e w10 ⟨rfl, rfl⟩
                    rw [HH.out, HG0.out]
                    go_wp2_with fail
                    refine (gmay_any (O9.out.gv.below hB) cls c).mono ?_
                    rintro e w11 ⟨rfl, hb11⟩
                    rw [MV.out]
                    have hB11 := below_step hB hb11 (Nat.le_refl _)
                    clear hb11
                    go_wp2_with fail
                    refine (rmay_any (G9.out.below hB11) (HK9.out.below hB11) hw o4 o2 cls c).mono ?_
                    rintro e w12 ⟨rfl, hb12⟩
                    rw [MV.out]
                    have hB12 := below_step hB11 hb12 (Nat.le_refl _)
                    clear hb12
                    go_wp2_with fail
                    refine (gcost_any (O9.out.gv.below hB12) c).mono ?_
                    rintro e w13 ⟨rfl, rfl⟩
                    rw [CV.out]
                    go_wp2_with fail
                    refine (rcost_any (G9.out.below hB12) (HK9.out.below hB12) HKin.out o2 c).mono ?_
                    rintro e w14 ⟨rfl, hb14⟩
                    rw [CV.out]
                    have hB14 := below_step hB12 hb14 (Nat.le_refl _)
                    clear hb14
                    go_wp2
                    go_roundw
                    case rel => exact ⟨c + 1, by go_num, by omega, by omega, hB14⟩
                    case measure => simp [intOf]; omega
              · have VE := below_step V9 hB (Nat.le_refl _)
                have zz0 := (VE.cell (p := ⟨H, 0, none⟩) hZl).trans z0
                have zz1 := (VE.cell (p := ⟨H, 1, none⟩) hZl).trans z1
                have hHw : H < wr.heap.size := Nat.lt_of_lt_of_le hZl VE.size
                have hwfE := below_step hwf9 hB (Nat.le_refl _)
                have OE : Hid (Own wr F B K T zw zh ks cl L) := O9.out.below hB
                clear O9 G9 g4
                go_wp2
                go_region_held3 (fun w' => w'.cell? ⟨H, 0, none⟩ = some (.int .i64 zw) ∧ w'.cell? ⟨H, 1, none⟩ = some (.int .i64 zh))
                  (first
                    | go_keep
                    | (go_split_ands
                       refine ⟨?_, ?_⟩
                       · (rw [hbS.cell (p := ⟨H, 0, none⟩) (by simpa using hHw)]; assumption)
                       · (rw [hbS.cell (p := ⟨H, 1, none⟩) (by simpa using hHw)]; assumption)))
                  ((go_at_call 26; refine (size_grd (OE.out.below ((Below.refl _ wr).drew)).grd).mono ?_; rintro e w20 ⟨rfl, hbS⟩))
                all_goals go_wp2
                go_ret
                have hbS' : Below wr.heap.size wr w20 := ⟨hbS.os, hbS.tape, hbS.output, hbS.size, hbS.block⟩
                have hfin := below_step hwfE hbS' (Nat.le_refl _)
                first
                  | exact ⟨rfl, hfin⟩
                  | exact ⟨by simp, hfin⟩
                  | exact ⟨rfl, hfin.drew⟩
                  | exact ⟨by simp, hfin.drew⟩
end Go.Proofs.Ytcflbekjiohfnaa
