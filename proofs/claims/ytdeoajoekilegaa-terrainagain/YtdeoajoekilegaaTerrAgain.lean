/- The walk of TerrainAgain. -/
import Derived.Test.YtdeoajoekilegaaTerrAwake
import Derived.Test.YtdeoajoekilegaaTerrLeast
namespace Go.Proofs.Ytdeoajoekilegaa
open Go.RowKit
set_option linter.unusedVariables false

set_option maxRecDepth 100000 in
set_option maxHeartbeats 8000000 in
theorem again_walk (ao : Option Addr) (cap : Nat) (ks : List Kd) (cl : Int) (w : World) (hk : KAt w ao ks) (hw : Wk ks) :
    Calls Try.prog 6 #[.slice ao ks.length cap, .int .i64 cl] w fun e w' => e = .returned (.bool true) ∧ Below w.heap.size w w' := by
  have HK : Hid (KAt w ao ks) := hk
  have HW : Hid (Wk ks) := hw
  clear hk hw
  obtain ⟨n, hn⟩ : ∃ n, n = ks.length := ⟨_, rfl⟩
  have HN : Hid (ks.length = n) := hn.symm
  rw [← hn]
  clear hn
  by_cases hl : 100 < n
  · go_enter Try.func6, Try.ntmps6
    go_wp2_with fail
    refine (awake_any _).mono ?_
    rintro e w1 ⟨rfl, hb1⟩
    go_wp2
    go_ret
    exact ⟨rfl, hb1⟩
  cases ho : okT ks cl with
  | false =>
    have HO : Hid (okT ks cl = false) := ho
    clear ho
    go_enter Try.func6, Try.ntmps6
    go_wp2_with fail
    refine (awake_any _).mono ?_
    rintro e w1 ⟨rfl, hb1⟩
    have HK1 : Hid (KAt w1 ao ks) := HK.out.below hb1
    go_wp2_with fail
    refine (HN.out ▸ new_no ao cap ks cl w1 HK1.out HW.out HO.out).mono ?_
    rintro e w2 ⟨rfl, hb2⟩
    go_wp2
    go_ret
    exact ⟨rfl, below_step hb1 hb2 (Nat.le_refl _)⟩
  | true =>
    obtain ⟨h0, h1, h2, h3, _⟩ := okT_iff.1 ho
    rw [HN.out] at h0 h1
    have HO : Hid (okT ks cl = true) := ho
    clear ho
    rcases HK.out with h | ⟨b, off, rfl, hkk⟩
    · have := HN.out; rw [h] at this; simp at this; omega
    have HC : Hid (∀ i, i < ks.length → w.cell? ⟨b, off + i * 2, none⟩ = some (.int .i64 (kAt ks i).1) ∧ w.cell? ⟨b, off + i * 2 + 1, none⟩ = some (.int .u8 (kAt ks i).2)) := hkk
    clear hkk
    have hbw : b < w.heap.size := cell_lt (HC.out 0 (by rw [HN.out]; exact h0)).1
    go_enter Try.func6, Try.ntmps6
    go_wp2_with fail
    refine (awake_any _).mono ?_
    rintro e w1 ⟨rfl, hb1⟩
    go_wp2_with fail
    refine (HN.out ▸ new_yes b off cap ks cl w1 (fun i hi => ⟨(hb1.cell (p := ⟨b, _, none⟩) hbw).trans (HC.out i hi).1, (hb1.cell (p := ⟨b, _, none⟩) hbw).trans (HC.out i hi).2⟩) HW.out HO.out).mono ?_
    rintro e w2 ⟨B, rfl, ht, hb2⟩
    have hB2 := below_step hb1 hb2 (Nat.le_refl _)
    have T2 : Hid (TabV w2 (.pointer (some ⟨B, 0, none⟩)) ks cl) := .inr ⟨_, B, rfl, ht⟩
    clear ht hb2 hb1
    go_wp2_with fail
    refine (HN.out ▸ all_any T2.out).mono ?_
    rintro e w3 ⟨ao', cap', rfl, _, hka, hb3⟩
    have T3 : Hid (TabV w3 (.pointer (some ⟨B, 0, none⟩)) ks cl) := T2.out.below hb3
    have hB3 := below_step hB2 hb3 (Nat.le_refl _)
    rcases hka with h | ⟨b', off', rfl, hka⟩
    · have := HN.out; rw [h] at this; simp at this; omega
    have HC3 : Hid (∀ i, i < ks.length → w3.cell? ⟨b', off' + i * 2, none⟩ = some (.int .i64 (kAt ks i).1) ∧ w3.cell? ⟨b', off' + i * 2 + 1, none⟩ = some (.int .u8 (kAt ks i).2)) := hka
    clear hb3 hka hB2 T2
    go_wp2_with fail
    refine (classes_any T3.out).mono ?_
    rintro e w4 ⟨rfl, rfl⟩
    go_wp2_with fail
    refine (HN.out ▸ new_yes b' off' cap' ks cl w4 HC3.out HW.out HO.out).mono ?_
    rintro e w5 ⟨B', rfl, ht, hb5⟩
    have T5 : Hid (TabV w5 (.pointer (some ⟨B, 0, none⟩)) ks cl) := T3.out.below hb5
    have U5 : Hid (TabV w5 (.pointer (some ⟨B', 0, none⟩)) ks cl) := .inr ⟨_, B', rfl, ht⟩
    have hB5 := below_step hB3 hb5 (Nat.le_refl _)
    clear ht hb5 T3 hB3 HC3
    go_wp2_with fail
    refine (HN.out ▸ kinds_any U5.out).mono ?_
    rintro e w6 ⟨rfl, rfl⟩
    go_wp2_with fail
    refine (HN.out ▸ kinds_any T5.out).mono ?_
    rintro e w6 ⟨rfl, rfl⟩
    go_wp2_with fail
    refine (HN.out ▸ kinds_any T5.out).mono ?_
    rintro e w6 ⟨rfl, rfl⟩
    go_wp2_with fail
    refine (classes_any T5.out).mono ?_
    rintro e w6 ⟨rfl, rfl⟩
    go_wp2
    go_loopw [9] (fun i wr => ∃ c : Int, -1 ≤ c ∧ c ≤ cl + 1 ∧ i = .int .i64 c ∧ Hid (TabV wr (.pointer (some ⟨B, 0, none⟩)) ks cl) ∧ Hid (TabV wr (.pointer (some ⟨B', 0, none⟩)) ks cl) ∧ Below w.heap.size w wr) (fun i _ => (cl + 1 - intOf i).toNat)
    case atStart => exact ⟨-1, by omega, by omega, rfl, T5, U5, hB5⟩
    case round =>
      clear T5 U5 hB5
      obtain ⟨c, hc1, hc2, rfl, T, U, hB⟩ := hrel
      by_cases hlt : c ≤ cl
      · go_wp2_with fail
        refine (classes_any T.out).mono ?_
        rintro e w6 ⟨rfl, rfl⟩
        go_wp2_with fail
        refine (least_any T.out c).mono ?_
        rintro e w7 ⟨rfl, rfl⟩
        go_wp2_with fail
        refine (least_any U.out c).mono ?_
        rintro e w8 ⟨rfl, rfl⟩
        have F1 : Hid (∀ j, mayB ks cl c j = true → 0 < leastN ks cl c ∧ leastN ks cl c ≤ costN ks j) := fun j hj => least_le HO.out hj
        have F2 : Hid (metB ks cl c (leastN ks cl c) (n + 1) = decide (0 < leastN ks cl c)) := by have := metB_end (c := c) HO.out; rw [HN.out] at this; exact this
        generalize leastN ks cl c = ln at *
        generalize hok : decide (0 < ln) = ok at *
        have HOK : Hid (decide (0 < ln) = ok) := hok
        clear hok
        go_wp2
        go_loopw [14, 15, 16] (fun m l i wr => ∃ j : Int, -1 ≤ j ∧ j ≤ n + 1 ∧ i = .int .i64 j ∧ m = .bool (metB ks cl c ln j) ∧ l = .bool false ∧ Hid (TabV wr (.pointer (some ⟨B, 0, none⟩)) ks cl) ∧ Hid (TabV wr (.pointer (some ⟨B', 0, none⟩)) ks cl) ∧ Below w.heap.size w wr) (fun _ _ i _ => ((n : Int) + 1 - intOf i).toNat)
        case atStart => exact ⟨-1, by omega, by omega, rfl, rfl, rfl, T, U, hB⟩
        case round =>
          clear T U hB
          obtain ⟨j, hj1, hj2, rfl, rfl, rfl, T, U, hB⟩ := hrel
          by_cases hjl : j ≤ n
          · have FM : Hid (metB ks cl c ln (j + 1) = (metB ks cl c ln j || (mayB ks cl c j && costN ks j == ln))) := metB_step hj1
            have F1' : Hid (mayB ks cl c j = true → 0 < ln ∧ ln ≤ costN ks j) := F1.out j
            obtain ⟨cn, hcn⟩ : ∃ cn, costN ks j = cn := ⟨_, rfl⟩
            have HCN : Hid (costN ks j = cn) := hcn
            clear hcn
            cases hm : mayB ks cl c j with
            | false =>
              have HM : Hid (mayB ks cl c j = false) := hm
              clear hm
              have FM' : Hid (metB ks cl c ln (j + 1) = metB ks cl c ln j) := by show _ = _; rw [FM.out, HM.out]; simp
              go_wp2_with fail
              refine (HN.out ▸ kinds_any T.out).mono ?_
              rintro e w9 ⟨rfl, rfl⟩
              go_wp2_with fail
              refine (may_any T.out c j).mono ?_
              rintro e w10 ⟨rfl, hb10⟩
              rw [HM.out]
              have T10 : Hid (TabV w10 (.pointer (some ⟨B, 0, none⟩)) ks cl) := T.out.below hb10
              have U10 : Hid (TabV w10 (.pointer (some ⟨B', 0, none⟩)) ks cl) := U.out.below hb10
              have hB10 := below_step hB hb10 (Nat.le_refl _)
              clear hb10 T U hB
              go_wp2_with fail
              refine (may_any U10.out c j).mono ?_
              rintro e w11 ⟨rfl, hb11⟩
              rw [HM.out]
              have T11 : Hid (TabV w11 (.pointer (some ⟨B, 0, none⟩)) ks cl) := T10.out.below hb11
              have U11 : Hid (TabV w11 (.pointer (some ⟨B', 0, none⟩)) ks cl) := U10.out.below hb11
              have hB11 := below_step hB10 hb11 (Nat.le_refl _)
              clear hb11 T10 U10 hB10
              go_wp2_with fail
              refine (cost_any T11.out j).mono ?_
              rintro e w12 ⟨rfl, rfl⟩
              rw [HCN.out]
              go_wp2_with fail
              refine (cost_any U11.out j).mono ?_
              rintro e w12 ⟨rfl, rfl⟩
              rw [HCN.out]
              go_wp2_with fail
              refine (may_any T11.out c j).mono ?_
              rintro e w13 ⟨rfl, hb13⟩
              rw [HM.out]
              have T13 : Hid (TabV w13 (.pointer (some ⟨B, 0, none⟩)) ks cl) := T11.out.below hb13
              have U13 : Hid (TabV w13 (.pointer (some ⟨B', 0, none⟩)) ks cl) := U11.out.below hb13
              have hB13 := below_step hB11 hb13 (Nat.le_refl _)
              clear hb13 T11 U11 hB11
              generalize metB ks cl c ln j = mt at *
              go_wp2
              go_roundw
              case rel => exact ⟨j + 1, by omega, by omega, by go_num, by rw [FM'.out], rfl, T13, U13, hB13⟩
              case measure => simp [intOf]; omega
            | true =>
              have HM : Hid (mayB ks cl c j = true) := hm
              obtain ⟨f1, f2⟩ := F1'.out hm
              rw [HCN.out] at f2
              clear hm
              have FM' : Hid (metB ks cl c ln (j + 1) = (metB ks cl c ln j || (cn == ln))) := by show _ = _; rw [FM.out, HM.out, HCN.out]; simp
              have hnl : decide (cn < ln) = false := by simp; omega
              obtain rfl : ok = true := by rw [← HOK.out]; simpa using f1
              go_wp2_with fail
              refine (HN.out ▸ kinds_any T.out).mono ?_
              rintro e w9 ⟨rfl, rfl⟩
              go_wp2_with fail
              refine (may_any T.out c j).mono ?_
              rintro e w10 ⟨rfl, hb10⟩
              rw [HM.out]
              have T10 : Hid (TabV w10 (.pointer (some ⟨B, 0, none⟩)) ks cl) := T.out.below hb10
              have U10 : Hid (TabV w10 (.pointer (some ⟨B', 0, none⟩)) ks cl) := U.out.below hb10
              have hB10 := below_step hB hb10 (Nat.le_refl _)
              clear hb10 T U hB
              go_wp2_with fail
              refine (may_any U10.out c j).mono ?_
              rintro e w11 ⟨rfl, hb11⟩
              rw [HM.out]
              have T11 : Hid (TabV w11 (.pointer (some ⟨B, 0, none⟩)) ks cl) := T10.out.below hb11
              have U11 : Hid (TabV w11 (.pointer (some ⟨B', 0, none⟩)) ks cl) := U10.out.below hb11
              have hB11 := below_step hB10 hb11 (Nat.le_refl _)
              clear hb11 T10 U10 hB10
              go_wp2_with fail
              refine (cost_any T11.out j).mono ?_
              rintro e w12 ⟨rfl, rfl⟩
              rw [HCN.out]
              go_wp2_with fail
              refine (cost_any U11.out j).mono ?_
              rintro e w12 ⟨rfl, rfl⟩
              rw [HCN.out]
              go_wp2_with fail
              refine (may_any T11.out c j).mono ?_
              rintro e w13 ⟨rfl, hb13⟩
              rw [HM.out]
              have T13 : Hid (TabV w13 (.pointer (some ⟨B, 0, none⟩)) ks cl) := T11.out.below hb13
              have U13 : Hid (TabV w13 (.pointer (some ⟨B', 0, none⟩)) ks cl) := U11.out.below hb13
              have hB13 := below_step hB11 hb13 (Nat.le_refl _)
              clear hb13 T11 U11 hB11
              cases hmt : metB ks cl c ln j with
              | true =>
                rw [hmt] at FM'
                clear hmt
                go_wp2_with fail
                refine (cost_any T13.out j).mono ?_
                rintro e w14 ⟨rfl, rfl⟩
                rw [HCN.out]
                go_wp2
                go_roundw
                case rel => exact ⟨j + 1, by omega, by omega, by go_num, by rw [FM'.out]; rfl, by simp, T13, U13, hB13⟩
                case measure => simp [intOf]; omega
              | false =>
                rw [hmt] at FM'
                clear hmt
                go_wp2_with fail
                refine (cost_any T13.out j).mono ?_
                rintro e w14 ⟨rfl, rfl⟩
                rw [HCN.out]
                go_wp2_with fail
                refine (cost_any T13.out j).mono ?_
                rintro e w14 ⟨rfl, rfl⟩
                rw [HCN.out]
                go_wp2
                go_roundw
                case rel => exact ⟨j + 1, by omega, by omega, by go_num, by rw [FM'.out]; simp, by simp, T13, U13, hB13⟩
                case measure => simp [intOf]; omega
          · have hje : j = n + 1 := by omega
            subst hje
            go_wp2_with fail
            refine (HN.out ▸ kinds_any T.out).mono ?_
            rintro e w9 ⟨rfl, rfl⟩
            rw [F2.out]
            go_wp2
            go_roundw
            case rel => exact ⟨c + 1, by omega, by omega, by go_num, T, U, hB⟩
            case measure => simp [intOf]; omega
      · go_wp2_with fail
        refine (classes_any T.out).mono ?_
        rintro e w6 ⟨rfl, rfl⟩
        go_wp2
        go_ret
        exact ⟨rfl, hB⟩
end Go.Proofs.Ytdeoajoekilegaa
