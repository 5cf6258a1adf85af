/- The walk of TerrainTells. -/
import Derived.Test.YtdeoajoekilegaaTerrAwake
import Derived.Test.YtdeoajoekilegaaTerrRefTwo
namespace Go.Proofs.Ytdeoajoekilegaa
open Go.RowKit
set_option linter.unusedVariables false

set_option maxRecDepth 100000 in
set_option maxHeartbeats 4000000 in
theorem tells_walk (ao : Option Addr) (cap : Nat) (ks : List Kd) (cl c k : Int) (w : World) (hk : KAt w ao ks) (hw : Wk ks) :
    Calls Try.prog 4 #[.slice ao ks.length cap, .int .i64 cl, .int .i64 c, .int .i64 k] w fun e w' => e = .returned (.bool true) ∧ Below w.heap.size w w' := by
  have HK : Hid (KAt w ao ks) := hk
  have HW : Hid (Wk ks) := hw
  clear hk hw
  obtain ⟨n, hn⟩ : ∃ n, n = ks.length := ⟨_, rfl⟩
  have HN : Hid (ks.length = n) := hn.symm
  rw [← hn]
  clear hn
  by_cases hl : 100 < n
  · go_enter Try.func4, Try.ntmps4
    go_wp2_with fail
    refine (awake_any _).mono ?_
    rintro e w1 ⟨rfl, hb1⟩
    go_wp2
    go_ret
    exact ⟨rfl, hb1⟩
  cases ho : okT ks cl with
  | false =>
    have HO : Hid (okT ks cl = false) := ho
    clear ho
    go_enter Try.func4, Try.ntmps4
    go_wp2_with fail
    refine (awake_any _).mono ?_
    rintro e w1 ⟨rfl, hb1⟩
    have HK1 : Hid (KAt w1 ao ks) := HK.out.below hb1
    go_wp2_with fail
    refine (HN.out ▸ new_no ao cap ks cl w1 HK1.out HW.out HO.out).mono ?_
    rintro e w2 ⟨rfl, hb2⟩
    have HK2 : Hid (KAt w2 ao ks) := HK1.out.below hb2
    go_wp2_with fail
    refine (HN.out ▸ refRight_any ao cap ks cl w2 HK2.out HW.out).mono ?_
    rintro e w3 ⟨rfl, rfl⟩
    rw [HO.out]
    go_wp2
    go_ret
    exact ⟨rfl, below_step hb1 hb2 (Nat.le_refl _)⟩
  | true =>
    obtain ⟨h0, h1, h2, h3, _⟩ := okT_iff.1 ho
    rw [HN.out] at h0 h1
    have HO : Hid (okT ks cl = true) := ho
    clear ho
    rcases HK.out with h | ⟨b, off, rfl, hkk⟩
    · have := HN.out; rw [h] at this; simp at this; omega
    have HC : Hid (∀ i, i < ks.length → w.cell? ⟨b, off + i * 2, none⟩ = some (.int .i64 (kAt ks i).1) ∧ w.cell? ⟨b, off + i * 2 + 1, none⟩ = some (.int .u8 (kAt ks i).2)) := hkk
    clear hkk
    have hbw : b < w.heap.size := cell_lt (HC.out 0 (by rw [HN.out]; exact h0)).1
    go_enter Try.func4, Try.ntmps4
    go_wp2_with fail
    refine (awake_any _).mono ?_
    rintro e w1 ⟨rfl, hb1⟩
    have HK1 : Hid (KAt w1 (some ⟨b, off, none⟩) ks) := HK.out.below hb1
    go_wp2_with fail
    refine (HN.out ▸ new_yes b off cap ks cl w1 (fun i hi => ⟨(hb1.cell (p := ⟨b, _, none⟩) hbw).trans (HC.out i hi).1, (hb1.cell (p := ⟨b, _, none⟩) hbw).trans (HC.out i hi).2⟩) HW.out HO.out).mono ?_
    rintro e w2 ⟨B, rfl, ht, hb2⟩
    have hB2 := below_step hb1 hb2 (Nat.le_refl _)
    have HK2 : Hid (KAt w2 (some ⟨b, off, none⟩) ks) := HK1.out.below hb2
    have T2 : Hid (TabV w2 (.pointer (some ⟨B, 0, none⟩)) ks cl) := .inr ⟨_, B, rfl, ht⟩
    clear ht hb2 hb1 HK1
    go_wp2_with fail
    refine (HN.out ▸ refRight_any _ cap ks cl w2 HK2.out HW.out).mono ?_
    rintro e w3 ⟨rfl, rfl⟩
    rw [HO.out]
    go_wp2_with fail
    refine (HN.out ▸ kinds_any T2.out).mono ?_
    rintro e w3 ⟨rfl, rfl⟩
    go_wp2_with fail
    refine (classes_any T2.out).mono ?_
    rintro e w3 ⟨rfl, rfl⟩
    go_wp2_with fail
    refine (HN.out ▸ all_any T2.out).mono ?_
    rintro e w4 ⟨ao', cap', rfl, _, hka, hb4⟩
    have HA4 : Hid (KAt w4 ao' ks) := hka
    have HK4 : Hid (KAt w4 (some ⟨b, off, none⟩) ks) := HK2.out.below hb4
    have T4 : Hid (TabV w4 (.pointer (some ⟨B, 0, none⟩)) ks cl) := T2.out.below hb4
    have hB4 := below_step hB2 hb4 (Nat.le_refl _)
    clear hka hb4 hB2
    go_wp2_with fail
    refine (HN.out ▸ same_any ao' (some ⟨b, off, none⟩) cap' cap ks w4 HA4.out HK4.out (by rw [HN.out]; exact h1)).mono ?_
    rintro e w5 ⟨rfl, hb5⟩
    have HK5 : Hid (KAt w5 (some ⟨b, off, none⟩) ks) := HK4.out.below hb5
    have T5 : Hid (TabV w5 (.pointer (some ⟨B, 0, none⟩)) ks cl) := T4.out.below hb5
    have hB5 := below_step hB4 hb5 (Nat.le_refl _)
    clear hb5 hB4 HA4
    go_wp2_with fail
    refine (may_any T5.out c k).mono ?_
    rintro e w6 ⟨rfl, hb6⟩
    have HK6 : Hid (KAt w6 (some ⟨b, off, none⟩) ks) := HK5.out.below hb6
    have T6 : Hid (TabV w6 (.pointer (some ⟨B, 0, none⟩)) ks cl) := T5.out.below hb6
    have hB6 := below_step hB5 hb6 (Nat.le_refl _)
    clear hb6 hB5
    go_wp2_with fail
    refine (HN.out ▸ refMay_any _ cap ks cl c k w6 HK6.out HW.out h3 (by rw [HN.out]; exact h1)).mono ?_
    rintro e w7 ⟨rfl, rfl⟩
    generalize mayB ks cl c k = mb
    go_wp2_with fail
    refine (least_any T6.out c).mono ?_
    rintro e w7 ⟨rfl, rfl⟩
    go_wp2_with fail
    refine (HN.out ▸ refLeast_any _ cap ks cl c w7 HK6.out HW.out h3 (by rw [HN.out]; exact h1)).mono ?_
    rintro e w8 ⟨rfl, rfl⟩
    generalize leastN ks cl c = ln
    by_cases k0 : 0 ≤ k
    · by_cases k1 : k < n
      · have hcell : w8.cell? ⟨b, off + k.toNat * 2, none⟩ = some (.int .i64 (costN ks k)) := by
          have hz : costN ks k = (kAt ks k.toNat).1 := by unfold costN; rw [HN.out, hasN_iff.2 ⟨k0, k1⟩]; rfl
          rw [hz]
          rcases HK6.out with h | ⟨b', off', e', h⟩
          · have := HN.out; rw [h] at this; simp at this; omega
          · cases e'; exact (h k.toNat (by rw [HN.out]; omega)).1
        go_wp2_with fail
        refine (cost_any T6.out k).mono ?_
        rintro e w9 ⟨rfl, rfl⟩
        generalize costN ks k = cn at *
        go_wp2
        go_ret
        exact ⟨ret_of (congrArg Value.bool (by simp)), hB6⟩
      · have hd : decide (k < (n : Int)) = false := by simpa using k1
        have hz : costN ks k = 0 := by
          unfold costN
          rw [HN.out]
          cases h : hasN n k with
          | false => rfl
          | true => have := hasN_iff.1 h; omega
        go_wp2_with fail
        refine (cost_any T6.out k).mono ?_
        rintro e w9 ⟨rfl, rfl⟩
        rw [hz]
        go_wp2
        go_ret
        exact ⟨ret_of (congrArg Value.bool (by simp)), hB6⟩
    · have hd : decide (0 ≤ k) = false := by simpa using k0
      have hz : costN ks k = 0 := by
        unfold costN
        rw [HN.out]
        cases h : hasN n k with
        | false => rfl
        | true => have := hasN_iff.1 h; omega
      go_wp2_with fail
      refine (cost_any T6.out k).mono ?_
      rintro e w9 ⟨rfl, rfl⟩
      rw [hz]
      go_wp2
      go_ret
      exact ⟨ret_of (congrArg Value.bool (by simp)), hB6⟩
end Go.Proofs.Ytdeoajoekilegaa
