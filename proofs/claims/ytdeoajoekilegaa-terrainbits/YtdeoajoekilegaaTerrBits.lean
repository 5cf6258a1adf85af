/- The walk of TerrainBits. -/
import Derived.Test.YtdeoajoekilegaaTerrAwake
import Derived.Test.YtdeoajoekilegaaTerrLeast
import Derived.Test.YtdeoajoekilegaaTerrRef
namespace Go.Proofs.Ytdeoajoekilegaa
open Go.RowKit
set_option linter.unusedVariables false

theorem bits_step {m : Int} (h0 : 0 ≤ m) (h1 : m < 256) {j : Nat} (hj : j < 8) : m % 2 ^ (j + 1) = m % 2 ^ j + (if bitB m j then 2 ^ j else 0) ∧ (2 : Int) ^ (j + 1) = 2 * 2 ^ j ∧ 1 ≤ (2 : Int) ^ j ∧ (2 : Int) ^ j ≤ 128 ∧ 0 ≤ m % 2 ^ j ∧ m % 2 ^ j < 256 := by
  have h : ∀ n : Fin 256, ∀ j : Fin 8, (n.val : Int) % 2 ^ (j.val + 1) = (n.val : Int) % 2 ^ j.val + (if bitB n.val j.val then 2 ^ j.val else 0) ∧ (2 : Int) ^ (j.val + 1) = 2 * 2 ^ j.val ∧ 1 ≤ (2 : Int) ^ j.val ∧ (2 : Int) ^ j.val ≤ 128 ∧ 0 ≤ (n.val : Int) % 2 ^ j.val ∧ (n.val : Int) % 2 ^ j.val < 256 := by decide +kernel
  obtain ⟨n, rfl⟩ := Int.eq_ofNat_of_zero_le h0
  exact h ⟨n, by omega⟩ ⟨j, hj⟩
theorem may_bit {ks : List Kd} {cl : Int} (hw : Wk ks) (h : okT ks cl = true) {k j : Nat} (hk : k < ks.length) (hj : j < 8) : mayB ks cl j k = bitB (kAt ks k).2 j := by
  obtain ⟨_, _, c0, c1, hall⟩ := okT_iff.1 h
  have hwk := hw.at hk
  have hok := (List.all_eq_true.1 hall) _ (kAt_mem hk)
  simp only [okK, Bool.and_eq_true] at hok
  by_cases hc : (j : Int) < cl
  · unfold mayB; rw [hasN_iff.2 (by omega), hasN_iff.2 (by omega)]; rfl
  · rw [(mask_bits hwk.1 hwk.2 (by omega) c1).1 hok.2.2 j (by omega) (by omega)]
    cases hm : mayB ks cl j k with
    | false => rfl
    | true => have := (mayB_iff.1 hm).1; omega

set_option maxRecDepth 100000 in
set_option maxHeartbeats 8000000 in
theorem bits_walk (ao : Option Addr) (cap : Nat) (ks : List Kd) (cl : Int) (w : World) (hk : KAt w ao ks) (hw : Wk ks) :
    Calls Try.prog 8 #[.slice ao ks.length cap, .int .i64 cl] w fun e w' => e = .returned (.bool true) ∧ Below w.heap.size w w' := by
  have HK : Hid (KAt w ao ks) := hk
  have HW : Hid (Wk ks) := hw
  clear hk hw
  obtain ⟨n, hn⟩ : ∃ n, n = ks.length := ⟨_, rfl⟩
  have HN : Hid (ks.length = n) := hn.symm
  rw [← hn]
  clear hn
  by_cases hl : 100 < n
  · go_enter Try.func8, Try.ntmps8
    go_wp2_with fail
    refine (awake_any _).mono ?_
    rintro e w1 ⟨rfl, hb1⟩
    go_wp2
    go_ret
    exact ⟨rfl, hb1⟩
  cases ho : okT ks cl with
  | false =>
    have HO : Hid (okT ks cl = false) := ho
    clear ho
    go_enter Try.func8, Try.ntmps8
    go_wp2_with fail
    refine (awake_any _).mono ?_
    rintro e w1 ⟨rfl, hb1⟩
    have HK1 : Hid (KAt w1 ao ks) := HK.out.below hb1
    go_wp2_with fail
    refine (HN.out ▸ new_no ao cap ks cl w1 HK1.out HW.out HO.out).mono ?_
    rintro e w2 ⟨rfl, hb2⟩
    go_wp2
    go_ret
    exact ⟨rfl, below_step hb1 hb2 (Nat.le_refl _)⟩
  | true =>
    obtain ⟨h0, h1, h2, h3, _⟩ := okT_iff.1 ho
    rw [HN.out] at h0 h1
    have HO : Hid (okT ks cl = true) := ho
    clear ho
    rcases HK.out with h | ⟨b, off, rfl, hkk⟩
    · have := HN.out; rw [h] at this; simp at this; omega
    have HC : Hid (∀ i, i < ks.length → w.cell? ⟨b, off + i * 2, none⟩ = some (.int .i64 (kAt ks i).1) ∧ w.cell? ⟨b, off + i * 2 + 1, none⟩ = some (.int .u8 (kAt ks i).2)) := hkk
    clear hkk
    have hbw : b < w.heap.size := cell_lt (HC.out 0 (by rw [HN.out]; exact h0)).1
    go_enter Try.func8, Try.ntmps8
    go_wp2_with fail
    refine (awake_any _).mono ?_
    rintro e w1 ⟨rfl, hb1⟩
    go_wp2_with fail
    refine (HN.out ▸ new_yes b off cap ks cl w1 (fun i hi => ⟨(hb1.cell (p := ⟨b, _, none⟩) hbw).trans (HC.out i hi).1, (hb1.cell (p := ⟨b, _, none⟩) hbw).trans (HC.out i hi).2⟩) HW.out HO.out).mono ?_
    rintro e w2 ⟨B, rfl, ht, hb2⟩
    have hB2 := below_step hb1 hb2 (Nat.le_refl _)
    have T2 : Hid (TabV w2 (.pointer (some ⟨B, 0, none⟩)) ks cl) := .inr ⟨_, B, rfl, ht⟩
    clear ht hb2 hb1
    go_wp2
    go_loopw [7] (fun i wr => ∃ k : Nat, k ≤ n ∧ i = .int .i64 k ∧ Hid (TabV wr (.pointer (some ⟨B, 0, none⟩)) ks cl) ∧ Below w.heap.size w wr) (fun i _ => n - (intOf i).toNat)
    case atStart => exact ⟨0, by omega, rfl, T2, hB2⟩
    case round =>
      clear T2 hB2
      obtain ⟨k, hkn, rfl, T, hB⟩ := hrel
      by_cases hlt : k < n
      · have hklt : k < ks.length := by rw [HN.out]; exact hlt
        have HM : Hid (∀ j : Nat, j < 8 → mayB ks cl j k = bitB (kAt ks k).2 j) := fun j hj => may_bit HW.out HO.out hklt hj
        have hwk := HW.out.at hklt
        have HCk : Hid (w.cell? ⟨b, off + k * 2, none⟩ = some (.int .i64 (kAt ks k).1) ∧ w.cell? ⟨b, off + k * 2 + 1, none⟩ = some (.int .u8 (kAt ks k).2)) := HC.out k hklt
        have HCN : Hid (costN ks k = (kAt ks k).1) := by show _ = _; rw [costN_at (by omega)]; simp
        clear hklt
        generalize kAt ks k = x at *
        go_wp2
        go_loopw [8, 9, 10] (fun m q i wr => ∃ j : Nat, j ≤ 8 ∧ i = .int .i64 j ∧ m = .int .i64 (x.2 % 2 ^ j) ∧ q = .int .i64 (2 ^ j) ∧ Hid (TabV wr (.pointer (some ⟨B, 0, none⟩)) ks cl) ∧ Below w.heap.size w wr) (fun _ _ i _ => 8 - (intOf i).toNat)
        case atStart => exact ⟨0, by omega, rfl, by simp, by simp, T, hB⟩
        case round =>
          clear T hB
          obtain ⟨j, hj8, rfl, rfl, rfl, T, hB⟩ := hrel
          by_cases hj : j < 8
          · obtain ⟨s1, s2, s3, s4, s5, s6⟩ := bits_step hwk.1 hwk.2 hj
            have HMj := HM.out j hj
            have S1 : Hid (_ = _) := s1
            have S2 : Hid (_ = _) := s2
            have HB : Hid (_ = _) := HMj
            clear s1 s2 HMj
            generalize hq : (2 : Int) ^ j = q at *
            generalize hm : x.2 % q = m at *
            go_wp2_with fail
            refine (may_any T.out j k).mono ?_
            rintro e w3 ⟨rfl, hb3⟩
            have T3 : Hid (TabV w3 (.pointer (some ⟨B, 0, none⟩)) ks cl) := T.out.below hb3
            have hB3 := below_step hB hb3 (Nat.le_refl _)
            clear T hB hb3
            rw [HB.out]
            cases hbit : bitB x.2 j with
            | true =>
              rw [hbit] at S1
              clear hbit
              go_wp2
              go_roundw
              case rel => exact ⟨j + 1, by omega, by go_num, by rw [S1.out]; rfl, by rw [S2.out], T3, hB3⟩
              case measure => simp [intOf]; omega
            | false =>
              rw [hbit] at S1
              clear hbit
              go_wp2
              go_roundw
              case rel => exact ⟨j + 1, by omega, by go_num, by rw [S1.out]; simp, by rw [S2.out], T3, hB3⟩
              case measure => simp [intOf]; omega
          · obtain rfl : j = 8 := by omega
            have hmm : x.2 % 2 ^ 8 = x.2 := by omega
            rw [hmm]
            clear hmm
            have hc0 := (hB.cell (p := ⟨b, off + k * 2, none⟩) hbw).trans HCk.out.1
            have hc1 := (hB.cell (p := ⟨b, off + k * 2 + 1, none⟩) hbw).trans HCk.out.2
            have hbr : b < wr.heap.size := Nat.lt_of_lt_of_le hbw hB.size
            have g0 := Grow.cell hbr hc0
            have g1 := Grow.cell hbr hc1
            have gn := Grow.ne wr
            have HCo : Hid (∀ g : Grow wr, Calls Try.prog 14 #[.pointer (some ⟨B, 0, none⟩), .int .i64 k] g.w fun e w' => e = .returned (.int .i64 x.1) ∧ Below g.w.heap.size g.w w') :=
              fun g => (cost_any (T.out.below g.h) k).mono (fun e w' h => ⟨by rw [← HCN.out]; exact h.1, by rw [h.2]; exact Below.refl _ _⟩)
            go_wp2
            refine wp_region_grow (by kernel_rfl) (by kernel_rfl) ?_
            repeat (go_big_quiet_step ((go_at_call 14; exact grow_call (HCo.out _))))
            refine wpQuiet_nil ?_
            rintro w4 ⟨⟨_, hb4⟩, rfl⟩
            clear g0 g1 gn HCo
            go_wp2
            go_roundw
            case rel => exact ⟨k + 1, by omega, by go_num, T.out.below hb4, below_step hB hb4 (Nat.le_refl _)⟩
            case measure => simp [intOf]; omega
      · obtain rfl : k = n := by omega
        go_wp2_with fail
        refine (HN.out ▸ kinds_any T.out).mono ?_
        rintro e w3 ⟨rfl, rfl⟩
        go_wp2_with fail
        refine (classes_any T.out).mono ?_
        rintro e w3 ⟨rfl, rfl⟩
        go_wp2
        go_ret
        exact ⟨ret_of (congrArg Value.bool (by simp)), hB⟩
end Go.Proofs.Ytdeoajoekilegaa
