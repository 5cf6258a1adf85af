/- The document's Right; the statements' helper same. -/
import Derived.Test.YtcflbekjiohfnaaTerrRef
namespace Go.Proofs.Ytcflbekjiohfnaa
open Go.RowKit
set_option linter.unusedVariables false

theorem okK_no {x : Kd} {cl : Int} (h : ¬ (1 ≤ x.1 ∧ x.1 ≤ 255)) : okK cl x = false := by
  unfold okK
  by_cases h1 : 1 ≤ x.1
  · have h2 : decide (x.1 ≤ 255) = false := by simp; omega
    rw [h2]; simp
  · have h2 : decide (1 ≤ x.1) = false := by simpa using h1
    rw [h2]; simp
theorem okK_yes {x : Kd} {cl : Int} (hw : 0 ≤ x.2 ∧ x.2 < 256) (h2 : 1 ≤ cl) (h3 : cl ≤ 8) (h : 1 ≤ x.1 ∧ x.1 ≤ 255) : okK cl x = true ↔ ∀ c : Int, cl ≤ c → c < 8 → bitB x.2 c = false := by
  rw [← mask_bits hw.1 hw.2 (by omega) h3]
  unfold okK
  simp [h.1, h.2]
theorem okT_no {ks : List Kd} {cl : Int} {k : Nat} (hlt : k < ks.length) (h : okK cl (kAt ks k) = false) : okT ks cl = false := by
  cases hz : okT ks cl with
  | false => rfl
  | true =>
    have := (List.all_eq_true.1 (okT_iff.1 hz).2.2.2.2) _ (kAt_mem hlt)
    rw [h] at this; cases this
theorem okT_out {ks : List Kd} {cl : Int} (h : ¬ (1 ≤ ks.length ∧ ks.length ≤ 16 ∧ 1 ≤ cl ∧ cl ≤ 8)) : okT ks cl = false := by
  cases hz : okT ks cl with
  | false => rfl
  | true => have := okT_iff.1 hz; exact absurd ⟨this.1, this.2.1, this.2.2.1, this.2.2.2.1⟩ h

set_option maxHeartbeats 400000 in
theorem refRight_out (ao : Option Addr) (cap n : Nat) (cl : Int) (w : World) (h : ¬ (1 ≤ n ∧ n ≤ 16 ∧ 1 ≤ cl ∧ cl ≤ 8)) : Calls Try.prog 18 #[.slice ao n cap, .int .i64 cl] w fun e w' => e = .returned (.bool false) ∧ w' = w := by
  by_cases c1 : n = 0
  · go_enter Try.func18, Try.ntmps18
    go_wp2
    go_ret
    exact ⟨rfl, rfl⟩
  · by_cases c2 : 16 < n
    · go_enter Try.func18, Try.ntmps18
      go_wp2
      go_ret
      exact ⟨rfl, rfl⟩
    · by_cases c3 : cl < 1
      · go_enter Try.func18, Try.ntmps18
        go_wp2
        go_ret
        exact ⟨rfl, rfl⟩
      · have c4 : 8 < cl := by omega
        go_enter Try.func18, Try.ntmps18
        go_wp2
        go_ret
        exact ⟨rfl, rfl⟩

set_option maxHeartbeats 1600000 in
theorem refRight_in (b off cap n : Nat) (ks : List Kd) (cl : Int) (w : World) (hn : Hid (n = ks.length)) (hk : ∀ i, i < n → w.cell? ⟨b, off + i * 2, none⟩ = some (.int .i64 (kAt ks i).1) ∧ w.cell? ⟨b, off + i * 2 + 1, none⟩ = some (.int .u8 (kAt ks i).2)) (hw : Wk ks)
    (h0 : 1 ≤ n) (h1 : n ≤ 16) (h2 : 1 ≤ cl) (h3 : cl ≤ 8) : Calls Try.prog 18 #[.slice (some ⟨b, off, none⟩) n cap, .int .i64 cl] w fun e w' => e = .returned (.bool (okT ks cl)) ∧ w' = w := by
  have e0 : ((n : Int) == 0) = false := by simp; omega
  have e0' : ¬ n = 0 := by omega
  go_enter Try.func18, Try.ntmps18
  go_wp2
  go_loopw [5] (fun i wr => ∃ k : Nat, k ≤ n ∧ i = .int .i64 k ∧ (ks.take k).all (okK cl) = true ∧ wr = w) (fun i _ => n - (intOf i).toNat)
  case atStart => exact ⟨0, Nat.zero_le _, rfl, by simp, rfl⟩
  case round =>
    obtain ⟨k, hkl, rfl, hall, rfl⟩ := hrel
    have HA : Hid ((ks.take k).all (okK cl) = true) := hall
    clear hall
    by_cases hlt : k < n
    · obtain ⟨hc0, hc1⟩ := hk k hlt
      have hwk := hw.at (i := k) (by rw [← hn.out]; exact hlt)
      have HS : Hid (_ = _) := all_snoc cl (i := k) (ks := ks) (by rw [← hn.out]; exact hlt)
      have HN : Hid (okK cl (kAt ks k) = false → okT ks cl = false) := okT_no (by rw [← hn.out]; exact hlt)
      clear hk
      generalize hx : kAt ks k = x at *
      clear hx
      by_cases e1 : x.1 < 1
      · go_wp2
        go_ret
        exact ⟨ret_of (congrArg Value.bool (HN.out (okK_no (by omega))).symm), rfl⟩
      by_cases e2 : 255 < x.1
      · go_wp2
        go_ret
        exact ⟨ret_of (congrArg Value.bool (HN.out (okK_no (by omega))).symm), rfl⟩
      go_wp2
      go_loopw [6] (fun i wr' => ∃ j : Int, cl ≤ j ∧ j ≤ 8 ∧ i = .int .i64 j ∧ (∀ c : Int, cl ≤ c → c < j → bitB x.2 c = false) ∧ wr' = wr) (fun i _ => 8 - (intOf i).toNat)
      case atStart => exact ⟨cl, by omega, by omega, rfl, fun c _ _ => by omega, rfl⟩
      case round =>
        obtain ⟨j, hj1, hj2, rfl, hbits, rfl⟩ := hrel
        have HB : Hid (∀ c : Int, cl ≤ c → c < j → bitB x.2 c = false) := hbits
        clear hbits
        by_cases hj : j < 8
        · go_wp2_with fail
          refine (bit_any x.2 j _ hwk.1 hwk.2 (by omega) (by omega)).mono ?_
          rintro e w1 ⟨rfl, rfl⟩
          cases hb : bitB x.2 j with
          | true =>
            have HO : Hid (bitB x.2 j = true) := hb
            clear hb
            go_wp2
            go_ret
            refine ⟨ret_of (congrArg Value.bool (HN.out ?_).symm), rfl⟩
            cases hz : okK cl x with
            | false => rfl
            | true =>
              have := (okK_yes hwk h2 h3 (by omega)).1 hz j hj1 hj
              rw [HO.out] at this; cases this
          | false =>
            have HO : Hid (bitB x.2 j = false) := hb
            clear hb
            go_wp2
            go_roundw
            case rel =>
              refine ⟨j + 1, by omega, by omega, by go_num, fun c h4 h5 => ?_, by first | trivial | rfl⟩
              by_cases h6 : c = j
              · rw [h6]; exact HO.out
              · exact HB.out c h4 (by omega)
            case measure => simp [intOf]; omega
        · go_wp2
          go_roundw
          case rel => exact ⟨k + 1, by omega, by go_num, by rw [HS.out, HA.out, (okK_yes hwk h2 h3 (by omega)).2 (fun c h4 h5 => HB.out c h4 (by omega))]; rfl, by first | trivial | rfl⟩
          case measure => simp [intOf]; omega
    · have hke : k = ks.length := by have := hn.out; omega
      go_wp2
      go_ret
      refine ⟨ret_of (congrArg Value.bool (show true = okT ks cl from (okT_iff.2 ⟨by rw [← hn.out]; exact h0, by rw [← hn.out]; exact h1, h2, h3, ?_⟩).symm)), rfl⟩
      have := HA.out
      rwa [hke, List.take_length] at this

theorem refRight_any (ao : Option Addr) (cap : Nat) (ks : List Kd) (cl : Int) (w : World) (hk : KAt w ao ks) (hw : Wk ks) : Calls Try.prog 18 #[.slice ao ks.length cap, .int .i64 cl] w fun e w' => e = .returned (.bool (okT ks cl)) ∧ w' = w := by
  by_cases h : 1 ≤ ks.length ∧ ks.length ≤ 16 ∧ 1 ≤ cl ∧ cl ≤ 8
  · rcases hk with rfl | ⟨b, off, rfl, hk⟩
    · simp at h
    · exact refRight_in b off cap ks.length ks cl w rfl hk hw h.1 h.2.1 h.2.2.1 h.2.2.2
  · rw [okT_out h]
    exact refRight_out ao cap ks.length cl w h

end Go.Proofs.Ytcflbekjiohfnaa
