/- The document's answers of layer 2 (tidewalkref02) and the statements' helper same: what each returns. -/
import Derived.Test.YtcflbekjiohfnaaTerrWorld
namespace Go.Proofs.Ytcflbekjiohfnaa
open Go.RowKit
set_option linter.unusedVariables false

theorem mask_bits {m cl : Int} (h0 : 0 ≤ m) (h1 : m < 256) (h2 : 0 ≤ cl) (h3 : cl ≤ 8) : (m / 2 ^ cl.toNat == 0) = true ↔ ∀ c : Int, cl ≤ c → c < 8 → bitB m c = false := by
  have h : ∀ n : Fin 256, ∀ k : Fin 9, (((n.val : Int) / 2 ^ k.val == 0) = true ↔ ∀ c : Fin 8, k.val ≤ c.val → bitB (n.val : Int) (c.val : Int) = false) := by decide +kernel
  obtain ⟨n, rfl⟩ := Int.eq_ofNat_of_zero_le h0
  obtain ⟨k, rfl⟩ := Int.eq_ofNat_of_zero_le h2
  have := h ⟨n, by omega⟩ ⟨k, by omega⟩
  refine Iff.trans ?_ (this.trans ⟨fun hh c hc hc8 => ?_, fun hh c hc => hh _ (by simp; omega) (by omega)⟩)
  · simp
  · have e : c = ((c.toNat : Nat) : Int) := by omega
    rw [e]
    exact hh ⟨c.toNat, by omega⟩ (by simp; omega)

theorem half_step {m : Int} (k : Nat) (h0 : 0 ≤ m) : m / 2 ^ (k + 1) = m / 2 ^ k / 2 := by
  rw [Int.pow_succ, Int.mul_comm, Int.mul_comm (2 : Int), ← Int.ediv_ediv_of_nonneg (Int.le_of_lt (Int.pow_pos (by decide)))]

set_option maxHeartbeats 400000 in
theorem bit_any (m c : Int) (w : World) (h0 : 0 ≤ m) (h1 : m < 256) (h2 : 0 ≤ c) (h3 : c ≤ 8) : Calls Try.prog 40 #[.int .u8 m, .int .i64 c] w fun e w' => e = .returned (.bool (bitB m c)) ∧ w' = w := by
  go_enter Try.func40, Try.ntmps40
  go_wp2
  go_loopw [5, 6] (fun n i wr => ∃ k : Nat, (k : Int) ≤ c ∧ i = .int .i64 k ∧ n = .int .i64 (m / 2 ^ k) ∧ wr = w) (fun _ i _ => c.toNat - (intOf i).toNat)
  case atStart => exact ⟨0, by omega, rfl, by simp, rfl⟩
  case round =>
    obtain ⟨k, hk, rfl, rfl, rfl⟩ := hrel
    have hs := half_step k h0
    have hbd := shr_bd (k := k) h0 h1
    simp only [Int.toNat_natCast] at hbd
    have HS : Hid (_ = _) := hs
    clear hs
    generalize hn : m / 2 ^ k = n at *
    by_cases hlt : (k : Int) < c
    · go_wp2
      go_roundw
      case rel => exact ⟨k + 1, by omega, by go_num, by rw [HS.out]; try (congr 1; omega), by first | trivial | rfl⟩
      case measure => simp [intOf]; omega
    · go_wp2
      go_ret
      have hke : k = c.toNat := by omega
      exact ⟨ret_of (congrArg Value.bool (show _ = bitB m c from by unfold bitB; rw [← hke, hn]; try (congr 1; omega))), rfl⟩

set_option maxHeartbeats 400000 in
theorem refMay_any (ao : Option Addr) (cap : Nat) (ks : List Kd) (cl c k : Int) (w : World) (hk : KAt w ao ks) (hw : Wk ks) (hc : cl ≤ 8) (hn : ks.length ≤ 16) : Calls Try.prog 44 #[.slice ao ks.length cap, .int .i64 cl, .int .i64 c, .int .i64 k] w fun e w' => e = .returned (.bool (mayB ks cl c k)) ∧ w' = w := by
  by_cases c1 : c < 0
  · have hz : mayB ks cl c k = false := by unfold mayB hasN; rw [show decide (0 ≤ c) = false from by simpa using c1]; rfl
    rw [hz]; clear hz
    go_enter Try.func44, Try.ntmps44
    go_wp2
    go_ret
    exact ⟨rfl, rfl⟩
  by_cases c2 : cl ≤ c
  · have hz : mayB ks cl c k = false := by unfold mayB hasN; rw [show decide (c < cl) = false from by simpa using c2]; simp
    rw [hz]; clear hz
    go_enter Try.func44, Try.ntmps44
    go_wp2
    go_ret
    exact ⟨rfl, rfl⟩
  by_cases c3 : k < 0
  · have hz : mayB ks cl c k = false := by unfold mayB hasN; rw [show decide (0 ≤ k) = false from by simpa using c3]; simp
    rw [hz]; clear hz
    go_enter Try.func44, Try.ntmps44
    go_wp2
    go_ret
    exact ⟨rfl, rfl⟩
  by_cases c4 : (ks.length : Int) ≤ k
  · have hz : mayB ks cl c k = false := by unfold mayB hasN; rw [show decide (k < ks.length) = false from by simpa using c4]; simp
    rw [hz]; clear hz
    go_enter Try.func44, Try.ntmps44
    go_wp2
    go_ret
    exact ⟨rfl, rfl⟩
  rcases hk with rfl | ⟨b, off, rfl, hk⟩
  · simp at c4; omega
  have hz : mayB ks cl c k = bitB (kAt ks k.toNat).2 c := by unfold mayB; rw [hasN_iff.2 (by omega), hasN_iff.2 (by omega)]; rfl
  rw [hz]; clear hz
  have hcm := (hk k.toNat (by omega)).2
  have hwk := hw.at (i := k.toNat) (by omega)
  generalize kAt ks k.toNat = x at *
  clear hk hw
  go_enter Try.func44, Try.ntmps44
  go_wp2_with fail
  refine (bit_any x.2 c w hwk.1 hwk.2 (by omega) (by omega)).mono ?_
  rintro e w1 ⟨rfl, rfl⟩
  go_wp2
  go_ret
  exact ⟨rfl, rfl⟩

theorem pick_may {ks : List Kd} {cl c : Int} {k : Nat} (hk : k < ks.length) (hc : hasN cl c = true) : mayB ks cl c k = bitB (kAt ks k).2 c := by
  unfold mayB; rw [hc, hasN_iff.2 (by omega)]; rfl

end Go.Proofs.Ytcflbekjiohfnaa
