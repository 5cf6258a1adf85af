/- The document's answers of layer 2 (tidewalkref02) and the statements' helper same: what each returns. -/
import Derived.Test.YtdeoajoekilegaaTerrWorld
namespace Go.Proofs.Ytdeoajoekilegaa
open Go.RowKit
set_option linter.unusedVariables false

theorem mask_bits {m cl : Int} (h0 : 0 ≤ m) (h1 : m < 256) (h2 : 0 ≤ cl) (h3 : cl ≤ 8) : (m / 2 ^ cl.toNat == 0) = true ↔ ∀ c : Int, cl ≤ c → c < 8 → bitB m c = false := by
  have h : ∀ n : Fin 256, ∀ k : Fin 9, (((n.val : Int) / 2 ^ k.val == 0) = true ↔ ∀ c : Fin 8, k.val ≤ c.val → bitB (n.val : Int) (c.val : Int) = false) := by decide +kernel
  obtain ⟨n, rfl⟩ := Int.eq_ofNat_of_zero_le h0
  obtain ⟨k, rfl⟩ := Int.eq_ofNat_of_zero_le h2
  have := h ⟨n, by omega⟩ ⟨k, by omega⟩
  refine Iff.trans ?_ (this.trans ⟨fun hh c hc hc8 => ?_, fun hh c hc => hh _ (by simp; omega) (by omega)⟩)
  · simp
  · have e : c = ((c.toNat : Nat) : Int) := by omega
    rw [e]
    exact hh ⟨c.toNat, by omega⟩ (by simp; omega)

theorem half_step {m : Int} (k : Nat) (h0 : 0 ≤ m) : m / 2 ^ (k + 1) = m / 2 ^ k / 2 := by
  rw [Int.pow_succ, Int.mul_comm, Int.mul_comm (2 : Int), ← Int.ediv_ediv_of_nonneg (Int.le_of_lt (Int.pow_pos (by decide)))]

set_option maxHeartbeats 400000 in
theorem bit_any (m c : Int) (w : World) (h0 : 0 ≤ m) (h1 : m < 256) (h2 : 0 ≤ c) (h3 : c ≤ 8) : Calls Try.prog 28 #[.int .u8 m, .int .i64 c] w fun e w' => e = .returned (.bool (bitB m c)) ∧ w' = w := by
  go_enter Try.func28, Try.ntmps28
  go_wp2
  go_loopw [5, 6] (fun n i wr => ∃ k : Nat, (k : Int) ≤ c ∧ i = .int .i64 k ∧ n = .int .i64 (m / 2 ^ k) ∧ wr = w) (fun _ i _ => c.toNat - (intOf i).toNat)
  case atStart => exact ⟨0, by omega, rfl, by simp, rfl⟩
  case round =>
    obtain ⟨k, hk, rfl, rfl, rfl⟩ := hrel
    have hs := half_step k h0
    have hbd := shr_bd (k := k) h0 h1
    simp only [Int.toNat_natCast] at hbd
    have HS : Hid (_ = _) := hs
    clear hs
    generalize hn : m / 2 ^ k = n at *
    by_cases hlt : (k : Int) < c
    · go_wp2
      go_roundw
      case rel => exact ⟨k + 1, by omega, by go_num, by rw [HS.out]; try (congr 1; omega), by first | trivial | rfl⟩
      case measure => simp [intOf]; omega
    · go_wp2
      go_ret
      have hke : k = c.toNat := by omega
      exact ⟨ret_of (congrArg Value.bool (show _ = bitB m c from by unfold bitB; rw [← hke, hn]; try (congr 1; omega))), rfl⟩

set_option maxHeartbeats 400000 in
theorem refMay_any (ao : Option Addr) (cap : Nat) (ks : List Kd) (cl c k : Int) (w : World) (hk : KAt w ao ks) (hw : Wk ks) (hc : cl ≤ 8) (hn : ks.length ≤ 16) : Calls Try.prog 20 #[.slice ao ks.length cap, .int .i64 cl, .int .i64 c, .int .i64 k] w fun e w' => e = .returned (.bool (mayB ks cl c k)) ∧ w' = w := by
  by_cases c1 : c < 0
  · have hz : mayB ks cl c k = false := by unfold mayB hasN; rw [show decide (0 ≤ c) = false from by simpa using c1]; rfl
    rw [hz]; clear hz
    go_enter Try.func20, Try.ntmps20
    go_wp2
    go_ret
    exact ⟨rfl, rfl⟩
  by_cases c2 : cl ≤ c
  · have hz : mayB ks cl c k = false := by unfold mayB hasN; rw [show decide (c < cl) = false from by simpa using c2]; simp
    rw [hz]; clear hz
    go_enter Try.func20, Try.ntmps20
    go_wp2
    go_ret
    exact ⟨rfl, rfl⟩
  by_cases c3 : k < 0
  · have hz : mayB ks cl c k = false := by unfold mayB hasN; rw [show decide (0 ≤ k) = false from by simpa using c3]; simp
    rw [hz]; clear hz
    go_enter Try.func20, Try.ntmps20
    go_wp2
    go_ret
    exact ⟨rfl, rfl⟩
  by_cases c4 : (ks.length : Int) ≤ k
  · have hz : mayB ks cl c k = false := by unfold mayB hasN; rw [show decide (k < ks.length) = false from by simpa using c4]; simp
    rw [hz]; clear hz
    go_enter Try.func20, Try.ntmps20
    go_wp2
    go_ret
    exact ⟨rfl, rfl⟩
  rcases hk with rfl | ⟨b, off, rfl, hk⟩
  · simp at c4; omega
  have hz : mayB ks cl c k = bitB (kAt ks k.toNat).2 c := by unfold mayB; rw [hasN_iff.2 (by omega), hasN_iff.2 (by omega)]; rfl
  rw [hz]; clear hz
  have hcm := (hk k.toNat (by omega)).2
  have hwk := hw.at (i := k.toNat) (by omega)
  generalize kAt ks k.toNat = x at *
  clear hk hw
  go_enter Try.func20, Try.ntmps20
  go_wp2_with fail
  refine (bit_any x.2 c w hwk.1 hwk.2 (by omega) (by omega)).mono ?_
  rintro e w1 ⟨rfl, rfl⟩
  go_wp2
  go_ret
  exact ⟨rfl, rfl⟩

theorem pick_may {ks : List Kd} {cl c : Int} {k : Nat} (hk : k < ks.length) (hc : hasN cl c = true) : mayB ks cl c k = bitB (kAt ks k).2 c := by
  unfold mayB; rw [hc, hasN_iff.2 (by omega)]; rfl

set_option maxHeartbeats 800000 in
theorem refLeast_any (ao : Option Addr) (cap : Nat) (ks : List Kd) (cl c : Int) (w : World) (hk : KAt w ao ks) (hw : Wk ks) (hc : cl ≤ 8) (hn : ks.length ≤ 16) : Calls Try.prog 21 #[.slice ao ks.length cap, .int .i64 cl, .int .i64 c] w fun e w' => e = .returned (.int .i64 (leastN ks cl c)) ∧ w' = w := by
  have HM : Hid (∀ k : Int, Calls Try.prog 20 #[.slice ao ks.length cap, .int .i64 cl, .int .i64 c, .int .i64 k] w fun e w' => e = .returned (.bool (mayB ks cl c k)) ∧ w' = w) := fun k => refMay_any ao cap ks cl c k w hk hw hc hn
  rcases hk with rfl | ⟨b, off, rfl, hk⟩
  · have hz : leastN [] cl c = 0 := by unfold leastN; split <;> rfl
    rw [hz]; clear hz
    go_enter Try.func21, Try.ntmps21
    go_wp2
    refine wp_loop_rounds 1 ?_
    rw [rounds_succ]
    go_wp2
    go_ret
    exact ⟨rfl, rfl⟩
  go_enter Try.func21, Try.ntmps21
  go_wp2
  go_loopw [7, 8] (fun l i wr => ∃ k : Nat, k ≤ ks.length ∧ i = .int .i64 k ∧ l = .int .i64 (leastN (ks.take k) cl c) ∧ wr = w) (fun _ i _ => ks.length - (intOf i).toNat)
  case atStart => exact ⟨0, Nat.zero_le _, rfl, by unfold leastN; split <;> rfl, rfl⟩
  case round =>
    obtain ⟨k, hkl, rfl, rfl, rfl⟩ := hrel
    by_cases hlt : k < ks.length
    · have hc0 := (hk k hlt).1
      have HS : Hid (leastL (ks.take (k + 1)) c = pickN c (leastL (ks.take k) c) (kAt ks k)) := leastL_snoc c hlt
      go_wp2_with fail
      refine (HM.out k).mono ?_
      rintro e w1 ⟨rfl, rfl⟩
      cases hh : hasN cl c with
      | false =>
        rw [show mayB ks cl c k = false from by unfold mayB; rw [hh]; rfl]
        have HO : Hid (leastN (ks.take (k + 1)) cl c = leastN (ks.take k) cl c) := by show _ = _; unfold leastN; rw [hh]; rfl
        clear hh
        go_wp2
        go_roundw
        case rel => exact ⟨k + 1, by omega, by go_num, by rw [HO.out], by first | trivial | rfl⟩
        case measure => simp [intOf]; omega
      | true =>
        have hl : ∀ l, leastN l cl c = leastL l c := fun l => by unfold leastN; rw [hh]; rfl
        simp only [pick_may hlt hh, hl]
        have HL : Hid (∀ l, leastN l cl c = leastL l c) := hl
        clear hl hh hk
        generalize kAt ks k = x at *
        generalize hnn : leastL (ks.take k) c = n at *
        cases ho : bitB x.2 c with
        | true =>
          by_cases e1 : n = 0
          · have HO : Hid (pickN c n x = x.1) := by show pickN c n x = x.1; unfold pickN; simp [ho, e1]
            clear ho
            go_wp2
            go_roundw
            case rel => exact ⟨k + 1, by omega, by go_num, by rw [HL.out, HS.out, HO.out], by first | trivial | rfl⟩
            case measure => simp [intOf]; omega
          · have e1' : (n == 0) = false := by simpa using e1
            by_cases e2 : x.1 < n
            · have HO : Hid (pickN c n x = x.1) := by show pickN c n x = x.1; unfold pickN; simp [ho, e2]
              clear ho
              go_wp2
              go_roundw
              case rel => exact ⟨k + 1, by omega, by go_num, by rw [HL.out, HS.out, HO.out], by first | trivial | rfl⟩
              case measure => simp [intOf]; omega
            · have e2' : decide (x.1 < n) = false := by simpa using e2
              have HO : Hid (pickN c n x = n) := by show pickN c n x = n; unfold pickN; simp [ho, e1, e2]
              clear ho
              go_wp2
              go_roundw
              case rel => exact ⟨k + 1, by omega, by go_num, by rw [HL.out, HS.out, HO.out], by first | trivial | rfl⟩
              case measure => simp [intOf]; omega
        | false =>
          have HO : Hid (pickN c n x = n) := by show pickN c n x = n; unfold pickN; simp [ho]
          clear ho
          go_wp2
          go_roundw
          case rel => exact ⟨k + 1, by omega, by go_num, by rw [HL.out, HS.out, HO.out], by first | trivial | rfl⟩
          case measure => simp [intOf]; omega
    · have hke : k = ks.length := by omega
      go_wp2
      go_ret
      exact ⟨ret_of (by rw [hke, List.take_length]; rfl), rfl⟩

end Go.Proofs.Ytdeoajoekilegaa
