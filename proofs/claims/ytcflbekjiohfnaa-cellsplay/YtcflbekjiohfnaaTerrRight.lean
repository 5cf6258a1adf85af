/- Contracts of terrain.right, leastOf: loops over a slice of kinds. -/
import Derived.Test.YtcflbekjiohfnaaTerrWorld
namespace Go.Proofs.Ytcflbekjiohfnaa
open Go.RowKit
set_option linter.unusedVariables false

set_option maxHeartbeats 800000 in
theorem right_loop (b off cap : Nat) (ks : List Kd) (cl : Int) (w : World) (hk : ∀ i, i < ks.length → w.cell? ⟨b, off + i * 2, none⟩ = some (.int .i64 (kAt ks i).1) ∧ w.cell? ⟨b, off + i * 2 + 1, none⟩ = some (.int .u8 (kAt ks i).2)) (hw : Wk ks)
    (h0 : 1 ≤ ks.length) (h1 : ks.length ≤ 16) (h2 : 1 ≤ cl) (h3 : cl ≤ 8) : Calls Try.prog 49 #[.slice (some ⟨b, off, none⟩) ks.length cap, .int .i64 cl] w fun e w' => e = .returned (.bool (okT ks cl)) ∧ Below w.heap.size w w' := by
  have hb : b < w.heap.size := cell_lt (hk 0 h0).1
  go_enter Try.func49, Try.ntmps49
  go_wp2
  go_loopw [25] (fun i wr => ∃ k : Nat, k ≤ ks.length ∧ i = .int .i64 k ∧ (ks.take k).all (okK cl) = true ∧ Below w.heap.size w wr) (fun i _ => ks.length - (intOf i).toNat)
  case atStart => exact ⟨0, Nat.zero_le _, rfl, by simp, Below.refl _ _⟩
  case round =>
    obtain ⟨k, hkl, rfl, hall, hB⟩ := hrel
    have HA : Hid ((ks.take k).all (okK cl) = true) := hall
    clear hall
    have hB' := hB.size
    by_cases hlt : k < ks.length
    · have hc0 := (hB.cell (p := ⟨b, off + k * 2, none⟩) hb).trans (hk k hlt).1
      have hc1 := (hB.cell (p := ⟨b, off + k * 2 + 1, none⟩) hb).trans (hk k hlt).2
      have hwk := hw.at hlt
      have hst := all_snoc cl hlt
      have HS : Hid (_ = _) := hst
      clear hst
      generalize hx : kAt ks k = x at *
      go_wp2_with fail
      refine (rightKind_any x cl _ h2 h3 hwk).mono ?_
      rintro e w1 ⟨rfl, hb1⟩
      have hB1 := below_step (below_new hB (Nat.le_refl _) _) hb1 (Nat.le_refl _)
      cases ho : okK cl x with
      | true =>
        have HO : Hid (okK cl x = true) := ho
        clear ho
        go_wp2
        go_roundw
        case rel => exact ⟨k + 1, by omega, by go_num, by rw [HS.out, HA.out, HO.out]; rfl, hB1⟩
        case measure => simp [intOf]; omega
      | false =>
        have HO : Hid (okK cl x = false) := ho
        clear ho
        go_wp2
        go_ret
        refine ⟨ret_of (congrArg Value.bool (show false = okT ks cl from ?_)), hB1⟩
        cases hz : okT ks cl with
        | false => rfl
        | true =>
          have := (List.all_eq_true.1 (okT_iff.1 hz).2.2.2.2) x (by rw [← hx]; exact kAt_mem hlt)
          rw [HO.out] at this; cases this
    · have hke : k = ks.length := by omega
      go_wp2
      go_ret
      refine ⟨ret_of (congrArg Value.bool (show true = okT ks cl from (okT_iff.2 ⟨h0, h1, h2, h3, ?_⟩).symm)), hB⟩
      have := HA.out
      rwa [hke, List.take_length] at this

set_option maxHeartbeats 800000 in
theorem right_out (ao : Option Addr) (cap n : Nat) (cl : Int) (w : World) (h : ¬ (1 ≤ n ∧ n ≤ 16 ∧ 1 ≤ cl ∧ cl ≤ 8)) :
    Calls Try.prog 49 #[.slice ao n cap, .int .i64 cl] w fun e w' => e = .returned (.bool false) ∧ Below w.heap.size w w' := by
  by_cases c1 : n < 1
  · go_enter Try.func49, Try.ntmps49
    go_wp2
    go_ret
    exact ⟨rfl, Below.refl _ _⟩
  · by_cases c2 : 16 < n
    · go_enter Try.func49, Try.ntmps49
      go_wp2
      go_ret
      exact ⟨rfl, Below.refl _ _⟩
    · by_cases c3 : cl < 1
      · go_enter Try.func49, Try.ntmps49
        go_wp2
        go_ret
        exact ⟨rfl, Below.refl _ _⟩
      · have c4 : 8 < cl := by omega
        go_enter Try.func49, Try.ntmps49
        go_wp2
        go_ret
        exact ⟨rfl, Below.refl _ _⟩

theorem right_no (ao : Option Addr) (cap : Nat) (ks : List Kd) (cl : Int) (w : World) (h : ¬ (1 ≤ ks.length ∧ ks.length ≤ 16 ∧ 1 ≤ cl ∧ cl ≤ 8)) :
    Calls Try.prog 49 #[.slice ao ks.length cap, .int .i64 cl] w fun e w' => e = .returned (.bool (okT ks cl)) ∧ Below w.heap.size w w' := by
  have hz : okT ks cl = false := by
    cases hz : okT ks cl with
    | false => rfl
    | true => have := okT_iff.1 hz; exact absurd ⟨this.1, this.2.1, this.2.2.1, this.2.2.2.1⟩ h
  rw [hz]
  exact right_out ao cap ks.length cl w h

theorem right_any (ao : Option Addr) (cap : Nat) (ks : List Kd) (cl : Int) (w : World) (hk : KAt w ao ks) (hw : Wk ks) :
    Calls Try.prog 49 #[.slice ao ks.length cap, .int .i64 cl] w fun e w' => e = .returned (.bool (okT ks cl)) ∧ Below w.heap.size w w' := by
  by_cases h : 1 ≤ ks.length ∧ ks.length ≤ 16 ∧ 1 ≤ cl ∧ cl ≤ 8
  · rcases hk with rfl | ⟨b, off, rfl, hk⟩
    · simp at h
    · exact right_loop b off cap ks cl w hk hw h.1 h.2.1 h.2.2.1 h.2.2.2
  · exact right_no ao cap ks cl w h

set_option maxHeartbeats 800000 in
theorem leastOf_any (b off cap : Nat) (ks : List Kd) (c : Int) (w : World) (hk : ∀ i, i < ks.length → w.cell? ⟨b, off + i * 2, none⟩ = some (.int .i64 (kAt ks i).1) ∧ w.cell? ⟨b, off + i * 2 + 1, none⟩ = some (.int .u8 (kAt ks i).2)) (hw : Wk ks)
    (h0 : 1 ≤ ks.length) (h1 : ks.length ≤ 16) (h2 : 0 ≤ c) (h3 : c < 8) : Calls Try.prog 51 #[.slice (some ⟨b, off, none⟩) ks.length cap, .int .i64 c] w fun e w' => e = .returned (.int .i64 (leastL ks c)) ∧ Below w.heap.size w w' := by
  have hb : b < w.heap.size := cell_lt (hk 0 h0).1
  go_enter Try.func51, Try.ntmps51
  go_wp2
  go_loopw [5, 10] (fun l i wr => ∃ k : Nat, k ≤ ks.length ∧ i = .int .i64 k ∧ l = .int .i64 (leastL (ks.take k) c) ∧ Below w.heap.size w wr) (fun _ i _ => ks.length - (intOf i).toNat)
  case atStart => exact ⟨0, Nat.zero_le _, rfl, by simp [leastL], Below.refl _ _⟩
  case round =>
    obtain ⟨k, hkl, rfl, rfl, hB⟩ := hrel
    have hB' := hB.size
    by_cases hlt : k < ks.length
    · have hc0 := (hB.cell (p := ⟨b, off + k * 2, none⟩) hb).trans (hk k hlt).1
      have hc1 := (hB.cell (p := ⟨b, off + k * 2 + 1, none⟩) hb).trans (hk k hlt).2
      have hwk := hw.at hlt
      have HS : Hid (leastL (ks.take (k + 1)) c = pickN c (leastL (ks.take k) c) (kAt ks k)) := leastL_snoc c hlt
      generalize hx : kAt ks k = x at *
      generalize hn : leastL (ks.take k) c = n at *
      clear hx hn
      go_wp2_with fail
      refine (stands_any x c _ h2 h3 hwk).mono ?_
      rintro e w1 ⟨rfl, hb1⟩
      have hB1 := below_step (below_new hB (Nat.le_refl _) _) hb1 (Nat.le_refl _)
      obtain ⟨x0, x1⟩ := ((Blk.new wr 74 #[.int .i64 x.1, .int .u8 x.2]).below hb1).cells2
      cases ho : bitB x.2 c with
      | true =>
        by_cases e1 : n = 0
        · have HO : Hid (pickN c n x = x.1) := by show pickN c n x = x.1; unfold pickN; simp [ho, e1]
          clear ho
          go_wp2
          go_roundw
          case rel => exact ⟨k + 1, by omega, by go_num, by rw [HS.out, HO.out], hB1⟩
          case measure => simp [intOf]; omega
        · have e1' : (n == 0) = false := by simpa using e1
          by_cases e2 : x.1 < n
          · have HO : Hid (pickN c n x = x.1) := by show pickN c n x = x.1; unfold pickN; simp [ho, e2]
            clear ho
            go_wp2
            go_roundw
            case rel => exact ⟨k + 1, by omega, by go_num, by rw [HS.out, HO.out], hB1⟩
            case measure => simp [intOf]; omega
          · have e2' : decide (x.1 < n) = false := by simpa using e2
            have HO : Hid (pickN c n x = n) := by show pickN c n x = n; unfold pickN; simp [ho, e1, e2]
            clear ho
            go_wp2
            go_roundw
            case rel => exact ⟨k + 1, by omega, by go_num, by rw [HS.out, HO.out], hB1⟩
            case measure => simp [intOf]; omega
      | false =>
        have HO : Hid (pickN c n x = n) := by show pickN c n x = n; unfold pickN; simp [ho]
        clear ho
        go_wp2
        go_roundw
        case rel => exact ⟨k + 1, by omega, by go_num, by rw [HS.out, HO.out], hB1⟩
        case measure => simp [intOf]; omega
    · have hke : k = ks.length := by omega
      go_wp2
      go_ret
      exact ⟨ret_of (by rw [hke, List.take_length]; rfl), hB⟩
end Go.Proofs.Ytcflbekjiohfnaa
