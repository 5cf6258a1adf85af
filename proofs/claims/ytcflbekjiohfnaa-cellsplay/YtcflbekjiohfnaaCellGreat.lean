/- The statements' helper Great. -/
import Derived.Test.YtcflbekjiohfnaaCellAwake
import Derived.Test.YtcflbekjiohfnaaPlaceRef
namespace Go.Proofs.Ytcflbekjiohfnaa
open Go.RowKit
set_option linter.unusedVariables false

def nAt (ls : List Nat) (i : Nat) : Nat := ls.getD i 0
def sumTo (ls : List Nat) : Nat → Nat
  | 0 => 0
  | k + 1 => sumTo ls k + min (nAt ls k) 2001
theorem sumTo_le (ls : List Nat) : ∀ k, sumTo ls k ≤ k * 2001
  | 0 => Nat.zero_le _
  | k + 1 => by have := sumTo_le ls k; simp only [sumTo]; omega
def greatN (zw zh : Int) (ls : List Nat) : Bool := decide (60 < ls.length) || (decide (2000 < sumTo ls (min ls.length 61)) || decide (900 < Pl.cellsN zw zh))
/-- The lengths of the acts' lists of edits. -/
def LAt (W : World) (ao : Option Addr) (ls : List Nat) : Prop := ls = [] ∨ ∃ b off, ao = some ⟨b, off, none⟩ ∧ ∀ i, i < ls.length → ∃ a c, W.cell? ⟨b, off + i * 7 + 1, none⟩ = some (.slice a (nAt ls i) c)
theorem LAt.below {W W' : World} {ao : Option Addr} {ls : List Nat} (h : LAt W ao ls) (hb : Below W.heap.size W W') : LAt W' ao ls :=
  h.imp id (fun ⟨b, off, e, h⟩ => ⟨b, off, e, fun i hi => by
    obtain ⟨a, c, h1⟩ := h i hi
    exact ⟨a, c, (hb.cell (p := ⟨b, _, none⟩) (cell_lt h1)).trans h1⟩⟩)

set_option maxRecDepth 100000 in
set_option maxHeartbeats 1600000 in
theorem great_any (zw zh : Int) (ao : Option Addr) (cap n : Nat) (ls : List Nat) (w : World) (hn : ls.length = n) (hbig : n ≤ 9000000000000000000) (hl : LAt w ao ls) :
    Calls Try.prog 16 #[Pl.sz zw zh, .slice ao n cap] w fun e w' => e = .returned (.bool (greatN zw zh ls)) ∧ Below w.heap.size w w' := by
  have HL : Hid (LAt w ao ls) := hl
  have HN : Hid (ls.length = n) := hn
  have HG : Hid (greatN zw zh ls = (decide (60 < n) || (decide (2000 < sumTo ls (min n 61)) || decide (900 < Pl.cellsN zw zh)))) := by show _ = _; unfold greatN; rw [hn]
  clear hl hn
  generalize hg : greatN zw zh ls = g at *
  clear hg
  go_enter Try.func16, Try.ntmps16
  go_wp2
  go_loopw [5, 6] (fun s i wr => ∃ (k m : Nat), s = .int .i64 m ∧ i = .int .i64 k ∧ k ≤ n ∧ k ≤ 61 ∧ m ≤ 200000 ∧ Hid (m = sumTo ls k) ∧ wr = w.alloc (.cells #[.int .i64 zw, .int .i64 zh] 26)) (fun _ i _ => 61 - (intOf i).toNat)
  case atStart => exact ⟨0, 0, rfl, rfl, Nat.zero_le _, Nat.zero_le _, Nat.zero_le _, rfl, rfl⟩
  case round =>
    obtain ⟨k, m, rfl, rfl, hkn, hk1, hm, HM, rfl⟩ := hrel
    by_cases hlt : k < n
    · by_cases hk6 : k ≤ 60
      · rcases HL.out with h | ⟨b, off, rfl, hc⟩
        · have := HN.out; rw [h] at this; simp at this; omega
        · obtain ⟨a, c, hc1⟩ := hc k (by rw [HN.out]; exact hlt)
          have hblt := cell_lt hc1
          have HS : Hid (sumTo ls (k + 1) = m + min (nAt ls k) 2001) := by show _ = _; simp only [sumTo]; rw [← HM.out]
          have hb2 := sumTo_le ls (k + 1)
          rw [HS.out] at hb2
          have hle : m + min (nAt ls k) 2001 ≤ 200000 := by omega
          clear hc hb2
          generalize nAt ls k = x at *
          go_wp2
          go_roundw
          case rel => exact ⟨k + 1, m + min x 2001, by rw [show ((m + min x 2001 : Nat) : Int) = (m : Int) + min (x : Int) 2001 by omega], by go_num, by omega, by omega, hle, HS.out.symm, by first | rfl | trivial⟩
          case measure => simp [intOf]; omega
      · have h60 : 60 < n := by omega
        have hg : g = true := by rw [HG.out]; simp [h60]
        subst hg
        clear HG
        go_wp2
        go_ret
        exact ⟨rfl, (Below.refl _ _).alloc (Nat.le_refl _) _⟩
    · have HE : Hid (m = sumTo ls (min n 61)) := by show _ = _; rw [show min n 61 = k by omega]; exact HM.out
      by_cases h60 : 60 < n
      · have hg : g = true := by rw [HG.out]; simp [h60]
        subst hg
        clear HG
        go_wp2
        go_ret
        exact ⟨rfl, (Below.refl _ _).alloc (Nat.le_refl _) _⟩
      · by_cases h20 : 2000 < m
        · have hg : g = true := by rw [HG.out, ← HE.out]; simp [h20]
          subst hg
          clear HG
          go_wp2
          go_ret
          exact ⟨rfl, (Below.refl _ _).alloc (Nat.le_refl _) _⟩
        · have HG' : Hid (g = decide (900 < Pl.cellsN zw zh)) := by show _ = _; rw [HG.out, ← HE.out]; simp [h60, h20]
          clear HG
          go_wp2_with fail
          refine (Pl.rcells_any zw zh _).mono ?_
          rintro e w1 ⟨rfl, hb1⟩
          go_wp2
          go_ret
          exact ⟨ret_of (congrArg Value.bool (by rw [HG'.out, show decide (60 < (n : Int)) = false by simp; omega, show decide (2000 < (m : Int)) = false by simp; omega]; rfl)), below_step ((Below.refl _ _).alloc (Nat.le_refl _) _) hb1 (Nat.le_refl _)⟩
end Go.Proofs.Ytcflbekjiohfnaa
