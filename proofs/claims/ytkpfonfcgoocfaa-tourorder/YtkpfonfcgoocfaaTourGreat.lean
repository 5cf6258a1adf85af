/- Layer 7's statements: Great. -/
import Derived.Test.YtkpfonfcgoocfaaTourActs
import Derived.Test.YtkpfonfcgoocfaaTourFun
namespace Go.Proofs.Ytkpfonfcgoocfaa
open Go.RowKit
set_option linter.unusedVariables false
def G7Says (n m : Nat) (w : World) (e : Ending) (w' : World) : Prop := ∃ g, e = .returned (.bool g) ∧ (g = false → m ≤ 120 ∧ n ≤ 5000) ∧ Below w.heap.size w w'
set_option maxRecDepth 100000 in
set_option maxHeartbeats 1600000 in
theorem great7_any (do_ : Option Addr) (dcap n : Nat) (ao : Option Addr) (cap m : Nat) (qs : List A7.Ac) (w : World) (hm : qs.length = m) (hbm : m ≤ 9223372036854775807) (hbn : n ≤ 9223372036854775807) (hl : A7.AcAt w ao qs) :
    Calls Try.prog 14 #[.slice do_ n dcap, .slice ao m cap] w (G7Says n m w) := by
  have HL : Hid (A7.AcAt w ao qs) := hl
  have HN : Hid (qs.length = m) := hm
  clear hl hm
  by_cases h1 : 120 < m
  · go_enter Try.func14, Try.ntmps14
    go_wp2
    go_ret
    exact ⟨true, rfl, fun h => (by cases h), Below.refl _ _⟩
  · have h1' : ¬ (120 : Int) < (m : Int) := by omega
    by_cases h2 : 5000 < n
    · have h2' : (5000 : Int) < (n : Int) := by omega
      go_enter Try.func14, Try.ntmps14
      go_wp2
      go_ret
      exact ⟨true, rfl, fun h => (by cases h), Below.refl _ _⟩
    · have h2' : ¬ (5000 : Int) < (n : Int) := by omega
      go_enter Try.func14, Try.ntmps14
      go_wp2
      go_loopw [5] (fun i wr => ∃ (k : Nat), i = .int .i64 k ∧ k ≤ m ∧ Below w.heap.size w wr) (fun i _ => m - (intOf i).toNat)
      case atStart => exact ⟨0, rfl, Nat.zero_le _, Below.refl _ _⟩
      case round =>
        obtain ⟨k, rfl, hkm, hB⟩ := hrel
        by_cases hlt : k < m
        · rcases HL.out with h | ⟨b, off, rfl, hbl, hc⟩
          · have := HN.out; rw [h] at this; simp at this; omega
          · obtain ⟨_, _, _, c3, _⟩ := (hc k (by rw [HN.out]; exact hlt)).1
            clear hc
            replace c3 := (hB.cell (p := ⟨b, _, none⟩) hbl).trans c3
            have hlti : (k : Int) < (m : Int) := by omega
            have HBk := hid_mk hB
            clear hB
            generalize (A7.aAt qs k).m = xm at *
            by_cases d1 : xm < -1099511627776
            · go_wp2
              go_ret
              exact ⟨true, rfl, fun h => (by cases h), HBk.out⟩
            · have d1' : decide (xm < -1099511627776) = false := by simpa using d1
              by_cases d2 : 1099511627776 < xm
              · go_wp2
                go_ret
                exact ⟨true, rfl, fun h => (by cases h), HBk.out⟩
              · have d2' : decide (1099511627776 < xm) = false := by simpa using d2
                go_wp2
                go_roundw
                case rel => exact ⟨k + 1, by go_num, by omega, HBk.out⟩
                case measure => simp [intOf]; omega
        · have hlti : ¬ (k : Int) < (m : Int) := by omega
          have HBk := hid_mk hB
          clear hB
          go_wp2
          go_ret
          exact ⟨false, rfl, fun _ => ⟨by omega, by omega⟩, HBk.out⟩
end Go.Proofs.Ytkpfonfcgoocfaa
