/- Layer 6's statements: Great. -/
import Derived.Test.YtpbnhbpkfdhedaaTreapActs
import Derived.Test.YtpbnhbpkfdhedaaTreapNode
namespace Go.Proofs.Ytpbnhbpkfdhedaa
open Go.RowKit
set_option linter.unusedVariables false

def A6.Ac.x (q : A6.Ac) : Vl := ⟨q.c, q.s, q.l, q.m⟩
def G6Says (n m : Nat) (w : World) (e : Ending) (w' : World) : Prop := ∃ g, e = .returned (.bool g) ∧ (g = false → m ≤ 200 ∧ n ≤ 5000) ∧ Below w.heap.size w w'
set_option maxRecDepth 100000 in
set_option maxHeartbeats 1600000 in
theorem tgreat_any (do_ : Option Addr) (dcap n : Nat) (ao : Option Addr) (cap m : Nat) (qs : List A6.Ac) (w : World) (hm : qs.length = m) (hbm : m ≤ 9223372036854775807) (hbn : n ≤ 9223372036854775807) (hl : A6.AcAt w ao qs) :
    Calls Try.prog 9 #[.slice do_ n dcap, .slice ao m cap] w (G6Says n m w) := by
  have HL : Hid (A6.AcAt w ao qs) := hl
  have HN : Hid (qs.length = m) := hm
  clear hl hm
  by_cases h1 : 200 < m
  · go_enter Try.func9, Try.ntmps9
    go_wp2
    go_ret
    exact ⟨true, rfl, fun h => (by cases h), Below.refl _ _⟩
  · have h1' : ¬ (200 : Int) < (m : Int) := by omega
    by_cases h2 : 5000 < n
    · have h2' : (5000 : Int) < (n : Int) := by omega
      go_enter Try.func9, Try.ntmps9
      go_wp2
      go_ret
      exact ⟨true, rfl, fun h => (by cases h), Below.refl _ _⟩
    · have h2' : ¬ (5000 : Int) < (n : Int) := by omega
      go_enter Try.func9, Try.ntmps9
      go_wp2
      go_loopw [5] (fun i wr => ∃ (k : Nat), i = .int .i64 k ∧ k ≤ m ∧ Below w.heap.size w wr) (fun i _ => m - (intOf i).toNat)
      case atStart => exact ⟨0, rfl, Nat.zero_le _, Below.refl _ _⟩
      case round =>
        obtain ⟨k, rfl, hkm, hB⟩ := hrel
        by_cases hlt : k < m
        · rcases HL.out with h | ⟨b, off, rfl, hbl, hc⟩
          · have := HN.out; rw [h] at this; simp at this; omega
          · obtain ⟨_, _, _, c3, c4, c5, c6⟩ := (hc k (by rw [HN.out]; exact hlt)).1
            clear hc
            replace c3 := (hB.cell (p := ⟨b, _, none⟩) hbl).trans c3
            replace c4 := (hB.cell (p := ⟨b, _, none⟩) hbl).trans c4
            replace c5 := (hB.cell (p := ⟨b, _, none⟩) hbl).trans c5
            replace c6 := (hB.cell (p := ⟨b, _, none⟩) hbl).trans c6
            have hlti : (k : Int) < (m : Int) := by omega
            have HBk : Hid (Below w.heap.size w (wr.alloc (.cells #[.int .i64 (A6.aAt qs k).c, .int .i64 (A6.aAt qs k).s, .int .i64 (A6.aAt qs k).l, .int .u8 (A6.aAt qs k).m] 40))) := below_new hB (Nat.le_refl _) _
            clear hB
            generalize (A6.aAt qs k).c = xc at *
            generalize (A6.aAt qs k).s = xs at *
            generalize (A6.aAt qs k).l = xl at *
            generalize (A6.aAt qs k).m = xm at *
            by_cases d1 : xc < -1099511627776
            · go_wp2
              go_ret
              exact ⟨true, rfl, fun h => (by cases h), HBk.out⟩
            · have d1' : decide (xc < -1099511627776) = false := by simpa using d1
              by_cases d2 : 1099511627776 < xc
              · go_wp2
                go_ret
                exact ⟨true, rfl, fun h => (by cases h), HBk.out⟩
              · have d2' : decide (1099511627776 < xc) = false := by simpa using d2
                by_cases d3 : xs < -1099511627776
                · go_wp2
                  go_ret
                  exact ⟨true, rfl, fun h => (by cases h), HBk.out⟩
                · have d3' : decide (xs < -1099511627776) = false := by simpa using d3
                  by_cases d4 : 1099511627776 < xs
                  · go_wp2
                    go_ret
                    exact ⟨true, rfl, fun h => (by cases h), HBk.out⟩
                  · have d4' : decide (1099511627776 < xs) = false := by simpa using d4
                    go_wp2
                    go_roundw
                    case rel => exact ⟨k + 1, by go_num, by omega, HBk.out⟩
                    case measure => simp [intOf]; omega
        · have hlti : ¬ (k : Int) < (m : Int) := by omega
          go_wp2
          go_ret
          exact ⟨false, rfl, fun _ => by omega, hB⟩
end Go.Proofs.Ytpbnhbpkfdhedaa
