/- The laws' helper Great. -/
import Derived.Test.YtklkbjfdejpdpaaArenaActs
import Derived.Test.YtklkbjfdejpdpaaArenaAwake
namespace Go.Proofs.Ytklkbjfdejpdpaa
open Go.RowKit
set_option linter.unusedVariables false

def GreatSays (n : Nat) (w : World) (e : Ending) (w' : World) : Prop := ∃ g, e = .returned (.bool g) ∧ (g = false → n ≤ 300) ∧ w' = w
set_option maxRecDepth 100000 in
set_option maxHeartbeats 1600000 in
theorem agreat_any (ao : Option Addr) (cap n : Nat) (qs : List A5.Ac) (w : World) (hn : qs.length = n) (hbig : n ≤ 9223372036854775807) (hl : A5.AcAt w ao qs) :
    Calls Try.prog 14 #[.slice ao n cap] w (GreatSays n w) := by
  have HL : Hid (A5.AcAt w ao qs) := hl
  have HN : Hid (qs.length = n) := hn
  clear hl hn
  go_enter Try.func14, Try.ntmps14
  go_wp2
  go_loopw [3, 4] (fun s i wr => ∃ (k m : Nat), s = .int .i64 m ∧ i = .int .i64 k ∧ k ≤ n ∧ k ≤ 301 ∧ m ≤ k * 20001 ∧ wr = w) (fun _ i _ => 301 - (intOf i).toNat)
  case atStart => exact ⟨0, 0, rfl, rfl, Nat.zero_le _, Nat.zero_le _, Nat.zero_le _, rfl⟩
  case round =>
    obtain ⟨k, m, rfl, rfl, hkn, hk1, hm, rfl⟩ := hrel
    by_cases hlt : k < n
    · by_cases hk6 : k ≤ 300
      · rcases HL.out with h | ⟨b, off, rfl, hbl, hc⟩
        · have := HN.out; rw [h] at this; simp at this; omega
        · have hc1 := (hc k (by rw [HN.out]; exact hlt)).1.2.2
          have hsz := (hc k (by rw [HN.out]; exact hlt)).2.2.2
          have hle : m + min (A5.aAt qs k).s.size 20001 ≤ (k + 1) * 20001 := by omega
          clear hc
          generalize (A5.aAt qs k).s = s at *
          go_wp2
          go_roundw
          case rel => exact ⟨k + 1, m + min s.size 20001, by congr 1; split <;> omega, by go_num, by omega, by omega, hle, by first | rfl | trivial⟩
          case measure => simp [intOf]; omega
      · have h60 : 300 < n := by omega
        go_wp2
        go_ret
        exact ⟨true, rfl, fun h => (by cases h), rfl⟩
    · by_cases h60 : 300 < n
      · go_wp2
        go_ret
        exact ⟨true, rfl, fun h => (by cases h), rfl⟩
      · go_wp2
        go_ret
        exact ⟨_, rfl, fun _ => by omega, rfl⟩
end Go.Proofs.Ytklkbjfdejpdpaa
