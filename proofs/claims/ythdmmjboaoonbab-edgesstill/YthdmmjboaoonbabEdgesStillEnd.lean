/- The walk EdgesStill, whole. -/
import Derived.Test.YthdmmjboaoonbabEdgesStill
namespace Go.Proofs.Ythdmmjboaoonbab
open Go.RowKit
set_option linter.unusedVariables false
theorem edgesstill_walk (ao : Option Addr) (ca : Nat) (xs : List Int) (mo at0 : Int) (ao3 : Option Addr) (ca3 : Nat) (qs : List A9.Ac) (w : World) (hk0 : NAt .i64 w ao xs) (hx0 : ∀ i, i < xs.length → -9223372036854775808 ≤ lAt xs i ∧ lAt xs i ≤ 9223372036854775807) (hl0 : xs.length ≤ 9223372036854775807) (hmo : 0 ≤ mo ∧ mo ≤ 255) (hat : 0 ≤ at0 ∧ at0 ≤ 255) (hk3 : A9.AcAt w ao3 qs) (hl3 : qs.length ≤ 9223372036854775807) :
    Calls Try.prog 3 #[.slice ao xs.length ca, .int .u8 mo, .int .u8 at0, .slice ao3 qs.length ca3] w fun e w' => e = .returned (.bool true) ∧ Below w.heap.size w w' := by
  by_cases h : 40 < xs.length ∨ 60 < qs.length
  · exact still_great ao ca xs.length mo at0 ao3 ca3 qs.length w h hl0 hl3
  · exact still_small ao ca _ xs mo at0 ao3 ca3 _ qs w hk0 hx0 rfl hmo hat hk3 rfl (by omega) (by omega)
end Go.Proofs.Ythdmmjboaoonbab
