/- Layer 4 (draws): the number i, as the program reckons it and as the document does. -/
import Derived.Test.YtpbnhbpkfdhedaaProg
import Derived.Test.YtpbnhbpkfdhedaaKit
import Derived.OpenShut
namespace Go.Proofs.Ytpbnhbpkfdhedaa
open Go.RowKit
set_option linter.unusedVariables false

/-- One stir: z xor z / d. -/
def stir (z d : Int) : Int := bits BinOp.xor IntKind.u64 z (z / d)
/-- The number i of a list that has x there. -/
def numN (i x : Int) : Int :=
  stir (IntKind.u64.wrap (stir (IntKind.u64.wrap (stir (IntKind.u64.wrap (IntKind.u64.wrap ((i + 1) * 11400714819323198485) + x)) 1073741824 * 13787848793156543929)) 134217728 * 10723151780598845931)) 2147483648 / 4294967296 % 4294967296
theorem numN_bd (i x : Int) : 0 ≤ numN i x ∧ numN i x < 4294967296 := by unfold numN; omega

theorem wrap64_bd (z : Int) : 0 ≤ IntKind.u64.wrap z ∧ IntKind.u64.wrap z < 18446744073709551616 := by
  simp [IntKind.wrap, IntKind.bits, IntKind.signed]; omega
theorem wrap64_id {z : Int} (h0 : 0 ≤ z) (h1 : z < 18446744073709551616) : IntKind.u64.wrap z = z := by
  simp [IntKind.wrap, IntKind.bits, IntKind.signed]; omega
theorem xor64_bd (x y : Int) : 0 ≤ bits BinOp.xor IntKind.u64 x y ∧ bits BinOp.xor IntKind.u64 x y < 18446744073709551616 := by
  have := bounds_u64 (wf_bits BinOp.xor IntKind.u64 x y)
  omega
theorem stir_bd (z d : Int) : 0 ≤ stir z d ∧ stir z d < 18446744073709551616 := xor64_bd _ _
theorem wrap_tdiv {z : Int} (h0 : 0 ≤ z) (h1 : z < 18446744073709551616) (d : Int) (hd : 0 < d) : IntKind.u64.wrap (z.tdiv d) = z / d := by
  rw [Int.tdiv_eq_ediv_of_nonneg h0]
  exact wrap64_id (Int.ediv_nonneg h0 (Int.le_of_lt hd)) (Int.lt_of_le_of_lt (Int.ediv_le_self _ h0) h1)
theorem wrap_stir (z d : Int) (hd : 0 < d) : bits BinOp.xor IntKind.u64 (IntKind.u64.wrap z) (IntKind.u64.wrap ((IntKind.u64.wrap z).tdiv d)) = stir (IntKind.u64.wrap z) d := by
  rw [wrap_tdiv (wrap64_bd z).1 (wrap64_bd z).2 d hd]; rfl

set_option maxHeartbeats 400000 in
theorem number_any (i x : Int) (w : World) (h0 : 0 ≤ i) (h1 : i < 9223372036854775807) (hx : 0 ≤ x) (hx1 : x < 4294967296) : Calls Try.prog 95 #[.int .i64 i, .int .u32 x] w fun e w' => e = .returned (.int .u32 (numN i x)) ∧ w' = w := by
  go_enter Try.func95, Try.ntmps95
  go_wp2
  go_ret
  exact ⟨rfl, rfl⟩

end Go.Proofs.Ytpbnhbpkfdhedaa
