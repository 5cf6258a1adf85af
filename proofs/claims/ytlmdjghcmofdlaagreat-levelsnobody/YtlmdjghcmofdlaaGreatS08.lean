/- Lemmas. -/
import Derived.Test.YtlmdjghcmofdlaaGreatProg
import Derived.Test.YtlmdjghcmofdlaaGreatS02
import Derived.Deep.Slices
import Derived.ProofKit
import Derived.OpenShut
set_option maxRecDepth 100000
set_option maxHeartbeats 64000000
namespace Go.Proofs.YtlmdjghcmofdlaaGreat.A10
open Go.RowKit Go.ChangeShapes Go.WideShapes Go.Deep
set_option linter.unusedVariables false
structure Ac where
  d : Int
  e : Int
  a : Int
  b : Int
  x : Int
  y : Int
instance : Inhabited Ac := ⟨⟨0, 0, 0, 0, 0, 0⟩⟩
def Ok (q : Ac) : Prop := (0 ≤ q.d ∧ q.d ≤ 255) ∧ (-9223372036854775808 ≤ q.e ∧ q.e ≤ 9223372036854775807) ∧ (-9223372036854775808 ≤ q.a ∧ q.a ≤ 9223372036854775807) ∧ (-9223372036854775808 ≤ q.b ∧ q.b ≤ 9223372036854775807) ∧ (-9223372036854775808 ≤ q.x ∧ q.x ≤ 9223372036854775807) ∧ (-9223372036854775808 ≤ q.y ∧ q.y ≤ 9223372036854775807)
theorem cellsA : Tryz.prog.cellsOf 23 = 6 := by kernel_rfl
theorem cells_int : Tryz.prog.cellsOf 3 = 1 := by kernel_rfl
theorem cells_uint8 : Tryz.prog.cellsOf 5 = 1 := by kernel_rfl
end Go.Proofs.YtlmdjghcmofdlaaGreat.A10
