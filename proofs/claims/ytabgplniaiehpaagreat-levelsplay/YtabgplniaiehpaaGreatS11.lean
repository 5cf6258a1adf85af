/- Lemmas. -/
import Derived.Test.YtabgplniaiehpaaGreatS02
import Derived.Test.YtabgplniaiehpaaGreatS10
import Derived.Laws.MakeOwn
import Derived.Test.YtabgplniaiehpaaGreatProg
import Derived.Deep.Slices
import Derived.ProofKit
import Derived.OpenShut
set_option maxRecDepth 100000
set_option maxHeartbeats 64000000
namespace Go.Proofs.YtabgplniaiehpaaGreat
open Go.RowKit Go.Shelf
attribute [local go_sem] Oper.semAt_some
set_option linter.unusedVariables false
variable {Xh : Hx}
def i64s (xs : List Int) : List Value := xs.map (Value.int .i64)
theorem i64s_snoc (xs : List Int) (x : Int) : i64s (xs ++ [x]) = i64s xs ++ [.int .i64 x] := by simp [i64s]
section
variable {F : Nat → Prop} {B : Nat} {K : List Bool} {fr : List Int} {S : Int → List Int} {V : Int → Vl} {mx : Nat}
end
end Go.Proofs.YtabgplniaiehpaaGreat
