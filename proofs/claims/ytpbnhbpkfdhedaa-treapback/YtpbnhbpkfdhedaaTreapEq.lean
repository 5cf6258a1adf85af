/- What == says of two values. -/
import Derived.Test.YtpbnhbpkfdhedaaTreapNode
namespace Go.Proofs.Ytpbnhbpkfdhedaa
open Go.RowKit
set_option linter.unusedVariables false
set_option maxRecDepth 100000 in
theorem eqVal (a b : Vl) (w : World) : (Op.equalIn 10000 40 (vlc a) (vlc b)).run Try.prog w = .ok (a.c == b.c && a.s == b.s && a.l == b.l && a.m == b.m) w := by
  have u3 := Try.underlying3
  have a3 := Try.isAgg3
  have z3 := Try.sizeOf3
  have u5 := Try.underlying5
  have a5 := Try.isAgg5
  have z5 := Try.sizeOf5
  rw [show (10000 : Nat) = 9999 + 1 from rfl, Op.equalIn]
  simp only [Sem.run_bind, run_underlying Try.underlying40, Result.andThen_ok]
  go_simp
  by_cases h1 : a.c = b.c <;> by_cases h2 : a.s = b.s <;> by_cases h3 : a.l = b.l <;> by_cases h4 : a.m = b.m <;> simp [h1, h2, h3, h4]
end Go.Proofs.Ytpbnhbpkfdhedaa
