/- A size by value, opened. -/
import Derived.Test.YtabgplniaiehpabPlaceCore
namespace Go.Proofs.Ytabgplniaiehpab.Pl
open Go.RowKit
theorem cellsZ : Try.prog.cellsOf 23 = 2 := by kernel_rfl
end Go.Proofs.Ytabgplniaiehpab.Pl
