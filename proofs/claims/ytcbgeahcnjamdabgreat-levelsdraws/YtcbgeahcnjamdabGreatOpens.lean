/- Arguments that are slices of numbers of 16 bits, opened. -/
import Derived.Test.YtcbgeahcnjamdabGreatProg
import Derived.Test.YtcbgeahcnjamdabGreatKit
import Derived.Deep.Slices
import Derived.ProofKit
import Derived.OpenShut
namespace Go.Proofs.YtcbgeahcnjamdabGreat
open Go.ChangeShapes Go.WideShapes Go.RowKit Go.Deep
set_option linter.unusedVariables false

/-- The integers of kind k that a slice's address leads to. -/
def NAt (k : IntKind) (W : World) (ao : Option Addr) (xs : List Int) : Prop := xs = [] ∨ ∃ b off, ao = some ⟨b, off, none⟩ ∧ b < W.heap.size ∧ ∀ i, i < xs.length → W.cell? ⟨b, off + i, none⟩ = some (.int k (lAt xs i))
theorem NAt.below {k : IntKind} {W W' : World} {ao : Option Addr} {xs : List Int} (h : NAt k W ao xs) (hb : Below W.heap.size W W') : NAt k W' ao xs := by
  rcases h with h | ⟨b, off, e, hl, h⟩
  · exact .inl h
  · exact .inr ⟨b, off, e, Nat.lt_of_lt_of_le hl hb.size, fun i hi => (hb.cell (p := ⟨b, _, none⟩) hl).trans (h i hi)⟩

end Go.Proofs.YtcbgeahcnjamdabGreat
