/-
  No cell of these rows narrows 'for every input' (looked for: loops, veiled, ifaces, maps, wideKeys, modest, calm, conditions, laid).
  DERIVED. THE GIVEN ROWS OF THIS SEAT. 2 by the template 'for every input the law returns true; each argument reads behind the call as it read before'; 0 by the template 'total and deterministic' (their statements: YtkpfonfcgoocfabTotals.lean).
  GIVEN WITH THE SEED: the statements are not yours to turn. If you find one false, say at which input.
  Laid BY PROGRAM, IN A SANDBOX (cutbox-rows.mjs): the forced cells as the released guide's own fill.sh prints them over the translation 709ac2eef0c2f468… (all of the seat's roots in one cut). By AI agents, Wed Nov 11 2026. No macro, syntax, notation, axiom, sorry.
-/
import Derived.Test.YtkpfonfcgoocfabChecked
import GoSem.Claim
import GoSem.ClaimJoined
import GoSem.ClaimMapViews
import Derived.JoinedTies
import Derived.KernelRfl
namespace Go.Proofs.Ytkpfonfcgoocfab
/- THE CELL 'sum', in the pinned program and in every row, IS THE sha256 OF THE DUMP (.gsa) THAT YtkpfonfcgoocfabProg.lean LOADS. Nothing in Lean hashes anything: it is a label: what it is worth is what the hold of that sum in a sandbox is worth. -/
noncomputable def Try.pinned : Pinned := { name := "ytkpfonfcgoocfab", sum := "709ac2eef0c2f468aadd8b54a2f30e84d8de5484e50c11615d6d0b672590b815", checked := Try.checked }
namespace Rows
def none {H : Type} : Left H := { results := [], args := [] }

/-- 'tidewalklaw08.ForestPath': WHATEVER THE INPUT: true; the input reads as it did. -/
def forestPathSpec : ChangeSpec := { name := "forestPath", fn := fun _ => fun
  | [d1, d2, d3] => { results := [.lit (.bool true)], args := [d1, d2, d3] }
  | _ => none }
def forestPathRow : OpenClaim := { program := "ytkpfonfcgoocfab", sum := "709ac2eef0c2f468aadd8b54a2f30e84d8de5484e50c11615d6d0b672590b815", func := "tidewalk/tidewalklaw08.ForestPath", spec := "forestPath", apart := false }
def ForestPathSaid : Prop := forestPathRow.holds Try.pinned (OpenSpec.ofChange forestPathSpec)

/-- ITS FALSE NEIGHBOUR: 'it returns false'. Refute it at one input. -/
def forestPathWrong : ChangeSpec := { name := "forestPath", fn := fun _ => fun
  | [d1, d2, d3] => { results := [.lit (.bool false)], args := [d1, d2, d3] }
  | _ => none }
def ForestPathWrongFalsely : Prop := forestPathRow.holds Try.pinned (OpenSpec.ofChange forestPathWrong)

/-- 'tidewalklaw08.ForestKnown': WHATEVER THE INPUT: true; the input reads as it did. -/
def forestKnownSpec : ChangeSpec := { name := "forestKnown", fn := fun _ => fun
  | [] => { results := [.lit (.bool true)], args := [] }
  | _ => none }
def forestKnownRow : OpenClaim := { program := "ytkpfonfcgoocfab", sum := "709ac2eef0c2f468aadd8b54a2f30e84d8de5484e50c11615d6d0b672590b815", func := "tidewalk/tidewalklaw08.ForestKnown", spec := "forestKnown", apart := false }
def ForestKnownSaid : Prop := forestKnownRow.holds Try.pinned (OpenSpec.ofChange forestKnownSpec)

/-- ITS FALSE NEIGHBOUR: 'it returns false'. Refute it at one input. -/
def forestKnownWrong : ChangeSpec := { name := "forestKnown", fn := fun _ => fun
  | [] => { results := [.lit (.bool false)], args := [] }
  | _ => none }
def ForestKnownWrongFalsely : Prop := forestKnownRow.holds Try.pinned (OpenSpec.ofChange forestKnownWrong)

/- THE SECOND FORM. 'bulk': how many values and letters a reading holds, each counted each time it is reached (what is shared counts as often as it is met; a slice's spare places count too). A statement '..UptoSaid' is the law's where the arguments, and the package variables that the reading takes, are together of bulk at most 1048576: NARROWER than '..Said'. Prove '..Said' where nothing that the law and all that it calls make is longer than what came in: it says more and counts as full. Else prove '..UptoSaid'. A law counts once. -/
mutual
def uptoBulk {H : Type} : DataW H → Nat
  | .lit (.string bytes) => bytes.length + 1
  | .lit _ => 1
  | .nil => 1
  | .ptr d => uptoBulk d + 1
  | .slice elems spare => uptoBulkAll elems + uptoBulkAll spare + 1
  | .agg parts => uptoBulkAll parts + 1
  | .iface _ d => uptoBulk d + 1
  | .map entries => uptoBulkEntries entries + 1
  | .held _ => 1
def uptoBulkAll {H : Type} : List (DataW H) → Nat
  | [] => 0
  | d :: r => uptoBulk d + uptoBulkAll r
def uptoBulkEntries {H : Type} : List (Lit × DataW H) → Nat
  | [] => 0
  | x :: r => uptoBulkEntry x + uptoBulkEntries r
def uptoBulkEntry {H : Type} : Lit × DataW H → Nat
  | (.string bytes, d) => bytes.length + uptoBulk d + 1
  | (_, d) => uptoBulk d + 1
 end
def uptoSmall : (H : Type) → List (DataW H) → Bool := fun _ ds => decide (uptoBulkAll ds ≤ 1048576)
def OpenSpec.upto (s : _root_.Go.ChangeSpec) : _root_.Go.OpenSpec := { _root_.Go.OpenSpec.ofChange s with cond := some uptoSmall }

/-- 'tidewalklaw08.ForestPath', WHERE WHAT IT READS IS OF BULK AT MOST 1048576: true; the input reads as it did. -/
def forestPathUptoRow : OpenClaim := { program := "ytkpfonfcgoocfab", sum := "709ac2eef0c2f468aadd8b54a2f30e84d8de5484e50c11615d6d0b672590b815", func := "tidewalk/tidewalklaw08.ForestPath", spec := "forestPath", apart := false, narrowed := true }
def ForestPathUptoSaid : Prop := forestPathUptoRow.holds Try.pinned (OpenSpec.upto forestPathSpec)

/-- 'tidewalklaw08.ForestKnown', WHERE WHAT IT READS IS OF BULK AT MOST 1048576: true; the input reads as it did. -/
def forestKnownUptoRow : OpenClaim := { program := "ytkpfonfcgoocfab", sum := "709ac2eef0c2f468aadd8b54a2f30e84d8de5484e50c11615d6d0b672590b815", func := "tidewalk/tidewalklaw08.ForestKnown", spec := "forestKnown", apart := false, narrowed := true }
def ForestKnownUptoSaid : Prop := forestKnownUptoRow.holds Try.pinned (OpenSpec.upto forestKnownSpec)

end Rows
end Go.Proofs.Ytkpfonfcgoocfab
