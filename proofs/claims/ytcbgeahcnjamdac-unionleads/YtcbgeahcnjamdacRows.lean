/-
  No cell of these rows narrows 'for every input' (looked for: loops, veiled, ifaces, maps, wideKeys, modest, calm, conditions, laid).
  DERIVED. THE GIVEN ROWS OF THIS SEAT. 2 by the template 'for every input the law returns true; each argument reads behind the call as it read before'; 0 by the template 'total and deterministic' (their statements: YtcbgeahcnjamdacTotals.lean).
  GIVEN WITH THE SEED: the statements are not yours to turn. If you find one false, say at which input.
  Laid BY PROGRAM, IN A SANDBOX (cutbox-rows.mjs): the forced cells as the released guide's own fill.sh prints them over the translation 12d80de3cb8c8028… (all of the seat's roots in one cut). By AI agents, Wed Nov 11 2026. No macro, syntax, notation, axiom, sorry.
-/
import Derived.Test.YtcbgeahcnjamdacChecked
import GoSem.Claim
import GoSem.ClaimJoined
import GoSem.ClaimMapViews
import Derived.JoinedTies
import Derived.KernelRfl
namespace Go.Proofs.Ytcbgeahcnjamdac
/- THE CELL 'sum', in the pinned program and in every row, IS THE sha256 OF THE DUMP (.gsa) THAT YtcbgeahcnjamdacProg.lean LOADS. Nothing in Lean hashes anything: it is a label: what it is worth is what the hold of that sum in a sandbox is worth. -/
noncomputable def Try.pinned : Pinned := { name := "ytcbgeahcnjamdac", sum := "12d80de3cb8c8028cbe24cd0d0611aeefb4232cc370b64bd8bb7e66154a53b8b", checked := Try.checked }
namespace Rows
def none {H : Type} : Left H := { results := [], args := [] }

/-- 'tidewalklaw11.UnionLeads': WHATEVER THE INPUT: true; the input reads as it did. -/
def unionLeadsSpec : ChangeSpec := { name := "unionLeads", fn := fun _ => fun
  | [d1, d2] => { results := [.lit (.bool true)], args := [d1, d2] }
  | _ => none }
def unionLeadsRow : OpenClaim := { program := "ytcbgeahcnjamdac", sum := "12d80de3cb8c8028cbe24cd0d0611aeefb4232cc370b64bd8bb7e66154a53b8b", func := "tidewalk/tidewalklaw11.UnionLeads", spec := "unionLeads", unfollowed := true, recurses := true, apart := false }
def UnionLeadsSaid : Prop := unionLeadsRow.holds Try.pinned (OpenSpec.ofChange unionLeadsSpec)

/-- ITS FALSE NEIGHBOUR: 'it returns false'. Refute it at one input. -/
def unionLeadsWrong : ChangeSpec := { name := "unionLeads", fn := fun _ => fun
  | [d1, d2] => { results := [.lit (.bool false)], args := [d1, d2] }
  | _ => none }
def UnionLeadsWrongFalsely : Prop := unionLeadsRow.holds Try.pinned (OpenSpec.ofChange unionLeadsWrong)

/-- 'tidewalklaw11.UnionGrows': WHATEVER THE INPUT: true; the input reads as it did. -/
def unionGrowsSpec : ChangeSpec := { name := "unionGrows", fn := fun _ => fun
  | [d1, d2, d3] => { results := [.lit (.bool true)], args := [d1, d2, d3] }
  | _ => none }
def unionGrowsRow : OpenClaim := { program := "ytcbgeahcnjamdac", sum := "12d80de3cb8c8028cbe24cd0d0611aeefb4232cc370b64bd8bb7e66154a53b8b", func := "tidewalk/tidewalklaw11.UnionGrows", spec := "unionGrows", apart := false }
def UnionGrowsSaid : Prop := unionGrowsRow.holds Try.pinned (OpenSpec.ofChange unionGrowsSpec)

/-- ITS FALSE NEIGHBOUR: 'it returns false'. Refute it at one input. -/
def unionGrowsWrong : ChangeSpec := { name := "unionGrows", fn := fun _ => fun
  | [d1, d2, d3] => { results := [.lit (.bool false)], args := [d1, d2, d3] }
  | _ => none }
def UnionGrowsWrongFalsely : Prop := unionGrowsRow.holds Try.pinned (OpenSpec.ofChange unionGrowsWrong)

/- THE SECOND FORM. 'bulk': how many values and letters a reading holds, each counted each time it is reached (what is shared counts as often as it is met; a slice's spare places count too). A statement '..UptoSaid' is the law's where the arguments, and the package variables that the reading takes, are together of bulk at most 1048576: NARROWER than '..Said'. Prove '..Said' where nothing that the law and all that it calls make is longer than what came in: it says more and counts as full. Else prove '..UptoSaid'. A law counts once. -/
mutual
def uptoBulk {H : Type} : DataW H → Nat
  | .lit (.string bytes) => bytes.length + 1
  | .lit _ => 1
  | .nil => 1
  | .ptr d => uptoBulk d + 1
  | .slice elems spare => uptoBulkAll elems + uptoBulkAll spare + 1
  | .agg parts => uptoBulkAll parts + 1
  | .iface _ d => uptoBulk d + 1
  | .map entries => uptoBulkEntries entries + 1
  | .held _ => 1
def uptoBulkAll {H : Type} : List (DataW H) → Nat
  | [] => 0
  | d :: r => uptoBulk d + uptoBulkAll r
def uptoBulkEntries {H : Type} : List (Lit × DataW H) → Nat
  | [] => 0
  | x :: r => uptoBulkEntry x + uptoBulkEntries r
def uptoBulkEntry {H : Type} : Lit × DataW H → Nat
  | (.string bytes, d) => bytes.length + uptoBulk d + 1
  | (_, d) => uptoBulk d + 1
 end
def uptoSmall : (H : Type) → List (DataW H) → Bool := fun _ ds => decide (uptoBulkAll ds ≤ 1048576)
def OpenSpec.upto (s : _root_.Go.ChangeSpec) : _root_.Go.OpenSpec := { _root_.Go.OpenSpec.ofChange s with cond := some uptoSmall }

/-- 'tidewalklaw11.UnionLeads', WHERE WHAT IT READS IS OF BULK AT MOST 1048576: true; the input reads as it did. -/
def unionLeadsUptoRow : OpenClaim := { program := "ytcbgeahcnjamdac", sum := "12d80de3cb8c8028cbe24cd0d0611aeefb4232cc370b64bd8bb7e66154a53b8b", func := "tidewalk/tidewalklaw11.UnionLeads", spec := "unionLeads", unfollowed := true, recurses := true, apart := false, narrowed := true }
def UnionLeadsUptoSaid : Prop := unionLeadsUptoRow.holds Try.pinned (OpenSpec.upto unionLeadsSpec)

/-- 'tidewalklaw11.UnionGrows', WHERE WHAT IT READS IS OF BULK AT MOST 1048576: true; the input reads as it did. -/
def unionGrowsUptoRow : OpenClaim := { program := "ytcbgeahcnjamdac", sum := "12d80de3cb8c8028cbe24cd0d0611aeefb4232cc370b64bd8bb7e66154a53b8b", func := "tidewalk/tidewalklaw11.UnionGrows", spec := "unionGrows", apart := false, narrowed := true }
def UnionGrowsUptoSaid : Prop := unionGrowsUptoRow.holds Try.pinned (OpenSpec.upto unionGrowsSpec)

end Rows
end Go.Proofs.Ytcbgeahcnjamdac
