/-
  No cell of these rows narrows 'for every input' (looked for: loops, veiled, ifaces, maps, wideKeys, modest, calm, conditions, laid).
  DERIVED. THE GIVEN ROWS OF THIS SEAT. 5 by the template 'for every input the law returns true; each argument reads behind the call as it read before'; 0 by the template 'total and deterministic' (their statements: YtabgplniaiehpabTotals.lean).
  GIVEN WITH THE SEED: the statements are not yours to turn. If you find one false, say at which input.
  Laid BY PROGRAM, IN A SANDBOX (cutbox-rows.mjs): the forced cells as the released guide's own fill.sh prints them over the translation 844b98279a3c38c8… (all of the seat's roots in one cut). By AI agents, Wed Nov 11 2026. No macro, syntax, notation, axiom, sorry.
-/
import Derived.Test.YtabgplniaiehpabChecked
import GoSem.Claim
import GoSem.ClaimJoined
import GoSem.ClaimMapViews
import Derived.JoinedTies
import Derived.KernelRfl
namespace Go.Proofs.Ytabgplniaiehpab
/- THE CELL 'sum', in the pinned program and in every row, IS THE sha256 OF THE DUMP (.gsa) THAT YtabgplniaiehpabProg.lean LOADS. Nothing in Lean hashes anything: it is a label: what it is worth is what the hold of that sum in a sandbox is worth. -/
noncomputable def Try.pinned : Pinned := { name := "ytabgplniaiehpab", sum := "844b98279a3c38c87265921b50b9a62b1c2e803205f0116b2cda92da2f542a8d", checked := Try.checked }
namespace Rows
def none {H : Type} : Left H := { results := [], args := [] }

/-- 'tidewalklaw12.TileTells': WHATEVER THE INPUT: true; the input reads as it did. -/
def tileTellsSpec : ChangeSpec := { name := "tileTells", fn := fun _ => fun
  | [d1, d2, d3] => { results := [.lit (.bool true)], args := [d1, d2, d3] }
  | _ => none }
def tileTellsRow : OpenClaim := { program := "ytabgplniaiehpab", sum := "844b98279a3c38c87265921b50b9a62b1c2e803205f0116b2cda92da2f542a8d", func := "tidewalk/tidewalklaw12.TileTells", spec := "tileTells", unfollowed := true, recurses := true, apart := false }
def TileTellsSaid : Prop := tileTellsRow.holds Try.pinned (OpenSpec.ofChange tileTellsSpec)

/-- ITS FALSE NEIGHBOUR: 'it returns false'. Refute it at one input. -/
def tileTellsWrong : ChangeSpec := { name := "tileTells", fn := fun _ => fun
  | [d1, d2, d3] => { results := [.lit (.bool false)], args := [d1, d2, d3] }
  | _ => none }
def TileTellsWrongFalsely : Prop := tileTellsRow.holds Try.pinned (OpenSpec.ofChange tileTellsWrong)

/-- 'tidewalklaw12.TileParts': WHATEVER THE INPUT: true; the input reads as it did. -/
def tilePartsSpec : ChangeSpec := { name := "tileParts", fn := fun _ => fun
  | [d1, d2] => { results := [.lit (.bool true)], args := [d1, d2] }
  | _ => none }
def tilePartsRow : OpenClaim := { program := "ytabgplniaiehpab", sum := "844b98279a3c38c87265921b50b9a62b1c2e803205f0116b2cda92da2f542a8d", func := "tidewalk/tidewalklaw12.TileParts", spec := "tileParts", unfollowed := true, recurses := true, apart := false }
def TilePartsSaid : Prop := tilePartsRow.holds Try.pinned (OpenSpec.ofChange tilePartsSpec)

/-- ITS FALSE NEIGHBOUR: 'it returns false'. Refute it at one input. -/
def tilePartsWrong : ChangeSpec := { name := "tileParts", fn := fun _ => fun
  | [d1, d2] => { results := [.lit (.bool false)], args := [d1, d2] }
  | _ => none }
def TilePartsWrongFalsely : Prop := tilePartsRow.holds Try.pinned (OpenSpec.ofChange tilePartsWrong)

/-- 'tidewalklaw12.TileBeside': WHATEVER THE INPUT: true; the input reads as it did. -/
def tileBesideSpec : ChangeSpec := { name := "tileBeside", fn := fun _ => fun
  | [d1, d2] => { results := [.lit (.bool true)], args := [d1, d2] }
  | _ => none }
def tileBesideRow : OpenClaim := { program := "ytabgplniaiehpab", sum := "844b98279a3c38c87265921b50b9a62b1c2e803205f0116b2cda92da2f542a8d", func := "tidewalk/tidewalklaw12.TileBeside", spec := "tileBeside", unfollowed := true, recurses := true, apart := false }
def TileBesideSaid : Prop := tileBesideRow.holds Try.pinned (OpenSpec.ofChange tileBesideSpec)

/-- ITS FALSE NEIGHBOUR: 'it returns false'. Refute it at one input. -/
def tileBesideWrong : ChangeSpec := { name := "tileBeside", fn := fun _ => fun
  | [d1, d2] => { results := [.lit (.bool false)], args := [d1, d2] }
  | _ => none }
def TileBesideWrongFalsely : Prop := tileBesideRow.holds Try.pinned (OpenSpec.ofChange tileBesideWrong)

/-- 'tidewalklaw12.TileSteps': WHATEVER THE INPUT: true; the input reads as it did. -/
def tileStepsSpec : ChangeSpec := { name := "tileSteps", fn := fun _ => fun
  | [d1, d2, d3] => { results := [.lit (.bool true)], args := [d1, d2, d3] }
  | _ => none }
def tileStepsRow : OpenClaim := { program := "ytabgplniaiehpab", sum := "844b98279a3c38c87265921b50b9a62b1c2e803205f0116b2cda92da2f542a8d", func := "tidewalk/tidewalklaw12.TileSteps", spec := "tileSteps", unfollowed := true, recurses := true, apart := false }
def TileStepsSaid : Prop := tileStepsRow.holds Try.pinned (OpenSpec.ofChange tileStepsSpec)

/-- ITS FALSE NEIGHBOUR: 'it returns false'. Refute it at one input. -/
def tileStepsWrong : ChangeSpec := { name := "tileSteps", fn := fun _ => fun
  | [d1, d2, d3] => { results := [.lit (.bool false)], args := [d1, d2, d3] }
  | _ => none }
def TileStepsWrongFalsely : Prop := tileStepsRow.holds Try.pinned (OpenSpec.ofChange tileStepsWrong)

/-- 'tidewalklaw12.TileCount': WHATEVER THE INPUT: true; the input reads as it did. -/
def tileCountSpec : ChangeSpec := { name := "tileCount", fn := fun _ => fun
  | [d] => { results := [.lit (.bool true)], args := [d] }
  | _ => none }
def tileCountRow : OpenClaim := { program := "ytabgplniaiehpab", sum := "844b98279a3c38c87265921b50b9a62b1c2e803205f0116b2cda92da2f542a8d", func := "tidewalk/tidewalklaw12.TileCount", spec := "tileCount", unfollowed := true, recurses := true, apart := false }
def TileCountSaid : Prop := tileCountRow.holds Try.pinned (OpenSpec.ofChange tileCountSpec)

/-- ITS FALSE NEIGHBOUR: 'it returns false'. Refute it at one input. -/
def tileCountWrong : ChangeSpec := { name := "tileCount", fn := fun _ => fun
  | [d] => { results := [.lit (.bool false)], args := [d] }
  | _ => none }
def TileCountWrongFalsely : Prop := tileCountRow.holds Try.pinned (OpenSpec.ofChange tileCountWrong)

/- THE SECOND FORM. 'bulk': how many values and letters a reading holds, each counted each time it is reached (what is shared counts as often as it is met; a slice's spare places count too). A statement '..UptoSaid' is the law's where the arguments, and the package variables that the reading takes, are together of bulk at most 1048576: NARROWER than '..Said'. Prove '..Said' where nothing that the law and all that it calls make is longer than what came in: it says more and counts as full. Else prove '..UptoSaid'. A law counts once. -/
mutual
def uptoBulk {H : Type} : DataW H → Nat
  | .lit (.string bytes) => bytes.length + 1
  | .lit _ => 1
  | .nil => 1
  | .ptr d => uptoBulk d + 1
  | .slice elems spare => uptoBulkAll elems + uptoBulkAll spare + 1
  | .agg parts => uptoBulkAll parts + 1
  | .iface _ d => uptoBulk d + 1
  | .map entries => uptoBulkEntries entries + 1
  | .held _ => 1
def uptoBulkAll {H : Type} : List (DataW H) → Nat
  | [] => 0
  | d :: r => uptoBulk d + uptoBulkAll r
def uptoBulkEntries {H : Type} : List (Lit × DataW H) → Nat
  | [] => 0
  | x :: r => uptoBulkEntry x + uptoBulkEntries r
def uptoBulkEntry {H : Type} : Lit × DataW H → Nat
  | (.string bytes, d) => bytes.length + uptoBulk d + 1
  | (_, d) => uptoBulk d + 1
 end
def uptoSmall : (H : Type) → List (DataW H) → Bool := fun _ ds => decide (uptoBulkAll ds ≤ 1048576)
def OpenSpec.upto (s : _root_.Go.ChangeSpec) : _root_.Go.OpenSpec := { _root_.Go.OpenSpec.ofChange s with cond := some uptoSmall }

/-- 'tidewalklaw12.TileTells', WHERE WHAT IT READS IS OF BULK AT MOST 1048576: true; the input reads as it did. -/
def tileTellsUptoRow : OpenClaim := { program := "ytabgplniaiehpab", sum := "844b98279a3c38c87265921b50b9a62b1c2e803205f0116b2cda92da2f542a8d", func := "tidewalk/tidewalklaw12.TileTells", spec := "tileTells", unfollowed := true, recurses := true, apart := false, narrowed := true }
def TileTellsUptoSaid : Prop := tileTellsUptoRow.holds Try.pinned (OpenSpec.upto tileTellsSpec)

/-- 'tidewalklaw12.TileParts', WHERE WHAT IT READS IS OF BULK AT MOST 1048576: true; the input reads as it did. -/
def tilePartsUptoRow : OpenClaim := { program := "ytabgplniaiehpab", sum := "844b98279a3c38c87265921b50b9a62b1c2e803205f0116b2cda92da2f542a8d", func := "tidewalk/tidewalklaw12.TileParts", spec := "tileParts", unfollowed := true, recurses := true, apart := false, narrowed := true }
def TilePartsUptoSaid : Prop := tilePartsUptoRow.holds Try.pinned (OpenSpec.upto tilePartsSpec)

/-- 'tidewalklaw12.TileBeside', WHERE WHAT IT READS IS OF BULK AT MOST 1048576: true; the input reads as it did. -/
def tileBesideUptoRow : OpenClaim := { program := "ytabgplniaiehpab", sum := "844b98279a3c38c87265921b50b9a62b1c2e803205f0116b2cda92da2f542a8d", func := "tidewalk/tidewalklaw12.TileBeside", spec := "tileBeside", unfollowed := true, recurses := true, apart := false, narrowed := true }
def TileBesideUptoSaid : Prop := tileBesideUptoRow.holds Try.pinned (OpenSpec.upto tileBesideSpec)

/-- 'tidewalklaw12.TileSteps', WHERE WHAT IT READS IS OF BULK AT MOST 1048576: true; the input reads as it did. -/
def tileStepsUptoRow : OpenClaim := { program := "ytabgplniaiehpab", sum := "844b98279a3c38c87265921b50b9a62b1c2e803205f0116b2cda92da2f542a8d", func := "tidewalk/tidewalklaw12.TileSteps", spec := "tileSteps", unfollowed := true, recurses := true, apart := false, narrowed := true }
def TileStepsUptoSaid : Prop := tileStepsUptoRow.holds Try.pinned (OpenSpec.upto tileStepsSpec)

/-- 'tidewalklaw12.TileCount', WHERE WHAT IT READS IS OF BULK AT MOST 1048576: true; the input reads as it did. -/
def tileCountUptoRow : OpenClaim := { program := "ytabgplniaiehpab", sum := "844b98279a3c38c87265921b50b9a62b1c2e803205f0116b2cda92da2f542a8d", func := "tidewalk/tidewalklaw12.TileCount", spec := "tileCount", unfollowed := true, recurses := true, apart := false, narrowed := true }
def TileCountUptoSaid : Prop := tileCountUptoRow.holds Try.pinned (OpenSpec.upto tileCountSpec)

end Rows
end Go.Proofs.Ytabgplniaiehpab
