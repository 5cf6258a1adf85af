/-
  No cell of these rows narrows 'for every input' (looked for: loops, veiled, ifaces, maps, wideKeys, modest, calm, conditions, laid).
  DERIVED. THE GIVEN ROWS OF THIS SEAT. 4 by the template 'for every input the law returns true; each argument reads behind the call as it read before'; 0 by the template 'total and deterministic' (their statements: YtabgplniaiehpaaGreatTotals.lean).
  GIVEN WITH THE SEED: the statements are not yours to turn. If you find one false, say at which input.
  Laid BY PROGRAM, IN A SANDBOX (cutbox-rows.mjs): the forced cells as the released guide's own fill.sh prints them over the translation 52d1fecec30a2142… (all of the seat's roots in one cut). By AI agents, Wed Nov 11 2026. No macro, syntax, notation, axiom, sorry.
-/
import Derived.Test.YtabgplniaiehpaaGreatChecked
import GoSem.Claim
import GoSem.ClaimJoined
import GoSem.ClaimMapViews
import Derived.JoinedTies
import Derived.KernelRfl
namespace Go.Proofs.YtabgplniaiehpaaGreat
/- THE CELL 'sum', in the pinned program and in every row, IS THE sha256 OF THE DUMP (.gsa) THAT YtabgplniaiehpaaGreatProg.lean LOADS. Nothing in Lean hashes anything: it is a label: what it is worth is what the hold of that sum in a sandbox is worth. -/
noncomputable def Tryz.pinned : Pinned := { name := "ytabgplniaiehpaagreat", sum := "52d1fecec30a214271ae123daaf145ab63e758d0bff5232b34b9e13ca815a740", checked := Tryz.checked }
namespace Rows
def none {H : Type} : Left H := { results := [], args := [] }

/-- 'tidewalklaw07.TourPlays': WHATEVER THE INPUT: true; the input reads as it did. -/
def tourPlaysSpec : ChangeSpec := { name := "tourPlays", fn := fun _ => fun
  | [d1, d2, d3] => { results := [.lit (.bool true)], args := [d1, d2, d3] }
  | _ => none }
def tourPlaysRow : OpenClaim := { program := "ytabgplniaiehpaagreat", sum := "52d1fecec30a214271ae123daaf145ab63e758d0bff5232b34b9e13ca815a740", func := "tidewalk/tidewalklaw07.TourPlays", spec := "tourPlays", unfollowed := true, recurses := true, plainKeys := false, apart := false }
def TourPlaysSaid : Prop := tourPlaysRow.holds Tryz.pinned (OpenSpec.ofChange tourPlaysSpec)

/-- ITS FALSE NEIGHBOUR: 'it returns false'. Refute it at one input. -/
def tourPlaysWrong : ChangeSpec := { name := "tourPlays", fn := fun _ => fun
  | [d1, d2, d3] => { results := [.lit (.bool false)], args := [d1, d2, d3] }
  | _ => none }
def TourPlaysWrongFalsely : Prop := tourPlaysRow.holds Tryz.pinned (OpenSpec.ofChange tourPlaysWrong)

/-- 'tidewalklaw08.ForestPlays': WHATEVER THE INPUT: true; the input reads as it did. -/
def forestPlaysSpec : ChangeSpec := { name := "forestPlays", fn := fun _ => fun
  | [d1, d2] => { results := [.lit (.bool true)], args := [d1, d2] }
  | _ => none }
def forestPlaysRow : OpenClaim := { program := "ytabgplniaiehpaagreat", sum := "52d1fecec30a214271ae123daaf145ab63e758d0bff5232b34b9e13ca815a740", func := "tidewalk/tidewalklaw08.ForestPlays", spec := "forestPlays", unfollowed := true, recurses := true, plainKeys := false, apart := false }
def ForestPlaysSaid : Prop := forestPlaysRow.holds Tryz.pinned (OpenSpec.ofChange forestPlaysSpec)

/-- ITS FALSE NEIGHBOUR: 'it returns false'. Refute it at one input. -/
def forestPlaysWrong : ChangeSpec := { name := "forestPlays", fn := fun _ => fun
  | [d1, d2] => { results := [.lit (.bool false)], args := [d1, d2] }
  | _ => none }
def ForestPlaysWrongFalsely : Prop := forestPlaysRow.holds Tryz.pinned (OpenSpec.ofChange forestPlaysWrong)

/-- 'tidewalklaw10.LevelsPlay': WHATEVER THE INPUT: true; the input reads as it did. -/
def levelsPlaySpec : ChangeSpec := { name := "levelsPlay", fn := fun _ => fun
  | [d1, d2, d3] => { results := [.lit (.bool true)], args := [d1, d2, d3] }
  | _ => none }
def levelsPlayRow : OpenClaim := { program := "ytabgplniaiehpaagreat", sum := "52d1fecec30a214271ae123daaf145ab63e758d0bff5232b34b9e13ca815a740", func := "tidewalk/tidewalklaw10.LevelsPlay", spec := "levelsPlay", unfollowed := true, recurses := true, plainKeys := false, apart := false }
def LevelsPlaySaid : Prop := levelsPlayRow.holds Tryz.pinned (OpenSpec.ofChange levelsPlaySpec)

/-- ITS FALSE NEIGHBOUR: 'it returns false'. Refute it at one input. -/
def levelsPlayWrong : ChangeSpec := { name := "levelsPlay", fn := fun _ => fun
  | [d1, d2, d3] => { results := [.lit (.bool false)], args := [d1, d2, d3] }
  | _ => none }
def LevelsPlayWrongFalsely : Prop := levelsPlayRow.holds Tryz.pinned (OpenSpec.ofChange levelsPlayWrong)

/-- 'tidewalklaw10.LevelsHold': WHATEVER THE INPUT: true; the input reads as it did. -/
def levelsHoldSpec : ChangeSpec := { name := "levelsHold", fn := fun _ => fun
  | [d1, d2, d3] => { results := [.lit (.bool true)], args := [d1, d2, d3] }
  | _ => none }
def levelsHoldRow : OpenClaim := { program := "ytabgplniaiehpaagreat", sum := "52d1fecec30a214271ae123daaf145ab63e758d0bff5232b34b9e13ca815a740", func := "tidewalk/tidewalklaw10.LevelsHold", spec := "levelsHold", unfollowed := true, recurses := true, plainKeys := false, apart := false }
def LevelsHoldSaid : Prop := levelsHoldRow.holds Tryz.pinned (OpenSpec.ofChange levelsHoldSpec)

/-- ITS FALSE NEIGHBOUR: 'it returns false'. Refute it at one input. -/
def levelsHoldWrong : ChangeSpec := { name := "levelsHold", fn := fun _ => fun
  | [d1, d2, d3] => { results := [.lit (.bool false)], args := [d1, d2, d3] }
  | _ => none }
def LevelsHoldWrongFalsely : Prop := levelsHoldRow.holds Tryz.pinned (OpenSpec.ofChange levelsHoldWrong)

/- THE SECOND FORM. 'bulk': how many values and letters a reading holds, each counted each time it is reached (what is shared counts as often as it is met; a slice's spare places count too). A statement '..UptoSaid' is the law's where the arguments, and the package variables that the reading takes, are together of bulk at most 1048576: NARROWER than '..Said'. Prove '..Said' where nothing that the law and all that it calls make is longer than what came in: it says more and counts as full. Else prove '..UptoSaid'. A law counts once. -/
mutual
def uptoBulk {H : Type} : DataW H → Nat
  | .lit (.string bytes) => bytes.length + 1
  | .lit _ => 1
  | .nil => 1
  | .ptr d => uptoBulk d + 1
  | .slice elems spare => uptoBulkAll elems + uptoBulkAll spare + 1
  | .agg parts => uptoBulkAll parts + 1
  | .iface _ d => uptoBulk d + 1
  | .map entries => uptoBulkEntries entries + 1
  | .held _ => 1
def uptoBulkAll {H : Type} : List (DataW H) → Nat
  | [] => 0
  | d :: r => uptoBulk d + uptoBulkAll r
def uptoBulkEntries {H : Type} : List (Lit × DataW H) → Nat
  | [] => 0
  | x :: r => uptoBulkEntry x + uptoBulkEntries r
def uptoBulkEntry {H : Type} : Lit × DataW H → Nat
  | (.string bytes, d) => bytes.length + uptoBulk d + 1
  | (_, d) => uptoBulk d + 1
 end
def uptoSmall : (H : Type) → List (DataW H) → Bool := fun _ ds => decide (uptoBulkAll ds ≤ 1048576)
def OpenSpec.upto (s : _root_.Go.ChangeSpec) : _root_.Go.OpenSpec := { _root_.Go.OpenSpec.ofChange s with cond := some uptoSmall }

/-- 'tidewalklaw07.TourPlays', WHERE WHAT IT READS IS OF BULK AT MOST 1048576: true; the input reads as it did. -/
def tourPlaysUptoRow : OpenClaim := { program := "ytabgplniaiehpaagreat", sum := "52d1fecec30a214271ae123daaf145ab63e758d0bff5232b34b9e13ca815a740", func := "tidewalk/tidewalklaw07.TourPlays", spec := "tourPlays", unfollowed := true, recurses := true, plainKeys := false, apart := false, narrowed := true }
def TourPlaysUptoSaid : Prop := tourPlaysUptoRow.holds Tryz.pinned (OpenSpec.upto tourPlaysSpec)

/-- 'tidewalklaw08.ForestPlays', WHERE WHAT IT READS IS OF BULK AT MOST 1048576: true; the input reads as it did. -/
def forestPlaysUptoRow : OpenClaim := { program := "ytabgplniaiehpaagreat", sum := "52d1fecec30a214271ae123daaf145ab63e758d0bff5232b34b9e13ca815a740", func := "tidewalk/tidewalklaw08.ForestPlays", spec := "forestPlays", unfollowed := true, recurses := true, plainKeys := false, apart := false, narrowed := true }
def ForestPlaysUptoSaid : Prop := forestPlaysUptoRow.holds Tryz.pinned (OpenSpec.upto forestPlaysSpec)

/-- 'tidewalklaw10.LevelsPlay', WHERE WHAT IT READS IS OF BULK AT MOST 1048576: true; the input reads as it did. -/
def levelsPlayUptoRow : OpenClaim := { program := "ytabgplniaiehpaagreat", sum := "52d1fecec30a214271ae123daaf145ab63e758d0bff5232b34b9e13ca815a740", func := "tidewalk/tidewalklaw10.LevelsPlay", spec := "levelsPlay", unfollowed := true, recurses := true, plainKeys := false, apart := false, narrowed := true }
def LevelsPlayUptoSaid : Prop := levelsPlayUptoRow.holds Tryz.pinned (OpenSpec.upto levelsPlaySpec)

/-- 'tidewalklaw10.LevelsHold', WHERE WHAT IT READS IS OF BULK AT MOST 1048576: true; the input reads as it did. -/
def levelsHoldUptoRow : OpenClaim := { program := "ytabgplniaiehpaagreat", sum := "52d1fecec30a214271ae123daaf145ab63e758d0bff5232b34b9e13ca815a740", func := "tidewalk/tidewalklaw10.LevelsHold", spec := "levelsHold", unfollowed := true, recurses := true, plainKeys := false, apart := false, narrowed := true }
def LevelsHoldUptoSaid : Prop := levelsHoldUptoRow.holds Tryz.pinned (OpenSpec.upto levelsHoldSpec)

end Rows
end Go.Proofs.YtabgplniaiehpaaGreat
