/-
  No cell of these rows narrows 'for every input' (looked for: loops, veiled, ifaces, maps, wideKeys, modest, calm, conditions, laid).
  DERIVED. THE GIVEN ROWS OF THIS SEAT. 5 by the template 'for every input the law returns true; each argument reads behind the call as it read before'; 0 by the template 'total and deterministic' (their statements: YtpbnhbpkfdhedaaTotals.lean).
  GIVEN WITH THE SEED: the statements are not yours to turn. If you find one false, say at which input.
  Laid BY PROGRAM, IN A SANDBOX (cutbox-rows.mjs): the forced cells as the released guide's own fill.sh prints them over the translation 195b46ae18acc6c5… (all of the seat's roots in one cut). By AI agents, Wed Nov 11 2026. No macro, syntax, notation, axiom, sorry.
-/
import Derived.Test.YtpbnhbpkfdhedaaChecked
import GoSem.Claim
import GoSem.ClaimJoined
import GoSem.ClaimMapViews
import Derived.JoinedTies
import Derived.KernelRfl
namespace Go.Proofs.Ytpbnhbpkfdhedaa
/- THE CELL 'sum', in the pinned program and in every row, IS THE sha256 OF THE DUMP (.gsa) THAT YtpbnhbpkfdhedaaProg.lean LOADS. Nothing in Lean hashes anything: it is a label: what it is worth is what the hold of that sum in a sandbox is worth. -/
noncomputable def Try.pinned : Pinned := { name := "ytpbnhbpkfdhedaa", sum := "195b46ae18acc6c5cd67a0dc373023180758366eb00f76f0a5c524b4c241825d", checked := Try.checked }
namespace Rows
def none {H : Type} : Left H := { results := [], args := [] }

/-- 'tidewalklaw06.TreapPlays': WHATEVER THE INPUT: true; the input reads as it did. -/
def treapPlaysSpec : ChangeSpec := { name := "treapPlays", fn := fun _ => fun
  | [d1, d2, d3] => { results := [.lit (.bool true)], args := [d1, d2, d3] }
  | _ => none }
def treapPlaysRow : OpenClaim := { program := "ytpbnhbpkfdhedaa", sum := "195b46ae18acc6c5cd67a0dc373023180758366eb00f76f0a5c524b4c241825d", func := "tidewalk/tidewalklaw06.TreapPlays", spec := "treapPlays", unfollowed := true, recurses := true, apart := false }
def TreapPlaysSaid : Prop := treapPlaysRow.holds Try.pinned (OpenSpec.ofChange treapPlaysSpec)

/-- ITS FALSE NEIGHBOUR: 'it returns false'. Refute it at one input. -/
def treapPlaysWrong : ChangeSpec := { name := "treapPlays", fn := fun _ => fun
  | [d1, d2, d3] => { results := [.lit (.bool false)], args := [d1, d2, d3] }
  | _ => none }
def TreapPlaysWrongFalsely : Prop := treapPlaysRow.holds Try.pinned (OpenSpec.ofChange treapPlaysWrong)

/-- 'tidewalklaw06.TreapBack': WHATEVER THE INPUT: true; the input reads as it did. -/
def treapBackSpec : ChangeSpec := { name := "treapBack", fn := fun _ => fun
  | [d1, d2, d3] => { results := [.lit (.bool true)], args := [d1, d2, d3] }
  | _ => none }
def treapBackRow : OpenClaim := { program := "ytpbnhbpkfdhedaa", sum := "195b46ae18acc6c5cd67a0dc373023180758366eb00f76f0a5c524b4c241825d", func := "tidewalk/tidewalklaw06.TreapBack", spec := "treapBack", unfollowed := true, recurses := true, apart := false }
def TreapBackSaid : Prop := treapBackRow.holds Try.pinned (OpenSpec.ofChange treapBackSpec)

/-- ITS FALSE NEIGHBOUR: 'it returns false'. Refute it at one input. -/
def treapBackWrong : ChangeSpec := { name := "treapBack", fn := fun _ => fun
  | [d1, d2, d3] => { results := [.lit (.bool false)], args := [d1, d2, d3] }
  | _ => none }
def TreapBackWrongFalsely : Prop := treapBackRow.holds Try.pinned (OpenSpec.ofChange treapBackWrong)

/-- 'tidewalklaw07.TourKnown': WHATEVER THE INPUT: true; the input reads as it did. -/
def tourKnownSpec : ChangeSpec := { name := "tourKnown", fn := fun _ => fun
  | [] => { results := [.lit (.bool true)], args := [] }
  | _ => none }
def tourKnownRow : OpenClaim := { program := "ytpbnhbpkfdhedaa", sum := "195b46ae18acc6c5cd67a0dc373023180758366eb00f76f0a5c524b4c241825d", func := "tidewalk/tidewalklaw07.TourKnown", spec := "tourKnown", unfollowed := true, recurses := true, apart := false }
def TourKnownSaid : Prop := tourKnownRow.holds Try.pinned (OpenSpec.ofChange tourKnownSpec)

/-- ITS FALSE NEIGHBOUR: 'it returns false'. Refute it at one input. -/
def tourKnownWrong : ChangeSpec := { name := "tourKnown", fn := fun _ => fun
  | [] => { results := [.lit (.bool false)], args := [] }
  | _ => none }
def TourKnownWrongFalsely : Prop := tourKnownRow.holds Try.pinned (OpenSpec.ofChange tourKnownWrong)

/-- 'tidewalklaw07.TourNobody': WHATEVER THE INPUT: true; the input reads as it did. -/
def tourNobodySpec : ChangeSpec := { name := "tourNobody", fn := fun _ => fun
  | [d1, d2, d3] => { results := [.lit (.bool true)], args := [d1, d2, d3] }
  | _ => none }
def tourNobodyRow : OpenClaim := { program := "ytpbnhbpkfdhedaa", sum := "195b46ae18acc6c5cd67a0dc373023180758366eb00f76f0a5c524b4c241825d", func := "tidewalk/tidewalklaw07.TourNobody", spec := "tourNobody", unfollowed := true, recurses := true, apart := false }
def TourNobodySaid : Prop := tourNobodyRow.holds Try.pinned (OpenSpec.ofChange tourNobodySpec)

/-- ITS FALSE NEIGHBOUR: 'it returns false'. Refute it at one input. -/
def tourNobodyWrong : ChangeSpec := { name := "tourNobody", fn := fun _ => fun
  | [d1, d2, d3] => { results := [.lit (.bool false)], args := [d1, d2, d3] }
  | _ => none }
def TourNobodyWrongFalsely : Prop := tourNobodyRow.holds Try.pinned (OpenSpec.ofChange tourNobodyWrong)

/-- 'tidewalklaw07.TourParts': WHATEVER THE INPUT: true; the input reads as it did. -/
def tourPartsSpec : ChangeSpec := { name := "tourParts", fn := fun _ => fun
  | [d1, d2, d3, d4, d5, d6] => { results := [.lit (.bool true)], args := [d1, d2, d3, d4, d5, d6] }
  | _ => none }
def tourPartsRow : OpenClaim := { program := "ytpbnhbpkfdhedaa", sum := "195b46ae18acc6c5cd67a0dc373023180758366eb00f76f0a5c524b4c241825d", func := "tidewalk/tidewalklaw07.TourParts", spec := "tourParts", unfollowed := true, recurses := true, apart := false }
def TourPartsSaid : Prop := tourPartsRow.holds Try.pinned (OpenSpec.ofChange tourPartsSpec)

/-- ITS FALSE NEIGHBOUR: 'it returns false'. Refute it at one input. -/
def tourPartsWrong : ChangeSpec := { name := "tourParts", fn := fun _ => fun
  | [d1, d2, d3, d4, d5, d6] => { results := [.lit (.bool false)], args := [d1, d2, d3, d4, d5, d6] }
  | _ => none }
def TourPartsWrongFalsely : Prop := tourPartsRow.holds Try.pinned (OpenSpec.ofChange tourPartsWrong)

/- THE SECOND FORM. 'bulk': how many values and letters a reading holds, each counted each time it is reached (what is shared counts as often as it is met; a slice's spare places count too). A statement '..UptoSaid' is the law's where the arguments, and the package variables that the reading takes, are together of bulk at most 1048576: NARROWER than '..Said'. Prove '..Said' where nothing that the law and all that it calls make is longer than what came in: it says more and counts as full. Else prove '..UptoSaid'. A law counts once. -/
mutual
def uptoBulk {H : Type} : DataW H → Nat
  | .lit (.string bytes) => bytes.length + 1
  | .lit _ => 1
  | .nil => 1
  | .ptr d => uptoBulk d + 1
  | .slice elems spare => uptoBulkAll elems + uptoBulkAll spare + 1
  | .agg parts => uptoBulkAll parts + 1
  | .iface _ d => uptoBulk d + 1
  | .map entries => uptoBulkEntries entries + 1
  | .held _ => 1
def uptoBulkAll {H : Type} : List (DataW H) → Nat
  | [] => 0
  | d :: r => uptoBulk d + uptoBulkAll r
def uptoBulkEntries {H : Type} : List (Lit × DataW H) → Nat
  | [] => 0
  | x :: r => uptoBulkEntry x + uptoBulkEntries r
def uptoBulkEntry {H : Type} : Lit × DataW H → Nat
  | (.string bytes, d) => bytes.length + uptoBulk d + 1
  | (_, d) => uptoBulk d + 1
 end
def uptoSmall : (H : Type) → List (DataW H) → Bool := fun _ ds => decide (uptoBulkAll ds ≤ 1048576)
def OpenSpec.upto (s : _root_.Go.ChangeSpec) : _root_.Go.OpenSpec := { _root_.Go.OpenSpec.ofChange s with cond := some uptoSmall }

/-- 'tidewalklaw06.TreapPlays', WHERE WHAT IT READS IS OF BULK AT MOST 1048576: true; the input reads as it did. -/
def treapPlaysUptoRow : OpenClaim := { program := "ytpbnhbpkfdhedaa", sum := "195b46ae18acc6c5cd67a0dc373023180758366eb00f76f0a5c524b4c241825d", func := "tidewalk/tidewalklaw06.TreapPlays", spec := "treapPlays", unfollowed := true, recurses := true, apart := false, narrowed := true }
def TreapPlaysUptoSaid : Prop := treapPlaysUptoRow.holds Try.pinned (OpenSpec.upto treapPlaysSpec)

/-- 'tidewalklaw06.TreapBack', WHERE WHAT IT READS IS OF BULK AT MOST 1048576: true; the input reads as it did. -/
def treapBackUptoRow : OpenClaim := { program := "ytpbnhbpkfdhedaa", sum := "195b46ae18acc6c5cd67a0dc373023180758366eb00f76f0a5c524b4c241825d", func := "tidewalk/tidewalklaw06.TreapBack", spec := "treapBack", unfollowed := true, recurses := true, apart := false, narrowed := true }
def TreapBackUptoSaid : Prop := treapBackUptoRow.holds Try.pinned (OpenSpec.upto treapBackSpec)

/-- 'tidewalklaw07.TourKnown', WHERE WHAT IT READS IS OF BULK AT MOST 1048576: true; the input reads as it did. -/
def tourKnownUptoRow : OpenClaim := { program := "ytpbnhbpkfdhedaa", sum := "195b46ae18acc6c5cd67a0dc373023180758366eb00f76f0a5c524b4c241825d", func := "tidewalk/tidewalklaw07.TourKnown", spec := "tourKnown", unfollowed := true, recurses := true, apart := false, narrowed := true }
def TourKnownUptoSaid : Prop := tourKnownUptoRow.holds Try.pinned (OpenSpec.upto tourKnownSpec)

/-- 'tidewalklaw07.TourNobody', WHERE WHAT IT READS IS OF BULK AT MOST 1048576: true; the input reads as it did. -/
def tourNobodyUptoRow : OpenClaim := { program := "ytpbnhbpkfdhedaa", sum := "195b46ae18acc6c5cd67a0dc373023180758366eb00f76f0a5c524b4c241825d", func := "tidewalk/tidewalklaw07.TourNobody", spec := "tourNobody", unfollowed := true, recurses := true, apart := false, narrowed := true }
def TourNobodyUptoSaid : Prop := tourNobodyUptoRow.holds Try.pinned (OpenSpec.upto tourNobodySpec)

/-- 'tidewalklaw07.TourParts', WHERE WHAT IT READS IS OF BULK AT MOST 1048576: true; the input reads as it did. -/
def tourPartsUptoRow : OpenClaim := { program := "ytpbnhbpkfdhedaa", sum := "195b46ae18acc6c5cd67a0dc373023180758366eb00f76f0a5c524b4c241825d", func := "tidewalk/tidewalklaw07.TourParts", spec := "tourParts", unfollowed := true, recurses := true, apart := false, narrowed := true }
def TourPartsUptoSaid : Prop := tourPartsUptoRow.holds Try.pinned (OpenSpec.upto tourPartsSpec)

end Rows
end Go.Proofs.Ytpbnhbpkfdhedaa
