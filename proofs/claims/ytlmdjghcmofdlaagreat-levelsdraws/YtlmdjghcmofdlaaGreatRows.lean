/-
  No cell of these rows narrows 'for every input' (looked for: loops, veiled, ifaces, maps, wideKeys, modest, calm, conditions, laid).
  DERIVED. THE GIVEN ROWS OF THIS SEAT. 3 by the template 'for every input the law returns true; each argument reads behind the call as it read before'; 0 by the template 'total and deterministic' (their statements: YtlmdjghcmofdlaaGreatTotals.lean).
  GIVEN WITH THE SEED: the statements are not yours to turn. If you find one false, say at which input.
  Laid BY PROGRAM, IN A SANDBOX (cutbox-rows.mjs): the forced cells as the released guide's own fill.sh prints them over the translation 85695fc2f380aac6… (all of the seat's roots in one cut). By AI agents, Wed Nov 11 2026. No macro, syntax, notation, axiom, sorry.
-/
import Derived.Test.YtlmdjghcmofdlaaGreatChecked
import GoSem.Claim
import GoSem.ClaimJoined
import GoSem.ClaimMapViews
import Derived.JoinedTies
import Derived.KernelRfl
namespace Go.Proofs.YtlmdjghcmofdlaaGreat
/- THE CELL 'sum', in the pinned program and in every row, IS THE sha256 OF THE DUMP (.gsa) THAT YtlmdjghcmofdlaaGreatProg.lean LOADS. Nothing in Lean hashes anything: it is a label: what it is worth is what the hold of that sum in a sandbox is worth. -/
noncomputable def Tryz.pinned : Pinned := { name := "ytlmdjghcmofdlaagreat", sum := "85695fc2f380aac6590defb10d97df307b5a8bd6e418c4cc5ce182599c00f062", checked := Tryz.checked }
namespace Rows
def none {H : Type} : Left H := { results := [], args := [] }

/-- 'tidewalklaw10.LevelsNobody': WHATEVER THE INPUT: true; the input reads as it did. -/
def levelsNobodySpec : ChangeSpec := { name := "levelsNobody", fn := fun _ => fun
  | [d1, d2] => { results := [.lit (.bool true)], args := [d1, d2] }
  | _ => none }
def levelsNobodyRow : OpenClaim := { program := "ytlmdjghcmofdlaagreat", sum := "85695fc2f380aac6590defb10d97df307b5a8bd6e418c4cc5ce182599c00f062", func := "tidewalk/tidewalklaw10.LevelsNobody", spec := "levelsNobody", unfollowed := true, recurses := true, plainKeys := false, apart := false }
def LevelsNobodySaid : Prop := levelsNobodyRow.holds Tryz.pinned (OpenSpec.ofChange levelsNobodySpec)

/-- ITS FALSE NEIGHBOUR: 'it returns false'. Refute it at one input. -/
def levelsNobodyWrong : ChangeSpec := { name := "levelsNobody", fn := fun _ => fun
  | [d1, d2] => { results := [.lit (.bool false)], args := [d1, d2] }
  | _ => none }
def LevelsNobodyWrongFalsely : Prop := levelsNobodyRow.holds Tryz.pinned (OpenSpec.ofChange levelsNobodyWrong)

/-- 'tidewalklaw10.LevelsDraws': WHATEVER THE INPUT: true; the input reads as it did. -/
def levelsDrawsSpec : ChangeSpec := { name := "levelsDraws", fn := fun _ => fun
  | [d1, d2, d3, d4] => { results := [.lit (.bool true)], args := [d1, d2, d3, d4] }
  | _ => none }
def levelsDrawsRow : OpenClaim := { program := "ytlmdjghcmofdlaagreat", sum := "85695fc2f380aac6590defb10d97df307b5a8bd6e418c4cc5ce182599c00f062", func := "tidewalk/tidewalklaw10.LevelsDraws", spec := "levelsDraws", unfollowed := true, recurses := true, plainKeys := false, apart := false }
def LevelsDrawsSaid : Prop := levelsDrawsRow.holds Tryz.pinned (OpenSpec.ofChange levelsDrawsSpec)

/-- ITS FALSE NEIGHBOUR: 'it returns false'. Refute it at one input. -/
def levelsDrawsWrong : ChangeSpec := { name := "levelsDraws", fn := fun _ => fun
  | [d1, d2, d3, d4] => { results := [.lit (.bool false)], args := [d1, d2, d3, d4] }
  | _ => none }
def LevelsDrawsWrongFalsely : Prop := levelsDrawsRow.holds Tryz.pinned (OpenSpec.ofChange levelsDrawsWrong)

/-- 'tidewalklaw10.LevelsKnown': WHATEVER THE INPUT: true; the input reads as it did. -/
def levelsKnownSpec : ChangeSpec := { name := "levelsKnown", fn := fun _ => fun
  | [] => { results := [.lit (.bool true)], args := [] }
  | _ => none }
def levelsKnownRow : OpenClaim := { program := "ytlmdjghcmofdlaagreat", sum := "85695fc2f380aac6590defb10d97df307b5a8bd6e418c4cc5ce182599c00f062", func := "tidewalk/tidewalklaw10.LevelsKnown", spec := "levelsKnown", unfollowed := true, recurses := true, plainKeys := false, apart := false }
def LevelsKnownSaid : Prop := levelsKnownRow.holds Tryz.pinned (OpenSpec.ofChange levelsKnownSpec)

/-- ITS FALSE NEIGHBOUR: 'it returns false'. Refute it at one input. -/
def levelsKnownWrong : ChangeSpec := { name := "levelsKnown", fn := fun _ => fun
  | [] => { results := [.lit (.bool false)], args := [] }
  | _ => none }
def LevelsKnownWrongFalsely : Prop := levelsKnownRow.holds Tryz.pinned (OpenSpec.ofChange levelsKnownWrong)

/- THE SECOND FORM. 'bulk': how many values and letters a reading holds, each counted each time it is reached (what is shared counts as often as it is met; a slice's spare places count too). A statement '..UptoSaid' is the law's where the arguments, and the package variables that the reading takes, are together of bulk at most 1048576: NARROWER than '..Said'. Prove '..Said' where nothing that the law and all that it calls make is longer than what came in: it says more and counts as full. Else prove '..UptoSaid'. A law counts once. -/
mutual
def uptoBulk {H : Type} : DataW H → Nat
  | .lit (.string bytes) => bytes.length + 1
  | .lit _ => 1
  | .nil => 1
  | .ptr d => uptoBulk d + 1
  | .slice elems spare => uptoBulkAll elems + uptoBulkAll spare + 1
  | .agg parts => uptoBulkAll parts + 1
  | .iface _ d => uptoBulk d + 1
  | .map entries => uptoBulkEntries entries + 1
  | .held _ => 1
def uptoBulkAll {H : Type} : List (DataW H) → Nat
  | [] => 0
  | d :: r => uptoBulk d + uptoBulkAll r
def uptoBulkEntries {H : Type} : List (Lit × DataW H) → Nat
  | [] => 0
  | x :: r => uptoBulkEntry x + uptoBulkEntries r
def uptoBulkEntry {H : Type} : Lit × DataW H → Nat
  | (.string bytes, d) => bytes.length + uptoBulk d + 1
  | (_, d) => uptoBulk d + 1
 end
def uptoSmall : (H : Type) → List (DataW H) → Bool := fun _ ds => decide (uptoBulkAll ds ≤ 1048576)
def OpenSpec.upto (s : _root_.Go.ChangeSpec) : _root_.Go.OpenSpec := { _root_.Go.OpenSpec.ofChange s with cond := some uptoSmall }

/-- 'tidewalklaw10.LevelsNobody', WHERE WHAT IT READS IS OF BULK AT MOST 1048576: true; the input reads as it did. -/
def levelsNobodyUptoRow : OpenClaim := { program := "ytlmdjghcmofdlaagreat", sum := "85695fc2f380aac6590defb10d97df307b5a8bd6e418c4cc5ce182599c00f062", func := "tidewalk/tidewalklaw10.LevelsNobody", spec := "levelsNobody", unfollowed := true, recurses := true, plainKeys := false, apart := false, narrowed := true }
def LevelsNobodyUptoSaid : Prop := levelsNobodyUptoRow.holds Tryz.pinned (OpenSpec.upto levelsNobodySpec)

/-- 'tidewalklaw10.LevelsDraws', WHERE WHAT IT READS IS OF BULK AT MOST 1048576: true; the input reads as it did. -/
def levelsDrawsUptoRow : OpenClaim := { program := "ytlmdjghcmofdlaagreat", sum := "85695fc2f380aac6590defb10d97df307b5a8bd6e418c4cc5ce182599c00f062", func := "tidewalk/tidewalklaw10.LevelsDraws", spec := "levelsDraws", unfollowed := true, recurses := true, plainKeys := false, apart := false, narrowed := true }
def LevelsDrawsUptoSaid : Prop := levelsDrawsUptoRow.holds Tryz.pinned (OpenSpec.upto levelsDrawsSpec)

/-- 'tidewalklaw10.LevelsKnown', WHERE WHAT IT READS IS OF BULK AT MOST 1048576: true; the input reads as it did. -/
def levelsKnownUptoRow : OpenClaim := { program := "ytlmdjghcmofdlaagreat", sum := "85695fc2f380aac6590defb10d97df307b5a8bd6e418c4cc5ce182599c00f062", func := "tidewalk/tidewalklaw10.LevelsKnown", spec := "levelsKnown", unfollowed := true, recurses := true, plainKeys := false, apart := false, narrowed := true }
def LevelsKnownUptoSaid : Prop := levelsKnownUptoRow.holds Tryz.pinned (OpenSpec.upto levelsKnownSpec)

end Rows
end Go.Proofs.YtlmdjghcmofdlaaGreat
