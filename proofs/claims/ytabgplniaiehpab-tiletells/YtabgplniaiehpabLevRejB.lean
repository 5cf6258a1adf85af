/- Over whatever program: a frame that ranges over functions in a loop leaves with a mark for each: all are taken, one by one. -/
import Derived.RangeFuncLeaves
import Derived.RangeFuncRecord
namespace Go.Proofs.Ytabgplniaiehpab
set_option linter.unusedVariables false
/-- What a range puts off, for each of the blocks. -/
def marks (Ds : List Nat) : List Deferred := Ds.map fun D => { target := .collected D, args := #[] }
/-- A block whose calls put off are none yet. -/
def Mark (W : World) (D : Nat) : Prop := W.heap[D]? = some (.deferred (some []))
theorem marks_leave {F : Fence} {n : Nat} {P : Program} {fn : Func} {tmps : Array Value} {R : Ending → World → Prop} {u : FrameMode} (hu : u ≠ .run) (Ds : List Nat) (J : World → Prop) (hJ : ∀ W D, D ∈ Ds → J W → Mark W D → J (W.putObj D (.deferred none))) (hend : ∀ W, J W → LeavesInM F n P fn tmps R [] u W)
    (W : World) (hn : Ds.Nodup) (hm : ∀ D ∈ Ds, Mark W D) (h : J W) : LeavesInM F n P fn tmps R (marks Ds) u W := by
  induction Ds generalizing W with
  | nil => exact hend W h
  | cons D Ds ih =>
    obtain ⟨h1, h2⟩ := List.nodup_cons.1 hn
    refine ⟨hu, .inl ⟨D, _, rfl, run_takeDeferred (hm D (by simp)), ih (fun W D' k => hJ W D' (by simp [k])) _ h2 (fun D' hD' => ?_) (hJ W D (by simp) h (hm D (by simp)))⟩⟩
    have e : D' ≠ D := fun k => h1 (k ▸ hD')
    exact (World.putObj_heap_other e).trans (hm D' (by simp [hD']))
end Go.Proofs.Ytabgplniaiehpab
