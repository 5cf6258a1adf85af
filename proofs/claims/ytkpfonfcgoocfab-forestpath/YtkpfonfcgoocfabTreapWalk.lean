/- Layer 6 (treap): Walk. -/
import Derived.Test.YtkpfonfcgoocfabTreapIter
import Derived.Test.YtkpfonfcgoocfabBag
import Derived.Laws.MakeOwn
namespace Go.Proofs.Ytkpfonfcgoocfab
open Go.RowKit Go.Shelf
attribute [local go_sem] Oper.semAt_some
set_option linter.unusedVariables false
variable {Xh : Hx}

theorem infoI32 : (Try.prog.info? 21).map (fun i => (i.zero, i.size, i.bytes)) = some (some (.int .i32 0), 1, 4) := by kernel_rfl
/-- make([]int32, 0, m). -/
theorem make_i32 (m : Nat) (hm : m ≤ 2147483647) : ∃ cs : Array Value, cs.size = m ∧ ∀ w : World, (Instr.makeSlice 45 (.int .i64 0) (.int .i64 m)).run Try.prog w = .ok (.slice (some ⟨w.heap.size, 0, none⟩) 0 m) (w.alloc (.cells cs 21)) := by
  obtain ⟨i0, hi, hz0, hz1, hz2⟩ := info_parts infoI32
  refine ⟨madeCells (#[.int .i32 0]) (m * 1), by simp [madeCells], fun w => ?_⟩
  have h := run_make (P := Try.prog) w 45 21 i0 (.int .i32 0) Try.underlying45 hi hz0 .i64 .i64 0 m (by omega) (by omega) (by rw [hz2]; omega) (by omega)
  rw [h, hz1]
  rfl
section
variable {F : Nat → Prop} {B : Nat} {K : List Bool} {fr : List Int} {S : Int → List Int} {V : Int → Vl} {mx : Nat}
end
end Go.Proofs.Ytkpfonfcgoocfab
