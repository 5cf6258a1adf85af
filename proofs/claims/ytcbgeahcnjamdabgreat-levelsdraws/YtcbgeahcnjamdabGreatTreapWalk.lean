/- Layer 6 (treap): Walk. -/
import Derived.Test.YtcbgeahcnjamdabGreatTreapIter
import Derived.Test.YtcbgeahcnjamdabGreatBag
import Derived.Laws.MakeOwn
namespace Go.Proofs.YtcbgeahcnjamdabGreat
open Go.RowKit Go.Shelf
attribute [local go_sem] Oper.semAt_some
set_option linter.unusedVariables false
variable {Xh : Hx}

theorem infoI32 : (Tryz.prog.info? 21).map (fun i => (i.zero, i.size, i.bytes)) = some (some (.int .i32 0), 1, 4) := by kernel_rfl
/-- make([]int32, 0, m). -/
theorem make_i32 (m : Nat) (hm : m ≤ 2147483647) : ∃ cs : Array Value, cs.size = m ∧ ∀ w : World, (Instr.makeSlice 82 (.int .i64 0) (.int .i64 m)).run Tryz.prog w = .ok (.slice (some ⟨w.heap.size, 0, none⟩) 0 m) (w.alloc (.cells cs 21)) := by
  obtain ⟨i0, hi, hz0, hz1, hz2⟩ := info_parts infoI32
  refine ⟨madeCells (#[.int .i32 0]) (m * 1), by simp [madeCells], fun w => ?_⟩
  have h := run_make (P := Tryz.prog) w 82 21 i0 (.int .i32 0) Tryz.underlying82 hi hz0 .i64 .i64 0 m (by omega) (by omega) (by rw [hz2]; omega) (by omega)
  rw [h, hz1]
  rfl
section
variable {F : Nat → Prop} {B : Nat} {K : List Bool} {fr : List Int} {S : Int → List Int} {V : Int → Vl} {mx : Nat}
end
end Go.Proofs.YtcbgeahcnjamdabGreat
