/- Layer 7 (tour): the vertices of a tree, one by one. -/
import Derived.Test.YtcbgeahcnjamdabGreatTourFunB
import Derived.Test.YtcbgeahcnjamdabGreatTreapLaw
namespace Go.Proofs.YtcbgeahcnjamdabGreat
open Go.RowKit Go.Shelf
variable {Yh : Hx}
attribute [local go_sem] Oper.semAt_some
set_option linter.unusedVariables false

/-- make([]int, 0, m). -/
theorem make_i64 (m : Nat) (hm : m ≤ 2147483647) : ∃ cs : Array Value, cs.size = m ∧ ∀ w : World, (Instr.makeSlice 53 (.int .i64 0) (.int .i64 m)).run Tryz.prog w = .ok (.slice (some ⟨w.heap.size, 0, none⟩) 0 m) (w.alloc (.cells cs 3)) := by
  obtain ⟨i0, hi, hz0, hz1, hz2⟩ := info_parts infoI64
  refine ⟨madeCells (#[.int .i64 0]) (m * 1), by simp [madeCells], fun w => ?_⟩
  have h := run_make (P := Tryz.prog) w 53 3 i0 (.int .i64 0) Tryz.underlying53 hi hz0 .i64 .i64 0 m (by omega) (by omega) (by rw [hz2]; omega) (by omega)
  rw [h, hz1]
  rfl
/-- The vertices among some items. -/
def To.vs (t : To) (l : List Int) : List Int := (l.map fun i => (t.p i).1).filter (· ≠ 0)
def To.verts (t : To) (v : Int) : List Int := if t.item v = 0 then [] else t.vs (t.s.S (t.item v))
theorem To.vs_snoc (t : To) (l : List Int) (i : Int) : t.vs (l ++ [i]) = t.vs l ++ (if (t.p i).1 = 0 then [] else [(t.p i).1]) := by
  unfold To.vs
  rw [List.map_append, List.filter_append]
  congr 1
  by_cases h : (t.p i).1 = 0 <;> simp [h]
theorem To.vs_len (t : To) (l : List Int) : (t.vs l).length ≤ l.length := by
  unfold To.vs
  exact Nat.le_trans (List.length_filter_le _ _) (by simp)
/-- A new slice of ints. -/
def ListW (w w' : World) (ao : Option Addr) (cap : Nat) (L : List Int) : Prop := RowW w' 3 1 (.slice ao L.length cap) L.length (i64s L) ∧ ∀ k, (Value.slice ao L.length cap).ownBlock = some k → w.heap.size ≤ k
theorem fldP (a b : Int) (w : World) : Sem.run Tryz.prog (Instr.field 131 (.agg #[.int .i32 a, .int .i32 b]) 0) w = .ok (.int .i32 a) w := by kernel_rfl
section
variable {w : World} {F : Nat → Prop} {B G : Nat} {t : To}
def Bxv (b c : Nat) (p : Option Addr) (v : Int) (w : World) : Prop := Blk w b 96 #[.pointer p] ∧ Blk w c 3 #[.int .i64 v]
theorem Bxv.below {b c : Nat} {p : Option Addr} {v : Int} {w w' : World} (h : Bxv b c p v w) (hb : Below w.heap.size w w') : Bxv b c p v w' := ⟨h.1.below hb, h.2.below hb⟩
end
end Go.Proofs.YtcbgeahcnjamdabGreat
