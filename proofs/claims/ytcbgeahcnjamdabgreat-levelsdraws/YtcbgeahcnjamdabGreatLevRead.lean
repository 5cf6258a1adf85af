/- Layer 10: readers: at, Highest, Edge. -/
import Derived.Test.YtcbgeahcnjamdabGreatLevRejF
import Derived.Lib.MinMax
namespace Go.Proofs.YtcbgeahcnjamdabGreat
open Go.RowKit
set_option linter.unusedVariables false
section
variable {p : Gp} {w : World} {F : Nat → Prop} {B : Nat} {g : Gs} {K : Nat}
set_option maxRecDepth 100000 in
set_option maxHeartbeats 1600000 in
theorem at_nil (l : Int) (w : World) : Calls Tryz.prog 35 #[.pointer none, .int .i64 l] w fun e w' => e = .returned (.pointer none) ∧ Below w.heap.size w w' := by
  have HB := hid_mk (Below.refl w.heap.size w)
  go_enter Tryz.func35, Tryz.ntmps35
  go_wp2
  all_goals (go_ret; exact ⟨rfl, by first | exact HB.out | exact (Below.refl _ _).alloc (Nat.le_refl _) _⟩)
set_option maxRecDepth 100000 in
set_option maxHeartbeats 1600000 in
theorem at_yes (h : Gm p w F B g K) {i : Nat} (hi : i < g.m) : Calls Tryz.prog 35 #[.pointer (some ⟨B, 0, none⟩), .int .i64 i] w fun e w' => e = .returned (.pointer (some ⟨p.Bf i, 0, none⟩)) ∧ Below w.heap.size w w' := by
  obtain ⟨vv, ev, hc⟩ := h.cells
  have c1 := hc.at (j := 1) rfl
  simp only [List.getElem_toArray, List.getElem_cons_zero, List.getElem_cons_succ] at c1
  obtain ⟨q, cap, e1, cq, hql, hcap1, hcap2⟩ := h.ptr hi
  rw [e1] at c1
  have hi' : (i : Int) < (g.m : Int) := by omega
  have hm' : (g.m : Int) ≤ 9223372036854775807 := by unfold maxLen at hcap2; omega
  have hn0 : ¬ (i : Int) < 0 := by omega
  have hn1 : ¬ (g.m : Int) ≤ i := by omega
  have HB := hid_mk (Below.refl w.heap.size w)
  clear h hc e1 hcap1
  go_enter Tryz.func35, Tryz.ntmps35
  go_wp2
  all_goals (go_ret; exact ⟨rfl, by first | exact HB.out | exact (Below.refl _ _).alloc (Nat.le_refl _) _⟩)
set_option maxRecDepth 100000 in
set_option maxHeartbeats 1600000 in
theorem at_no (h : Gm p w F B g K) {l : Int} (hl : l < 0 ∨ (g.m : Int) ≤ l) (hm1 : 1 ≤ g.m) : Calls Tryz.prog 35 #[.pointer (some ⟨B, 0, none⟩), .int .i64 l] w fun e w' => e = .returned (.pointer none) ∧ Below w.heap.size w w' := by
  obtain ⟨vv, ev, hc⟩ := h.cells
  have c1 := hc.at (j := 1) rfl
  simp only [List.getElem_toArray, List.getElem_cons_zero, List.getElem_cons_succ] at c1
  obtain ⟨q, cap, e1, cq, hql, hcap1, hcap2⟩ := h.ptr (i := 0) hm1
  rw [e1] at c1
  have hm' : (g.m : Int) ≤ 9223372036854775807 := by unfold maxLen at hcap2; omega
  have HB := hid_mk (Below.refl w.heap.size w)
  clear h hc e1 hcap1
  by_cases hn0 : l < 0
  · clear hl
    go_enter Tryz.func35, Tryz.ntmps35
    go_wp2
    all_goals (go_ret; exact ⟨rfl, by first | exact HB.out | exact (Below.refl _ _).alloc (Nat.le_refl _) _⟩)
  · have hn1 : (g.m : Int) ≤ l := by omega
    clear hl
    go_enter Tryz.func35, Tryz.ntmps35
    go_wp2
    all_goals (go_ret; exact ⟨rfl, by first | exact HB.out | exact (Below.refl _ _).alloc (Nat.le_refl _) _⟩)
end
end Go.Proofs.YtcbgeahcnjamdabGreat
