/- Layer 10: Highest; what nobody answers. -/
import Derived.Test.YtcbgeahcnjamdabGreatLevRestB
namespace Go.Proofs.YtcbgeahcnjamdabGreat
open Go.RowKit
set_option linter.unusedVariables false

theorem results_five {fn : Func} {t u v z y : Tmp} (h : fn.results = #[.tmp t, .tmp u, .tmp v, .tmp z, .tmp y]) (tmps : Array Value) (P : Program) (w : World) :
    (results fn tmps).run P w = .ok (.tuple #[tmps.getD t undef, tmps.getD u undef, tmps.getD v undef, tmps.getD z undef, tmps.getD y undef]) w := by
  simp [results, h]

set_option maxRecDepth 100000 in
set_option maxHeartbeats 1600000 in
theorem has_nil (v : Int) (w : World) : Calls Tryz.prog 18 #[.pointer none, .int .i64 v] w fun e w' => e = .returned (.bool false) ∧ Below w.heap.size w w' := by
  have HA := hid_mk (at_nil 0 w)
  have HL : Hid (∀ W, Calls Tryz.prog 40 #[.pointer none, .int .i64 v] W fun e w' => e = .returned (.bool false) ∧ Below W.heap.size W w') := fun W => (fohas_nil v W).mono fun e w1 h1 => ⟨h1.1, by rw [h1.2]; exact Below.refl _ _⟩
  go_enter Tryz.func18, Tryz.ntmps18
  go_wp2_with fail
  refine HA.out.mono ?_
  rintro e w1 ⟨rfl, hb1⟩
  have HC := hid_mk (HL.out w1)
  have HB1 := hid_mk hb1
  clear hb1 HA HL
  go_wp2_with fail
  refine HC.out.mono ?_
  rintro e w2 ⟨rfl, hb2⟩
  have HB2 := hid_mk (HB1.out.trans (hb2.mono HB1.out.size))
  clear hb2 HB1 HC
  go_wp2
  go_ret
  exact ⟨rfl, HB2.out⟩

set_option maxRecDepth 100000 in
set_option maxHeartbeats 1600000 in
theorem conn_nil (a b : Int) (w : World) : Calls Tryz.prog 12 #[.pointer none, .int .i64 a, .int .i64 b] w fun e w' => e = .returned (.bool false) ∧ Below w.heap.size w w' := by
  have HA := hid_mk (at_nil 0 w)
  have HL : Hid (∀ W, Calls Tryz.prog 36 #[.pointer none, .int .i64 a, .int .i64 b] W fun e w' => e = .returned (.bool false) ∧ Below W.heap.size W w') := fun W => (fosame_nil a b W).mono fun e w1 h1 => ⟨h1.1, h1.2⟩
  go_enter Tryz.func12, Tryz.ntmps12
  go_wp2_with fail
  refine HA.out.mono ?_
  rintro e w1 ⟨rfl, hb1⟩
  have HC := hid_mk (HL.out w1)
  have HB1 := hid_mk hb1
  clear hb1 HA HL
  go_wp2_with fail
  refine HC.out.mono ?_
  rintro e w2 ⟨rfl, hb2⟩
  have HB2 := hid_mk (HB1.out.trans (hb2.mono HB1.out.size))
  clear hb2 HB1 HC
  go_wp2
  go_ret
  exact ⟨rfl, HB2.out⟩

set_option maxRecDepth 100000 in
set_option maxHeartbeats 1600000 in
theorem size_nil (v : Int) (w : World) : Calls Tryz.prog 13 #[.pointer none, .int .i64 v] w fun e w' => e = .returned (.int .i64 0) ∧ Below w.heap.size w w' := by
  have HA := hid_mk (at_nil 0 w)
  have HL : Hid (∀ W, Calls Tryz.prog 37 #[.pointer none, .int .i64 v] W fun e w' => e = .returned (.int .i64 0) ∧ Below W.heap.size W w') := fun W => (fosize_nil v W).mono fun e w1 h1 => ⟨h1.1, by rw [h1.2]; exact Below.refl _ _⟩
  go_enter Tryz.func13, Tryz.ntmps13
  go_wp2_with fail
  refine HA.out.mono ?_
  rintro e w1 ⟨rfl, hb1⟩
  have HC := hid_mk (HL.out w1)
  have HB1 := hid_mk hb1
  clear hb1 HA HL
  go_wp2_with fail
  refine HC.out.mono ?_
  rintro e w2 ⟨rfl, hb2⟩
  have HB2 := hid_mk (HB1.out.trans (hb2.mono HB1.out.size))
  clear hb2 HB1 HC
  go_wp2
  go_ret
  exact ⟨rfl, HB2.out⟩

set_option maxRecDepth 100000 in
set_option maxHeartbeats 1600000 in
theorem sum_nil (v : Int) (w : World) : Calls Tryz.prog 14 #[.pointer none, .int .i64 v] w fun e w' => e = .returned (.int .i64 0) ∧ Below w.heap.size w w' := by
  have HA := hid_mk (at_nil 0 w)
  have HL : Hid (∀ W, Calls Tryz.prog 38 #[.pointer none, .int .i64 v] W fun e w' => e = .returned (.int .i64 0) ∧ Below W.heap.size W w') := fun W => (fosum_nil v W).mono fun e w1 h1 => ⟨h1.1, by rw [h1.2]; exact Below.refl _ _⟩
  go_enter Tryz.func14, Tryz.ntmps14
  go_wp2_with fail
  refine HA.out.mono ?_
  rintro e w1 ⟨rfl, hb1⟩
  have HC := hid_mk (HL.out w1)
  have HB1 := hid_mk hb1
  clear hb1 HA HL
  go_wp2_with fail
  refine HC.out.mono ?_
  rintro e w2 ⟨rfl, hb2⟩
  have HB2 := hid_mk (HB1.out.trans (hb2.mono HB1.out.size))
  clear hb2 HB1 HC
  go_wp2
  go_ret
  exact ⟨rfl, HB2.out⟩

set_option maxRecDepth 100000 in
set_option maxHeartbeats 1600000 in
theorem least_nil (v : Int) (w : World) : Calls Tryz.prog 15 #[.pointer none, .int .i64 v] w fun e w' => e = .returned (.int .i64 (-1)) ∧ Below w.heap.size w w' := by
  have HA := hid_mk (at_nil 0 w)
  have HL : Hid (∀ W, Calls Tryz.prog 39 #[.pointer none, .int .i64 v] W fun e w' => e = .returned (.int .i64 (-1)) ∧ Below W.heap.size W w') := fun W => (foleast_nil v W).mono fun e w1 h1 => ⟨h1.1, by rw [h1.2]; exact Below.refl _ _⟩
  go_enter Tryz.func15, Tryz.ntmps15
  go_wp2_with fail
  refine HA.out.mono ?_
  rintro e w1 ⟨rfl, hb1⟩
  have HC := hid_mk (HL.out w1)
  have HB1 := hid_mk hb1
  clear hb1 HA HL
  go_wp2_with fail
  refine HC.out.mono ?_
  rintro e w2 ⟨rfl, hb2⟩
  have HB2 := hid_mk (HB1.out.trans (hb2.mono HB1.out.size))
  clear hb2 HB1 HC
  go_wp2
  go_ret
  exact ⟨rfl, HB2.out⟩

set_option maxRecDepth 100000 in
set_option maxHeartbeats 1600000 in
theorem tree_nil (v l : Int) (w : World) : Calls Tryz.prog 19 #[.pointer none, .int .i64 v, .int .i64 l] w fun e w' => e = .returned (.int .i64 0) ∧ Below w.heap.size w w' := by
  have HA := hid_mk (at_nil l w)
  go_enter Tryz.func19, Tryz.ntmps19
  go_wp2_with fail
  refine HA.out.mono ?_
  rintro e w1 ⟨rfl, hb1⟩
  have HB1 := hid_mk hb1
  clear hb1 HA
  go_wp2
  go_ret
  exact ⟨rfl, HB1.out⟩

set_option maxRecDepth 100000 in
set_option maxHeartbeats 1600000 in
theorem highest_nil (w : World) : Calls Tryz.prog 17 #[.pointer none] w fun e w' => e = .returned (.int .i64 0) ∧ w' = w := by
  go_enter Tryz.func17, Tryz.ntmps17
  go_wp2
  go_ret
  exact ⟨rfl, rfl⟩

set_option maxRecDepth 100000 in
set_option maxHeartbeats 1600000 in
theorem len_nil (w : World) : Calls Tryz.prog 165 #[.pointer none] w fun e w' => e = .returned (.tuple #[.int .i64 0, .int .i64 0]) ∧ w' = w := by
  go_enter Tryz.func165, Tryz.ntmps165
  go_wp2
  go_ret2
  exact ⟨rfl, rfl⟩

set_option maxRecDepth 100000 in
set_option maxHeartbeats 1600000 in
theorem edge_nil (e : Int) (w : World) : Calls Tryz.prog 16 #[.pointer none, .int .i64 e] w fun r w' => r = .returned (.tuple #[.int .i64 0, .int .i64 0, .int .i64 0, .bool false, .bool false]) ∧ w' = w := by
  go_enter Tryz.func16, Tryz.ntmps16
  go_wp2
  (try simp only [Exit.inBlock, Exit.then])
  refine bodyPost_ret (results_five rfl _ _ _) rfl ?_
  exact ⟨rfl, rfl⟩

section
variable {p : Gp} {w : World} {F : Nat → Prop} {B : Nat} {g : Gs} {K : Nat}
set_option maxRecDepth 100000 in
set_option maxHeartbeats 1600000 in
theorem highest_any (h : Gm p w F B g K) (hm : 1 ≤ g.m) : Calls Tryz.prog 17 #[.pointer (some ⟨B, 0, none⟩)] w fun e w' => e = .returned (.int .i64 ((g.m : Int) - 1)) ∧ Below w.heap.size w w' := by
  obtain ⟨vv, ev, hc⟩ := h.cells
  have c1 := hc.at (j := 1) rfl
  simp only [List.getElem_toArray, List.getElem_cons_zero, List.getElem_cons_succ] at c1
  obtain ⟨q, cap, e1, cq, hql, hcap1, hcap2⟩ := h.ptr (i := 0) (by omega)
  rw [e1] at c1
  have hm' : (g.m : Int) ≤ 9223372036854775807 := by unfold maxLen at hcap2; omega
  have hmx : ¬ ((g.m : Int) - 1) < 0 := by omega
  have hmx2 : max (0 : Int) ((g.m : Int) - 1) = (g.m : Int) - 1 := by omega
  have HB := hid_mk (Below.refl w.heap.size w)
  clear h hc e1 hcap1 hcap2 cq
  go_enter Tryz.func17, Tryz.ntmps17
  go_wp2
  all_goals (go_ret; exact ⟨by first | rfl | (simp; omega), HB.out⟩)
end
end Go.Proofs.YtcbgeahcnjamdabGreat
