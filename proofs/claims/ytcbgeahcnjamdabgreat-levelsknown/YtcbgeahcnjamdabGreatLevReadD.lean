/- Layer 10: readers: Edge, Tree, of a graph that is there. -/
import Derived.Test.YtcbgeahcnjamdabGreatLevLaw
import Derived.BigQuiet
namespace Go.Proofs.YtcbgeahcnjamdabGreat
open Go.RowKit
set_option linter.unusedVariables false
section
variable {p : Gp} {w : World} {F : Nat → Prop} {B : Nat} {g : Gs} {K : Nat}
set_option maxRecDepth 100000 in
set_option maxHeartbeats 3200000 in
theorem edge_some (h : Gm p w F B g K) {e : Int} (he : B64 e) {x : Eg} (hx : g.E e = some x) : Calls Tryz.prog 16 #[.pointer (some ⟨B, 0, none⟩), .int .i64 e] w fun r w' => r = .returned (.tuple #[.int .i64 x.a, .int .i64 x.b, .int .i64 x.l, .bool x.t, .bool true]) ∧ Below w.heap.size w w' := by
  obtain ⟨xa, xb, xl, xt⟩ := x
  obtain ⟨vv, ev, hc⟩ := h.cells
  have c2 := hc.at (j := 2) rfl
  simp only [List.getElem_toArray, List.getElem_cons_zero, List.getElem_cons_succ] at c2
  have hlk := h.edgeL.1.look_ok KE he
  simp only [hx, Option.map_some, Option.getD_some, Option.isSome_some] at hlk
  unfold egv at hlk
  have hbw : Below w.heap.size w (w.alloc (.cells #[.int .i64 xa, .int .i64 xb, .int .i64 xl, .bool xt] 69)) := (Below.refl _ _).alloc (Nat.le_refl _) _
  have HB := hid_mk hbw
  clear h hc hbw hx
  go_enter Tryz.func16, Tryz.ntmps16
  go_wp2
  all_goals (try go_quiet (fail))
  all_goals (try go_wp2)
  all_goals (try simp only [Exit.inBlock, Exit.then])
  all_goals refine bodyPost_ret (results_five rfl _ _ _) rfl ?_
  all_goals exact ⟨rfl, HB.out.os, HB.out.tape, HB.out.output, HB.out.size, HB.out.block⟩
set_option maxRecDepth 100000 in
set_option maxHeartbeats 3200000 in
theorem edge_none (h : Gm p w F B g K) {e : Int} (he : B64 e) (hx : g.E e = none) : Calls Tryz.prog 16 #[.pointer (some ⟨B, 0, none⟩), .int .i64 e] w fun r w' => r = .returned (.tuple #[.int .i64 0, .int .i64 0, .int .i64 0, .bool false, .bool false]) ∧ Below w.heap.size w w' := by
  obtain ⟨vv, ev, hc⟩ := h.cells
  have c2 := hc.at (j := 2) rfl
  simp only [List.getElem_toArray, List.getElem_cons_zero, List.getElem_cons_succ] at c2
  have hlk := h.edgeL.1.look_ok KE he
  simp only [hx, Option.map_none, Option.getD_none, Option.isSome_none] at hlk
  unfold eg0 at hlk
  have hbw : Below w.heap.size w (w.alloc (.cells #[.int .i64 0, .int .i64 0, .int .i64 0, .bool false] 69)) := (Below.refl _ _).alloc (Nat.le_refl _) _
  have HB := hid_mk hbw
  clear h hc hbw hx
  go_enter Tryz.func16, Tryz.ntmps16
  go_wp2
  all_goals (try go_quiet (fail))
  all_goals (try go_wp2)
  all_goals (try simp only [Exit.inBlock, Exit.then])
  all_goals refine bodyPost_ret (results_five rfl _ _ _) rfl ?_
  all_goals exact ⟨rfl, HB.out.os, HB.out.tape, HB.out.output, HB.out.size, HB.out.block⟩
set_option maxRecDepth 100000 in
set_option maxHeartbeats 3200000 in
theorem tree_no (h : Gm p w F B g K) (v : Int) {l : Int} (hl : l < 0 ∨ (g.m : Int) ≤ l) (hm1 : 1 ≤ g.m) : Calls Tryz.prog 19 #[.pointer (some ⟨B, 0, none⟩), .int .i64 v, .int .i64 l] w fun e w' => e = .returned (.int .i64 0) ∧ Below w.heap.size w w' := by
  have HA := hid_mk (at_no h hl hm1)
  clear h hl
  go_enter Tryz.func19, Tryz.ntmps19
  go_wp2_with fail
  refine HA.out.mono ?_
  rintro e w1 ⟨rfl, hb1⟩
  have HB1 := hid_mk hb1
  clear hb1 HA
  go_wp2
  go_ret
  exact ⟨rfl, HB1.out⟩
set_option maxRecDepth 100000 in
set_option maxHeartbeats 3200000 in
theorem tree_any (h : Gm p w F B g K) (hK : K ≤ 30000) {i : Nat} (hi : i < g.m) (v : Int) (hb : B64 v) : Calls Tryz.prog 19 #[.pointer (some ⟨B, 0, none⟩), .int .i64 v, .int .i64 i] w fun e w' => (∃ n, e = .returned (.int .i64 n) ∧ (¬ Vp (g.P 0) v → n = 0) ∧ (Vp (g.P 0) v → ∃ s, SizeIs (g.P i) (g.Q i) v s ∧ n = max 1 s)) ∧ Below w.heap.size w w' := by
  have HA := hid_mk (at_yes h hi)
  have HH : Hid (∀ W, Gm p W F B g K → Calls Tryz.prog 18 #[.pointer (some ⟨B, 0, none⟩), .int .i64 v] W fun e w' => IsBn e (Vp (g.P 0) v) ∧ Below W.heap.size W w') := fun W k => rhas_any k (by omega) v hb
  have HS : Hid (∀ W, Gm p W F B g K → Calls Tryz.prog 37 #[.pointer (some ⟨p.Bf i, 0, none⟩), .int .i64 v] W fun e w' => (∃ n, e = .returned (.int .i64 n) ∧ SizeIs (g.P i) (g.Q i) v n ∧ 0 ≤ n ∧ n ≤ K) ∧ Below W.heap.size W w') := fun W k => gsize_any k hK hi v hb
  have HG := hid_mk h
  clear h
  go_enter Tryz.func19, Tryz.ntmps19
  go_wp2_with fail
  refine HA.out.mono ?_
  rintro e w1 ⟨rfl, hb1⟩
  have HG1 := hid_mk (HG.out.below hb1)
  have HB1 := hid_mk hb1
  clear hb1 HA HG
  go_wp2_with fail
  refine (HH.out w1 HG1.out).mono ?_
  rintro e w2 ⟨⟨t, rfl, ht⟩, hb2⟩
  have HG2 := hid_mk (HG1.out.below hb2)
  have HB2 := hid_mk (HB1.out.trans (hb2.mono HB1.out.size))
  clear hb2 HB1 HG1 HH
  cases t with
  | false =>
    have hv : Hid (¬ Vp (g.P 0) v) := fun k => by have := ht.2 k; cases this
    clear ht
    go_wp2
    go_ret
    exact ⟨⟨_, rfl, fun _ => rfl, fun k => absurd k hv.out⟩, HB2.out⟩
  | true =>
    have hv : Hid (Vp (g.P 0) v) := ht.1 rfl
    clear ht
    go_wp2_with fail
    refine (HS.out w2 HG2.out).mono ?_
    rintro e w3 ⟨⟨s, rfl, hs, s0, s1⟩, hb3⟩
    have HB3 := hid_mk (HB2.out.trans (hb3.mono HB2.out.size))
    have Hs := hid_mk hs
    clear hb3 HB2 HG2 HS hs
    by_cases hs1 : s < 1
    · have hm : Hid (max (1 : Int) s = 1) := by show _ = _; omega
      go_wp2
      all_goals (go_ret; exact ⟨⟨_, rfl, fun k => absurd hv.out k, fun _ => ⟨s, Hs.out, by omega⟩⟩, HB3.out⟩)
    · have hm : Hid (max (1 : Int) s = s) := by show _ = _; omega
      go_wp2
      all_goals (go_ret; exact ⟨⟨_, rfl, fun k => absurd hv.out k, fun _ => ⟨s, Hs.out, by omega⟩⟩, HB3.out⟩)
end
end Go.Proofs.YtcbgeahcnjamdabGreat
