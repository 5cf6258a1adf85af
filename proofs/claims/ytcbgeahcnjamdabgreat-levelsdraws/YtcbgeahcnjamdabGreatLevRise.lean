/- Layer 10: rise, lesser, leads. -/
import Derived.Test.YtcbgeahcnjamdabGreatLevLoose
namespace Go.Proofs.YtcbgeahcnjamdabGreat
open Go.RowKit
set_option linter.unusedVariables false
def Eg.up (x : Eg) : Eg := ⟨x.a, x.b, x.l + 1, x.t⟩
def riseG (g : Gs) (e : Int) (x : Eg) : Gs := g.setE (updQ g.E e (some x.up)) g.ne
theorem map_upd (E : Int → Option Eg) (e : Int) (x : Eg) : updQ (fun i => (E i).map egv) e (some (egv x)) = fun i => (updQ E e (some x) i).map egv := by
  funext i
  unfold updQ
  split <;> rfl
theorem below_set4 (w : World) (M : Nat) (a b c d : Value) : Below M w ((((w.setCell ⟨M, 0, none⟩ a).setCell ⟨M, 1, none⟩ b).setCell ⟨M, 2, none⟩ c).setCell ⟨M, 3, none⟩ d) := by
  have h1 : Below M w (w.setCell ⟨M, 0, none⟩ a) := Below.setCell (p := ⟨M, 0, none⟩) (Below.refl M w) (Nat.le_refl M) a
  have h2 : Below M w ((w.setCell ⟨M, 0, none⟩ a).setCell ⟨M, 1, none⟩ b) := Below.setCell (p := ⟨M, 1, none⟩) h1 (Nat.le_refl M) b
  have h3 : Below M w (((w.setCell ⟨M, 0, none⟩ a).setCell ⟨M, 1, none⟩ b).setCell ⟨M, 2, none⟩ c) := Below.setCell (p := ⟨M, 2, none⟩) h2 (Nat.le_refl M) c
  exact Below.setCell (p := ⟨M, 3, none⟩) h3 (Nat.le_refl M) d
section
variable {p : Gp} {w : World} {F : Nat → Prop} {B : Nat} {g : Gs} {K : Nat}
/-- A step of the map and of new blocks. -/
theorem Gm.edgeS (h : Gm p w F B g K) {w1 w2 w3 : World} {E' : Int → Option Eg} {ne' : Nat} (h1 : Below w.heap.size w w1) (hM : MapV Tryz.prog 3 eg0 (fun i : Int => Value.int .i64 i) B64 w2 p.bM (fun e => (E' e).map egv) ne') (h2 : w1.grownBy w2 (some p.bM)) (h3 : Below w.heap.size w2 w3) : Gm p w3 F B (g.setE E' ne') K ∧ Step F F w w3 := by
  obtain ⟨k1, k2⟩ := (h.below h1).edgeL.2.2 w2 E' ne' hM h2
  have hl : ∀ k, F k → k < w.heap.size := h.lt
  have hs1 := h1.size
  have hs2 := h2.size
  have hF := h.edgeL.2.1
  refine ⟨k1.kept (fun k hk => h3.block k (hl k hk)) h3.size, ⟨⟨(h3.os.trans h2.os).trans h1.os, (h3.tape.trans h2.tape).trans h1.tape, (h3.output.trans h2.output).trans h1.output, Nat.le_trans (Nat.le_trans hs1 hs2) h3.size, fun k hk hn => ?_⟩, fun k hk => .inl hk⟩⟩
  exact (h3.block k hk).trans ((h2.block k (Nat.lt_of_lt_of_le hk hs1) (fun e => hn (by cases e; exact hF))).trans (h1.block k hk))
theorem Gm.mB (h : Gm p w F B g K) : p.bM ≠ B := by
  obtain ⟨c, vv, ev, Ff, Fb, h⟩ := h
  intro e
  have h1 := h.c2.2
  rw [e, h.c0.2] at h1; omega
set_option maxRecDepth 100000 in
set_option maxHeartbeats 3200000 in
theorem rise_any (h : Gm p w F B g K) {e : Int} (he : B64 e) {x : Eg} (hx : g.E e = some x) (hl : 0 ≤ x.l ∧ x.l ≤ 1000) (hne : g.ne ≤ 1000000) :
    Calls Tryz.prog 83 #[.pointer (some ⟨B, 0, none⟩), .int .i64 e] w fun r w' => r = .returned (egv x.up) ∧ Gm p w' F B (riseG g e x) K ∧ Step F F w w' := by
  obtain ⟨xa, xb, xl, xt⟩ := x
  simp only at hl
  obtain ⟨vv, ev, hc⟩ := h.cells
  have hBl := hc.lt
  obtain ⟨hMap, hbM, _⟩ := h.edgeL
  have hbl := hMap.lt
  -- the worlds
  obtain ⟨w1, hw1⟩ : ∃ w1, w1 = w.alloc (.cells #[.int .i64 0, .int .i64 0, .int .i64 0, .bool false] 69) := ⟨_, rfl⟩
  have hb1 : Below w.heap.size w w1 := by rw [hw1]; exact (Below.refl _ _).alloc (Nat.le_refl _) _
  have hs1 : w1.heap.size = w.heap.size + 1 := by rw [hw1]; simp
  have hM1 := hMap.kept (hb1.block p.bM hbl)
  have c1 : w1.cell? ⟨B, 2, none⟩ = some (.map (some p.bM)) := (hc.below hb1).at (j := 2) rfl
  have hlk := hM1.look KE he
  simp only [hx, Option.map_some, Option.getD_some] at hlk
  obtain ⟨w3, hw3⟩ : ∃ w3, w3 = w1.alloc (.cells #[.int .i64 xa, .int .i64 xb, .int .i64 (xl + 1), .bool xt] 69) := ⟨_, rfl⟩
  have hb3 : Below w.heap.size w w3 := by rw [hw3]; exact hb1.trans (((Below.refl _ w1).alloc (Nat.le_refl _) _).mono (by omega))
  have hs3 : w3.heap.size = w.heap.size + 2 := by rw [hw3]; simp [hs1]
  have k3 : Blk w3 (w.heap.size + 1) 69 #[.int .i64 xa, .int .i64 xb, .int .i64 (xl + 1), .bool xt] := by rw [hw3, ← hs1]; exact Blk.new w1 _ _
  have k3' : Blk w3 w.heap.size 69 #[.int .i64 0, .int .i64 0, .int .i64 0, .bool false] := by rw [hw3, hw1]; exact (Blk.new w _ _).alloc _
  have e0 := k3.at (j := 0) rfl
  have e1 := k3.at (j := 1) rfl
  have e2 := k3.at (j := 2) rfl
  have e3 := k3.at (j := 3) rfl
  have c3 : w3.cell? ⟨B, 2, none⟩ = some (.map (some p.bM)) := (hc.below hb3).at (j := 2) rfl
  simp only [List.getElem_toArray, List.getElem_cons_zero, List.getElem_cons_succ] at e0 e1 e2 e3
  obtain ⟨w4, hrun4, hM4, hg4⟩ := (hMap.kept (W' := w3.drew) (hb3.block p.bM hbl)).store KE (by unfold maxLen; omega) he (.agg #[.int .i64 xa, .int .i64 xb, .int .i64 (xl + 1), .bool xt])
  have hmB := h.mB
  have HXX := hid_mk hx
  have kk4 : ∀ k, k < w.heap.size + 2 → k ≠ p.bM → w4.heap[k]? = w3.heap[k]? := fun k hk hne => hg4.block k (by show k < w3.heap.size; omega) (fun e => hne (Option.some.inj e))
  have k4 : Blk w4 (w.heap.size + 1) 69 #[.int .i64 xa, .int .i64 xb, .int .i64 (xl + 1), .bool xt] := (kk4 _ (by omega) (by omega)).trans k3
  have k4' : Blk w4 w.heap.size 69 #[.int .i64 0, .int .i64 0, .int .i64 0, .bool false] := (kk4 _ (by omega) (by omega)).trans k3'
  have g0 := k4.at (j := 0) rfl
  have g1 := k4.at (j := 1) rfl
  have g2 := k4.at (j := 2) rfl
  have g3 := k4.at (j := 3) rfl
  have g4 : w4.cell? ⟨B, 2, none⟩ = some (.map (some p.bM)) := (World.cell?_of_block (w := w3) (kk4 B (by omega) hmB.symm)).trans c3
  simp only [List.getElem_toArray, List.getElem_cons_zero, List.getElem_cons_succ] at g0 g1 g2 g3
  have q0 := k4'.frozen 0
  have q1 := k4'.frozen 1
  have q2 := k4'.frozen 2
  have q3 := k4'.frozen 3
  have r0 := k4'.at (j := 0) rfl
  have r1 := k4'.at (j := 1) rfl
  have r2 := k4'.at (j := 2) rfl
  have r3 := k4'.at (j := 3) rfl
  simp only [List.getElem_toArray, List.getElem_cons_zero, List.getElem_cons_succ] at r0 r1 r2 r3
  have HK4 := hid_mk k4'
  have hs4 := hg4.size
  have HS3 := hid_mk hs3
  have HLT : Hid (w.heap.size < w4.heap.size) := k4'.lt
  have hwr : IntKind.i64.wrap (xl + 1) = xl + 1 := by simp [IntKind.wrap, IntKind.bits, IntKind.signed]; omega
  have HG := hid_mk h
  have HK3 := hid_mk k3
  have HK3' := hid_mk k3'
  have HB3 := hid_mk hb3
  have HM4 := hid_mk hM4
  have HG4 := hid_mk hg4
  subst hw3 hw1
  unfold egv at hlk
  clear h hMap hx hM1 k3 k3' k4 k4' kk4 hmB hs4 hs3 hs1 hb1 hb3 hM4 hg4 hc
  go_enter Tryz.func83, Tryz.ntmps83
  go_wp2_with fail
  go_region_held3 (fun w' => w'.cell? ⟨B, 2, none⟩ = some (.map (some p.bM)) ∧ w'.cell? ⟨w.heap.size + 1, 0, none⟩ = some (.int .i64 xa) ∧ w'.cell? ⟨w.heap.size + 1, 1, none⟩ = some (.int .i64 xb) ∧ w'.cell? ⟨w.heap.size + 1, 2, none⟩ = some (.int .i64 (xl + 1)) ∧ w'.cell? ⟨w.heap.size + 1, 3, none⟩ = some (.bool xt))
    (first | go_keep | (go_split_ands; refine ⟨?_, ?_, ?_, ?_, ?_⟩ <;> assumption))
    (fail)
  rename_i hHeld
  clear hHeld
  go_wp2
  refine bodyPost_ret (results_cell_row rfl _ _ w.heap.size 69 _ (0, 0) _ rfl (Blk.store4 HK4.out _ _ _ _) Tryz.underlying69 rfl (by kernel_rfl)) rfl ?_
  refine ⟨rfl, ?_⟩
  have hM := HM4.out
  rw [show (Value.agg #[Value.int .i64 xa, .int .i64 xb, .int .i64 (xl + 1), .bool xt]) = egv ⟨xa, xb, xl + 1, xt⟩ from rfl, map_upd] at hM
  rw [HXX.out] at hM
  simp only [Option.map_some, Option.isSome_some, if_true] at hM
  exact HG.out.edgeS (HB3.out.drew) hM HG4.out (below_set4 w4 w.heap.size (.int .i64 xa) (.int .i64 xb) (.int .i64 (xl + 1)) (.bool xt))
/-- The end of an edge whose side has fewer vertices. -/
def LesserV (P : Vx → Prop) (Q : Ex → Prop) (x : Eg) (v : Int) : Prop := ∃ na nb : Int, SizeIs P Q x.a na ∧ SizeIs P Q x.b nb ∧ v = if nb < na then x.b else x.a
set_option maxRecDepth 100000 in
set_option maxHeartbeats 3200000 in
theorem lesser_any (h : Gm p w F B g K) (hK : K ≤ 30000) {i : Nat} (hi : i < g.m) {x : Eg} (ha : B64 x.a) (hb : B64 x.b) :
    Calls Tryz.prog 55 #[.pointer (some ⟨B, 0, none⟩), egv x, .int .i64 i] w fun r w' => (∃ v, r = .returned (.int .i64 v) ∧ LesserV (g.P i) (g.Q i) x v) ∧ Below w.heap.size w w' := by
  obtain ⟨xa, xb, xl, xt⟩ := x
  obtain ⟨w1, hw1⟩ : ∃ w1, w1 = w.alloc (.cells #[.int .i64 xa, .int .i64 xb, .int .i64 xl, .bool xt] 69) := ⟨_, rfl⟩
  have hb1 : Below w.heap.size w w1 := by rw [hw1]; exact (Below.refl _ _).alloc (Nat.le_refl _) _
  have hX : Blk w1 w.heap.size 69 #[.int .i64 xa, .int .i64 xb, .int .i64 xl, .bool xt] := by rw [hw1]; exact Blk.new w _ _
  have h' := h.below hb1
  obtain ⟨vv, ev, hc⟩ := h'.cells
  have c1 := hc.at (j := 1) rfl
  simp only [List.getElem_toArray, List.getElem_cons_zero, List.getElem_cons_succ] at c1
  obtain ⟨q, cap, e1, cq, hql, hcap1, hcap2⟩ := h'.ptr hi
  rw [e1] at c1
  have hi' : (i : Int) < (g.m : Int) := by omega
  have hm' : (g.m : Int) ≤ 9223372036854775807 := by unfold maxLen at hcap2; omega
  have g0 : ∀ g' : Grow w1, g'.w.cell? ⟨w.heap.size, 0, none⟩ = some (.int .i64 xa) := fun g' => Grow.cell hX.lt (hX.at (j := 0) rfl) g'
  have g1 : ∀ g' : Grow w1, g'.w.cell? ⟨w.heap.size, 1, none⟩ = some (.int .i64 xb) := fun g' => Grow.cell hX.lt (hX.at (j := 1) rfl) g'
  obtain ⟨sz, hsz⟩ := gsize_fun h' hK hi
  have HA : Hid (∀ (g' : Grow w1) (v : Int), v = xa ∨ v = xb → Calls Tryz.prog 37 #[.pointer (some ⟨p.Bf i, 0, none⟩), .int .i64 v] g'.w fun e w' => e = .returned (.int .i64 (sz v)) ∧ Below g'.w.heap.size g'.w w') := fun g' v hv => (hsz v (by rcases hv with rfl | rfl; exact ha; exact hb)).2 g'
  have HYes : Hid (sz xb < sz xa → LesserV (g.P i) (g.Q i) ⟨xa, xb, xl, xt⟩ xb) := fun k => ⟨sz xa, sz xb, (hsz xa ha).1, (hsz xb hb).1, by rw [if_pos k]⟩
  have HNo : Hid (¬ sz xb < sz xa → LesserV (g.P i) (g.Q i) ⟨xa, xb, xl, xt⟩ xa) := fun k => ⟨sz xa, sz xb, (hsz xa ha).1, (hsz xb hb).1, by rw [if_neg k]⟩
  have HB1 := hid_mk hb1
  have hs1 : w1.heap.size = w.heap.size + 1 := by rw [hw1]; simp
  have HS1 := hid_mk hs1
  have hxl := hX.lt
  have k0 : ∀ W', Below w1.heap.size w1 W' → W'.cell? ⟨w.heap.size, 0, none⟩ = some (.int .i64 xa) ∧ W'.cell? ⟨w.heap.size, 1, none⟩ = some (.int .i64 xb) := fun W' hb' => ⟨(hX.below hb').at (j := 0) rfl, (hX.below hb').at (j := 1) rfl⟩
  have HK0 := hid_mk k0
  unfold egv
  clear h h' hc e1 hX hb1 hsz ha hb k0 hs1
  subst hw1
  by_cases hlt : sz xb < sz xa
  · have hl' : decide (sz xb < sz xa) = true := decide_eq_true hlt
    go_enter Tryz.func55, Tryz.ntmps55
    go_wp2_with fail
    have hne := Grow.ne (w.alloc (.cells #[.int .i64 xa, .int .i64 xb, .int .i64 xl, .bool xt] 69))
    refine wp_region_grow (by kernel_rfl) (by kernel_rfl) ?_
    repeat (go_big_quiet_step ((go_at_call 37; exact grow_call (HA.out _ _ (by first | exact .inl rfl | exact .inr rfl)))))
    refine wpQuiet_nil ?_
    rintro w7 ⟨⟨_, hb7⟩, rfl⟩
    obtain ⟨y0, y1⟩ := HK0.out w7 hb7
    have HB7 : Hid (Below w.heap.size w w7) := HB1.out.trans (hb7.mono (by have := HS1.out; omega))
    clear hb7 g0 g1 hne HA HK0
    go_wp2
    go_ret
    exact ⟨⟨_, rfl, HYes.out hlt⟩, HB7.out⟩
  · have hl' : decide (sz xb < sz xa) = false := decide_eq_false hlt
    go_enter Tryz.func55, Tryz.ntmps55
    go_wp2_with fail
    have hne := Grow.ne (w.alloc (.cells #[.int .i64 xa, .int .i64 xb, .int .i64 xl, .bool xt] 69))
    refine wp_region_grow (by kernel_rfl) (by kernel_rfl) ?_
    repeat (go_big_quiet_step ((go_at_call 37; exact grow_call (HA.out _ _ (by first | exact .inl rfl | exact .inr rfl)))))
    refine wpQuiet_nil ?_
    rintro w7 ⟨⟨_, hb7⟩, rfl⟩
    obtain ⟨y0, y1⟩ := HK0.out w7 hb7
    have HB7 : Hid (Below w.heap.size w w7) := HB1.out.trans (hb7.mono (by have := HS1.out; omega))
    clear hb7 g0 g1 hne HA HK0
    go_wp2
    go_ret
    exact ⟨⟨_, rfl, HNo.out hlt⟩, HB7.out⟩
set_option maxRecDepth 100000 in
set_option maxHeartbeats 3200000 in
theorem leads_any (h : Gm p w F B g K) (hK : K ≤ 30000) {i : Nat} (hi : i < g.m) {n : Int} (hn : B64 n) {x : Eg} (hx : g.E n = some x) (ha : B64 x.a) (hb : B64 x.b) :
    Calls Tryz.prog 59 #[.pointer (some ⟨B, 0, none⟩), .int .i64 n, .int .i64 i] w fun r w' => (∃ t : Bool, r = .returned (.bool t) ∧ (t = false ↔ Vp (g.P i) x.a ∧ Vp (g.P i) x.b ∧ Jq (g.Q i) x.a x.b)) ∧ Below w.heap.size w w' := by
  obtain ⟨xa, xb, xl, xt⟩ := x
  obtain ⟨vv0, ev0, hc0⟩ := h.cells
  have c2 := hc0.at (j := 2) rfl
  simp only [List.getElem_toArray, List.getElem_cons_zero, List.getElem_cons_succ] at c2
  have hlk := h.edgeL.1.look KE hn
  simp only [hx, Option.map_some, Option.getD_some] at hlk
  obtain ⟨w1, hw1⟩ : ∃ w1, w1 = w.alloc (.cells #[.int .i64 xa, .int .i64 xb, .int .i64 xl, .bool xt] 69) := ⟨_, rfl⟩
  have hb1 : Below w.heap.size w w1 := by rw [hw1]; exact (Below.refl _ _).alloc (Nat.le_refl _) _
  have hX : Blk w1 w.heap.size 69 #[.int .i64 xa, .int .i64 xb, .int .i64 xl, .bool xt] := by rw [hw1]; exact Blk.new w _ _
  have h' := h.below hb1
  obtain ⟨vv, ev, hc⟩ := h'.cells
  obtain ⟨q, cap, e1, cq, hql, hcap1, hcap2⟩ := h'.ptr hi
  have gc1 : ∀ g' : Grow w1, g'.w.cell? ⟨B, 1, none⟩ = some (.slice (some ⟨q, 0, none⟩) g.m cap) := fun g' => by rw [← e1]; exact Grow.cell hc.lt (hc.at (j := 1) rfl) g'
  have gq : ∀ g' : Grow w1, g'.w.cell? ⟨q, i, none⟩ = some (.pointer (some ⟨p.Bf i, 0, none⟩)) := fun g' => Grow.cell hql cq g'
  have hi' : (i : Int) < (g.m : Int) := by omega
  have hm' : (g.m : Int) ≤ 9223372036854775807 := by unfold maxLen at hcap2; omega
  have g0 : ∀ g' : Grow w1, g'.w.cell? ⟨w.heap.size, 0, none⟩ = some (.int .i64 xa) := fun g' => Grow.cell hX.lt (hX.at (j := 0) rfl) g'
  have g1 : ∀ g' : Grow w1, g'.w.cell? ⟨w.heap.size, 1, none⟩ = some (.int .i64 xb) := fun g' => Grow.cell hX.lt (hX.at (j := 1) rfl) g'
  obtain ⟨t, t1, t2⟩ := gsame_val h' hK hi xa xb ha hb
  have HA := hid_mk t2
  have HT : Hid ((!t) = false ↔ Vp (g.P i) xa ∧ Vp (g.P i) xb ∧ Jq (g.Q i) xa xb) := by show _ ↔ _; rw [← t1]; cases t <;> simp
  have HB1 := hid_mk hb1
  have hs1 : w1.heap.size = w.heap.size + 1 := by rw [hw1]; simp
  have HS1 := hid_mk hs1
  unfold egv at hlk
  clear h h' hc hc0 hX hb1 t1 t2 ha hb hs1 e1 hx cq
  subst hw1
  go_enter Tryz.func59, Tryz.ntmps59
  go_wp2_with fail
  have hne := Grow.ne (w.alloc (.cells #[.int .i64 xa, .int .i64 xb, .int .i64 xl, .bool xt] 69))
  refine wp_region_grow (by kernel_rfl) (by kernel_rfl) ?_
  repeat (go_big_quiet_step ((go_at_call 36; exact grow_call (HA.out _))))
  refine wpQuiet_nil ?_
  rintro w7 ⟨⟨_, hb7⟩, rfl⟩
  have HB7 : Hid (Below w.heap.size w w7) := HB1.out.trans (hb7.mono (by have := HS1.out; omega))
  clear hb7 g0 g1 gc1 gq hne HA
  go_wp2
  go_ret
  exact ⟨⟨_, rfl, HT.out⟩, HB7.out⟩
end
end Go.Proofs.YtcbgeahcnjamdabGreat
