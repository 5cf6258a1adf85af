/- Layer 10: an edge's ends; at; link. -/
import Derived.Test.YtcbgeahcnjamdabGreatLevCall
import Derived.LoopN
namespace Go.Proofs.YtcbgeahcnjamdabGreat
open Go.RowKit
set_option linter.unusedVariables false

def ends2 (x : Eg) : Value := .agg #[.int .i64 x.a, .int .i64 x.b]
set_option maxHeartbeats 1600000 in
set_option maxRecDepth 100000 in
theorem ends_any (x : Eg) (w : World) : Calls Tryz.prog 62 #[egv x] w fun e w' => e = .returned (ends2 x) ∧ Below w.heap.size w w' := by
  obtain ⟨a, b, l, t⟩ := x
  have h2 : Hid (Blk ((w.alloc (.cells #[.int .i64 a, .int .i64 b, .int .i64 l, .bool t] 69)).alloc (.cells #[.int .i64 a, .int .i64 b] 115)) (w.heap.size + 1) 115 #[.int .i64 a, .int .i64 b]) := by
    have := Blk.new (w.alloc (.cells #[.int .i64 a, .int .i64 b, .int .i64 l, .bool t] 69)) 115 #[.int .i64 a, .int .i64 b]
    rw [World.size_alloc] at this; exact this
  unfold egv ends2
  go_enter Tryz.func62, Tryz.ntmps62
  go_wp2
  refine bodyPost_ret (results_cell_row rfl _ _ (w.heap.size + 1) 115 _ (0, 0) _ rfl h2.out Tryz.underlying115 rfl (by kernel_rfl)) rfl ?_
  exact ⟨rfl, below_new ((Below.refl _ _).alloc (Nat.le_refl _) _) (Nat.le_refl _) _⟩
def linkM (Q : Ex → Prop) (n a b m : Int) : Ex → Prop := fun y => Q y ∨ y = ⟨n, a, b, m⟩
def linkG (g : Gs) (n : Int) (x : Eg) (i : Nat) : Gs := g.setF i (addP (addP (g.P i) x.a 0 0) x.b 0 0) (linkM (g.Q i) n x.a x.b (if x.l = i then 1 else 0))
theorem linkM_mark {Q : Ex → Prop} {n a b : Int} (h : ¬ Ep Q n) : emarkQ (linkQ Q n a b) n 1 = linkM Q n a b 1 := by
  funext y
  apply propext
  constructor
  · rintro (⟨h1 | h1, h2⟩ | ⟨y0, h1 | h1, h2, rfl⟩)
    · exact .inl h1
    · rw [h1] at h2; exact absurd rfl h2
    · exact absurd ⟨y0, h1, h2⟩ h
    · rw [h1]; exact .inr rfl
  · rintro (h1 | rfl)
    · exact .inl ⟨.inl h1, fun e => h ⟨y, h1, e⟩⟩
    · exact .inr ⟨⟨n, a, b, 0⟩, .inr rfl, rfl, rfl⟩
theorem addP_vp (P : Vx → Prop) (v s l : Int) : Vp (addP P v s l) v := by
  by_cases h : Vp P v
  · obtain ⟨x, h1, h2⟩ := h; exact ⟨x, .inl h1, h2⟩
  · exact ⟨⟨v, s, l, 0⟩, .inr ⟨h, rfl⟩, rfl⟩
theorem Vp.add {P : Vx → Prop} {u : Int} (h : Vp P u) (v s l : Int) : Vp (addP P v s l) u := by obtain ⟨x, h1, h2⟩ := h; exact ⟨x, .inl h1, h2⟩
/-- A box that the graph's steps leave alone. -/
structure Bx (w : World) (F : Nat → Prop) (M : Nat) (T : TypeId) (cs : Array Value) : Prop where
  blk : Blk w M T cs
  out : ¬ F M
theorem Bx.step {w w' : World} {F F' : Nat → Prop} {M : Nat} {T : TypeId} {cs : Array Value} (h : Bx w F M T cs) (hs : Step F F' w w') : Bx w' F' M T cs :=
  ⟨(hs.only.block M h.blk.lt h.out).trans h.blk, fun k => (hs.ext M k).elim h.out (fun e => by have := h.blk.lt; omega)⟩
theorem Bx.below {w w' : World} {F : Nat → Prop} {M : Nat} {T : TypeId} {cs : Array Value} (h : Bx w F M T cs) (hb : Below w.heap.size w w') : Bx w' F M T cs := ⟨h.blk.below hb, h.out⟩
theorem idx0 (a b : Int) (w : World) : Sem.run Tryz.prog (Instr.index 115 (.agg #[.int .i64 a, .int .i64 b]) (.int .i64 0)) w = .ok (.int .i64 a) w := by kernel_rfl
theorem idx1 (a b : Int) (w : World) : Sem.run Tryz.prog (Instr.index 115 (.agg #[.int .i64 a, .int .i64 b]) (.int .i64 1)) w = .ok (.int .i64 b) w := by kernel_rfl
section
variable {p : Gp} {w : World} {F : Nat → Prop} {B : Nat} {g : Gs} {K : Nat}
set_option maxRecDepth 100000 in
set_option maxHeartbeats 3200000 in
theorem link_any (h : Gm p w F B g K) (hK : K + 3 ≤ 30000) {i : Nat} (hi : i < g.m) {n : Int} {x : Eg} (hn : B64 n) (h1 : 1 ≤ n) (ha : B64 x.a) (hb : B64 x.b) (he : ¬ Ep (g.Q i) n) (hj : ¬ Jq (g.Q i) x.a x.b) :
    Calls Tryz.prog 52 #[.pointer (some ⟨B, 0, none⟩), .int .i64 n, egv x, .int .i64 i] w fun e w' => e = .returned (.tuple #[]) ∧ ∃ F', Gm p w' F' B (linkG g n x i) (K + 3) ∧ Step F F' w w' := by
  obtain ⟨xa, xb, xl, xt⟩ := x
  have hbw : Below w.heap.size w (w.alloc (.cells #[.int .i64 xa, .int .i64 xb, .int .i64 xl, .bool xt] 69)) := (Below.refl _ _).alloc (Nat.le_refl _) _
  have hX : Bx (w.alloc (.cells #[.int .i64 xa, .int .i64 xb, .int .i64 xl, .bool xt] 69)) F w.heap.size 69 #[.int .i64 xa, .int .i64 xb, .int .i64 xl, .bool xt] := ⟨Blk.new w _ _, fun k => by have := h.lt _ k; omega⟩
  have h' := h.below hbw
  obtain ⟨vv, ev, hc⟩ := h'.cells
  have c1 := hc.at (j := 1) rfl
  obtain ⟨q, cap, e1, cq, hq, hcap1, hcap2⟩ := h'.ptr hi
  have x0 := hX.blk.at (j := 0) rfl
  have x1 := hX.blk.at (j := 1) rfl
  have x2 := hX.blk.at (j := 2) rfl
  have x3 := hX.blk.at (j := 3) rfl
  simp only [List.getElem_toArray, List.getElem_cons_zero, List.getElem_cons_succ] at c1
  rw [e1] at c1
  have HE := hid_mk (ends_any ⟨xa, xb, xl, xt⟩ (w.alloc (.cells #[.int .i64 xa, .int .i64 xb, .int .i64 xl, .bool xt] 69)))
  have hi' : (i : Int) < (g.m : Int) := by omega
  have hm' : (g.m : Int) ≤ 9223372036854775807 := by unfold maxLen at hcap2; omega
  have HG := hid_mk h'
  have HX := hid_mk hX
  have HS : Hid (Step F F w (w.alloc (.cells #[.int .i64 xa, .int .i64 xb, .int .i64 xl, .bool xt] 69))) := Step.of_below hbw
  have HJ := hid_mk hj
  have HN := hid_mk he
  have HI := hid_mk hi
  unfold egv
  unfold egv ends2 at HE
  clear h h' hc e1 hj he hX hbw
  go_enter Tryz.func52, Tryz.ntmps52
  go_wp2_with fail
  refine HE.out.mono ?_
  rintro e w2 ⟨rfl, hb2⟩
  have HG2 := hid_mk (HG.out.below hb2)
  have HX2 := hid_mk (HX.out.below hb2)
  have HS2 := hid_mk (HS.out.trans (Step.of_below hb2))
  have HA := hid_mk (gadd_any HG2.out (by omega) HI.out xa 0 0 ha (by decide))
  have i0 := idx0 xa xb
  have i1 := idx1 xa xb
  clear hb2 HG HX HS HE x0 x1 x2 x3 c1 cq
  go_wp2_with fail
  refine wp_loop_rounds 3 ?_
  rw [rounds_succ]
  go_wp2_with fail
  refine HA.out.mono ?_
  rintro e w3 ⟨⟨r3, rfl⟩, F3, hG3, hS3⟩
  have HG3 := hid_mk hG3
  have HX3 := hid_mk (HX2.out.step hS3)
  have HS3 := hid_mk (HS2.out.trans hS3)
  have HA3 := hid_mk (gadd_any HG3.out (by omega) HI.out xb 0 0 hb (by decide))
  clear hG3 hS3 HG2 HX2 HS2 HA
  go_wp2_with fail
  rw [rounds_succ]
  go_wp2_with fail
  refine HA3.out.mono ?_
  rintro e w4 ⟨⟨r4, rfl⟩, F4, hG4, hS4⟩
  have hX4 := HX3.out.step hS4
  simp only [setF_setF, setF_P, setF_Q] at hG4
  have HG4 := hid_mk hG4
  have HS4 := hid_mk (HS3.out.trans hS4)
  have x0 := hX4.blk.at (j := 0) rfl
  have x1 := hX4.blk.at (j := 1) rfl
  have x2 := hX4.blk.at (j := 2) rfl
  simp only [List.getElem_toArray, List.getElem_cons_zero, List.getElem_cons_succ] at x0 x1 x2
  have HX4 := hid_mk hX4
  have HL := hid_mk (glink_any HG4.out (by omega) HI.out n xa xb hn ha hb h1 (by rw [setF_Q]; exact HN.out) (by rw [setF_P]; exact (addP_vp _ _ _ _).add _ _ _) (by rw [setF_P]; exact addP_vp _ _ _ _) (by rw [setF_Q]; exact HJ.out))
  have HN4 : Hid (¬ Ep (g.Q i) n) := HN.out
  clear hG4 hS4 hX4 HG3 HX3 HS3 HA3
  go_wp2_with fail
  rw [rounds_succ]
  go_wp2_with fail
  refine HL.out.mono ?_
  rintro e w5 ⟨⟨r5, rfl⟩, F5, hG5, hS5⟩
  simp only [setF_setF, setF_P, setF_Q] at hG5
  have hX5 := HX4.out.step hS5
  have x2 := hX5.blk.at (j := 2) rfl
  simp only [List.getElem_toArray, List.getElem_cons_zero, List.getElem_cons_succ] at x2
  have HS5 := hid_mk (HS4.out.trans hS5)
  have HG5 := hid_mk hG5
  clear hG5 hS5 hX5 HL HG4 HS4 HX4
  by_cases hl : xl = i
  · have hl' : ((i : Int) == xl) = true := by simp [hl]
    have HM := hid_mk (gemark_any HG5.out (by omega) HI.out n 1 hn (by omega) (by omega) (by rw [setF_Q]; exact ⟨_, .inr rfl, rfl⟩))
    have HL5 := hid_mk hl
    clear hl HG5
    go_wp2_with fail
    refine HM.out.mono ?_
    rintro e w6 ⟨⟨r6, rfl⟩, F6, hG6, hS6⟩
    simp only [setF_setF, setF_P, setF_Q] at hG6
    rw [linkM_mark HN4.out] at hG6
    have HF : Hid (∃ F', Gm p w6 F' B (linkG g n ⟨xa, xb, xl, xt⟩ i) (K + 3) ∧ Step F F' w w6) := ⟨F6, by unfold linkG; rw [if_pos HL5.out]; exact hG6, HS5.out.trans hS6⟩
    clear hG6 hS6 HM HS5 x2
    go_wp2
    go_returns
    exact ⟨rfl, HF.out⟩
  · have hl' : ((i : Int) == xl) = false := by simp; omega
    have HF : Hid (∃ F', Gm p w5 F' B (linkG g n ⟨xa, xb, xl, xt⟩ i) (K + 3) ∧ Step F F' w w5) := ⟨F5, by unfold linkG; rw [if_neg hl]; exact HG5.out, HS5.out⟩
    clear hl HG5 HS5
    go_wp2
    go_returns
    exact ⟨rfl, HF.out⟩
end
end Go.Proofs.YtcbgeahcnjamdabGreat
