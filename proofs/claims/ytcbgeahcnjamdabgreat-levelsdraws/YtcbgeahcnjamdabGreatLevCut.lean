/- Layer 10: cut, leave. -/
import Derived.Test.YtcbgeahcnjamdabGreatLevRise
import Derived.BigQuiet
namespace Go.Proofs.YtcbgeahcnjamdabGreat
open Go.RowKit
set_option linter.unusedVariables false
/-- The state behind k levels of a cut. -/
def cutGk (g : Gs) (e : Int) (k : Nat) : Gs := ⟨g.n, g.m, g.P, fun i => if i < k then cutQ (g.Q i) e else g.Q i, g.E, g.ne, g.s, g.vl, g.vb, g.el, g.eb⟩
theorem cutGk_zero (g : Gs) (e : Int) : cutGk g e 0 = g := by cases g; simp [cutGk]
theorem cutGk_succ (g : Gs) (e : Int) (k : Nat) : (cutGk g e k).setF k ((cutGk g e k).P k) (cutQ ((cutGk g e k).Q k) e) = cutGk g e (k + 1) := by
  show Gs.mk g.n g.m (updF g.P k (g.P k)) (updF (fun i => if i < k then cutQ (g.Q i) e else g.Q i) k (cutQ (if k < k then cutQ (g.Q k) e else g.Q k) e)) g.E g.ne g.s g.vl g.vb g.el g.eb = Gs.mk g.n g.m g.P (fun i => if i < k + 1 then cutQ (g.Q i) e else g.Q i) g.E g.ne g.s g.vl g.vb g.el g.eb
  congr 1
  · funext j
    by_cases h : j = k
    · subst h; rw [updF_at]
    · rw [updF_ne h]
  · funext j
    by_cases h : j = k
    · subst h; rw [updF_at, if_neg (by omega), if_pos (by omega)]
    · rw [updF_ne h]
      by_cases h2 : j < k
      · rw [if_pos h2, if_pos (by omega)]
      · rw [if_neg h2, if_neg (by omega)]
/-- The state behind k levels of a leave. -/
def leaveGk (g : Gs) (a b : Int) (k : Nat) : Gs := ⟨g.n, g.m, fun i => if 1 ≤ i ∧ i < k + 1 then dropP (dropP (g.P i) (g.Q i) a) (g.Q i) b else g.P i, g.Q, g.E, g.ne, g.s, g.vl, g.vb, g.el, g.eb⟩
theorem leaveGk_zero (g : Gs) (a b : Int) : leaveGk g a b 0 = g := by
  cases g
  unfold leaveGk
  congr 1
  funext i
  exact if_neg (by omega)
theorem leaveGk_succ (g : Gs) (a b : Int) (k : Nat) : (leaveGk g a b k).setF (1 + k) (dropP (dropP ((leaveGk g a b k).P (1 + k)) ((leaveGk g a b k).Q (1 + k)) a) ((leaveGk g a b k).Q (1 + k)) b) ((leaveGk g a b k).Q (1 + k)) = leaveGk g a b (k + 1) := by
  have e1 : (leaveGk g a b k).P (1 + k) = g.P (1 + k) := if_neg (by omega)
  have e2 : (leaveGk g a b k).Q = g.Q := rfl
  rw [e1, e2]
  show Gs.mk g.n g.m (updF (leaveGk g a b k).P (1 + k) _) (updF g.Q (1 + k) (g.Q (1 + k))) g.E g.ne g.s g.vl g.vb g.el g.eb = Gs.mk g.n g.m (leaveGk g a b (k + 1)).P g.Q g.E g.ne g.s g.vl g.vb g.el g.eb
  congr 1
  · funext j
    by_cases h : j = 1 + k
    · subst h; rw [updF_at]; exact (if_pos (by omega)).symm
    · rw [updF_ne h]
      show (if 1 ≤ j ∧ j < k + 1 then _ else _) = (if 1 ≤ j ∧ j < k + 1 + 1 then _ else _)
      by_cases h2 : 1 ≤ j ∧ j < k + 1
      · rw [if_pos h2, if_pos (by omega)]
      · rw [if_neg h2, if_neg (by omega)]
  · funext j
    by_cases h : j = 1 + k
    · subst h; rw [updF_at]
    · rw [updF_ne h]
section
variable {p : Gp} {w : World} {F : Nat → Prop} {B : Nat} {g : Gs} {K : Nat}
set_option maxRecDepth 100000 in
set_option maxHeartbeats 3200000 in
theorem cut_any (h : Gm p w F B g K) {L : Nat} (hL : L < g.m) (hK : K + (L + 1) ≤ 30000) {n : Int} (hn : B64 n) {x : Eg} (hx : x.l = L) :
    Calls Tryz.prog 31 #[.pointer (some ⟨B, 0, none⟩), .int .i64 n, egv x] w fun e w' => e = .returned (.tuple #[]) ∧ ∃ F', Gm p w' F' B (cutGk g n (L + 1)) (K + (L + 1)) ∧ Step F F' w w' := by
  obtain ⟨xa, xb, xl, xt⟩ := x
  obtain rfl : xl = L := hx
  have hbw : Below w.heap.size w (w.alloc (.cells #[.int .i64 xa, .int .i64 xb, .int .i64 (L : Int), .bool xt] 69)) := (Below.refl _ _).alloc (Nat.le_refl _) _
  have hX := Blk.new w 69 #[.int .i64 xa, .int .i64 xb, .int .i64 (L : Int), .bool xt]
  have h' := h.below hbw
  obtain ⟨vv, ev, hc⟩ := h'.cells
  have c1 := hc.at (j := 1) rfl
  simp only [List.getElem_toArray, List.getElem_cons_zero, List.getElem_cons_succ] at c1
  obtain ⟨q, cap, e1, cq, hql, hcap1, hcap2⟩ := h'.ptr hL
  rw [e1] at c1
  have x2 := hX.at (j := 2) rfl
  simp only [List.getElem_toArray, List.getElem_cons_zero, List.getElem_cons_succ] at x2
  have hcm : (cap : Int) ≤ 9223372036854775807 := by unfold maxLen at hcap2; omega
  have hwr : IntKind.i64.wrap ((L : Int) + 1) = (L : Int) + 1 := by simp [IntKind.wrap, IntKind.bits, IntKind.signed]; omega
  have HG := hid_mk h'
  have HS : Hid (Step F F w (w.alloc (.cells #[.int .i64 xa, .int .i64 xb, .int .i64 (L : Int), .bool xt] 69))) := Step.of_below hbw
  have HRV := hid_mk e1
  unfold egv
  clear h h' hc e1 hX hbw cq
  go_enter Tryz.func31, Tryz.ntmps31
  go_wp2_with fail
  go_quiet (fail)
  go_wp2_with fail
  go_loopw [17] (fun vk wr => ∃ k : Nat, k ≤ L + 1 ∧ vk = .int .i64 k ∧ Hid (∃ F', Gm p wr F' B (cutGk g n k) (K + k) ∧ Step F F' w wr)) (fun vk _ => L + 1 - (intOf vk).toNat)
  case atStart =>
    have hd : ∀ (W : World) (q : Nat), Below W.heap.size W (W.drewN q) := fun W q => ⟨rfl, rfl, rfl, Nat.le_refl _, fun _ _ => rfl⟩
    exact ⟨0, by omega, rfl, F, by rw [cutGk_zero]; exact HG.out.below (hd _ _), HS.out.trans (Step.of_below (hd _ _))⟩
  case round =>
    obtain ⟨k, hk, rfl, HR⟩ := hrel
    by_cases hlt : k < L + 1
    · obtain ⟨F1, hG, hS⟩ := HR.out
      have hkm : k < (cutGk g n k).m := by show k < g.m; omega
      obtain ⟨q', cap', e', cq', hql', _⟩ := hG.ptr hkm
      rw [HRV.out] at e'
      cases e'
      have HC := hid_mk (gcut_any hG (by omega) hkm n hn)
      have HS1 := hid_mk hS
      have hlt' : (k : Int) < (L : Int) + 1 := by omega
      clear hG hS HR
      go_wp2_with fail
      refine HC.out.mono ?_
      rintro e w2 ⟨⟨r, rfl⟩, F2, hG2, hS2⟩
      rw [cutGk_succ] at hG2
      have HR2 : Hid (∃ F', Gm p w2 F' B (cutGk g n (k + 1)) (K + (k + 1)) ∧ Step F F' w w2) := ⟨F2, hG2, HS1.out.trans hS2⟩
      clear hG2 hS2 HC HS1 cq'
      go_wp2
      go_roundw
      case rel => exact ⟨k + 1, by omega, by go_num, HR2.out⟩
      case measure => simp [intOf]; omega
    · obtain rfl : k = L + 1 := by omega
      have HF : Hid (∃ F', Gm p wr F' B (cutGk g n (L + 1)) (K + (L + 1)) ∧ Step F F' w wr) := HR.out
      clear HR
      go_wp2
      go_returns
      exact ⟨rfl, HF.out⟩
set_option maxRecDepth 100000 in
set_option maxHeartbeats 3200000 in
theorem leave_any (h : Gm p w F B g K) {L : Nat} (hL : L < g.m) (hK : K + 2 * L + 2 ≤ 30000) {x : Eg} (hx : x.l = L) (ha : B64 x.a) (hb : B64 x.b) :
    Calls Tryz.prog 33 #[.pointer (some ⟨B, 0, none⟩), egv x] w fun e w' => e = .returned (.tuple #[]) ∧ ∃ F', Gm p w' F' B (leaveGk g x.a x.b L) (K + 2 * L) ∧ Step F F' w w' := by
  obtain ⟨xa, xb, xl, xt⟩ := x
  obtain rfl : xl = L := hx
  have hbw : Below w.heap.size w (w.alloc (.cells #[.int .i64 xa, .int .i64 xb, .int .i64 (L : Int), .bool xt] 69)) := (Below.refl _ _).alloc (Nat.le_refl _) _
  have hX : Bx (w.alloc (.cells #[.int .i64 xa, .int .i64 xb, .int .i64 (L : Int), .bool xt] 69)) F w.heap.size 69 #[.int .i64 xa, .int .i64 xb, .int .i64 (L : Int), .bool xt] := ⟨Blk.new w _ _, fun k => by have := h.lt _ k; omega⟩
  have h' := h.below hbw
  obtain ⟨vv, ev, hc⟩ := h'.cells
  have c1 := hc.at (j := 1) rfl
  simp only [List.getElem_toArray, List.getElem_cons_zero, List.getElem_cons_succ] at c1
  obtain ⟨q, cap, e1, cq, hql, hcap1, hcap2⟩ := h'.ptr hL
  rw [e1] at c1
  have x2 := hX.blk.at (j := 2) rfl
  simp only [List.getElem_toArray, List.getElem_cons_zero, List.getElem_cons_succ] at x2
  have hcm : (cap : Int) ≤ 9223372036854775807 := by unfold maxLen at hcap2; omega
  have hwr : IntKind.i64.wrap ((L : Int) + 1) = (L : Int) + 1 := by simp [IntKind.wrap, IntKind.bits, IntKind.signed]; omega
  have HG := hid_mk h'
  have HX := hid_mk hX
  have HS : Hid (Step F F w (w.alloc (.cells #[.int .i64 xa, .int .i64 xb, .int .i64 (L : Int), .bool xt] 69))) := Step.of_below hbw
  have HRV := hid_mk e1
  obtain ⟨M, hM⟩ : ∃ M, M = w.heap.size := ⟨_, rfl⟩
  rw [← hM] at HX
  unfold egv
  clear h h' hc e1 hX hbw cq
  have hd : ∀ (W : World) (q : Nat), Below W.heap.size W (W.drewN q) := fun W q => ⟨rfl, rfl, rfl, Nat.le_refl _, fun _ _ => rfl⟩
  by_cases hcap3 : cap = 1
  · subst hcap3
    have hL0 : Hid (L = 0) := (by omega : L = 0)
    have hb1 : (L : Int) + 1 ≤ 1 := by omega
    have hb2 : ¬ (0 : Int) < (L : Int) := by omega
    have HF : Hid (∀ nq, ∃ F', Gm p (World.drewN (w.alloc (.cells #[.int .i64 xa, .int .i64 xb, .int .i64 (L : Int), .bool xt] 69)) nq) F' B (leaveGk g xa xb L) (K + 2 * L) ∧ Step F F' w (World.drewN (w.alloc (.cells #[.int .i64 xa, .int .i64 xb, .int .i64 (L : Int), .bool xt] 69)) nq)) := fun nq => ⟨F, by rw [show leaveGk g xa xb L = g by rw [hL0.out, leaveGk_zero]]; exact (HG.out.below (hd _ _)).mono (by omega), HS.out.trans (Step.of_below (hd _ _))⟩
    clear HX hM hd HG HS
    go_enter Tryz.func33, Tryz.ntmps33
    go_wp2_with fail
    go_quiet (fail)
    go_wp2_with fail
    refine wp_loop_rounds 1 ?_
    rw [rounds_succ]
    go_wp2
    go_returns
    exact ⟨rfl, HF.out _⟩
  have HD := hid_mk hd
  clear hd
  go_enter Tryz.func33, Tryz.ntmps33
  go_wp2_with fail
  go_quiet (fail)
  go_wp2_with fail
  rw [← hM]
  go_loopw [15] (fun vk wr => ∃ k : Nat, k ≤ L ∧ vk = .int .i64 k ∧ Hid (∃ F', Gm p wr F' B (leaveGk g xa xb k) (K + 2 * k) ∧ Step F F' w wr ∧ Bx wr F' M 69 #[.int .i64 xa, .int .i64 xb, .int .i64 (L : Int), .bool xt])) (fun vk _ => L - (intOf vk).toNat)
  case atStart =>
    exact ⟨0, by omega, rfl, F, by rw [leaveGk_zero]; exact HG.out.below (HD.out _ _), HS.out.trans (Step.of_below (HD.out _ _)), HX.out.below (HD.out _ _)⟩
  case round =>
    clear x2 hM
    obtain ⟨k, hk, rfl, HR⟩ := hrel
    by_cases hlt : k < L
    · obtain ⟨F1, hG, hS, hX⟩ := HR.out
      have hkm : 1 + k < (leaveGk g xa xb k).m := by show 1 + k < g.m; omega
      obtain ⟨q', cap', e', cq', hql', _⟩ := hG.ptr hkm
      rw [HRV.out] at e'
      cases e'
      have x0 := hX.blk.at (j := 0) rfl
      simp only [List.getElem_toArray, List.getElem_cons_zero] at x0
      have HC := hid_mk (gdrop_any hG (by omega) hkm xa ha)
      have HS1 := hid_mk hS
      have HX1 := hid_mk hX
      have hlt' : (k : Int) < (L : Int) := by omega
      clear hG hS HR hX
      go_wp2_with fail
      refine HC.out.mono ?_
      rintro e w2 ⟨⟨r, rfl, _⟩, F2, hG2, hS2⟩
      have hX2 := HX1.out.step hS2
      have x1 := hX2.blk.at (j := 1) rfl
      simp only [List.getElem_toArray, List.getElem_cons_zero, List.getElem_cons_succ] at x1
      have HC2 := hid_mk (gdrop_any hG2 (by omega) (i := 1 + k) hkm xb hb)
      have HS2 := hid_mk (HS1.out.trans hS2)
      have HX2 := hid_mk hX2
      clear hG2 hS2 HC HS1 HX1 cq' x0 hX2
      go_wp2_with fail
      refine HC2.out.mono ?_
      rintro e w3 ⟨⟨r3, rfl, _⟩, F3, hG3, hS3⟩
      simp only [setF_setF, setF_P, setF_Q] at hG3
      rw [leaveGk_succ] at hG3
      have HR2 : Hid (∃ F', Gm p w3 F' B (leaveGk g xa xb (k + 1)) (K + 2 * (k + 1)) ∧ Step F F' w w3 ∧ Bx w3 F' M 69 #[.int .i64 xa, .int .i64 xb, .int .i64 (L : Int), .bool xt]) := ⟨F3, hG3.mono (by omega), HS2.out.trans hS3, HX2.out.step hS3⟩
      clear hG3 hS3 HC2 HS2 HX2 x1
      go_wp2
      go_roundw
      case rel => exact ⟨k + 1, by omega, by go_num, HR2.out⟩
      case measure => simp [intOf]; omega
    · obtain rfl : k = L := by omega
      obtain ⟨F1, hG, hS, hX⟩ := HR.out
      have HF : Hid (∃ F', Gm p wr F' B (leaveGk g xa xb k) (K + 2 * k) ∧ Step F F' w wr) := ⟨F1, hG, hS⟩
      clear HR hG hS hX
      go_wp2
      go_returns
      exact ⟨rfl, HF.out⟩
end
end Go.Proofs.YtcbgeahcnjamdabGreat
