/- Layer 10: loose edges are put and taken (by tools/gen_levloose.py). -/
import Derived.Test.YtcbgeahcnjamdabGreatLevLink
import Derived.Deep.RegionHeld3
namespace Go.Proofs.YtcbgeahcnjamdabGreat
open Go.RowKit
set_option linter.unusedVariables false
def putG1 (g : Gs) (n v : Int) (i : Nat) : Gs := (g.setS (g.s.put (v, i) n)).setF i (if ((g.s.put (v, i) n).L (v, i)).length = 1 then markP (g.P i) v 1 else g.P i) (g.Q i)
def putG (g : Gs) (n : Int) (x : Eg) (i : Nat) : Gs := putG1 (putG1 g n x.a i) n x.b i
def takeG1 (g : Gs) (n v : Int) (i : Nat) : Gs := (g.setS (g.s.take (v, i) n)).setF i (if ((g.s.take (v, i) n).L (v, i)).length = 0 then markP (g.P i) v 0 else g.P i) (g.Q i)
def takeG (g : Gs) (n : Int) (x : Eg) (i : Nat) : Gs := takeG1 (takeG1 g n x.a i) n x.b i
theorem markP_vp {P : Vx → Prop} {u : Int} (h : Vp P u) (v b : Int) : Vp (markP P v b) u := by
  obtain ⟨x, h1, h2⟩ := h
  by_cases e : x.v = v
  · exact ⟨⟨v, x.s, x.l, b⟩, .inr ⟨x, h1, e, rfl⟩, by rw [← h2, e]⟩
  · exact ⟨x, .inl ⟨h1, e⟩, h2⟩
theorem ifP_vp {P : Vx → Prop} {u : Int} (h : Vp P u) (v b : Int) (c : Prop) [Decidable c] : Vp (if c then markP P v b else P) u := by split; exact markP_vp h v b; exact h
theorem put_other (s : Bg) {a a' : Int × Int} (h : a' ≠ a) (n : Int) : (s.put a n).L a' = s.L a' := by show updQ s.L a _ a' = _; exact updQ_ne h
theorem put_same (s : Bg) (a : Int × Int) (n : Int) : (s.put a n).L a = s.L a ++ [n] := by show updQ s.L a _ a = _; exact updQ_at _ _ _
theorem take_other (s : Bg) {a a' : Int × Int} (h : a' ≠ a) (n : Int) : (s.take a n).L a' = s.L a' := by show updQ s.L a _ a' = _; exact updQ_ne h
theorem take_same (s : Bg) (a : Int × Int) (n : Int) : (s.take a n).L a = delL (s.L a) n := by show updQ s.L a _ a = _; exact updQ_at _ _ _
theorem okT_mk {v n : Int} {i : Nat} (hv : B64 v) (hi : i ≤ 63) (hn : B64 n) : okT (v, (i : Int), n) := ⟨hv, ⟨by show -9223372036854775808 ≤ (i : Int); omega, by show (i : Int) ≤ 9223372036854775807; omega⟩, hn⟩
theorem okP_mk {v : Int} {i : Nat} (hv : B64 v) (hi : i ≤ 63) : okP (v, (i : Int)) := ⟨hv, ⟨by show -9223372036854775808 ≤ (i : Int); omega, by show (i : Int) ≤ 9223372036854775807; omega⟩⟩
theorem putG1_yes {g : Gs} {n v : Int} {i : Nat} (h : ((g.s.put (v, (i : Int)) n).L (v, (i : Int))).length = 1) : putG1 g n v i = (g.setS (g.s.put (v, (i : Int)) n)).setF i (markP (g.P i) v 1) (g.Q i) := by unfold putG1; rw [if_pos h]
theorem putG1_no {g : Gs} {n v : Int} {i : Nat} (h : ¬ ((g.s.put (v, (i : Int)) n).L (v, (i : Int))).length = 1) : putG1 g n v i = g.setS (g.s.put (v, (i : Int)) n) := by unfold putG1; rw [if_neg h]; exact setF_self (g.setS (g.s.put (v, (i : Int)) n)) i
theorem takeG1_yes {g : Gs} {n v : Int} {i : Nat} (h : ((g.s.take (v, (i : Int)) n).L (v, (i : Int))).length = 0) : takeG1 g n v i = (g.setS (g.s.take (v, (i : Int)) n)).setF i (markP (g.P i) v 0) (g.Q i) := by unfold takeG1; rw [if_pos h]
theorem takeG1_no {g : Gs} {n v : Int} {i : Nat} (h : ¬ ((g.s.take (v, (i : Int)) n).L (v, (i : Int))).length = 0) : takeG1 g n v i = g.setS (g.s.take (v, (i : Int)) n) := by unfold takeG1; rw [if_neg h]; exact setF_self (g.setS (g.s.take (v, (i : Int)) n)) i
section
variable {p : Gp} {w : World} {F : Nat → Prop} {B : Nat} {g : Gs} {K : Nat}
set_option maxRecDepth 100000 in
set_option maxHeartbeats 6400000 in
theorem putLoose_any (h : Gm p w F B g K) (hK : K + 2 ≤ 30000) {i : Nat} (hi : i < g.m) (hi63 : i ≤ 63) {n : Int} {x : Eg} (hx : x.l = i) (hn : B64 n) (h1 : 1 ≤ n) (ha : B64 x.a) (hb : B64 x.b) (hab : x.a ≠ x.b) (hma : n ∉ g.s.L (x.a, (i : Int))) (hmb : n ∉ g.s.L (x.b, (i : Int))) (hva : Vp (g.P i) x.a) (hvb : Vp (g.P i) x.b) :
    Calls Tryz.prog 53 #[.pointer (some ⟨B, 0, none⟩), .int .i64 n, egv x] w fun e w' => e = .returned (.tuple #[]) ∧ ∃ F', Gm p w' F' B (putG g n x i) (K + 2) ∧ Step F F' w w' := by
  obtain ⟨xa, xb, xl, xt⟩ := x
  obtain rfl : xl = i := hx
  have hbw : Below w.heap.size w (w.alloc (.cells #[.int .i64 xa, .int .i64 xb, .int .i64 i, .bool xt] 69)) := (Below.refl _ _).alloc (Nat.le_refl _) _
  have hX : Bx (w.alloc (.cells #[.int .i64 xa, .int .i64 xb, .int .i64 i, .bool xt] 69)) F w.heap.size 69 #[.int .i64 xa, .int .i64 xb, .int .i64 i, .bool xt] := ⟨Blk.new w _ _, fun k => by have := h.lt _ k; omega⟩
  have h' := h.below hbw
  have HRV0 : Hid (∀ W F K' P Q s, Gm p W F B ((g.setS s).setF i P Q) K' → True) := fun _ _ _ _ _ _ _ => trivial
  have x0 := hX.blk.at (j := 0) rfl
  have x1 := hX.blk.at (j := 1) rfl
  have x2 := hX.blk.at (j := 2) rfl
  have x3 := hX.blk.at (j := 3) rfl
  have HE := hid_mk (ends_any ⟨xa, xb, i, xt⟩ (w.alloc (.cells #[.int .i64 xa, .int .i64 xb, .int .i64 i, .bool xt] 69)))
  have HG := hid_mk h'
  have HX := hid_mk hX
  have HS : Hid (Step F F w (w.alloc (.cells #[.int .i64 xa, .int .i64 xb, .int .i64 i, .bool xt] 69))) := Step.of_below hbw
  have HI := hid_mk hi
  have HAB := hid_mk hab
  have HMA := hid_mk hma
  have HMB := hid_mk hmb
  have HVA := hid_mk hva
  have HVB := hid_mk hvb
  have HAn := hid_mk ha
  have HBn := hid_mk hb
  have HNn := hid_mk hn
  have HN1 := hid_mk h1
  unfold egv
  unfold egv ends2 at HE
  clear h h' hX hbw hab hma hmb hva hvb ha hb hn h1 hi HRV0
  go_enter Tryz.func53, Tryz.ntmps53
  go_wp2_with fail
  refine HE.out.mono ?_
  rintro e w2 ⟨rfl, hb2⟩
  have HG2 := hid_mk (HG.out.below hb2)
  have HX2 := hid_mk (HX.out.below hb2)
  have HS2 := hid_mk (HS.out.trans (Step.of_below hb2))
  have i0 := idx0 xa xb
  have i1 := idx1 xa xb
  obtain ⟨M, hM⟩ : ∃ M, M = w.heap.size := ⟨_, rfl⟩
  rw [← hM] at HX2
  clear hb2 HG HX HS HE x0 x1 x2 x3
  go_wp2_with fail
  rw [← hM]
  clear hM
  go_loopw [10] (fun vk wr => ∃ k : Nat, k ≤ 2 ∧ vk = .int .i64 k ∧ Hid (∃ F', Gm p wr F' B (if k = 0 then g else if k = 1 then putG1 g n xa i else putG1 (putG1 g n xa i) n xb i) (K + 1 * k) ∧ Step F F' w wr ∧ Bx wr F' M 69 #[.int .i64 xa, .int .i64 xb, .int .i64 i, .bool xt])) (fun vk _ => 2 - (intOf vk).toNat)
  case atStart => exact ⟨0, by omega, rfl, F, by simpa using HG2.out, HS2.out, HX2.out⟩
  case round =>
    obtain ⟨k, hk, rfl, HR⟩ := hrel
    rcases (by omega : k = 0 ∨ k = 1 ∨ k = 2) with rfl | rfl | rfl
    · obtain ⟨F1, hG, hS, hX⟩ := HR.out
      simp only [if_true, Nat.mul_zero, Nat.add_zero] at hG
      have hd := (Below.refl wr.heap.size wr).drew
      obtain ⟨vv, ev, hc⟩ := hG.cells
      have c3 := hc.at (j := 3) rfl
      have x2 := hX.blk.at (j := 2) rfl
      simp only [List.getElem_toArray, List.getElem_cons_zero, List.getElem_cons_succ] at c3 x2
      have hGd := hG.below hd
      have HC := hid_mk (gput_any hGd (by omega) (v := xa) (l := (i : Int)) (n := n) (okT_mk HAn.out hi63 HNn.out) (by omega) (by omega) HN1.out HMA.out)
      have HSk := hid_mk (hS.trans (Step.of_below (F := F1) hd))
      have HXk := hid_mk (hX.below hd)
      have HV : Hid (Vp (Gs.P g i) xa) := HVA.out
      clear hG hS hX hc HR hd hGd
      go_wp2_with fail
      go_region_held3 (fun w' => w'.cell? ⟨B, 3, none⟩ = some (.pointer (some ⟨p.bB, 0, none⟩)) ∧ w'.cell? ⟨M, 2, none⟩ = some (.int .i64 (i : Int)))
        (first | go_keep | (go_split_ands; refine ⟨?_, ?_⟩ <;> assumption))
        (first
          | (go_at_call 80; refine (HC.out).mono ?_; rintro e w4 ⟨⟨r4, rfl⟩, F4, hG4, hS4⟩; have c3' : w4.cell? ⟨B, 3, none⟩ = some (.pointer (some ⟨p.bB, 0, none⟩)) := (by obtain ⟨vv, ev, hc⟩ := hG4.cells; exact hc.at (j := 3) rfl); have x2' : w4.cell? ⟨M, 2, none⟩ = some (.int .i64 (i : Int)) := (HXk.out.step hS4).blk.at (j := 2) rfl)
          | fail)
      have hX4 := HXk.out.step hS4
      have hd4 := (Below.refl w4.heap.size w4).drew
      have HS4 := hid_mk ((HSk.out.trans hS4).trans (Step.of_below (F := F4) hd4))
      have HM := hid_mk (gmany_any (hG4.below hd4) (v := xa) (l := (i : Int)) (okP_mk HAn.out hi63))
      have HG4 := hid_mk (hG4.below hd4)
      have HX4 := hid_mk (hX4.below hd4)
      obtain ⟨ln, hln⟩ : ∃ ln, ln = ((Bg.put (Gs.s g) (xa, (i : Int)) n).L (xa, (i : Int))).length := ⟨_, rfl⟩
      have HLN := hid_mk hln
      have HM2 : Hid (Calls Tryz.prog 64 #[.pointer (some ⟨p.bB, 0, none⟩), .int .i64 xa, .int .i64 (i : Int)] w4.drew fun e w' => e = .returned (.int .i64 (ln : Int)) ∧ w' = w4.drew) := by
        have := HM.out
        rw [show ((Gs.setS g (Bg.put (Gs.s g) (xa, (i : Int)) n)).s.L (xa, (i : Int))).length = ln from hln.symm] at this
        exact this
      rename_i hHeld
      clear hHeld hln HC HSk HXk hG4 hS4 hX4 hd4 c3 x2 HM
      go_wp2_with fail
      go_region_held3 (fun w' => w'.cell? ⟨B, 3, none⟩ = some (.pointer (some ⟨p.bB, 0, none⟩)) ∧ w'.cell? ⟨M, 2, none⟩ = some (.int .i64 (i : Int)))
        (first | go_keep | (go_split_ands; refine ⟨?_, ?_⟩ <;> assumption))
        (first
          | (go_at_call 64; refine (HM2.out).mono ?_; rintro e w5 ⟨rfl, rfl⟩)
          | fail)
      rename_i hHeld5
      clear hHeld5 HM2
      by_cases hq : ln = 1
      · subst hq
        have HG5 := HG4.out
        have hd5 := (Below.refl w4.drew.heap.size w4.drew).drew
        obtain ⟨vv, ev, hc⟩ := HG5.cells
        have c1 := hc.at (j := 1) rfl
        simp only [List.getElem_toArray, List.getElem_cons_zero, List.getElem_cons_succ] at c1
        obtain ⟨q, cap, e1, cq, hql, hcap1, hcap2⟩ := HG5.ptr (i := i) HI.out
        rw [e1] at c1
        have HRV := hid_mk e1
        have hi' : (i : Int) < (g.m : Int) := by have := HI.out; omega
        have hm' : (g.m : Int) ≤ 9223372036854775807 := by unfold maxLen at hcap2; have : g.m ≤ cap := hcap1; omega
        have c1d : w4.drew.cell? ⟨B, 1, none⟩ = some (.slice (some ⟨q, 0, none⟩) g.m cap) := c1
        have HMk := hid_mk (gmark_any (HG5.below hd5) (by omega) (i := i) HI.out xa 1 HAn.out (by omega) (by omega) HV.out)
        have HX5 := hid_mk (HX4.out.below hd5)
        have HS5 := hid_mk (HS4.out.trans (Step.of_below (F := F4) hd5))
        clear HG5 hc hd5 e1 c3' HG4 HS4 c1
        go_wp2_with fail
        go_region_held3 (fun w' => w'.cell? ⟨B, 1, none⟩ = some (.slice (some ⟨q, 0, none⟩) g.m cap) ∧ w'.cell? ⟨M, 2, none⟩ = some (.int .i64 (i : Int)) ∧ w'.cell? ⟨q, i, none⟩ = some (.pointer (some ⟨p.Bf i, 0, none⟩)))
          (first | go_keep | (go_split_ands; refine ⟨?_, ?_, ?_⟩ <;> assumption))
          (first
            | (go_at_call 65; refine (HMk.out).mono ?_; rintro e w6 ⟨⟨r6, rfl⟩, F6, hG6, hS6⟩; have k1 : w6.cell? ⟨B, 1, none⟩ = some (.slice (some ⟨q, 0, none⟩) g.m cap) := (by obtain ⟨vv, ev, hc⟩ := hG6.cells; have := hc.at (j := 1) rfl; simp only [List.getElem_toArray, List.getElem_cons_zero, List.getElem_cons_succ] at this; rw [HRV.out] at this; exact this); have k3 : w6.cell? ⟨q, i, none⟩ = some (.pointer (some ⟨p.Bf i, 0, none⟩)) := (by obtain ⟨q', cap', e', cq', _⟩ := hG6.ptr (i := i) HI.out; rw [HRV.out] at e'; cases e'; exact cq'); have k2 : w6.cell? ⟨M, 2, none⟩ = some (.int .i64 (i : Int)) := (HX5.out.step hS6).blk.at (j := 2) rfl)
            | fail)
        have hx6 := HX5.out.step hS6
        have HR6 : Hid (∃ F', Gm p w6 F' B (putG1 g n xa i) (K + 1 * 1) ∧ Step F F' w w6 ∧ Bx w6 F' M 69 #[.int .i64 xa, .int .i64 xb, .int .i64 i, .bool xt]) := ⟨F6, by
          have e : (putG1 g n xa i) = (Gs.setS g (Bg.put (Gs.s g) (xa, (i : Int)) n)).setF i (markP ((Gs.setS g (Bg.put (Gs.s g) (xa, (i : Int)) n)).P i) xa 1) ((Gs.setS g (Bg.put (Gs.s g) (xa, (i : Int)) n)).Q i) := by
            exact putG1_yes (g := g) HLN.out.symm
          rw [e]; exact hG6, HS5.out.trans hS6, hx6⟩
        rename_i hHeld6
        clear hHeld6 hG6 hS6 hx6 HMk HX5 HS5 k1 k2 k3 c1d cq
        go_wp2
        go_roundw
        case rel => exact ⟨1, by omega, by go_num, HR6.out⟩
        case measure => simp [intOf]
      · have hq' : ((ln : Int) == 1) = false := by simp; omega
        have HR6 : Hid (∃ F', Gm p w4.drew F' B (putG1 g n xa i) (K + 1 * 1) ∧ Step F F' w w4.drew ∧ Bx w4.drew F' M 69 #[.int .i64 xa, .int .i64 xb, .int .i64 i, .bool xt]) := ⟨F4, by
          have e : (putG1 g n xa i) = Gs.setS g (Bg.put (Gs.s g) (xa, (i : Int)) n) := by
            exact putG1_no (g := g) (fun e => hq (HLN.out.trans e))
          rw [e]; exact HG4.out, HS4.out, HX4.out⟩
        clear hq HG4 HS4 HX4
        go_wp2
        go_roundw
        case rel => exact ⟨1, by omega, by go_num, HR6.out⟩
        case measure => simp [intOf]
    · obtain ⟨F1, hG, hS, hX⟩ := HR.out
      simp only [if_true, if_false, Nat.one_ne_zero, Nat.mul_one] at hG
      have hd := (Below.refl wr.heap.size wr).drew
      obtain ⟨vv, ev, hc⟩ := hG.cells
      have c3 := hc.at (j := 3) rfl
      have x2 := hX.blk.at (j := 2) rfl
      simp only [List.getElem_toArray, List.getElem_cons_zero, List.getElem_cons_succ] at c3 x2
      have hGd := hG.below hd
      have HC := hid_mk (gput_any hGd (by omega) (v := xb) (l := (i : Int)) (n := n) (okT_mk HBn.out hi63 HNn.out) (by omega) (by omega) HN1.out (by show n ∉ ((g.s.put (xa, (i : Int)) n)).L (xb, (i : Int)); rw [put_other _ (by simp; exact fun e => HAB.out e.symm)]; exact HMB.out))
      have HSk := hid_mk (hS.trans (Step.of_below (F := F1) hd))
      have HXk := hid_mk (hX.below hd)
      have HV : Hid (Vp (Gs.P (putG1 g n xa i) i) xb) := (by show Vp ((putG1 g n xa i).P i) xb; unfold putG1; rw [setF_P]; exact ifP_vp HVB.out _ _ _)
      clear hG hS hX hc HR hd hGd
      go_wp2_with fail
      go_region_held3 (fun w' => w'.cell? ⟨B, 3, none⟩ = some (.pointer (some ⟨p.bB, 0, none⟩)) ∧ w'.cell? ⟨M, 2, none⟩ = some (.int .i64 (i : Int)))
        (first | go_keep | (go_split_ands; refine ⟨?_, ?_⟩ <;> assumption))
        (first
          | (go_at_call 80; refine (HC.out).mono ?_; rintro e w4 ⟨⟨r4, rfl⟩, F4, hG4, hS4⟩; have c3' : w4.cell? ⟨B, 3, none⟩ = some (.pointer (some ⟨p.bB, 0, none⟩)) := (by obtain ⟨vv, ev, hc⟩ := hG4.cells; exact hc.at (j := 3) rfl); have x2' : w4.cell? ⟨M, 2, none⟩ = some (.int .i64 (i : Int)) := (HXk.out.step hS4).blk.at (j := 2) rfl)
          | fail)
      have hX4 := HXk.out.step hS4
      have hd4 := (Below.refl w4.heap.size w4).drew
      have HS4 := hid_mk ((HSk.out.trans hS4).trans (Step.of_below (F := F4) hd4))
      have HM := hid_mk (gmany_any (hG4.below hd4) (v := xb) (l := (i : Int)) (okP_mk HBn.out hi63))
      have HG4 := hid_mk (hG4.below hd4)
      have HX4 := hid_mk (hX4.below hd4)
      obtain ⟨ln, hln⟩ : ∃ ln, ln = ((Bg.put (Gs.s (putG1 g n xa i)) (xb, (i : Int)) n).L (xb, (i : Int))).length := ⟨_, rfl⟩
      have HLN := hid_mk hln
      have HM2 : Hid (Calls Tryz.prog 64 #[.pointer (some ⟨p.bB, 0, none⟩), .int .i64 xb, .int .i64 (i : Int)] w4.drew fun e w' => e = .returned (.int .i64 (ln : Int)) ∧ w' = w4.drew) := by
        have := HM.out
        rw [show ((Gs.setS (putG1 g n xa i) (Bg.put (Gs.s (putG1 g n xa i)) (xb, (i : Int)) n)).s.L (xb, (i : Int))).length = ln from hln.symm] at this
        exact this
      rename_i hHeld
      clear hHeld hln HC HSk HXk hG4 hS4 hX4 hd4 c3 x2 HM
      go_wp2_with fail
      go_region_held3 (fun w' => w'.cell? ⟨B, 3, none⟩ = some (.pointer (some ⟨p.bB, 0, none⟩)) ∧ w'.cell? ⟨M, 2, none⟩ = some (.int .i64 (i : Int)))
        (first | go_keep | (go_split_ands; refine ⟨?_, ?_⟩ <;> assumption))
        (first
          | (go_at_call 64; refine (HM2.out).mono ?_; rintro e w5 ⟨rfl, rfl⟩)
          | fail)
      rename_i hHeld5
      clear hHeld5 HM2
      by_cases hq : ln = 1
      · subst hq
        have HG5 := HG4.out
        have hd5 := (Below.refl w4.drew.heap.size w4.drew).drew
        obtain ⟨vv, ev, hc⟩ := HG5.cells
        have c1 := hc.at (j := 1) rfl
        simp only [List.getElem_toArray, List.getElem_cons_zero, List.getElem_cons_succ] at c1
        obtain ⟨q, cap, e1, cq, hql, hcap1, hcap2⟩ := HG5.ptr (i := i) HI.out
        rw [e1] at c1
        have HRV := hid_mk e1
        have hi' : (i : Int) < (g.m : Int) := by have := HI.out; omega
        have hm' : (g.m : Int) ≤ 9223372036854775807 := by unfold maxLen at hcap2; have : g.m ≤ cap := hcap1; omega
        have c1d : w4.drew.cell? ⟨B, 1, none⟩ = some (.slice (some ⟨q, 0, none⟩) g.m cap) := c1
        have HMk := hid_mk (gmark_any (HG5.below hd5) (by omega) (i := i) HI.out xb 1 HBn.out (by omega) (by omega) HV.out)
        have HX5 := hid_mk (HX4.out.below hd5)
        have HS5 := hid_mk (HS4.out.trans (Step.of_below (F := F4) hd5))
        clear HG5 hc hd5 e1 c3' HG4 HS4 c1
        go_wp2_with fail
        go_region_held3 (fun w' => w'.cell? ⟨B, 1, none⟩ = some (.slice (some ⟨q, 0, none⟩) g.m cap) ∧ w'.cell? ⟨M, 2, none⟩ = some (.int .i64 (i : Int)) ∧ w'.cell? ⟨q, i, none⟩ = some (.pointer (some ⟨p.Bf i, 0, none⟩)))
          (first | go_keep | (go_split_ands; refine ⟨?_, ?_, ?_⟩ <;> assumption))
          (first
            | (go_at_call 65; refine (HMk.out).mono ?_; rintro e w6 ⟨⟨r6, rfl⟩, F6, hG6, hS6⟩; have k1 : w6.cell? ⟨B, 1, none⟩ = some (.slice (some ⟨q, 0, none⟩) g.m cap) := (by obtain ⟨vv, ev, hc⟩ := hG6.cells; have := hc.at (j := 1) rfl; simp only [List.getElem_toArray, List.getElem_cons_zero, List.getElem_cons_succ] at this; rw [HRV.out] at this; exact this); have k3 : w6.cell? ⟨q, i, none⟩ = some (.pointer (some ⟨p.Bf i, 0, none⟩)) := (by obtain ⟨q', cap', e', cq', _⟩ := hG6.ptr (i := i) HI.out; rw [HRV.out] at e'; cases e'; exact cq'); have k2 : w6.cell? ⟨M, 2, none⟩ = some (.int .i64 (i : Int)) := (HX5.out.step hS6).blk.at (j := 2) rfl)
            | fail)
        have hx6 := HX5.out.step hS6
        have HR6 : Hid (∃ F', Gm p w6 F' B (putG1 (putG1 g n xa i) n xb i) (K + 1 * 2) ∧ Step F F' w w6 ∧ Bx w6 F' M 69 #[.int .i64 xa, .int .i64 xb, .int .i64 i, .bool xt]) := ⟨F6, by
          have e : (putG1 (putG1 g n xa i) n xb i) = (Gs.setS (putG1 g n xa i) (Bg.put (Gs.s (putG1 g n xa i)) (xb, (i : Int)) n)).setF i (markP ((Gs.setS (putG1 g n xa i) (Bg.put (Gs.s (putG1 g n xa i)) (xb, (i : Int)) n)).P i) xb 1) ((Gs.setS (putG1 g n xa i) (Bg.put (Gs.s (putG1 g n xa i)) (xb, (i : Int)) n)).Q i) := by
            exact putG1_yes (g := (putG1 g n xa i)) HLN.out.symm
          rw [e]; exact hG6, HS5.out.trans hS6, hx6⟩
        rename_i hHeld6
        clear hHeld6 hG6 hS6 hx6 HMk HX5 HS5 k1 k2 k3 c1d cq
        go_wp2
        go_roundw
        case rel => exact ⟨2, by omega, by go_num, HR6.out⟩
        case measure => simp [intOf]
      · have hq' : ((ln : Int) == 1) = false := by simp; omega
        have HR6 : Hid (∃ F', Gm p w4.drew F' B (putG1 (putG1 g n xa i) n xb i) (K + 1 * 2) ∧ Step F F' w w4.drew ∧ Bx w4.drew F' M 69 #[.int .i64 xa, .int .i64 xb, .int .i64 i, .bool xt]) := ⟨F4, by
          have e : (putG1 (putG1 g n xa i) n xb i) = Gs.setS (putG1 g n xa i) (Bg.put (Gs.s (putG1 g n xa i)) (xb, (i : Int)) n) := by
            exact putG1_no (g := (putG1 g n xa i)) (fun e => hq (HLN.out.trans e))
          rw [e]; exact HG4.out, HS4.out, HX4.out⟩
        clear hq HG4 HS4 HX4
        go_wp2
        go_roundw
        case rel => exact ⟨2, by omega, by go_num, HR6.out⟩
        case measure => simp [intOf]
    · obtain ⟨F1, hG, hS, hX⟩ := HR.out
      have HF : Hid (∃ F', Gm p wr F' B (putG g n ⟨xa, xb, i, xt⟩ i) (K + 2) ∧ Step F F' w wr) := ⟨F1, hG, hS⟩
      clear hG hS hX HR
      go_wp2
      go_returns
      exact ⟨rfl, HF.out⟩
set_option maxRecDepth 100000 in
set_option maxHeartbeats 6400000 in
theorem takeLoose_any (h : Gm p w F B g K) (hK : K + 2 ≤ 30000) {i : Nat} (hi : i < g.m) (hi63 : i ≤ 63) {n : Int} {x : Eg} (hx : x.l = i) (hn : B64 n) (h1 : 1 ≤ n) (ha : B64 x.a) (hb : B64 x.b) (hab : x.a ≠ x.b) (hma : n ∈ g.s.L (x.a, (i : Int))) (hmb : n ∈ g.s.L (x.b, (i : Int))) (hva : Vp (g.P i) x.a) (hvb : Vp (g.P i) x.b) :
    Calls Tryz.prog 34 #[.pointer (some ⟨B, 0, none⟩), .int .i64 n, egv x] w fun e w' => e = .returned (.tuple #[]) ∧ ∃ F', Gm p w' F' B (takeG g n x i) (K + 0) ∧ Step F F' w w' := by
  obtain ⟨xa, xb, xl, xt⟩ := x
  obtain rfl : xl = i := hx
  have hbw : Below w.heap.size w (w.alloc (.cells #[.int .i64 xa, .int .i64 xb, .int .i64 i, .bool xt] 69)) := (Below.refl _ _).alloc (Nat.le_refl _) _
  have hX : Bx (w.alloc (.cells #[.int .i64 xa, .int .i64 xb, .int .i64 i, .bool xt] 69)) F w.heap.size 69 #[.int .i64 xa, .int .i64 xb, .int .i64 i, .bool xt] := ⟨Blk.new w _ _, fun k => by have := h.lt _ k; omega⟩
  have h' := h.below hbw
  have HRV0 : Hid (∀ W F K' P Q s, Gm p W F B ((g.setS s).setF i P Q) K' → True) := fun _ _ _ _ _ _ _ => trivial
  have x0 := hX.blk.at (j := 0) rfl
  have x1 := hX.blk.at (j := 1) rfl
  have x2 := hX.blk.at (j := 2) rfl
  have x3 := hX.blk.at (j := 3) rfl
  have HE := hid_mk (ends_any ⟨xa, xb, i, xt⟩ (w.alloc (.cells #[.int .i64 xa, .int .i64 xb, .int .i64 i, .bool xt] 69)))
  have HG := hid_mk h'
  have HX := hid_mk hX
  have HS : Hid (Step F F w (w.alloc (.cells #[.int .i64 xa, .int .i64 xb, .int .i64 i, .bool xt] 69))) := Step.of_below hbw
  have HI := hid_mk hi
  have HAB := hid_mk hab
  have HMA := hid_mk hma
  have HMB := hid_mk hmb
  have HVA := hid_mk hva
  have HVB := hid_mk hvb
  have HAn := hid_mk ha
  have HBn := hid_mk hb
  have HNn := hid_mk hn
  have HN1 := hid_mk h1
  unfold egv
  unfold egv ends2 at HE
  clear h h' hX hbw hab hma hmb hva hvb ha hb hn h1 hi HRV0
  go_enter Tryz.func34, Tryz.ntmps34
  go_wp2_with fail
  refine HE.out.mono ?_
  rintro e w2 ⟨rfl, hb2⟩
  have HG2 := hid_mk (HG.out.below hb2)
  have HX2 := hid_mk (HX.out.below hb2)
  have HS2 := hid_mk (HS.out.trans (Step.of_below hb2))
  have i0 := idx0 xa xb
  have i1 := idx1 xa xb
  obtain ⟨M, hM⟩ : ∃ M, M = w.heap.size := ⟨_, rfl⟩
  rw [← hM] at HX2
  clear hb2 HG HX HS HE x0 x1 x2 x3
  go_wp2_with fail
  rw [← hM]
  clear hM
  go_loopw [10] (fun vk wr => ∃ k : Nat, k ≤ 2 ∧ vk = .int .i64 k ∧ Hid (∃ F', Gm p wr F' B (if k = 0 then g else if k = 1 then takeG1 g n xa i else takeG1 (takeG1 g n xa i) n xb i) (K + 0 * k) ∧ Step F F' w wr ∧ Bx wr F' M 69 #[.int .i64 xa, .int .i64 xb, .int .i64 i, .bool xt])) (fun vk _ => 2 - (intOf vk).toNat)
  case atStart => exact ⟨0, by omega, rfl, F, by simpa using HG2.out, HS2.out, HX2.out⟩
  case round =>
    obtain ⟨k, hk, rfl, HR⟩ := hrel
    rcases (by omega : k = 0 ∨ k = 1 ∨ k = 2) with rfl | rfl | rfl
    · obtain ⟨F1, hG, hS, hX⟩ := HR.out
      simp only [if_true, Nat.mul_zero, Nat.add_zero] at hG
      have hd := (Below.refl wr.heap.size wr).drew
      obtain ⟨vv, ev, hc⟩ := hG.cells
      have c3 := hc.at (j := 3) rfl
      have x2 := hX.blk.at (j := 2) rfl
      simp only [List.getElem_toArray, List.getElem_cons_zero, List.getElem_cons_succ] at c3 x2
      have hGd := hG.below hd
      have HC := hid_mk (gtake_any hGd (by omega) (v := xa) (l := (i : Int)) (n := n) (okT_mk HAn.out hi63 HNn.out) HMA.out)
      have HSk := hid_mk (hS.trans (Step.of_below (F := F1) hd))
      have HXk := hid_mk (hX.below hd)
      have HV : Hid (Vp (Gs.P g i) xa) := HVA.out
      clear hG hS hX hc HR hd hGd
      go_wp2_with fail
      go_region_held3 (fun w' => w'.cell? ⟨B, 3, none⟩ = some (.pointer (some ⟨p.bB, 0, none⟩)) ∧ w'.cell? ⟨M, 2, none⟩ = some (.int .i64 (i : Int)))
        (first | go_keep | (go_split_ands; refine ⟨?_, ?_⟩ <;> assumption))
        (first
          | (go_at_call 63; refine (HC.out).mono ?_; rintro e w4 ⟨rfl, F4, hG4, hS4⟩; have c3' : w4.cell? ⟨B, 3, none⟩ = some (.pointer (some ⟨p.bB, 0, none⟩)) := (by obtain ⟨vv, ev, hc⟩ := hG4.cells; exact hc.at (j := 3) rfl); have x2' : w4.cell? ⟨M, 2, none⟩ = some (.int .i64 (i : Int)) := (HXk.out.step hS4).blk.at (j := 2) rfl)
          | fail)
      have hX4 := HXk.out.step hS4
      have hd4 := (Below.refl w4.heap.size w4).drew
      have HS4 := hid_mk ((HSk.out.trans hS4).trans (Step.of_below (F := F4) hd4))
      have HM := hid_mk (gmany_any (hG4.below hd4) (v := xa) (l := (i : Int)) (okP_mk HAn.out hi63))
      have HG4 := hid_mk (hG4.below hd4)
      have HX4 := hid_mk (hX4.below hd4)
      obtain ⟨ln, hln⟩ : ∃ ln, ln = ((Bg.take (Gs.s g) (xa, (i : Int)) n).L (xa, (i : Int))).length := ⟨_, rfl⟩
      have HLN := hid_mk hln
      have HM2 : Hid (Calls Tryz.prog 64 #[.pointer (some ⟨p.bB, 0, none⟩), .int .i64 xa, .int .i64 (i : Int)] w4.drew fun e w' => e = .returned (.int .i64 (ln : Int)) ∧ w' = w4.drew) := by
        have := HM.out
        rw [show ((Gs.setS g (Bg.take (Gs.s g) (xa, (i : Int)) n)).s.L (xa, (i : Int))).length = ln from hln.symm] at this
        exact this
      rename_i hHeld
      clear hHeld hln HC HSk HXk hG4 hS4 hX4 hd4 c3 x2 HM
      go_wp2_with fail
      go_region_held3 (fun w' => w'.cell? ⟨B, 3, none⟩ = some (.pointer (some ⟨p.bB, 0, none⟩)) ∧ w'.cell? ⟨M, 2, none⟩ = some (.int .i64 (i : Int)))
        (first | go_keep | (go_split_ands; refine ⟨?_, ?_⟩ <;> assumption))
        (first
          | (go_at_call 64; refine (HM2.out).mono ?_; rintro e w5 ⟨rfl, rfl⟩)
          | fail)
      rename_i hHeld5
      clear hHeld5 HM2
      by_cases hq : ln = 0
      · subst hq
        have HG5 := HG4.out
        have hd5 := (Below.refl w4.drew.heap.size w4.drew).drew
        obtain ⟨vv, ev, hc⟩ := HG5.cells
        have c1 := hc.at (j := 1) rfl
        simp only [List.getElem_toArray, List.getElem_cons_zero, List.getElem_cons_succ] at c1
        obtain ⟨q, cap, e1, cq, hql, hcap1, hcap2⟩ := HG5.ptr (i := i) HI.out
        rw [e1] at c1
        have HRV := hid_mk e1
        have hi' : (i : Int) < (g.m : Int) := by have := HI.out; omega
        have hm' : (g.m : Int) ≤ 9223372036854775807 := by unfold maxLen at hcap2; have : g.m ≤ cap := hcap1; omega
        have c1d : w4.drew.cell? ⟨B, 1, none⟩ = some (.slice (some ⟨q, 0, none⟩) g.m cap) := c1
        have HMk := hid_mk (gmark_any (HG5.below hd5) (by omega) (i := i) HI.out xa 0 HAn.out (by omega) (by omega) HV.out)
        have HX5 := hid_mk (HX4.out.below hd5)
        have HS5 := hid_mk (HS4.out.trans (Step.of_below (F := F4) hd5))
        clear HG5 hc hd5 e1 c3' HG4 HS4 c1
        go_wp2_with fail
        go_region_held3 (fun w' => w'.cell? ⟨B, 1, none⟩ = some (.slice (some ⟨q, 0, none⟩) g.m cap) ∧ w'.cell? ⟨M, 2, none⟩ = some (.int .i64 (i : Int)) ∧ w'.cell? ⟨q, i, none⟩ = some (.pointer (some ⟨p.Bf i, 0, none⟩)))
          (first | go_keep | (go_split_ands; refine ⟨?_, ?_, ?_⟩ <;> assumption))
          (first
            | (go_at_call 65; refine (HMk.out).mono ?_; rintro e w6 ⟨⟨r6, rfl⟩, F6, hG6, hS6⟩; have k1 : w6.cell? ⟨B, 1, none⟩ = some (.slice (some ⟨q, 0, none⟩) g.m cap) := (by obtain ⟨vv, ev, hc⟩ := hG6.cells; have := hc.at (j := 1) rfl; simp only [List.getElem_toArray, List.getElem_cons_zero, List.getElem_cons_succ] at this; rw [HRV.out] at this; exact this); have k3 : w6.cell? ⟨q, i, none⟩ = some (.pointer (some ⟨p.Bf i, 0, none⟩)) := (by obtain ⟨q', cap', e', cq', _⟩ := hG6.ptr (i := i) HI.out; rw [HRV.out] at e'; cases e'; exact cq'); have k2 : w6.cell? ⟨M, 2, none⟩ = some (.int .i64 (i : Int)) := (HX5.out.step hS6).blk.at (j := 2) rfl)
            | fail)
        have hx6 := HX5.out.step hS6
        have HR6 : Hid (∃ F', Gm p w6 F' B (takeG1 g n xa i) (K + 0 * 1) ∧ Step F F' w w6 ∧ Bx w6 F' M 69 #[.int .i64 xa, .int .i64 xb, .int .i64 i, .bool xt]) := ⟨F6, by
          have e : (takeG1 g n xa i) = (Gs.setS g (Bg.take (Gs.s g) (xa, (i : Int)) n)).setF i (markP ((Gs.setS g (Bg.take (Gs.s g) (xa, (i : Int)) n)).P i) xa 0) ((Gs.setS g (Bg.take (Gs.s g) (xa, (i : Int)) n)).Q i) := by
            exact takeG1_yes (g := g) HLN.out.symm
          rw [e]; exact hG6, HS5.out.trans hS6, hx6⟩
        rename_i hHeld6
        clear hHeld6 hG6 hS6 hx6 HMk HX5 HS5 k1 k2 k3 c1d cq
        go_wp2
        go_roundw
        case rel => exact ⟨1, by omega, by go_num, HR6.out⟩
        case measure => simp [intOf]
      · have hq' : ((ln : Int) == 0) = false := by simp; omega
        have HR6 : Hid (∃ F', Gm p w4.drew F' B (takeG1 g n xa i) (K + 0 * 1) ∧ Step F F' w w4.drew ∧ Bx w4.drew F' M 69 #[.int .i64 xa, .int .i64 xb, .int .i64 i, .bool xt]) := ⟨F4, by
          have e : (takeG1 g n xa i) = Gs.setS g (Bg.take (Gs.s g) (xa, (i : Int)) n) := by
            exact takeG1_no (g := g) (fun e => hq (HLN.out.trans e))
          rw [e]; exact HG4.out, HS4.out, HX4.out⟩
        clear hq HG4 HS4 HX4
        go_wp2
        go_roundw
        case rel => exact ⟨1, by omega, by go_num, HR6.out⟩
        case measure => simp [intOf]
    · obtain ⟨F1, hG, hS, hX⟩ := HR.out
      simp only [if_true, if_false, Nat.one_ne_zero, Nat.zero_mul, Nat.add_zero] at hG
      have hd := (Below.refl wr.heap.size wr).drew
      obtain ⟨vv, ev, hc⟩ := hG.cells
      have c3 := hc.at (j := 3) rfl
      have x2 := hX.blk.at (j := 2) rfl
      simp only [List.getElem_toArray, List.getElem_cons_zero, List.getElem_cons_succ] at c3 x2
      have hGd := hG.below hd
      have HC := hid_mk (gtake_any hGd (by omega) (v := xb) (l := (i : Int)) (n := n) (okT_mk HBn.out hi63 HNn.out) (by show n ∈ ((g.s.take (xa, (i : Int)) n)).L (xb, (i : Int)); rw [take_other _ (by simp; exact fun e => HAB.out e.symm)]; exact HMB.out))
      have HSk := hid_mk (hS.trans (Step.of_below (F := F1) hd))
      have HXk := hid_mk (hX.below hd)
      have HV : Hid (Vp (Gs.P (takeG1 g n xa i) i) xb) := (by show Vp ((takeG1 g n xa i).P i) xb; unfold takeG1; rw [setF_P]; exact ifP_vp HVB.out _ _ _)
      clear hG hS hX hc HR hd hGd
      go_wp2_with fail
      go_region_held3 (fun w' => w'.cell? ⟨B, 3, none⟩ = some (.pointer (some ⟨p.bB, 0, none⟩)) ∧ w'.cell? ⟨M, 2, none⟩ = some (.int .i64 (i : Int)))
        (first | go_keep | (go_split_ands; refine ⟨?_, ?_⟩ <;> assumption))
        (first
          | (go_at_call 63; refine (HC.out).mono ?_; rintro e w4 ⟨rfl, F4, hG4, hS4⟩; have c3' : w4.cell? ⟨B, 3, none⟩ = some (.pointer (some ⟨p.bB, 0, none⟩)) := (by obtain ⟨vv, ev, hc⟩ := hG4.cells; exact hc.at (j := 3) rfl); have x2' : w4.cell? ⟨M, 2, none⟩ = some (.int .i64 (i : Int)) := (HXk.out.step hS4).blk.at (j := 2) rfl)
          | fail)
      have hX4 := HXk.out.step hS4
      have hd4 := (Below.refl w4.heap.size w4).drew
      have HS4 := hid_mk ((HSk.out.trans hS4).trans (Step.of_below (F := F4) hd4))
      have HM := hid_mk (gmany_any (hG4.below hd4) (v := xb) (l := (i : Int)) (okP_mk HBn.out hi63))
      have HG4 := hid_mk (hG4.below hd4)
      have HX4 := hid_mk (hX4.below hd4)
      obtain ⟨ln, hln⟩ : ∃ ln, ln = ((Bg.take (Gs.s (takeG1 g n xa i)) (xb, (i : Int)) n).L (xb, (i : Int))).length := ⟨_, rfl⟩
      have HLN := hid_mk hln
      have HM2 : Hid (Calls Tryz.prog 64 #[.pointer (some ⟨p.bB, 0, none⟩), .int .i64 xb, .int .i64 (i : Int)] w4.drew fun e w' => e = .returned (.int .i64 (ln : Int)) ∧ w' = w4.drew) := by
        have := HM.out
        rw [show ((Gs.setS (takeG1 g n xa i) (Bg.take (Gs.s (takeG1 g n xa i)) (xb, (i : Int)) n)).s.L (xb, (i : Int))).length = ln from hln.symm] at this
        exact this
      rename_i hHeld
      clear hHeld hln HC HSk HXk hG4 hS4 hX4 hd4 c3 x2 HM
      go_wp2_with fail
      go_region_held3 (fun w' => w'.cell? ⟨B, 3, none⟩ = some (.pointer (some ⟨p.bB, 0, none⟩)) ∧ w'.cell? ⟨M, 2, none⟩ = some (.int .i64 (i : Int)))
        (first | go_keep | (go_split_ands; refine ⟨?_, ?_⟩ <;> assumption))
        (first
          | (go_at_call 64; refine (HM2.out).mono ?_; rintro e w5 ⟨rfl, rfl⟩)
          | fail)
      rename_i hHeld5
      clear hHeld5 HM2
      by_cases hq : ln = 0
      · subst hq
        have HG5 := HG4.out
        have hd5 := (Below.refl w4.drew.heap.size w4.drew).drew
        obtain ⟨vv, ev, hc⟩ := HG5.cells
        have c1 := hc.at (j := 1) rfl
        simp only [List.getElem_toArray, List.getElem_cons_zero, List.getElem_cons_succ] at c1
        obtain ⟨q, cap, e1, cq, hql, hcap1, hcap2⟩ := HG5.ptr (i := i) HI.out
        rw [e1] at c1
        have HRV := hid_mk e1
        have hi' : (i : Int) < (g.m : Int) := by have := HI.out; omega
        have hm' : (g.m : Int) ≤ 9223372036854775807 := by unfold maxLen at hcap2; have : g.m ≤ cap := hcap1; omega
        have c1d : w4.drew.cell? ⟨B, 1, none⟩ = some (.slice (some ⟨q, 0, none⟩) g.m cap) := c1
        have HMk := hid_mk (gmark_any (HG5.below hd5) (by omega) (i := i) HI.out xb 0 HBn.out (by omega) (by omega) HV.out)
        have HX5 := hid_mk (HX4.out.below hd5)
        have HS5 := hid_mk (HS4.out.trans (Step.of_below (F := F4) hd5))
        clear HG5 hc hd5 e1 c3' HG4 HS4 c1
        go_wp2_with fail
        go_region_held3 (fun w' => w'.cell? ⟨B, 1, none⟩ = some (.slice (some ⟨q, 0, none⟩) g.m cap) ∧ w'.cell? ⟨M, 2, none⟩ = some (.int .i64 (i : Int)) ∧ w'.cell? ⟨q, i, none⟩ = some (.pointer (some ⟨p.Bf i, 0, none⟩)))
          (first | go_keep | (go_split_ands; refine ⟨?_, ?_, ?_⟩ <;> assumption))
          (first
            | (go_at_call 65; refine (HMk.out).mono ?_; rintro e w6 ⟨⟨r6, rfl⟩, F6, hG6, hS6⟩; have k1 : w6.cell? ⟨B, 1, none⟩ = some (.slice (some ⟨q, 0, none⟩) g.m cap) := (by obtain ⟨vv, ev, hc⟩ := hG6.cells; have := hc.at (j := 1) rfl; simp only [List.getElem_toArray, List.getElem_cons_zero, List.getElem_cons_succ] at this; rw [HRV.out] at this; exact this); have k3 : w6.cell? ⟨q, i, none⟩ = some (.pointer (some ⟨p.Bf i, 0, none⟩)) := (by obtain ⟨q', cap', e', cq', _⟩ := hG6.ptr (i := i) HI.out; rw [HRV.out] at e'; cases e'; exact cq'); have k2 : w6.cell? ⟨M, 2, none⟩ = some (.int .i64 (i : Int)) := (HX5.out.step hS6).blk.at (j := 2) rfl)
            | fail)
        have hx6 := HX5.out.step hS6
        have HR6 : Hid (∃ F', Gm p w6 F' B (takeG1 (takeG1 g n xa i) n xb i) (K + 0 * 2) ∧ Step F F' w w6 ∧ Bx w6 F' M 69 #[.int .i64 xa, .int .i64 xb, .int .i64 i, .bool xt]) := ⟨F6, by
          have e : (takeG1 (takeG1 g n xa i) n xb i) = (Gs.setS (takeG1 g n xa i) (Bg.take (Gs.s (takeG1 g n xa i)) (xb, (i : Int)) n)).setF i (markP ((Gs.setS (takeG1 g n xa i) (Bg.take (Gs.s (takeG1 g n xa i)) (xb, (i : Int)) n)).P i) xb 0) ((Gs.setS (takeG1 g n xa i) (Bg.take (Gs.s (takeG1 g n xa i)) (xb, (i : Int)) n)).Q i) := by
            exact takeG1_yes (g := (takeG1 g n xa i)) HLN.out.symm
          rw [e]; exact hG6, HS5.out.trans hS6, hx6⟩
        rename_i hHeld6
        clear hHeld6 hG6 hS6 hx6 HMk HX5 HS5 k1 k2 k3 c1d cq
        go_wp2
        go_roundw
        case rel => exact ⟨2, by omega, by go_num, HR6.out⟩
        case measure => simp [intOf]
      · have hq' : ((ln : Int) == 0) = false := by simp; omega
        have HR6 : Hid (∃ F', Gm p w4.drew F' B (takeG1 (takeG1 g n xa i) n xb i) (K + 0 * 2) ∧ Step F F' w w4.drew ∧ Bx w4.drew F' M 69 #[.int .i64 xa, .int .i64 xb, .int .i64 i, .bool xt]) := ⟨F4, by
          have e : (takeG1 (takeG1 g n xa i) n xb i) = Gs.setS (takeG1 g n xa i) (Bg.take (Gs.s (takeG1 g n xa i)) (xb, (i : Int)) n) := by
            exact takeG1_no (g := (takeG1 g n xa i)) (fun e => hq (HLN.out.trans e))
          rw [e]; exact HG4.out, HS4.out, HX4.out⟩
        clear hq HG4 HS4 HX4
        go_wp2
        go_roundw
        case rel => exact ⟨2, by omega, by go_num, HR6.out⟩
        case measure => simp [intOf]
    · obtain ⟨F1, hG, hS, hX⟩ := HR.out
      have HF : Hid (∃ F', Gm p wr F' B (takeG g n ⟨xa, xb, i, xt⟩ i) (K + 0) ∧ Step F F' w wr) := ⟨F1, hG, hS⟩
      clear hG hS hX HR
      go_wp2
      go_returns
      exact ⟨rfl, HF.out⟩
end
end Go.Proofs.YtcbgeahcnjamdabGreat
