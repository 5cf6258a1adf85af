/- Lemmas. -/
import Derived.Test.YtlmdjghcmofdlaaGreatS24
import Derived.Lib.MinMax
import Derived.Deep.RegionHeld3
import Derived.Handy
set_option maxRecDepth 100000
set_option maxHeartbeats 64000000
namespace Go.Proofs.YtlmdjghcmofdlaaGreat
open Go.RowKit
set_option linter.unusedVariables false
section
variable {p : Gp} {w : World} {F : Nat → Prop} {B : Nat} {g : Gs} {K : Nat}
theorem at_yes (h : Gm p w F B g K) {i : Nat} (hi : i < g.m) : Calls Tryz.prog 33 #[.pointer (some ⟨B, 0, none⟩), .int .i64 i] w fun e w' => e = .returned (.pointer (some ⟨p.Bf i, 0, none⟩)) ∧ Below w.heap.size w w' := by
  obtain ⟨vv, ev, hc⟩ := h.cells
  have c1 := hc.at (j := 1) rfl
  simp only [List.getElem_toArray, List.getElem_cons_zero, List.getElem_cons_succ] at c1
  obtain ⟨q, cap, e1, cq, hql, hcap1, hcap2⟩ := h.ptr hi
  rw [e1] at c1
  have hi' : (i : Int) < (g.m : Int) := by omega
  have hm' : (g.m : Int) ≤ 9223372036854775807 := by unfold maxLen at hcap2; omega
  have hn0 : ¬ (i : Int) < 0 := by omega
  have hn1 : ¬ (g.m : Int) ≤ i := by omega
  have HB := mkH (Below.refl w.heap.size w)
  clear h hc e1 hcap1
  go_enter Tryz.func33, Tryz.ntmps33
  go_wp2
  all_goals (go_ret; exact ⟨rfl, by first | exact HB.out | exact (Below.refl _ _).alloc (Nat.le_refl _) _⟩)
end
section
variable {p : Gp} {w : World} {F : Nat → Prop} {B : Nat} {g : Gs} {K : Nat}
theorem lhas_rd (h : Gm p w F B g K) (hm : 1 ≤ g.m) (v : Int) (hb : B64 v) : Calls Tryz.prog 12 #[.pointer (some ⟨B, 0, none⟩), .int .i64 v] w fun e w' => IsBn e (Vp (g.P 0) v) ∧ Below w.heap.size w w' := by
  have HA := mkH (at_yes h hm)
  have HL : Hid (∀ W, Gm p W F B g K → Calls Tryz.prog 34 #[.pointer (some ⟨p.Bf 0, 0, none⟩), .int .i64 v] W fun e w' => IsBn e (Vp (g.P 0) v) ∧ Below W.heap.size W w') := fun W k => (ghas_any k hm v hb).mono fun e w1 h1 => ⟨h1.1, by rw [h1.2]; exact Below.refl _ _⟩
  have HG := mkH h
  clear h
  go_enter Tryz.func12, Tryz.ntmps12
  go_wp2_with fail
  refine HA.out.mono ?_
  rintro e w1 ⟨rfl, hb1⟩
  have HC := mkH (HL.out w1 (HG.out.below hb1))
  have HB1 := mkH hb1
  clear hb1 HA HL HG
  go_wp2_with fail
  refine HC.out.mono ?_
  rintro e w2 ⟨⟨t, rfl, ht⟩, hb2⟩
  have HB2 := mkH (HB1.out.trans (hb2.mono HB1.out.size))
  have HT := mkH ht
  clear hb2 HB1 HC ht
  go_wp2
  go_ret
  exact ⟨⟨_, rfl, HT.out⟩, HB2.out⟩
theorem lsame_rd (h : Gm p w F B g K) (hK : K ≤ 30000) (hm : 1 ≤ g.m) (a b : Int) (ha : B64 a) (hb : B64 b) : Calls Tryz.prog 13 #[.pointer (some ⟨B, 0, none⟩), .int .i64 a, .int .i64 b] w fun e w' => IsBn e (Vp (g.P 0) a ∧ Vp (g.P 0) b ∧ Jq (g.Q 0) a b) ∧ Below w.heap.size w w' := by
  have HA := mkH (at_yes h hm)
  have HL : Hid (∀ W, Gm p W F B g K → Calls Tryz.prog 35 #[.pointer (some ⟨p.Bf 0, 0, none⟩), .int .i64 a, .int .i64 b] W fun e w' => IsBn e (Vp (g.P 0) a ∧ Vp (g.P 0) b ∧ Jq (g.Q 0) a b) ∧ Below W.heap.size W w') := fun W k => gsame_any k hK hm a b ha hb
  have HG := mkH h
  clear h
  go_enter Tryz.func13, Tryz.ntmps13
  go_wp2_with fail
  refine HA.out.mono ?_
  rintro e w1 ⟨rfl, hb1⟩
  have HC := mkH (HL.out w1 (HG.out.below hb1))
  have HB1 := mkH hb1
  clear hb1 HA HL HG
  go_wp2_with fail
  refine HC.out.mono ?_
  rintro e w2 ⟨⟨t, rfl, ht⟩, hb2⟩
  have HB2 := mkH (HB1.out.trans (hb2.mono HB1.out.size))
  have HT := mkH ht
  clear hb2 HB1 HC ht
  go_wp2
  go_ret
  exact ⟨⟨_, rfl, HT.out⟩, HB2.out⟩
theorem lsize_rd (h : Gm p w F B g K) (hK : K ≤ 30000) (hm : 1 ≤ g.m) (v : Int) (hb : B64 v) : Calls Tryz.prog 14 #[.pointer (some ⟨B, 0, none⟩), .int .i64 v] w fun e w' => (∃ n, e = .returned (.int .i64 n) ∧ SizeIs (g.P 0) (g.Q 0) v n ∧ 0 ≤ n ∧ n ≤ K) ∧ Below w.heap.size w w' := by
  have HA := mkH (at_yes h hm)
  have HL : Hid (∀ W, Gm p W F B g K → Calls Tryz.prog 36 #[.pointer (some ⟨p.Bf 0, 0, none⟩), .int .i64 v] W fun e w' => (∃ n, e = .returned (.int .i64 n) ∧ SizeIs (g.P 0) (g.Q 0) v n ∧ 0 ≤ n ∧ n ≤ K) ∧ Below W.heap.size W w') := fun W k => gsize_any k hK hm v hb
  have HG := mkH h
  clear h
  go_enter Tryz.func14, Tryz.ntmps14
  go_wp2_with fail
  refine HA.out.mono ?_
  rintro e w1 ⟨rfl, hb1⟩
  have HC := mkH (HL.out w1 (HG.out.below hb1))
  have HB1 := mkH hb1
  clear hb1 HA HL HG
  go_wp2_with fail
  refine HC.out.mono ?_
  rintro e w2 ⟨⟨t, rfl, ht⟩, hb2⟩
  have HB2 := mkH (HB1.out.trans (hb2.mono HB1.out.size))
  have HT := mkH ht
  clear hb2 HB1 HC ht
  go_wp2
  go_ret
  exact ⟨⟨_, rfl, HT.out⟩, HB2.out⟩
theorem lsum_rd (h : Gm p w F B g K) (hK : K ≤ 30000) (hm : 1 ≤ g.m) (v : Int) (hb : B64 v) {sv lv : Int → Int} (hs : ∀ x, g.P 0 x → x.s = sv x.v ∧ x.l = lv x.v) : Calls Tryz.prog 15 #[.pointer (some ⟨B, 0, none⟩), .int .i64 v] w fun e w' => (∃ n, e = .returned (.int .i64 n) ∧ SumIs (g.P 0) (g.Q 0) sv v n) ∧ Below w.heap.size w w' := by
  have HA := mkH (at_yes h hm)
  have HL : Hid (∀ W, Gm p W F B g K → Calls Tryz.prog 37 #[.pointer (some ⟨p.Bf 0, 0, none⟩), .int .i64 v] W fun e w' => (∃ n, e = .returned (.int .i64 n) ∧ SumIs (g.P 0) (g.Q 0) sv v n) ∧ Below W.heap.size W w') := fun W k => gsum_any k hK hm v hb hs
  have HG := mkH h
  clear h
  go_enter Tryz.func15, Tryz.ntmps15
  go_wp2_with fail
  refine HA.out.mono ?_
  rintro e w1 ⟨rfl, hb1⟩
  have HC := mkH (HL.out w1 (HG.out.below hb1))
  have HB1 := mkH hb1
  clear hb1 HA HL HG
  go_wp2_with fail
  refine HC.out.mono ?_
  rintro e w2 ⟨⟨t, rfl, ht⟩, hb2⟩
  have HB2 := mkH (HB1.out.trans (hb2.mono HB1.out.size))
  have HT := mkH ht
  clear hb2 HB1 HC ht
  go_wp2
  go_ret
  exact ⟨⟨_, rfl, HT.out⟩, HB2.out⟩
theorem lleast_rd (h : Gm p w F B g K) (hK : K ≤ 30000) (hm : 1 ≤ g.m) (v : Int) (hb : B64 v) {sv lv : Int → Int} (hs : ∀ x, g.P 0 x → x.s = sv x.v ∧ x.l = lv x.v) : Calls Tryz.prog 16 #[.pointer (some ⟨B, 0, none⟩), .int .i64 v] w fun e w' => (∃ n, e = .returned (.int .i64 n) ∧ LeastIs (g.P 0) (g.Q 0) lv v n) ∧ Below w.heap.size w w' := by
  have HA := mkH (at_yes h hm)
  have HL : Hid (∀ W, Gm p W F B g K → Calls Tryz.prog 38 #[.pointer (some ⟨p.Bf 0, 0, none⟩), .int .i64 v] W fun e w' => (∃ n, e = .returned (.int .i64 n) ∧ LeastIs (g.P 0) (g.Q 0) lv v n) ∧ Below W.heap.size W w') := fun W k => gleast_any k hK hm v hb hs
  have HG := mkH h
  clear h
  go_enter Tryz.func16, Tryz.ntmps16
  go_wp2_with fail
  refine HA.out.mono ?_
  rintro e w1 ⟨rfl, hb1⟩
  have HC := mkH (HL.out w1 (HG.out.below hb1))
  have HB1 := mkH hb1
  clear hb1 HA HL HG
  go_wp2_with fail
  refine HC.out.mono ?_
  rintro e w2 ⟨⟨t, rfl, ht⟩, hb2⟩
  have HB2 := mkH (HB1.out.trans (hb2.mono HB1.out.size))
  have HT := mkH ht
  clear hb2 HB1 HC ht
  go_wp2
  go_ret
  exact ⟨⟨_, rfl, HT.out⟩, HB2.out⟩
end
section
variable {p : Gp} {w : World} {F : Nat → Prop} {B : Nat} {g : Gs} {K : Nat}
theorem Gm.storeN (h : Gm p w F B g K) {e : Int} (he : B64 e) (hx : g.E e = none) (hne : g.ne ≤ 1000000) (x : Eg) : ∃ w', (Instr.mapUpdate 49 (.map (some p.bM)) (.int .i64 e) (egv x)).run Tryz.prog w = .ok () w' ∧ Gm p w' F B (g.setE (updQ g.E e (some x)) (g.ne + 1)) K ∧ w.grownBy w' (some p.bM) ∧ Step F F w w' := by
  obtain ⟨m1, m2, m3⟩ := h.edgeL
  obtain ⟨w', k1, k2, k3⟩ := m1.store KE (by unfold maxLen; omega) he (egv x)
  rw [map_upd, hx] at k2
  simp at k2
  obtain ⟨q1, q2⟩ := m3 w' _ _ k2 k3
  exact ⟨w', k1, q1, k3, q2⟩
theorem put_any (h : Gm p w F B g K) (hK : K + 4 ≤ 30000) (hm : 1 ≤ g.m) {e a b : Int} (he : B64 e) (h1 : 1 ≤ e) (ha : B64 a) (hb : B64 b) (hab : a ≠ b) (hx : g.E e = none) (hne : g.ne ≤ 1000000) (hva : Vp (g.P 0) a) (hvb : Vp (g.P 0) b) (hep : ¬ Ep (g.Q 0) e) (hla : e ∉ g.s.L (a, ((0 : Nat) : Int))) (hlb : e ∉ g.s.L (b, ((0 : Nat) : Int))) :
    Calls Tryz.prog 26 #[.pointer (some ⟨B, 0, none⟩), .int .i64 e, .int .i64 a, .int .i64 b] w fun r w' => r = .returned (.tuple #[]) ∧ ∃ F', Step F F' w w' ∧
      ((¬ Jq (g.Q 0) a b ∧ Gm p w' F' B (linkG (g.setE (updQ g.E e (some ⟨a, b, 0, true⟩)) (g.ne + 1)) e ⟨a, b, 0, true⟩ 0) (K + 3)) ∨ (Jq (g.Q 0) a b ∧ Gm p w' F' B (putG (g.setE (updQ g.E e (some ⟨a, b, 0, false⟩)) (g.ne + 1)) e ⟨a, b, 0, false⟩ 0) (K + 2))) := by
  have HC := mkH (lsame_rd h (by omega) hm a b ha hb)
  have HG := mkH h
  have HV : Hid (Vp (g.P 0) a ∧ Vp (g.P 0) b) := ⟨hva, hvb⟩
  have HLi : Hid (∀ w3 F3, ¬ Jq (g.Q 0) a b → Gm p w3 F3 B (g.setE (updQ g.E e (some ⟨a, b, 0, true⟩)) (g.ne + 1)) K → Calls Tryz.prog 48 #[.pointer (some ⟨B, 0, none⟩), .int .i64 e, egv ⟨a, b, 0, true⟩, .int .i64 0] w3 fun e' w' => e' = .returned (.tuple #[]) ∧ ∃ F', Gm p w' F' B (linkG (g.setE (updQ g.E e (some ⟨a, b, 0, true⟩)) (g.ne + 1)) e ⟨a, b, 0, true⟩ 0) (K + 3) ∧ Step F3 F' w3 w') := fun w3 F3 hj k => link_any k (by omega) (i := 0) hm (x := ⟨a, b, 0, true⟩) he h1 ha hb hep hj
  have HPu : Hid (∀ w3 F3, Gm p w3 F3 B (g.setE (updQ g.E e (some ⟨a, b, 0, false⟩)) (g.ne + 1)) K → Calls Tryz.prog 49 #[.pointer (some ⟨B, 0, none⟩), .int .i64 e, egv ⟨a, b, 0, false⟩] w3 fun e' w' => e' = .returned (.tuple #[]) ∧ ∃ F', Gm p w' F' B (putG (g.setE (updQ g.E e (some ⟨a, b, 0, false⟩)) (g.ne + 1)) e ⟨a, b, 0, false⟩ 0) (K + 2) ∧ Step F3 F' w3 w') := fun w3 F3 k => putLoose_any k (by omega) (i := 0) hm (by omega) (x := ⟨a, b, 0, false⟩) rfl he h1 ha hb hab hla hlb hva hvb
  clear h hva hvb hep hla hlb
  go_enter Tryz.func26, Tryz.ntmps26
  go_wp2_with fail
  refine HC.out.mono ?_
  rintro r w1 ⟨⟨t, rfl, ht⟩, hb1⟩
  have HT := mkH ht
  have hG1 := HG.out.below hb1
  obtain ⟨M, hM⟩ : ∃ M, M = w1.heap.size := ⟨_, rfl⟩
  obtain ⟨w2, hw2⟩ : ∃ w2, w2 = w1.alloc (.cells #[.int .i64 a, .int .i64 b, .int .i64 0, .bool (!t)] 63) := ⟨_, rfl⟩
  have hb2 : Below w1.heap.size w1 w2 := by rw [hw2]; exact (Below.refl _ _).alloc (Nat.le_refl _) _
  have hG2 := hG1.below hb2
  have hX2 : Bx w2 F M 63 #[.int .i64 a, .int .i64 b, .int .i64 0, .bool (!t)] := ⟨by rw [hw2, hM]; exact Blk.new w1 _ _, fun k => by have := hG1.lt _ k; omega⟩
  have hd2 := (Below.refl w2.heap.size w2).drew
  obtain ⟨w3, hrun3, hG3, hg3, hS3⟩ := (hG2.below hd2).storeN he hx hne ⟨a, b, 0, !t⟩
  obtain ⟨vv1, ev1, hc1⟩ := hG2.cells
  have c2b := hc1.at (j := 2) rfl
  obtain ⟨vv3, ev3, hc3⟩ := hG3.cells
  have c2c := hc3.at (j := 2) rfl
  simp only [List.getElem_toArray, List.getElem_cons_zero, List.getElem_cons_succ] at c2b c2c
  have e0 := hX2.blk.at (j := 0) rfl
  have e1 := hX2.blk.at (j := 1) rfl
  have e2 := hX2.blk.at (j := 2) rfl
  have e3 := hX2.blk.at (j := 3) rfl
  have hX3 := (hX2.below hd2).step hS3
  have k0 := hX3.blk.at (j := 0) rfl
  have k1 := hX3.blk.at (j := 1) rfl
  have k2 := hX3.blk.at (j := 2) rfl
  have k3 := hX3.blk.at (j := 3) rfl
  simp only [List.getElem_toArray, List.getElem_cons_zero, List.getElem_cons_succ] at e0 e1 e2 e3 k0 k1 k2 k3
  unfold egv at hrun3 HLi HPu
  have HG3 := mkH hG3
  have HS3 := mkH ((((Step.of_below (F := F) hb1).trans (Step.of_below (F := F) hb2)).trans (Step.of_below (F := F) hd2)).trans hS3)
  clear ht hG1 hb1 hb2 hG2 hX2 hd2 hG3 hg3 hS3 hc1 hc3 hX3 HC HG hx
  subst hw2 hM
  go_wp2_with fail
  go_region_held3 (fun w' => w'.cell? ⟨B, 2, none⟩ = some (.map (some p.bM)) ∧ w'.cell? ⟨w1.heap.size, 0, none⟩ = some (.int .i64 a) ∧ w'.cell? ⟨w1.heap.size, 1, none⟩ = some (.int .i64 b) ∧ w'.cell? ⟨w1.heap.size, 2, none⟩ = some (.int .i64 0) ∧ w'.cell? ⟨w1.heap.size, 3, none⟩ = some (.bool (!t)))
    (first | go_keep | (go_split_ands; refine ⟨?_, ?_, ?_, ?_, ?_⟩ <;> assumption))
    (fail)
  rename_i hHeld
  clear hHeld hrun3 c2b e0 e1 e2 e3
  cases t with
  | true =>
    have hj : Hid (Jq (g.Q 0) a b) := (HT.out.1 rfl).2.2
    have HP := mkH (HPu.out w3 F HG3.out)
    clear HPu HLi HG3
    go_wp2_with fail
    refine HP.out.mono ?_
    rintro r w4 ⟨rfl, F4, hG4, hS4⟩
    have HF : Hid (∃ F', Step F F' w w4 ∧ ((¬ Jq (g.Q 0) a b ∧ Gm p w4 F' B (linkG (g.setE (updQ g.E e (some ⟨a, b, 0, true⟩)) (g.ne + 1)) e ⟨a, b, 0, true⟩ 0) (K + 3)) ∨ (Jq (g.Q 0) a b ∧ Gm p w4 F' B (putG (g.setE (updQ g.E e (some ⟨a, b, 0, false⟩)) (g.ne + 1)) e ⟨a, b, 0, false⟩ 0) (K + 2)))) := ⟨F4, HS3.out.trans hS4, .inr ⟨hj.out, hG4⟩⟩
    clear hG4 hS4
    go_wp2
    go_returns
    exact ⟨rfl, HF.out⟩
  | false =>
    have hj : Hid (¬ Jq (g.Q 0) a b) := fun k => by have := HT.out.2 ⟨HV.out.1, HV.out.2, k⟩; cases this
    have HP := mkH (HLi.out w3 F hj.out HG3.out)
    clear HPu HLi HG3
    go_wp2_with fail
    refine HP.out.mono ?_
    rintro r w4 ⟨rfl, F4, hG4, hS4⟩
    have HF : Hid (∃ F', Step F F' w w4 ∧ ((¬ Jq (g.Q 0) a b ∧ Gm p w4 F' B (linkG (g.setE (updQ g.E e (some ⟨a, b, 0, true⟩)) (g.ne + 1)) e ⟨a, b, 0, true⟩ 0) (K + 3)) ∨ (Jq (g.Q 0) a b ∧ Gm p w4 F' B (putG (g.setE (updQ g.E e (some ⟨a, b, 0, false⟩)) (g.ne + 1)) e ⟨a, b, 0, false⟩ 0) (K + 2)))) := ⟨F4, HS3.out.trans hS4, .inl ⟨hj.out, hG4⟩⟩
    clear hG4 hS4
    go_wp2
    go_returns
    exact ⟨rfl, HF.out⟩
end
section
variable {p : Gp} {w : World} {F : Nat → Prop} {B : Nat} {g : Gs} {K : Nat}
theorem etake_any (h : Gm p w F B g K) (hl : g.el ≤ 4611686018427387904) (hx : g.eb.length ≤ 100000) :
    Calls Tryz.prog 24 #[.pointer (some ⟨B, 6, none⟩)] w fun e w' => ∃ r, e = .returned (.int .i64 r) ∧ Least (Tk g.el g.eb) r ∧ ∃ F' el' eb', Gm p w' F' B (g.setN el' eb') K ∧ Step F F' w w' ∧ (∀ t, Tk el' eb' t ↔ Tk g.el g.eb t ∨ t = r) ∧ g.el ≤ el' ∧ el' ≤ g.el + 1 ∧ el' - eb'.length = g.el - g.eb.length + 1 ∧ eb'.length ≤ g.eb.length := by
  obtain ⟨ev, T, cs, h1, h2, h3, h4⟩ := h.enL
  refine (mtake_any h2 h1 hl hx).mono ?_
  rintro e w' ⟨r, rfl, q1, last', v', xs', q2, q3, q4, q5, q6, q7, q8⟩
  obtain ⟨F', k1, k2⟩ := h4 w' last' v' xs' q2 q3
  exact ⟨r, rfl, q1, F', last', xs', k1, k2, q4, q5, q6, q7, q8⟩
theorem vtake_any (h : Gm p w F B g K) (hl : g.vl ≤ 4611686018427387904) (hx : g.vb.length ≤ 100000) :
    Calls Tryz.prog 24 #[.pointer (some ⟨B, 4, none⟩)] w fun e w' => ∃ r, e = .returned (.int .i64 r) ∧ Least (Tk g.vl g.vb) r ∧ ∃ F' vl' vb', Gm p w' F' B (g.setV vl' vb') K ∧ Step F F' w w' ∧ (∀ t, Tk vl' vb' t ↔ Tk g.vl g.vb t ∨ t = r) ∧ g.vl ≤ vl' ∧ vl' ≤ g.vl + 1 ∧ vl' - vb'.length = g.vl - g.vb.length + 1 ∧ vb'.length ≤ g.vb.length := by
  obtain ⟨ev, T, cs, h1, h2, h3, h4⟩ := h.vnL
  refine (mtake_any h2 h1 hl hx).mono ?_
  rintro e w' ⟨r, rfl, q1, last', v', xs', q2, q3, q4, q5, q6, q7, q8⟩
  obtain ⟨F', k1, k2⟩ := h4 w' last' v' xs' q2 q3
  exact ⟨r, rfl, q1, F', last', xs', k1, k2, q4, q5, q6, q7, q8⟩
end
section
variable {p : Gp} {w : World} {F : Nat → Prop} {B : Nat} {g : Gs} {K : Nat}
theorem insert_yes (h : Gm p w F B g K) (hK : K + 4 ≤ 30000) (hm : 1 ≤ g.m) {a b : Int} (ha : B64 a) (hb : B64 b) (hab : a ≠ b) (hva : Vp (g.P 0) a) (hvb : Vp (g.P 0) b) (hne : g.ne ≤ 1000000) (hl : g.el ≤ 4611686018427387904) (hx : g.eb.length ≤ 100000) (hr : ∀ r, Least (Tk g.el g.eb) r → B64 r ∧ g.E r = none ∧ ¬ Ep (g.Q 0) r ∧ r ∉ g.s.L (a, ((0 : Nat) : Int)) ∧ r ∉ g.s.L (b, ((0 : Nat) : Int))) :
    Calls Tryz.prog 7 #[.pointer (some ⟨B, 0, none⟩), .int .i64 a, .int .i64 b] w fun e w' => ∃ r el' eb', e = .returned (.tuple #[.int .i64 r, .int .i64 0]) ∧ Least (Tk g.el g.eb) r ∧ ((∀ t, Tk el' eb' t ↔ Tk g.el g.eb t ∨ t = r) ∧ g.el ≤ el' ∧ el' ≤ g.el + 1 ∧ el' - eb'.length = g.el - g.eb.length + 1 ∧ eb'.length ≤ g.eb.length) ∧ ∃ F', Step F F' w w' ∧
      ((¬ Jq (g.Q 0) a b ∧ Gm p w' F' B (linkG ((g.setN el' eb').setE (updQ g.E r (some ⟨a, b, 0, true⟩)) (g.ne + 1)) r ⟨a, b, 0, true⟩ 0) (K + 3)) ∨ (Jq (g.Q 0) a b ∧ Gm p w' F' B (putG ((g.setN el' eb').setE (updQ g.E r (some ⟨a, b, 0, false⟩)) (g.ne + 1)) r ⟨a, b, 0, false⟩ 0) (K + 2))) := by
  have HA := mkH (lhas_rd h hm a ha)
  have HBv : Hid (∀ W, Gm p W F B g K → Calls Tryz.prog 12 #[.pointer (some ⟨B, 0, none⟩), .int .i64 b] W fun e w' => IsBn e (Vp (g.P 0) b) ∧ Below W.heap.size W w') := fun W k => lhas_rd k hm b hb
  have HT : Hid (∀ W, Gm p W F B g K → Calls Tryz.prog 24 #[.pointer (some ⟨B, 6, none⟩)] W fun e w' => ∃ r, e = .returned (.int .i64 r) ∧ Least (Tk g.el g.eb) r ∧ ∃ F' el' eb', Gm p w' F' B (g.setN el' eb') K ∧ Step F F' W w' ∧ (∀ t, Tk el' eb' t ↔ Tk g.el g.eb t ∨ t = r) ∧ g.el ≤ el' ∧ el' ≤ g.el + 1 ∧ el' - eb'.length = g.el - g.eb.length + 1 ∧ eb'.length ≤ g.eb.length) := fun W k => etake_any k hl hx
  have HP : Hid (∀ W F1 el' eb' r, Gm p W F1 B (g.setN el' eb') K → Least (Tk g.el g.eb) r → Calls Tryz.prog 26 #[.pointer (some ⟨B, 0, none⟩), .int .i64 r, .int .i64 a, .int .i64 b] W fun e w' => e = .returned (.tuple #[]) ∧ ∃ F', Step F1 F' W w' ∧
      ((¬ Jq (g.Q 0) a b ∧ Gm p w' F' B (linkG ((g.setN el' eb').setE (updQ g.E r (some ⟨a, b, 0, true⟩)) (g.ne + 1)) r ⟨a, b, 0, true⟩ 0) (K + 3)) ∨ (Jq (g.Q 0) a b ∧ Gm p w' F' B (putG ((g.setN el' eb').setE (updQ g.E r (some ⟨a, b, 0, false⟩)) (g.ne + 1)) r ⟨a, b, 0, false⟩ 0) (K + 2)))) := fun W F1 el' eb' r k q => by
    obtain ⟨r1, r2, r3, r4, r5⟩ := hr r q
    exact put_any k hK hm r1 q.1 ha hb hab r2 hne hva hvb r3 r4 r5
  have HG := mkH h
  have HV : Hid (Vp (g.P 0) a ∧ Vp (g.P 0) b) := ⟨hva, hvb⟩
  clear h hr hva hvb
  go_enter Tryz.func7, Tryz.ntmps7
  go_wp2_with fail
  refine HA.out.mono ?_
  rintro e w1 ⟨⟨t, rfl, ht⟩, hb1⟩
  obtain rfl : t = true := ht.2 HV.out.1
  have hG1 := HG.out.below hb1
  have HC1 := mkH (HBv.out w1 hG1)
  have HG1 := mkH hG1
  have HS1 : Hid (Step F F w w1) := Step.of_below hb1
  clear ht hb1 hG1 HA HBv HG
  go_wp2_with fail
  refine HC1.out.mono ?_
  rintro e w2 ⟨⟨t, rfl, ht⟩, hb2⟩
  obtain rfl : t = true := ht.2 HV.out.2
  have hG2 := HG1.out.below hb2
  have HC2 := mkH (HT.out w2 hG2)
  have HS2 : Hid (Step F F w w2) := HS1.out.trans (Step.of_below hb2)
  clear ht hb2 hG2 HC1 HT HG1 HS1
  go_wp2_with fail
  refine HC2.out.mono ?_
  rintro e w3 ⟨r, rfl, q1, F3, el', eb', hG3, hS3, q4⟩
  have HC3 := mkH (HP.out w3 F3 el' eb' r hG3 q1)
  have HS3 := mkH (HS2.out.trans hS3)
  have HQ := mkH (And.intro q1 q4)
  clear q1 q4 hG3 hS3 HC2 HP HS2
  go_wp2_with fail
  refine HC3.out.mono ?_
  rintro e w4 ⟨rfl, F4, hS4, hG4⟩
  have HF := mkH (show ∃ F', Step F F' w w4 ∧ ((¬ Jq (g.Q 0) a b ∧ Gm p w4 F' B (linkG ((g.setN el' eb').setE (updQ g.E r (some ⟨a, b, 0, true⟩)) (g.ne + 1)) r ⟨a, b, 0, true⟩ 0) (K + 3)) ∨ (Jq (g.Q 0) a b ∧ Gm p w4 F' B (putG ((g.setN el' eb').setE (updQ g.E r (some ⟨a, b, 0, false⟩)) (g.ne + 1)) r ⟨a, b, 0, false⟩ 0) (K + 2))) from ⟨F4, HS3.out.trans hS4, hG4⟩)
  clear hS4 hG4 HC3 HS3
  go_wp2
  go_returns
  exact ⟨r, el', eb', rfl, HQ.out.1, HQ.out.2, HF.out⟩
end
def eg00 : Eg := ⟨0, 0, 0, false⟩
def noS : Int → Prop := fun _ => False
section
variable {g : Gs} {on : Int → Prop} {sv lv : Int → Int} {S : Int → Prop} {go : Eg} {gl : Int}
theorem Gi.wide (h : Gi g on sv lv S go gl) {e : Int} (he : g.E e = none) : Gi g on sv lv (fun k => S k ∨ k = e) go gl := by
  have key : ∀ f (y : Eg), (¬ S f ∧ g.E f = some y) ↔ (¬ (S f ∨ f = e) ∧ g.E f = some y) := fun f y =>
    ⟨fun ⟨k1, k2⟩ => ⟨fun k => k.elim k1 (fun k => by subst k; rw [he] at k2; cases k2), k2⟩, fun ⟨k1, k2⟩ => ⟨fun k => k1 (.inl k), k2⟩⟩
  have hQ : ∀ j : Int, Qd g.E S j = Qd g.E (fun k => S k ∨ k = e) j := fun j => qd_ext fun f y _ _ => key f y
  refine ⟨fun j hj => (h.q j hj).trans (hQ j), fun j hj => ?_, fun v j f => ?_, h.eb, h.ob, h.nd, h.m⟩
  · refine (h.p j hj).trans ?_
    rw [vs_ext (fun j _ => hQ j) j]
  · rw [h.lo]
    exact ⟨fun ⟨y, k1, k2, k3⟩ => ⟨y, ((key f y).1 ⟨k1, k2⟩).1, k2, k3⟩, fun ⟨y, k1, k2, k3⟩ => ⟨y, ((key f y).2 ⟨k1, k2⟩).1, k2, k3⟩⟩
theorem Gi.vals (h : Gi g on sv lv S go gl) {on' : Int → Prop} {sv' lv' : Int → Int} (ho : ∀ v, on v ↔ on' v) (hv : ∀ v, on v → sv v = sv' v ∧ lv v = lv' v) : Gi g on' sv' lv' S go gl := by
  obtain rfl : on = on' := funext fun v => propext (ho v)
  refine ⟨h.q, fun j hj => ?_, h.lo, h.eb, h.ob, h.nd, h.m⟩
  rw [h.p j hj]
  refine pf_ext (fun _ => Iff.rfl) (fun v hV => ?_) (fun _ _ => rfl)
  unfold sv0
  by_cases h0 : j = 0
  · rw [if_pos h0, if_pos h0, if_pos h0, if_pos h0]
    unfold VS at hV
    rw [if_pos h0] at hV
    exact hv v hV
  · rw [if_neg h0, if_neg h0, if_neg h0, if_neg h0]; exact ⟨rfl, rfl⟩
theorem Gi.bare (h : Gi g on sv lv S go gl) {v : Int} (hv : ¬ on v) (i : Int) : g.s.L (v, i) = [] := by
  refine List.eq_nil_iff_forall_not_mem.2 fun f hf => ?_
  obtain ⟨y, _, k2, _, _, k5⟩ := (h.lo v i f).1 hf
  have := h.eb f y k2
  rcases k5 with k5 | k5
  · exact hv (k5 ▸ this.2.2.1)
  · exact hv (k5 ▸ this.2.2.2.1)
def vertG (g : Gs) (vl : Int) (vb : List Int) (r s l : Int) : Gs := (g.setV vl vb).setF 0 (addP (g.P 0) r s l) (g.Q 0)
theorem Gi.vertG (h : Gi g on sv lv S go gl) {r : Int} (hr : ¬ on r) (hb : 1 ≤ r ∧ r ≤ 1000000) (s l : Int) (vl : Int) (vb : List Int) : Gi (vertG g vl vb r s l) (fun v => on v ∨ v = r) (updI sv r s) (updI lv r l) S go gl := by
  have e0 : mkS g.s ((0 : Nat) : Int) r = 0 := by unfold mkS; rw [if_pos (h.bare hr _)]
  have p0 := h.p 0 h.m.1
  refine ⟨fun j hj => ?_, fun j hj => ?_, h.lo, fun e x he => ?_, fun v hv => hv.elim (h.ob v) (fun k => k ▸ hb), h.nd, h.m⟩
  · show updF g.Q 0 (g.Q 0) j = _
    by_cases e : j = 0
    · subst e; rw [updF_at]; exact h.q 0 hj
    · rw [updF_ne e]; exact h.q j hj
  · show updF g.P 0 (addP (g.P 0) r s l) j = _
    by_cases e : j = 0
    · subst e
      rw [updF_at, p0, addP_pf_new (show ¬ VS on g.E S go gl 0 r by unfold VS; rw [if_pos rfl]; exact hr) e0]
      refine pf_ext (fun v => ?_) (fun v _ => ⟨?_, ?_⟩) (fun _ _ => rfl)
      · unfold VS; rw [if_pos rfl, if_pos rfl]
      · unfold sv0; rw [if_pos rfl, if_pos rfl]
      · unfold sv0; rw [if_pos rfl, if_pos rfl]
    · rw [updF_ne e, h.p j hj]
      refine pf_ext (fun v => ?_) (fun v _ => ⟨?_, ?_⟩) (fun _ _ => rfl)
      · unfold VS; rw [if_neg e, if_neg e]; exact Iff.rfl
      · unfold sv0; rw [if_neg e, if_neg e]
      · unfold sv0; rw [if_neg e, if_neg e]
  · obtain ⟨a, b, c, d, f⟩ := h.eb e x he
    exact ⟨a, b, .inl c, .inl d, f⟩
def dropG (g : Gs) (vl : Int) (vb : List Int) (r : Int) : Gs := (g.setF 0 (dropP (g.P 0) (g.Q 0) r) (g.Q 0)).setV vl vb
theorem Gi.dropG (h : Gi g on sv lv S go gl) {r : Int} (hq : ¬ Hase (g.Q 0) r) (hne : ∀ e x, g.E e = some x → x.a ≠ r ∧ x.b ≠ r) (vl : Int) (vb : List Int) : Gi (dropG g vl vb r) (fun v => on v ∧ v ≠ r) sv lv S go gl := by
  have p0 := h.p 0 h.m.1
  refine ⟨fun j hj => ?_, fun j hj => ?_, h.lo, fun e x he => ?_, fun v hv => h.ob v hv.1, h.nd, h.m⟩
  · show updF g.Q 0 (g.Q 0) j = _
    by_cases e : j = 0
    · subst e; rw [updF_at]; exact h.q 0 hj
    · rw [updF_ne e]; exact h.q j hj
  · show updF g.P 0 (dropP (g.P 0) (g.Q 0) r) j = _
    by_cases e : j = 0
    · subst e
      rw [updF_at, p0, dropP_pf]
      refine pf_ext (fun v => ?_) (fun v _ => ⟨rfl, rfl⟩) (fun _ _ => rfl)
      unfold VS; rw [if_pos rfl, if_pos rfl]
      exact ⟨fun k => ⟨k.1, k.2.elim id (fun k => absurd k hq)⟩, fun k => ⟨k.1, .inl k.2⟩⟩
    · rw [updF_ne e, h.p j hj]
      refine pf_ext (fun v => ?_) (fun v _ => ⟨rfl, rfl⟩) (fun _ _ => rfl)
      unfold VS; rw [if_neg e, if_neg e]; exact Iff.rfl
  · obtain ⟨a, b, c, d, f⟩ := h.eb e x he
    exact ⟨a, b, ⟨c, (hne e x he).1⟩, ⟨d, (hne e x he).2⟩, f⟩
theorem Gi.hase (h : Gi g on sv lv noS go gl) {V : List Int} {n : Int} {m : Nat} (hr : Rest g.E V n m) {v e : Int} {x : Eg} (he : g.E e = some x) (hv : x.a = v ∨ x.b = v) : Hase (g.Q 0) v := by
  rw [h.q 0 h.m.1, qd_hase]
  have hl := (hr.l0 e x he).1
  cases ht : x.t with
  | true => exact ⟨e, x, fun k => k, he, ht, hl, hv⟩
  | false =>
    have hj := (hr.b e x (fun k => k) he ht).low hl
    have hne := (hr.v e x he).1
    have key : ∀ {a b : Int}, Jn (Te g.E noS 0) a b → a ≠ b → (∃ e x, ¬ noS e ∧ g.E e = some x ∧ x.t = true ∧ ((0 : Nat) : Int) ≤ x.l ∧ (x.a = b ∨ x.b = b)) := fun {a b} k hn => by
      cases k with
      | refl => exact absurd rfl hn
      | step k e =>
        rcases e with ⟨f, y, q1, q2, q3, q4, q5, q6⟩ | ⟨f, y, q1, q2, q3, q4, q5, q6⟩
        · exact ⟨f, y, q1, q2, q3, q4, .inr q6⟩
        · exact ⟨f, y, q1, q2, q3, q4, .inl q5⟩
    rcases hv with rfl | rfl
    · exact key hj.symm (Ne.symm hne)
    · exact key hj hne
end
section
variable {E : EM} {V : List Int} {n : Int} {m : Nat}
theorem Rest.verts (h : Rest E V n m) {V' : List Int} (hv : ∀ e x, E e = some x → x.a ∈ V' ∧ x.b ∈ V') : Rest E V' n m := ⟨h.acy, h.sz, h.b, h.l0, fun e x he => ⟨(h.v e x he).1, hv e x he⟩⟩
theorem Rest.bare (V : List Int) (hn : ∀ i : Nat, i < m → (2 : Int) ^ i ≤ n) : Rest (fun _ => Option.none) V n m := by
  refine ⟨fun e x _ h => (by cases h), fun i hi v T d1 d2 => ?_, fun e x _ h => (by cases h), fun e x h => (by cases h), fun e x h => (by cases h)⟩
  have : T.length ≤ 1 := by
    have := d1.length_le_of_subset (l₂ := [v]) (fun u hu => by
      have k := d2 u hu
      have hz : ∀ {a b : Int}, Jn (Te (fun _ => Option.none) (fun _ => False) (i : Int)) a b → b = a := fun {a b} k => by
        induction k with
        | refl => rfl
        | step _ e _ => rcases e with ⟨f, y, _, q2, _⟩ | ⟨f, y, _, q2, _⟩ <;> cases q2
      simp [hz k])
    simpa using this
  have h2 := hn i hi
  have h3 := two_pow_pos i
  rcases Nat.lt_or_ge T.length 1 with h | h
  · have : T.length = 0 := by omega
    rw [this]; simp; omega
  · have : T.length = 1 := by omega
    rw [this]; simpa using h2
theorem Rest.insLoose (h : Rest E V n m) (hm : 1 ≤ m) {e a b : Int} (he : E e = .none) (ha : a ∈ V) (hb : b ∈ V) (hab : a ≠ b) (hj : Jn (Te E (fun _ => False) 0) a b) : Rest (updQ E e (some ⟨a, b, 0, false⟩)) V n m := by
  have old : ∀ f y, updQ E e (some (⟨a, b, 0, false⟩ : Eg)) f = some y → (f = e ∧ y = ⟨a, b, 0, false⟩) ∨ (f ≠ e ∧ E f = some y) := fun f y hy => by
    by_cases ef : f = e
    · subst ef; rw [updQ_at] at hy; cases hy; exact .inl ⟨rfl, rfl⟩
    · rw [updQ_ne ef] at hy; exact .inr ⟨ef, hy⟩
  refine Rest.loose h.acy h.sz (fun f y ht => ?_) (fun f y hy ht => ?_) (fun f y hy => ?_) (fun f y hy => ?_)
  · constructor
    · rintro ⟨_, k⟩
      by_cases ef : f = e
      · subst ef; rw [he] at k; cases k
      · rw [updQ_ne ef]; exact k
    · intro k
      rcases old f y k with ⟨rfl, rfl⟩ | ⟨_, k⟩
      · cases ht
      · exact ⟨fun k => k, k⟩
  · rcases old f y hy with ⟨rfl, rfl⟩ | ⟨_, k⟩
    · exact hj
    · exact h.b f y (fun k => k) k ht
  · rcases old f y hy with ⟨rfl, rfl⟩ | ⟨_, k⟩
    · exact ⟨Int.le_refl _, by show (0 : Int) < m; omega⟩
    · exact h.l0 f y k
  · rcases old f y hy with ⟨rfl, rfl⟩ | ⟨_, k⟩
    · exact ⟨hab, ha, hb⟩
    · exact h.v f y k
theorem Rest.outLoose (h : Rest E V n m) {e : Int} {x : Eg} (he : E e = some x) (ht : x.t = false) : Rest (updQ E e Option.none) V n m := by
  have old : ∀ f y, updQ E e Option.none f = some y → f ≠ e ∧ E f = some y := fun f y hy => by
    by_cases ef : f = e
    · subst ef; rw [updQ_at] at hy; cases hy
    · rw [updQ_ne ef] at hy; exact ⟨ef, hy⟩
  refine Rest.loose h.acy h.sz (fun f y hf => ?_) (fun f y hy hf => h.b f y (fun k => k) (old f y hy).2 hf) (fun f y hy => h.l0 f y (old f y hy).2) (fun f y hy => h.v f y (old f y hy).2)
  constructor
  · rintro ⟨_, k⟩
    by_cases ef : f = e
    · subst ef; rw [he] at k; cases k; rw [ht] at hf; cases hf
    · rw [updQ_ne ef]; exact k
  · intro k; exact ⟨fun k => k, (old f y k).2⟩
theorem Rest.outTree {e : Int} (ha : Acy E (fun k => k = e)) (hs : Sz E (fun k => k = e) n m) (hb : Bb E (fun k => k = e)) (hl : ∀ e x, E e = some x → 0 ≤ x.l ∧ x.l < m) (hv : ∀ e x, E e = some x → x.a ≠ x.b ∧ x.a ∈ V ∧ x.b ∈ V) : Rest (updQ E e Option.none) V n m := by
  have old : ∀ f y, updQ E e Option.none f = some y ↔ f ≠ e ∧ E f = some y := fun f y => by
    by_cases ef : f = e
    · subst ef; rw [updQ_at]; simp
    · rw [updQ_ne ef]; simp [ef]
  refine Rest.loose ha hs (fun f y hf => ((old f y)).symm) (fun f y hy hf => ?_) (fun f y hy => hl f y ((old f y).1 hy).2) (fun f y hy => hv f y ((old f y).1 hy).2)
  have := (old f y).1 hy
  exact hb f y this.1 this.2 hf
end
theorem potL_none {E : EM} {m : Nat} {e : Int} : ∀ {D : List Int}, E e = none → potL E m (D.erase e) = potL E m D := by
  intro D he
  induction D with
  | nil => rfl
  | cons f D ih =>
    by_cases h : f = e
    · subst h
      rw [List.erase_cons_head]
      show _ = (match E f with | some x => m - x.l.toNat | none => 0) + potL E m D
      rw [he]; simp
    · rw [List.erase_cons_tail (by simpa using h)]
      show _ + potL E m (D.erase e) = _ + potL E m D
      rw [ih]
theorem potL_out {E : EM} {m : Nat} (e : Int) (D : List Int) : potL (updQ E e none) m D ≤ potL E m D := by
  induction D with
  | nil => exact Nat.le_refl _
  | cons f D ih =>
    have : (match updQ E e none f with | some x => m - x.l.toNat | none => 0) ≤ (match E f with | some x => m - x.l.toNat | none => 0) := by
      by_cases h : f = e
      · subst h; rw [updQ_at]; exact Nat.zero_le _
      · rw [updQ_ne h]; exact Nat.le_refl _
    exact Nat.add_le_add this ih
theorem potL_ins {E : EM} {m : Nat} {e : Int} {x : Eg} {D : List Int} (hD : D.Nodup) (he : E e = none) : potL (updQ E e (some x)) m (e :: D.erase e) ≤ potL E m D + m := by
  have h1 : potL (updQ E e (some x)) m (D.erase e) = potL E m (D.erase e) := potL_congr fun f hf => by
    have : f ≠ e := fun k => by subst k; exact (List.Nodup.not_mem_erase hD) hf
    rw [updQ_ne this]
  show (match updQ E e (some x) e with | some x => m - x.l.toNat | none => 0) + potL (updQ E e (some x)) m (D.erase e) ≤ _
  rw [h1, potL_none he, updQ_at]
  show m - x.l.toNat + _ ≤ _
  omega
section
variable {p : Gp} {w : World} {F : Nat → Prop} {B : Nat} {g : Gs} {K : Nat}
theorem map_out (E : Int → Option Eg) (e : Int) : updQ (fun i => (E i).map egv) e none = fun i => (updQ E e none i).map egv := by
  funext i
  unfold updQ
  split <;> rfl
theorem Gm.dropE (h : Gm p w F B g K) {e : Int} (he : B64 e) {x : Eg} (hx : g.E e = some x) (ty : TypeId) : ∃ w', (Builtin.delete_ #[49, 3] ty #[.map (some p.bM), .int .i64 e]).run Tryz.prog w = .ok (.tuple #[]) w' ∧ Gm p w' F B (g.setE (updQ g.E e none) (g.ne - 1)) K ∧ w.grownBy w' (some p.bM) ∧ Step F F w w' := by
  obtain ⟨m1, m2, m3⟩ := h.edgeL
  obtain ⟨w', k1, k2, k3⟩ := m1.drop KE he ty
  rw [map_out, hx] at k2
  simp at k2
  obtain ⟨q1, q2⟩ := m3 w' _ _ k2 k3
  exact ⟨w', k1, q1, k3, q2⟩
theorem efree_any (h : Gm p w F B g K) (hx : g.eb.length ≤ 100000) {k : Int} (hk : Tk g.el g.eb k) :
    Calls Tryz.prog 28 #[.pointer (some ⟨B, 6, none⟩), .int .i64 k] w fun e w' => e = .returned (.tuple #[]) ∧ ∃ F' eb', Gm p w' F' B (g.setN g.el eb') K ∧ Step F F' w w' ∧ (∀ t, Tk g.el eb' t ↔ Tk g.el g.eb t ∧ t ≠ k) ∧ eb'.length = g.eb.length + 1 := by
  obtain ⟨ev, T, cs, h1, h2, h3, h4⟩ := h.enL
  refine (mfree_any h2 h1 hx hk).mono ?_
  rintro e w' ⟨rfl, v', xs', q1, q2, q3, q4⟩
  obtain ⟨F', k1, k2⟩ := h4 w' g.el v' xs' q1 q2
  exact ⟨rfl, F', xs', k1, k2, q3, q4⟩
theorem vfree_any (h : Gm p w F B g K) (hx : g.vb.length ≤ 100000) {k : Int} (hk : Tk g.vl g.vb k) :
    Calls Tryz.prog 28 #[.pointer (some ⟨B, 4, none⟩), .int .i64 k] w fun e w' => e = .returned (.tuple #[]) ∧ ∃ F' vb', Gm p w' F' B (g.setV g.vl vb') K ∧ Step F F' w w' ∧ (∀ t, Tk g.vl vb' t ↔ Tk g.vl g.vb t ∧ t ≠ k) ∧ vb'.length = g.vb.length + 1 := by
  obtain ⟨ev, T, cs, h1, h2, h3, h4⟩ := h.vnL
  refine (mfree_any h2 h1 hx hk).mono ?_
  rintro e w' ⟨rfl, v', xs', q1, q2, q3, q4⟩
  obtain ⟨F', k1, k2⟩ := h4 w' g.vl v' xs' q1 q2
  exact ⟨rfl, F', xs', k1, k2, q3, q4⟩
theorem delete_none (h : Gm p w F B g K) {e : Int} (he : B64 e) (hx : g.E e = none) : Calls Tryz.prog 11 #[.pointer (some ⟨B, 0, none⟩), .int .i64 e] w fun r w' => r = .returned (.int .i64 4) ∧ Below w.heap.size w w' := by
  obtain ⟨vv, ev, hc⟩ := h.cells
  have c2 := hc.at (j := 2) rfl
  simp only [List.getElem_toArray, List.getElem_cons_zero, List.getElem_cons_succ] at c2
  have hlk := h.edgeL.1.look_ok KE he
  simp only [hx, Option.map_none, Option.getD_none, Option.isSome_none] at hlk
  unfold eg0 at hlk
  have hbw : Below w.heap.size w (w.alloc (.cells #[.int .i64 0, .int .i64 0, .int .i64 0, .bool false] 63)) := (Below.refl _ _).alloc (Nat.le_refl _) _
  have HB := mkH hbw
  clear h hc hbw hx
  go_enter Tryz.func11, Tryz.ntmps11
  go_wp2
  go_ret
  exact ⟨rfl, HB.out⟩
theorem delete_loose (h : Gm p w F B g K) (hK : K + 4 ≤ 30000) {e : Int} (he : B64 e) (h1 : 1 ≤ e) {x : Eg} (hx : g.E e = some x) (ht : x.t = false) {i : Nat} (hi : i < g.m) (hi63 : i ≤ 63) (hl : x.l = i) (ha : B64 x.a) (hb : B64 x.b) (hab : x.a ≠ x.b) (hma : e ∈ g.s.L (x.a, (i : Int))) (hmb : e ∈ g.s.L (x.b, (i : Int))) (hva : Vp (g.P i) x.a) (hvb : Vp (g.P i) x.b)
    (hn : g.eb.length ≤ 100000) (hk : Tk g.el g.eb e) :
    Calls Tryz.prog 11 #[.pointer (some ⟨B, 0, none⟩), .int .i64 e] w fun r w' => r = .returned (.int .i64 0) ∧ ∃ F' eb', Gm p w' F' B (((takeG g e x i).setE (updQ g.E e none) (g.ne - 1)).setN g.el eb') (K + 0) ∧ Step F F' w w' ∧ (∀ t, Tk g.el eb' t ↔ Tk g.el g.eb t ∧ t ≠ e) ∧ eb'.length = g.eb.length + 1 := by
  obtain ⟨xa, xb, xl, xt⟩ := x
  simp only at ht hl ha hb hab hma hmb hva hvb
  subst ht hl
  obtain ⟨vv, ev, hc⟩ := h.cells
  have c2 := hc.at (j := 2) rfl
  simp only [List.getElem_toArray, List.getElem_cons_zero, List.getElem_cons_succ] at c2
  have hlk := h.edgeL.1.look_ok KE he
  simp only [hx, Option.map_some, Option.getD_some, Option.isSome_some] at hlk
  have hbw : Below w.heap.size w (w.alloc (.cells #[.int .i64 xa, .int .i64 xb, .int .i64 (i : Int), .bool false] 63)) := (Below.refl _ _).alloc (Nat.le_refl _) _
  have HG1 := h.below hbw
  have HS1 : Hid (Step F F w (w.alloc (.cells #[.int .i64 xa, .int .i64 xb, .int .i64 (i : Int), .bool false] 63))) := Step.of_below hbw
  have HT := mkH (takeLoose_any HG1 (by omega) hi hi63 (x := ⟨xa, xb, (i : Int), false⟩) rfl he h1 ha hb hab hma hmb hva hvb)
  have hck := takeG_ck g e ⟨xa, xb, (i : Int), false⟩ i
  generalize hg2 : takeG g e ⟨xa, xb, (i : Int), false⟩ i = g2 at *
  have hgE : g2.E = g.E := hck.2
  have hne : g2.ne = g.ne := hck.1.ne
  have hel : g2.el = g.el := hck.1.el
  have heb : g2.eb = g.eb := hck.1.eb
  clear hck hg2
  rw [← hgE] at hx
  rw [← heb] at hn
  rw [← hel, ← heb] at hk
  rw [← hgE, ← hne, ← hel, ← heb]
  clear hgE hne hel heb
  have HD : Hid (∀ W F1, Gm p W F1 B g2 (K + 0) → ∃ w', (Builtin.delete_ #[49, 3] 0 #[.map (some p.bM), .int .i64 e]).run Tryz.prog W = .ok (.tuple #[]) w' ∧ Gm p w' F1 B (g2.setE (updQ g2.E e none) (g2.ne - 1)) (K + 0) ∧ W.grownBy w' (some p.bM) ∧ Step F1 F1 W w') := fun W F1 k => k.dropE he hx 0
  have HF : Hid (∀ W F1, Gm p W F1 B (g2.setE (updQ g2.E e none) (g2.ne - 1)) (K + 0) → Calls Tryz.prog 28 #[.pointer (some ⟨B, 6, none⟩), .int .i64 e] W fun r w' => r = .returned (.tuple #[]) ∧ ∃ F' eb', Gm p w' F' B ((g2.setE (updQ g2.E e none) (g2.ne - 1)).setN g2.el eb') (K + 0) ∧ Step F1 F' W w' ∧ (∀ t, Tk g2.el eb' t ↔ Tk g2.el g2.eb t ∧ t ≠ e) ∧ eb'.length = g2.eb.length + 1) := fun W F1 k => efree_any k hn hk
  unfold egv at hlk HT
  clear h hc hbw HG1 hx hma hmb hva hvb hk
  go_enter Tryz.func11, Tryz.ntmps11
  go_wp2_with fail
  refine HT.out.mono ?_
  rintro r w2 ⟨rfl, F2, hG2, hS2⟩
  obtain ⟨w3, hrun, hG3, hgr, hS3⟩ := HD.out w2 F2 hG2
  obtain ⟨vv2, ev2, hc2⟩ := hG2.cells
  have d2 := hc2.at (j := 2) rfl
  simp only [List.getElem_toArray, List.getElem_cons_zero, List.getElem_cons_succ] at d2
  have HC := mkH (HF.out w3 F2 hG3)
  have HS3 := mkH ((HS1.out.trans hS2).trans hS3)
  clear hG2 hS2 hG3 hgr hS3 hc2 HD HF HT HS1 hlk c2
  go_wp2_with fail
  refine HC.out.mono ?_
  rintro r w4 ⟨rfl, F4, eb', hG4, hS4, hT4, hl4⟩
  have HF4 := mkH (show ∃ F' eb', Gm p w4 F' B ((g2.setE (updQ g2.E e none) (g2.ne - 1)).setN g2.el eb') (K + 0) ∧ Step F F' w w4 ∧ (∀ t, Tk g2.el eb' t ↔ Tk g2.el g2.eb t ∧ t ≠ e) ∧ eb'.length = g2.eb.length + 1 from ⟨F4, eb', hG4, HS3.out.trans hS4, hT4, hl4⟩)
  clear hG4 hS4 hT4 hl4 HC HS3
  go_wp2
  go_ret
  exact ⟨rfl, HF4.out⟩
theorem delete_tree {on : Int → Prop} {sv lv : Int → Int} {go0 : Eg} {gl0 : Int} {D : List Int} {C : Nat} (h : Gm p w F B g K) (hgi : Gi g on sv lv (fun _ => False) go0 gl0) (hgl : gl0 ≤ 0) (hacy : Acy g.E (fun _ => False)) (hsz : Sz g.E (fun _ => False) g.n g.m) (hbb : Bb g.E (fun _ => False)) (hD : D.Nodup) (hdd : ∀ e x, g.E e = some x → e ∈ D) (hpk : K + 3 * potL g.E g.m D ≤ C) (hC : C + 300 ≤ 30000) (hn2 : g.n < 2 ^ g.m)
    {e : Int} {x : Eg} (hx : g.E e = some x) (ht : x.t = true) {L : Nat} (hl : x.l = L) (hne : g.ne ≤ 1000000) (hn : g.eb.length ≤ 100000) (hk : Tk g.el g.eb e) :
    Calls Tryz.prog 11 #[.pointer (some ⟨B, 0, none⟩), .int .i64 e] w fun r w' => r = .returned (.int .i64 0) ∧ ∃ F' g2 K2 eb', Sf on sv lv (fun k => k = e) x L g.n D (C + (L + 1)) (cutGk g e (L + 1)) g2 K2 ∧ Gm p w' F' B (((leaveGk g2 x.a x.b L).setE (updQ g2.E e none) (g2.ne - 1)).setN g2.el eb') (K2 + 2 * L) ∧ Step F F' w w' ∧ (∀ t, Tk g2.el eb' t ↔ Tk g2.el g2.eb t ∧ t ≠ e) ∧ eb'.length = g2.eb.length + 1 := by
  obtain ⟨a1, a2, a3, a4, a5, a6⟩ := hgi.eb e x hx
  have hm := hgi.m
  have he := hgi.e64 hx
  have ha := hgi.b64 a3
  have hb := hgi.b64 a4
  have hl0 : ∀ e x, g.E e = some x → 0 ≤ x.l := fun e x h => (hgi.eb e x h).2.2.2.2.1
  have hL : L < g.m := by omega
  have g1gi := hgi.cutG hgl hx ht hL hl
  have g1rp := Rp.start hx ht a5 hl0 hacy hsz hbb
  rw [hl] at g1rp
  obtain ⟨vv, ev, hc⟩ := h.cells
  have c2 := hc.at (j := 2) rfl
  simp only [List.getElem_toArray, List.getElem_cons_zero, List.getElem_cons_succ] at c2
  have hlk := h.edgeL.1.look_ok KE he
  simp only [hx, Option.map_some, Option.getD_some, Option.isSome_some] at hlk
  have hbw : Below w.heap.size w (w.alloc (.cells #[.int .i64 x.a, .int .i64 x.b, .int .i64 x.l, .bool x.t] 63)) := (Below.refl _ _).alloc (Nat.le_refl _) _
  have HX1 : Hid (Bx (w.alloc (.cells #[.int .i64 x.a, .int .i64 x.b, .int .i64 x.l, .bool x.t] 63)) F w.heap.size 63 #[.int .i64 x.a, .int .i64 x.b, .int .i64 x.l, .bool x.t]) := ⟨Blk.new w _ _, fun k => by have := h.lt _ k; omega⟩
  have HS1 : Hid (Step F F w (w.alloc (.cells #[.int .i64 x.a, .int .i64 x.b, .int .i64 x.l, .bool x.t] 63))) := Step.of_below hbw
  have HCut := mkH (cut_any (h.below hbw) hL (by omega) he hl)
  have HRej : Hid (∀ W F1, Gm p W F1 B (cutGk g e (L + 1)) (K + (L + 1)) → Calls Tryz.prog 30 #[.pointer (some ⟨B, 0, none⟩), egv x] W fun r W' => r = .returned (.tuple #[]) ∧ ∃ F2 g2 K2, Gm p W' F2 B g2 K2 ∧ Step F1 F2 W W' ∧ Sf on sv lv (fun k => k = e) x L g.n D (C + (L + 1)) (cutGk g e (L + 1)) g2 K2) := fun W F1 k =>
    (rejoin_any (r := ⟨p, B, W, F1, on, sv, lv, (fun k => k = e), x, (L : Int), g.n, D, C + (L + 1), cutGk g e (L + 1)⟩) ⟨hD, by show C + (L + 1) + 100 ≤ 30000; omega, hn2, hne, ⟨a3, a4⟩, by show (L : Int) < g.m; omega⟩ k
      ⟨g1gi, g1rp, Ck.refl _, Ev.refl _, by show K + (L + 1) + 3 * potL g.E g.m D ≤ C + (L + 1); omega, hdd⟩ hl (by show (0 : Int) ≤ L; omega)).mono fun r W' ⟨h1, F2, g2, K2, h2, h3, h4⟩ => ⟨h1, F2, g2, K2, h2, h3, h4⟩
  have HLv : Hid (∀ W F2 g2 K2, Gm p W F2 B g2 K2 → Sf on sv lv (fun k => k = e) x L g.n D (C + (L + 1)) (cutGk g e (L + 1)) g2 K2 → Calls Tryz.prog 31 #[.pointer (some ⟨B, 0, none⟩), egv x] W fun r W' => r = .returned (.tuple #[]) ∧ ∃ F3, Gm p W' F3 B (leaveGk g2 x.a x.b L) (K2 + 2 * L) ∧ Step F2 F3 W W') := fun W F2 g2 K2 k s => by
    have hm2 : g2.m = g.m := s.ck.m
    have := s.pk
    exact leave_any k (by omega) (by omega) hl ha hb
  have HDel : Hid (∀ W F3 g2 K2, Gm p W F3 B (leaveGk g2 x.a x.b L) (K2 + 2 * L) → Sf on sv lv (fun k => k = e) x L g.n D (C + (L + 1)) (cutGk g e (L + 1)) g2 K2 → ∃ w', (Builtin.delete_ #[49, 3] 0 #[.map (some p.bM), .int .i64 e]).run Tryz.prog W = .ok (.tuple #[]) w' ∧ Gm p w' F3 B ((leaveGk g2 x.a x.b L).setE (updQ g2.E e none) (g2.ne - 1)) (K2 + 2 * L) ∧ Step F3 F3 W w') := fun W F3 g2 K2 k s => by
    have hex : ∃ x2, g2.E e = some x2 := by
      rcases s.ev e with ⟨q, _⟩ | ⟨x0, x2, _, q, _⟩
      · have q' : g.E e = none := q
        rw [hx] at q'; cases q'
      · exact ⟨x2, q⟩
    obtain ⟨x2, hx2⟩ := hex
    obtain ⟨w', q1, q2, q3, q4⟩ := k.dropE (x := x2) he hx2 0
    exact ⟨w', q1, q2, q4⟩
  have HFr : Hid (∀ W F4 g2 K2, Gm p W F4 B ((leaveGk g2 x.a x.b L).setE (updQ g2.E e none) (g2.ne - 1)) (K2 + 2 * L) → Sf on sv lv (fun k => k = e) x L g.n D (C + (L + 1)) (cutGk g e (L + 1)) g2 K2 → Calls Tryz.prog 28 #[.pointer (some ⟨B, 6, none⟩), .int .i64 e] W fun r w' => r = .returned (.tuple #[]) ∧ ∃ F' eb', Gm p w' F' B (((leaveGk g2 x.a x.b L).setE (updQ g2.E e none) (g2.ne - 1)).setN g2.el eb') (K2 + 2 * L) ∧ Step F4 F' W w' ∧ (∀ t, Tk g2.el eb' t ↔ Tk g2.el g2.eb t ∧ t ≠ e) ∧ eb'.length = g2.eb.length + 1) := fun W F4 g2 K2 k s => by
    have e1 : g2.el = g.el := s.ck.el
    have e2 : g2.eb = g.eb := s.ck.eb
    exact efree_any k (show g2.eb.length ≤ 100000 by rw [e2]; exact hn) (show Tk g2.el g2.eb e by rw [e1, e2]; exact hk)
  have HL := mkH hl
  obtain ⟨M, hM⟩ : ∃ M, M = w.heap.size := ⟨_, rfl⟩
  rw [← hM] at HX1
  have HMM := mkH hM.symm
  clear h hgi hacy hsz hbb hD hdd hpk hn2 hne hn hk hm he ha hb hl0 hL g1gi g1rp hc hbw a1 a2 a3 a4 a5 a6 hx hl hM
  generalize hC2 : C + (L + 1) = C2 at *
  clear hC2
  generalize cutGk g e (L + 1) = g1 at *
  obtain ⟨xa, xb, xl, xt⟩ := x
  simp only at ht
  subst ht
  unfold egv at hlk HCut HRej HLv
  simp only at hlk HCut HRej HLv HDel HFr HX1 HS1 HL
  go_enter Tryz.func11, Tryz.ntmps11
  go_wp2_with fail
  refine HCut.out.mono ?_
  rintro r w2 ⟨rfl, F1, hG2, hS2⟩
  have HX2 := mkH (HX1.out.step hS2)
  have HS2 := mkH (HS1.out.trans hS2)
  have HR2 := mkH (HRej.out w2 F1 hG2)
  rw [HMM.out]
  have y0 := HX2.out.blk.at (j := 0) rfl
  have y1 := HX2.out.blk.at (j := 1) rfl
  have y2 := HX2.out.blk.at (j := 2) rfl
  have y3 := HX2.out.blk.at (j := 3) rfl
  simp only [List.getElem_toArray, List.getElem_cons_zero, List.getElem_cons_succ] at y0 y1 y2 y3
  clear hG2 hS2 HCut HX1 HS1 hlk c2
  go_wp2_with fail
  refine HR2.out.mono ?_
  rintro r w3 ⟨rfl, F2, g2, K2, hG3, hS3, hSf⟩
  have HSf := mkH hSf
  have HX3 := mkH (HX2.out.step hS3)
  have HS3 := mkH (HS2.out.trans hS3)
  have HR3 := mkH (HLv.out w3 F2 g2 K2 hG3 hSf)
  clear hG3 hS3 hSf HR2 HX2 HS2 y0 y1 y2 y3 HRej HLv
  have y0 := HX3.out.blk.at (j := 0) rfl
  have y1 := HX3.out.blk.at (j := 1) rfl
  have y2 := HX3.out.blk.at (j := 2) rfl
  have y3 := HX3.out.blk.at (j := 3) rfl
  simp only [List.getElem_toArray, List.getElem_cons_zero, List.getElem_cons_succ] at y0 y1 y2 y3
  go_wp2_with fail
  refine HR3.out.mono ?_
  rintro r w4 ⟨rfl, F3, hG4, hS4⟩
  have HS4 := mkH (HS3.out.trans hS4)
  obtain ⟨w5, hrun, hG5, hS5⟩ := HDel.out w4 F3 g2 K2 hG4 HSf.out
  obtain ⟨vv2, ev2, hc2⟩ := hG4.cells
  have d2 := hc2.at (j := 2) rfl
  simp only [List.getElem_toArray, List.getElem_cons_zero, List.getElem_cons_succ] at d2
  have HC := mkH (HFr.out w5 F3 g2 K2 hG5 HSf.out)
  have HS5 := mkH (HS4.out.trans hS5)
  clear hG4 hS4 hG5 hS5 hc2 HDel HFr HR3 HX3 HS3 HS4 y0 y1 y2 y3
  go_wp2_with fail
  refine HC.out.mono ?_
  rintro r w6 ⟨rfl, F4, eb', hG6, hS6, hT6, hl6⟩
  have HF6 := mkH (show ∃ F' g2 K2 eb', Sf on sv lv (fun k => k = e) ⟨xa, xb, xl, true⟩ L g.n D C2 g1 g2 K2 ∧ Gm p w6 F' B (((leaveGk g2 xa xb L).setE (updQ g2.E e none) (g2.ne - 1)).setN g2.el eb') (K2 + 2 * L) ∧ Step F F' w w6 ∧ (∀ t, Tk g2.el eb' t ↔ Tk g2.el g2.eb t ∧ t ≠ e) ∧ eb'.length = g2.eb.length + 1 from ⟨F4, g2, K2, eb', HSf.out, hG6, HS5.out.trans hS6, hT6, hl6⟩)
  clear hG6 hS6 hT6 hl6 HC HS5 HSf HL
  go_wp2
  go_ret
  exact ⟨rfl, HF6.out⟩
end
def okR (n : Int) : Bool := decide (0 ≤ n) && decide (n ≤ 1099511627776)
theorem okR_SL (s l : Int) : okSL s l = (okR s && okR l) := by
  unfold okSL okR
  rw [← Bool.decide_and, ← Bool.decide_and, ← Bool.decide_and]
  exact decide_eq_decide.2 (by omega)
theorem right_any (n : Int) (w : World) : Calls Tryz.prog 23 #[.int .i64 n] w fun e w' => e = .returned (.bool (okR n)) ∧ w' = w := by
  by_cases c1 : 0 ≤ n
  · go_enter Tryz.func23, Tryz.ntmps23
    go_wp2
    go_ret
    exact ⟨ret_of (congrArg Value.bool (by simp [okR, c1])), rfl⟩
  · have hd : decide (0 ≤ n) = false := by simpa using c1
    go_enter Tryz.func23, Tryz.ntmps23
    go_wp2
    go_ret
    exact ⟨ret_of (congrArg Value.bool (show _ = okR n from by unfold okR; rw [hd]; rfl)), rfl⟩
section
variable {p : Gp} {w : World} {F : Nat → Prop} {B : Nat} {g : Gs} {K : Nat}
theorem vertex_any (h : Gm p w F B g K) (hK : K ≤ 30000) (hm : 1 ≤ g.m) (s l : Int) (hl : g.vl ≤ 100000) (hx : g.vb.length ≤ 100000) (hn : g.n ≤ 4194304 ∧ 1 ≤ g.n) :
    Calls Tryz.prog 6 #[.pointer (some ⟨B, 0, none⟩), .int .i64 s, .int .i64 l] w fun e w' =>
      (g.n ≤ g.vl - g.vb.length ∧ e = .returned (.tuple #[.int .i64 0, .int .i64 6]) ∧ Below w.heap.size w w') ∨
      (g.vl - g.vb.length < g.n ∧ okSL s l = false ∧ e = .returned (.tuple #[.int .i64 0, .int .i64 1]) ∧ Below w.heap.size w w') ∨
      (g.vl - g.vb.length < g.n ∧ okSL s l = true ∧ ∃ r, e = .returned (.tuple #[.int .i64 r, .int .i64 0]) ∧ Least (Tk g.vl g.vb) r ∧ ∃ F' vl' vb', Gm p w' F' B (vertG g vl' vb' r s l) (K + 1) ∧ Step F F' w w' ∧ (∀ t, Tk vl' vb' t ↔ Tk g.vl g.vb t ∨ t = r) ∧ g.vl ≤ vl' ∧ vl' ≤ g.vl + 1 ∧ vl' - vb'.length = g.vl - g.vb.length + 1 ∧ vb'.length ≤ g.vb.length) := by
  obtain ⟨vv, ev, hc⟩ := h.cells
  have c0 := hc.at (j := 0) rfl
  have c1 := hc.at (j := 1) rfl
  simp only [List.getElem_toArray, List.getElem_cons_zero, List.getElem_cons_succ] at c0 c1
  have hBl := hc.lt
  obtain ⟨c, vv', ev', Ff, Fb, hX⟩ := h
  have HN := hX.vn
  have h : Gm p w F B g K := ⟨c, vv', ev', Ff, Fb, hX⟩
  obtain ⟨q, cap, eq1, cq, hql, hcap1, hcap2⟩ := h.ptr (i := 0) (by omega)
  have hgm : (g.m : Int) ≤ 9223372036854775807 := by unfold maxLen at hcap2; omega
  have gn := Grow.ne w
  have g0 : ∀ g' : Grow w, g'.w.cell? ⟨B, 0, none⟩ = some (.int .i64 g.n) := fun g' => Grow.cell hBl c0 g'
  have hv0 := HN.p.l0
  have CM : Hid (∀ g' : Grow w, Calls Tryz.prog 22 #[.pointer (some ⟨B, 4, none⟩)] g'.w fun e w' => e = .returned (.int .i64 (g.vl - g.vb.length)) ∧ Below g'.w.heap.size g'.w w') := fun g' => mmany_any (HN.kept (g'.h.block B hBl) (fun k hk => g'.h.block k (h.lt k (hX.c3 k hk).1))) (by omega) hx
  have HG := mkH h
  have HT : Hid (∀ W, Gm p W F B g K → Calls Tryz.prog 24 #[.pointer (some ⟨B, 4, none⟩)] W fun e w' => ∃ r, e = .returned (.int .i64 r) ∧ Least (Tk g.vl g.vb) r ∧ ∃ F' vl' vb', Gm p w' F' B (g.setV vl' vb') K ∧ Step F F' W w' ∧ (∀ t, Tk vl' vb' t ↔ Tk g.vl g.vb t ∨ t = r) ∧ g.vl ≤ vl' ∧ vl' ≤ g.vl + 1 ∧ vl' - vb'.length = g.vl - g.vb.length + 1 ∧ vb'.length ≤ g.vb.length) := fun W k => vtake_any k (by omega) hx
  have HLb : Hid (∀ r, Least (Tk g.vl g.vb) r → B64 r) := fun r hr => by
    unfold B64
    have h1 := hr.1
    have h2 : ¬ g.vl + 1 < r := fun k => (hr.2.2 (g.vl + 1) (by omega) k).2.1 |> fun z => by omega
    omega
  have HA : Hid (∀ W F1 vl' vb' r, B64 r → okSL s l = true → Gm p W F1 B (g.setV vl' vb') K → Calls Tryz.prog 25 #[.pointer (some ⟨p.Bf 0, 0, none⟩), .int .i64 r, .int .i64 s, .int .i64 l] W fun e w' => IsI e ∧ ∃ F', Gm p w' F' B (vertG g vl' vb' r s l) (K + 1) ∧ Step F1 F' W w') := fun W F1 vl' vb' r hb ho k => gadd_any k hK (i := 0) (by show 0 < g.m; omega) r s l hb ho
  clear h hX hc HN cq hql
  generalize hd : g.vl - g.vb.length = d at *
  go_enter Tryz.func6, Tryz.ntmps6
  go_wp2_with fail
  refine wp_region_grow (by kernel_rfl) (by kernel_rfl) ?_
  repeat (go_big_quiet_step ((go_at_call 22; exact grow_call (CM.out _))))
  refine wpQuiet_nil ?_
  rintro w1 ⟨⟨_, hb1⟩, rfl⟩
  have HB1 := mkH hb1
  have HG1 := mkH (HG.out.below hb1)
  clear hb1 CM gn g0 HG
  by_cases hfull : g.n ≤ d
  · go_wp2
    go_ret2
    exact .inl ⟨hfull, rfl, HB1.out⟩
  · have hlt : d < g.n := by omega
    clear hfull
    go_wp2_with fail
    refine (right_any s _).mono ?_
    rintro e w2 ⟨rfl, rfl⟩
    have hsl := okR_SL s l
    cases hs : okR s with
    | false =>
      rw [hs] at hsl
      simp only [Bool.false_and] at hsl
      have HSL := mkH hsl
      clear hs hsl
      go_wp2
      go_ret2
      exact .inr (.inl ⟨hlt, HSL.out, rfl, HB1.out⟩)
    | true =>
    rw [hs] at hsl
    simp only [Bool.true_and] at hsl
    clear hs
    go_wp2_with fail
    refine (right_any l _).mono ?_
    rintro e w2 ⟨rfl, rfl⟩
    cases hl2 : okR l with
    | false =>
      rw [hl2] at hsl
      have HSL := mkH hsl
      clear hl2 hsl
      go_wp2
      go_ret2
      exact .inr (.inl ⟨hlt, HSL.out, rfl, HB1.out⟩)
    | true =>
      rw [hl2] at hsl
      have HSL := mkH hsl
      have HC2 := mkH (HT.out w2 HG1.out)
      have HS1 : Hid (Step F F w w2) := Step.of_below HB1.out
      clear hl2 hsl HT HG1 HB1
      go_wp2_with fail
      refine HC2.out.mono ?_
      rintro e w3 ⟨r, rfl, q1, F3, vl', vb', hG3, hS3, q4⟩
      obtain ⟨vv3, ev3, hc3⟩ := hG3.cells
      have d1 := hc3.at (j := 1) rfl
      simp only [List.getElem_toArray, List.getElem_cons_zero, List.getElem_cons_succ] at d1
      obtain ⟨q', cap', eq', cq', _⟩ := hG3.ptr (i := 0) (by show 0 < g.m; omega)
      rw [eq'] at d1
      have HQ := mkH (And.intro q1 q4)
      have HC3 := mkH (HA.out w3 F3 vl' vb' r (HLb.out r q1) HSL.out hG3)
      have HS3 := mkH (HS1.out.trans hS3)
      have hgm' : ((g.setV vl' vb').m : Int) = g.m := rfl
      have HE := mkH eq'
      clear q1 q4 hG3 hS3 hc3 HC2 HA HLb HS1 eq' eq1
      go_wp2_with fail
      refine HC3.out.mono ?_
      rintro e w4 ⟨⟨x, rfl⟩, F4, hG4, hS4⟩
      have HF := mkH (show ∃ F' vl' vb', Gm p w4 F' B (vertG g vl' vb' r s l) (K + 1) ∧ Step F F' w w4 ∧ (∀ t, Tk vl' vb' t ↔ Tk g.vl g.vb t ∨ t = r) ∧ g.vl ≤ vl' ∧ vl' ≤ g.vl + 1 ∧ vl' - vb'.length = d + 1 ∧ vb'.length ≤ g.vb.length from ⟨F4, vl', vb', hG4, HS3.out.trans hS4, HQ.out.2⟩)
      have HR := mkH HQ.out.1
      clear hG4 hS4 HC3 HS3 HQ
      go_wp2
      go_ret2
      exact .inr (.inr ⟨hlt, HSL.out, r, rfl, HR.out, HF.out⟩)
theorem dropP_has {P : Vx → Prop} {Q : Ex → Prop} {v : Int} (h : Hase Q v) : dropP P Q v = P := funext fun x => propext ⟨fun k => k.1, fun k => ⟨k, .inr h⟩⟩
theorem drop_any (h : Gm p w F B g K) (hK : K ≤ 30000) (hm : 1 ≤ g.m) (v : Int) (hb : B64 v) (hx : g.vb.length ≤ 100000) (hvk : Vp (g.P 0) v → Tk g.vl g.vb v) :
    Calls Tryz.prog 10 #[.pointer (some ⟨B, 0, none⟩), .int .i64 v] w fun e w' =>
      (¬ Vp (g.P 0) v ∧ e = .returned (.int .i64 4) ∧ Below w.heap.size w w') ∨
      (Vp (g.P 0) v ∧ Hase (g.Q 0) v ∧ e = .returned (.int .i64 13) ∧ ∃ F', Gm p w' F' B g (K + 1) ∧ Step F F' w w') ∨
      (Vp (g.P 0) v ∧ ¬ Hase (g.Q 0) v ∧ e = .returned (.int .i64 0) ∧ ∃ F' vb', Gm p w' F' B (dropG g g.vl vb' v) (K + 1) ∧ Step F F' w w' ∧ (∀ t, Tk g.vl vb' t ↔ Tk g.vl g.vb t ∧ t ≠ v) ∧ vb'.length = g.vb.length + 1) := by
  have HA := mkH (lhas_rd h hm v hb)
  have HG := mkH h
  have HV := mkH hvk
  have HD : Hid (∀ W, Gm p W F B g K → Calls Tryz.prog 27 #[.pointer (some ⟨p.Bf 0, 0, none⟩), .int .i64 v] W fun e w' => (∃ r, e = .returned (.int .i64 r) ∧ (¬ Vp (g.P 0) v → r = 4) ∧ (Vp (g.P 0) v → Hase (g.Q 0) v → r = 13) ∧ (Vp (g.P 0) v → ¬ Hase (g.Q 0) v → r = 0)) ∧ ∃ F', Gm p w' F' B (g.setF 0 (dropP (g.P 0) (g.Q 0) v) (g.Q 0)) (K + 1) ∧ Step F F' W w') := fun W k => gdrop_any k hK (i := 0) (by omega) v hb
  have HFr : Hid (∀ W F1, Tk g.vl g.vb v → Gm p W F1 B (g.setF 0 (dropP (g.P 0) (g.Q 0) v) (g.Q 0)) (K + 1) → Calls Tryz.prog 28 #[.pointer (some ⟨B, 4, none⟩), .int .i64 v] W fun e w' => e = .returned (.tuple #[]) ∧ ∃ F' vb', Gm p w' F' B (dropG g g.vl vb' v) (K + 1) ∧ Step F1 F' W w' ∧ (∀ t, Tk g.vl vb' t ↔ Tk g.vl g.vb t ∧ t ≠ v) ∧ vb'.length = g.vb.length + 1) := fun W F1 q k => vfree_any k hx q
  have HS0 : Hid (Hase (g.Q 0) v → g.setF 0 (dropP (g.P 0) (g.Q 0) v) (g.Q 0) = g) := fun q => by rw [dropP_has q, setF_self]
  clear h hvk
  go_enter Tryz.func10, Tryz.ntmps10
  go_wp2_with fail
  refine HA.out.mono ?_
  rintro e w1 ⟨⟨t, rfl, ht⟩, hb1⟩
  cases t with
  | false =>
    have HN : Hid (¬ Vp (g.P 0) v) := fun k => by have := ht.2 k; cases this
    have HB := mkH hb1
    clear ht hb1 HA HG HV HD HFr HS0
    go_wp2
    go_ret
    exact .inl ⟨HN.out, rfl, HB.out⟩
  | true =>
    have HY : Hid (Vp (g.P 0) v) := ht.1 rfl
    have hG1 := HG.out.below hb1
    have HS1 : Hid (Step F F w w1) := Step.of_below hb1
    obtain ⟨vv, ev, hc⟩ := hG1.cells
    have c1 := hc.at (j := 1) rfl
    simp only [List.getElem_toArray, List.getElem_cons_zero, List.getElem_cons_succ] at c1
    obtain ⟨q, cap, eq1, cq, hql, hcap1, hcap2⟩ := hG1.ptr (i := 0) (by omega)
    rw [eq1] at c1
    have hgm : (g.m : Int) ≤ 9223372036854775807 := by unfold maxLen at hcap2; omega
    have HC1 := mkH (HD.out w1 hG1)
    clear ht hb1 hG1 hc eq1 hql hcap1 hcap2 HA HG HD
    go_wp2_with fail
    refine HC1.out.mono ?_
    rintro e w2 ⟨⟨r, rfl, _, r2, r3⟩, F2, hG2, hS2⟩
    have HS2 := mkH (HS1.out.trans hS2)
    by_cases hq : Hase (g.Q 0) v
    · obtain rfl := r2 HY.out hq
      rw [HS0.out hq] at hG2
      have HF := mkH (show ∃ F', Gm p w2 F' B g (K + 1) ∧ Step F F' w w2 from ⟨F2, hG2, HS2.out⟩)
      have HQ := mkH hq
      clear hG2 hS2 hq r2 r3 HC1 HS1 HS2 HFr HS0 HV cq c1
      go_wp2
      go_ret
      exact .inr (.inl ⟨HY.out, HQ.out, rfl, HF.out⟩)
    · obtain rfl := r3 HY.out hq
      have HC2 := mkH (HFr.out w2 F2 (HV.out HY.out) hG2)
      have HQ := mkH hq
      clear hG2 hS2 hq r2 r3 HC1 HS1 HFr HS0 HV cq c1
      go_wp2_with fail
      refine HC2.out.mono ?_
      rintro e w3 ⟨rfl, F3, vb', hG3, hS3, q4⟩
      have HF := mkH (show ∃ F' vb', Gm p w3 F' B (dropG g g.vl vb' v) (K + 1) ∧ Step F F' w w3 ∧ (∀ t, Tk g.vl vb' t ↔ Tk g.vl g.vb t ∧ t ≠ v) ∧ vb'.length = g.vb.length + 1 from ⟨F3, vb', hG3, HS2.out.trans hS3, q4⟩)
      clear hG3 hS3 q4 HC2 HS2
      go_wp2
      go_ret
      exact .inr (.inr ⟨HY.out, HQ.out, rfl, HF.out⟩)
theorem insert_no (h : Gm p w F B g K) (hm : 1 ≤ g.m) {a b : Int} (ha : B64 a) (hb : B64 b) (hno : ¬ Vp (g.P 0) a ∨ ¬ Vp (g.P 0) b ∨ a = b) :
    Calls Tryz.prog 7 #[.pointer (some ⟨B, 0, none⟩), .int .i64 a, .int .i64 b] w fun e w' => ((Vp (g.P 0) a ∧ Vp (g.P 0) b → e = .returned (.tuple #[.int .i64 0, .int .i64 1])) ∧ (¬ (Vp (g.P 0) a ∧ Vp (g.P 0) b) → e = .returned (.tuple #[.int .i64 0, .int .i64 4]))) ∧ Below w.heap.size w w' := by
  have HA := mkH (lhas_rd h hm a ha)
  have HBv : Hid (∀ W, Gm p W F B g K → Calls Tryz.prog 12 #[.pointer (some ⟨B, 0, none⟩), .int .i64 b] W fun e w' => IsBn e (Vp (g.P 0) b) ∧ Below W.heap.size W w') := fun W k => lhas_rd k hm b hb
  have HG := mkH h
  have HN := mkH hno
  clear h hno
  go_enter Tryz.func7, Tryz.ntmps7
  go_wp2_with fail
  refine HA.out.mono ?_
  rintro e w1 ⟨⟨t, rfl, ht⟩, hb1⟩
  cases t with
  | false =>
    have HV : Hid (¬ (Vp (g.P 0) a ∧ Vp (g.P 0) b)) := fun k => by have := ht.2 k.1; cases this
    have HB := mkH hb1
    clear ht hb1 HA HG HBv HN
    go_wp2
    go_ret2
    exact ⟨⟨fun k => absurd k HV.out, fun _ => rfl⟩, HB.out⟩
  | true =>
    have HVa : Hid (Vp (g.P 0) a) := ht.1 rfl
    have HC1 := mkH (HBv.out w1 (HG.out.below hb1))
    have HB1 := mkH hb1
    clear ht hb1 HA HG HBv
    go_wp2_with fail
    refine HC1.out.mono ?_
    rintro e w2 ⟨⟨t, rfl, ht⟩, hb2⟩
    have HB2 := mkH (below_step HB1.out hb2 (Nat.le_refl _))
    cases t with
    | false =>
      have HV : Hid (¬ (Vp (g.P 0) a ∧ Vp (g.P 0) b)) := fun k => by have := ht.2 k.2; cases this
      clear ht hb2 HC1 HB1 HN
      go_wp2
      go_ret2
      exact ⟨⟨fun k => absurd k HV.out, fun _ => rfl⟩, HB2.out⟩
    | true =>
      have HVb : Hid (Vp (g.P 0) b) := ht.1 rfl
      have hab : a = b := by
        rcases HN.out with k | k | k
        · exact absurd HVa.out k
        · exact absurd HVb.out k
        · exact k
      clear ht hb2 HC1 HB1 HN
      subst hab
      go_wp2
      go_ret2
      exact ⟨⟨fun _ => rfl, fun k => absurd ⟨HVa.out, HVb.out⟩ k⟩, HB2.out⟩
end
end Go.Proofs.YtlmdjghcmofdlaaGreat
