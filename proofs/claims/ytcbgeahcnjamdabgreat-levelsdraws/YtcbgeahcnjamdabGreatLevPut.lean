/- Layer 10: put. -/
import Derived.Test.YtcbgeahcnjamdabGreatLevReadB
import Derived.Deep.RegionHeld3
import Derived.Handy
namespace Go.Proofs.YtcbgeahcnjamdabGreat
open Go.RowKit
set_option linter.unusedVariables false
section
variable {p : Gp} {w : World} {F : Nat → Prop} {B : Nat} {g : Gs} {K : Nat}
/-- An edge more is told. -/
theorem Gm.storeN (h : Gm p w F B g K) {e : Int} (he : B64 e) (hx : g.E e = none) (hne : g.ne ≤ 1000000) (x : Eg) : ∃ w', (Instr.mapUpdate 49 (.map (some p.bM)) (.int .i64 e) (egv x)).run Tryz.prog w = .ok () w' ∧ Gm p w' F B (g.setE (updQ g.E e (some x)) (g.ne + 1)) K ∧ w.grownBy w' (some p.bM) ∧ Step F F w w' := by
  obtain ⟨m1, m2, m3⟩ := h.edgeL
  obtain ⟨w', k1, k2, k3⟩ := m1.store KE (by unfold maxLen; omega) he (egv x)
  rw [map_upd, hx] at k2
  simp at k2
  obtain ⟨q1, q2⟩ := m3 w' _ _ k2 k3
  exact ⟨w', k1, q1, k3, q2⟩
set_option maxRecDepth 100000 in
set_option maxHeartbeats 3200000 in
theorem put_any (h : Gm p w F B g K) (hK : K + 4 ≤ 30000) (hm : 1 ≤ g.m) {e a b : Int} (he : B64 e) (h1 : 1 ≤ e) (ha : B64 a) (hb : B64 b) (hab : a ≠ b) (hx : g.E e = none) (hne : g.ne ≤ 1000000) (hva : Vp (g.P 0) a) (hvb : Vp (g.P 0) b) (hep : ¬ Ep (g.Q 0) e) (hla : e ∉ g.s.L (a, ((0 : Nat) : Int))) (hlb : e ∉ g.s.L (b, ((0 : Nat) : Int))) :
    Calls Tryz.prog 30 #[.pointer (some ⟨B, 0, none⟩), .int .i64 e, .int .i64 a, .int .i64 b] w fun r w' => r = .returned (.tuple #[]) ∧ ∃ F', Step F F' w w' ∧
      ((¬ Jq (g.Q 0) a b ∧ Gm p w' F' B (linkG (g.setE (updQ g.E e (some ⟨a, b, 0, true⟩)) (g.ne + 1)) e ⟨a, b, 0, true⟩ 0) (K + 3)) ∨ (Jq (g.Q 0) a b ∧ Gm p w' F' B (putG (g.setE (updQ g.E e (some ⟨a, b, 0, false⟩)) (g.ne + 1)) e ⟨a, b, 0, false⟩ 0) (K + 2))) := by
  have HC := hid_mk (rsame_any h (by omega) hm a b ha hb)
  have HG := hid_mk h
  have HV : Hid (Vp (g.P 0) a ∧ Vp (g.P 0) b) := ⟨hva, hvb⟩
  have HLi : Hid (∀ w3 F3, ¬ Jq (g.Q 0) a b → Gm p w3 F3 B (g.setE (updQ g.E e (some ⟨a, b, 0, true⟩)) (g.ne + 1)) K → Calls Tryz.prog 52 #[.pointer (some ⟨B, 0, none⟩), .int .i64 e, egv ⟨a, b, 0, true⟩, .int .i64 0] w3 fun e' w' => e' = .returned (.tuple #[]) ∧ ∃ F', Gm p w' F' B (linkG (g.setE (updQ g.E e (some ⟨a, b, 0, true⟩)) (g.ne + 1)) e ⟨a, b, 0, true⟩ 0) (K + 3) ∧ Step F3 F' w3 w') := fun w3 F3 hj k => link_any k (by omega) (i := 0) hm (x := ⟨a, b, 0, true⟩) he h1 ha hb hep hj
  have HPu : Hid (∀ w3 F3, Gm p w3 F3 B (g.setE (updQ g.E e (some ⟨a, b, 0, false⟩)) (g.ne + 1)) K → Calls Tryz.prog 53 #[.pointer (some ⟨B, 0, none⟩), .int .i64 e, egv ⟨a, b, 0, false⟩] w3 fun e' w' => e' = .returned (.tuple #[]) ∧ ∃ F', Gm p w' F' B (putG (g.setE (updQ g.E e (some ⟨a, b, 0, false⟩)) (g.ne + 1)) e ⟨a, b, 0, false⟩ 0) (K + 2) ∧ Step F3 F' w3 w') := fun w3 F3 k => putLoose_any k (by omega) (i := 0) hm (by omega) (x := ⟨a, b, 0, false⟩) rfl he h1 ha hb hab hla hlb hva hvb
  clear h hva hvb hep hla hlb
  go_enter Tryz.func30, Tryz.ntmps30
  go_wp2_with fail
  refine HC.out.mono ?_
  rintro r w1 ⟨⟨t, rfl, ht⟩, hb1⟩
  have HT := hid_mk ht
  have hG1 := HG.out.below hb1
  obtain ⟨M, hM⟩ : ∃ M, M = w1.heap.size := ⟨_, rfl⟩
  obtain ⟨w2, hw2⟩ : ∃ w2, w2 = w1.alloc (.cells #[.int .i64 a, .int .i64 b, .int .i64 0, .bool (!t)] 69) := ⟨_, rfl⟩
  have hb2 : Below w1.heap.size w1 w2 := by rw [hw2]; exact (Below.refl _ _).alloc (Nat.le_refl _) _
  have hG2 := hG1.below hb2
  have hX2 : Bx w2 F M 69 #[.int .i64 a, .int .i64 b, .int .i64 0, .bool (!t)] := ⟨by rw [hw2, hM]; exact Blk.new w1 _ _, fun k => by have := hG1.lt _ k; omega⟩
  have hd2 := (Below.refl w2.heap.size w2).drew
  obtain ⟨w3, hrun3, hG3, hg3, hS3⟩ := (hG2.below hd2).storeN he hx hne ⟨a, b, 0, !t⟩
  obtain ⟨vv1, ev1, hc1⟩ := hG2.cells
  have c2b := hc1.at (j := 2) rfl
  obtain ⟨vv3, ev3, hc3⟩ := hG3.cells
  have c2c := hc3.at (j := 2) rfl
  simp only [List.getElem_toArray, List.getElem_cons_zero, List.getElem_cons_succ] at c2b c2c
  have e0 := hX2.blk.at (j := 0) rfl
  have e1 := hX2.blk.at (j := 1) rfl
  have e2 := hX2.blk.at (j := 2) rfl
  have e3 := hX2.blk.at (j := 3) rfl
  have hX3 := (hX2.below hd2).step hS3
  have k0 := hX3.blk.at (j := 0) rfl
  have k1 := hX3.blk.at (j := 1) rfl
  have k2 := hX3.blk.at (j := 2) rfl
  have k3 := hX3.blk.at (j := 3) rfl
  simp only [List.getElem_toArray, List.getElem_cons_zero, List.getElem_cons_succ] at e0 e1 e2 e3 k0 k1 k2 k3
  unfold egv at hrun3 HLi HPu
  have HG3 := hid_mk hG3
  have HS3 := hid_mk ((((Step.of_below (F := F) hb1).trans (Step.of_below (F := F) hb2)).trans (Step.of_below (F := F) hd2)).trans hS3)
  clear ht hG1 hb1 hb2 hG2 hX2 hd2 hG3 hg3 hS3 hc1 hc3 hX3 HC HG hx
  subst hw2 hM
  go_wp2_with fail
  go_region_held3 (fun w' => w'.cell? ⟨B, 2, none⟩ = some (.map (some p.bM)) ∧ w'.cell? ⟨w1.heap.size, 0, none⟩ = some (.int .i64 a) ∧ w'.cell? ⟨w1.heap.size, 1, none⟩ = some (.int .i64 b) ∧ w'.cell? ⟨w1.heap.size, 2, none⟩ = some (.int .i64 0) ∧ w'.cell? ⟨w1.heap.size, 3, none⟩ = some (.bool (!t)))
    (first | go_keep | (go_split_ands; refine ⟨?_, ?_, ?_, ?_, ?_⟩ <;> assumption))
    (fail)
  rename_i hHeld
  clear hHeld hrun3 c2b e0 e1 e2 e3
  cases t with
  | true =>
    have hj : Hid (Jq (g.Q 0) a b) := (HT.out.1 rfl).2.2
    have HP := hid_mk (HPu.out w3 F HG3.out)
    clear HPu HLi HG3
    go_wp2_with fail
    refine HP.out.mono ?_
    rintro r w4 ⟨rfl, F4, hG4, hS4⟩
    have HF : Hid (∃ F', Step F F' w w4 ∧ ((¬ Jq (g.Q 0) a b ∧ Gm p w4 F' B (linkG (g.setE (updQ g.E e (some ⟨a, b, 0, true⟩)) (g.ne + 1)) e ⟨a, b, 0, true⟩ 0) (K + 3)) ∨ (Jq (g.Q 0) a b ∧ Gm p w4 F' B (putG (g.setE (updQ g.E e (some ⟨a, b, 0, false⟩)) (g.ne + 1)) e ⟨a, b, 0, false⟩ 0) (K + 2)))) := ⟨F4, HS3.out.trans hS4, .inr ⟨hj.out, hG4⟩⟩
    clear hG4 hS4
    go_wp2
    go_returns
    exact ⟨rfl, HF.out⟩
  | false =>
    have hj : Hid (¬ Jq (g.Q 0) a b) := fun k => by have := HT.out.2 ⟨HV.out.1, HV.out.2, k⟩; cases this
    have HP := hid_mk (HLi.out w3 F hj.out HG3.out)
    clear HPu HLi HG3
    go_wp2_with fail
    refine HP.out.mono ?_
    rintro r w4 ⟨rfl, F4, hG4, hS4⟩
    have HF : Hid (∃ F', Step F F' w w4 ∧ ((¬ Jq (g.Q 0) a b ∧ Gm p w4 F' B (linkG (g.setE (updQ g.E e (some ⟨a, b, 0, true⟩)) (g.ne + 1)) e ⟨a, b, 0, true⟩ 0) (K + 3)) ∨ (Jq (g.Q 0) a b ∧ Gm p w4 F' B (putG (g.setE (updQ g.E e (some ⟨a, b, 0, false⟩)) (g.ne + 1)) e ⟨a, b, 0, false⟩ 0) (K + 2)))) := ⟨F4, HS3.out.trans hS4, .inl ⟨hj.out, hG4⟩⟩
    clear hG4 hS4
    go_wp2
    go_returns
    exact ⟨rfl, HF.out⟩
end
end Go.Proofs.YtcbgeahcnjamdabGreat
