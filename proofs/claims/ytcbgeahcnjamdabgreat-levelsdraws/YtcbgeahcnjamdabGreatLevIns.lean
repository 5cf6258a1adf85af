/- Layer 10: Insert. -/
import Derived.Test.YtcbgeahcnjamdabGreatLevTake
namespace Go.Proofs.YtcbgeahcnjamdabGreat
open Go.RowKit
set_option linter.unusedVariables false
section
variable {p : Gp} {w : World} {F : Nat → Prop} {B : Nat} {g : Gs} {K : Nat}
set_option maxRecDepth 100000 in
set_option maxHeartbeats 3200000 in
theorem insert_yes (h : Gm p w F B g K) (hK : K + 4 ≤ 30000) (hm : 1 ≤ g.m) {a b : Int} (ha : B64 a) (hb : B64 b) (hab : a ≠ b) (hva : Vp (g.P 0) a) (hvb : Vp (g.P 0) b) (hne : g.ne ≤ 1000000) (hl : g.el ≤ 4611686018427387904) (hx : g.eb.length ≤ 100000) (hr : ∀ r, Least (Tk g.el g.eb) r → B64 r ∧ g.E r = none ∧ ¬ Ep (g.Q 0) r ∧ r ∉ g.s.L (a, ((0 : Nat) : Int)) ∧ r ∉ g.s.L (b, ((0 : Nat) : Int))) :
    Calls Tryz.prog 10 #[.pointer (some ⟨B, 0, none⟩), .int .i64 a, .int .i64 b] w fun e w' => ∃ r el' eb', e = .returned (.tuple #[.int .i64 r, .int .i64 0]) ∧ Least (Tk g.el g.eb) r ∧ ((∀ t, Tk el' eb' t ↔ Tk g.el g.eb t ∨ t = r) ∧ g.el ≤ el' ∧ el' ≤ g.el + 1 ∧ el' - eb'.length = g.el - g.eb.length + 1 ∧ eb'.length ≤ g.eb.length) ∧ ∃ F', Step F F' w w' ∧
      ((¬ Jq (g.Q 0) a b ∧ Gm p w' F' B (linkG ((g.setN el' eb').setE (updQ g.E r (some ⟨a, b, 0, true⟩)) (g.ne + 1)) r ⟨a, b, 0, true⟩ 0) (K + 3)) ∨ (Jq (g.Q 0) a b ∧ Gm p w' F' B (putG ((g.setN el' eb').setE (updQ g.E r (some ⟨a, b, 0, false⟩)) (g.ne + 1)) r ⟨a, b, 0, false⟩ 0) (K + 2))) := by
  have HA := hid_mk (rhas_any h hm a ha)
  have HBv : Hid (∀ W, Gm p W F B g K → Calls Tryz.prog 18 #[.pointer (some ⟨B, 0, none⟩), .int .i64 b] W fun e w' => IsBn e (Vp (g.P 0) b) ∧ Below W.heap.size W w') := fun W k => rhas_any k hm b hb
  have HT : Hid (∀ W, Gm p W F B g K → Calls Tryz.prog 26 #[.pointer (some ⟨B, 6, none⟩)] W fun e w' => ∃ r, e = .returned (.int .i64 r) ∧ Least (Tk g.el g.eb) r ∧ ∃ F' el' eb', Gm p w' F' B (g.setN el' eb') K ∧ Step F F' W w' ∧ (∀ t, Tk el' eb' t ↔ Tk g.el g.eb t ∨ t = r) ∧ g.el ≤ el' ∧ el' ≤ g.el + 1 ∧ el' - eb'.length = g.el - g.eb.length + 1 ∧ eb'.length ≤ g.eb.length) := fun W k => etake_any k hl hx
  have HP : Hid (∀ W F1 el' eb' r, Gm p W F1 B (g.setN el' eb') K → Least (Tk g.el g.eb) r → Calls Tryz.prog 30 #[.pointer (some ⟨B, 0, none⟩), .int .i64 r, .int .i64 a, .int .i64 b] W fun e w' => e = .returned (.tuple #[]) ∧ ∃ F', Step F1 F' W w' ∧
      ((¬ Jq (g.Q 0) a b ∧ Gm p w' F' B (linkG ((g.setN el' eb').setE (updQ g.E r (some ⟨a, b, 0, true⟩)) (g.ne + 1)) r ⟨a, b, 0, true⟩ 0) (K + 3)) ∨ (Jq (g.Q 0) a b ∧ Gm p w' F' B (putG ((g.setN el' eb').setE (updQ g.E r (some ⟨a, b, 0, false⟩)) (g.ne + 1)) r ⟨a, b, 0, false⟩ 0) (K + 2)))) := fun W F1 el' eb' r k q => by
    obtain ⟨r1, r2, r3, r4, r5⟩ := hr r q
    exact put_any k hK hm r1 q.1 ha hb hab r2 hne hva hvb r3 r4 r5
  have HG := hid_mk h
  have HV : Hid (Vp (g.P 0) a ∧ Vp (g.P 0) b) := ⟨hva, hvb⟩
  clear h hr hva hvb
  go_enter Tryz.func10, Tryz.ntmps10
  go_wp2_with fail
  refine HA.out.mono ?_
  rintro e w1 ⟨⟨t, rfl, ht⟩, hb1⟩
  obtain rfl : t = true := ht.2 HV.out.1
  have hG1 := HG.out.below hb1
  have HC1 := hid_mk (HBv.out w1 hG1)
  have HG1 := hid_mk hG1
  have HS1 : Hid (Step F F w w1) := Step.of_below hb1
  clear ht hb1 hG1 HA HBv HG
  go_wp2_with fail
  refine HC1.out.mono ?_
  rintro e w2 ⟨⟨t, rfl, ht⟩, hb2⟩
  obtain rfl : t = true := ht.2 HV.out.2
  have hG2 := HG1.out.below hb2
  have HC2 := hid_mk (HT.out w2 hG2)
  have HS2 : Hid (Step F F w w2) := HS1.out.trans (Step.of_below hb2)
  clear ht hb2 hG2 HC1 HT HG1 HS1
  go_wp2_with fail
  refine HC2.out.mono ?_
  rintro e w3 ⟨r, rfl, q1, F3, el', eb', hG3, hS3, q4⟩
  have HC3 := hid_mk (HP.out w3 F3 el' eb' r hG3 q1)
  have HS3 := hid_mk (HS2.out.trans hS3)
  have HQ := hid_mk (And.intro q1 q4)
  clear q1 q4 hG3 hS3 HC2 HP HS2
  go_wp2_with fail
  refine HC3.out.mono ?_
  rintro e w4 ⟨rfl, F4, hS4, hG4⟩
  have HF := hid_mk (show ∃ F', Step F F' w w4 ∧ ((¬ Jq (g.Q 0) a b ∧ Gm p w4 F' B (linkG ((g.setN el' eb').setE (updQ g.E r (some ⟨a, b, 0, true⟩)) (g.ne + 1)) r ⟨a, b, 0, true⟩ 0) (K + 3)) ∨ (Jq (g.Q 0) a b ∧ Gm p w4 F' B (putG ((g.setN el' eb').setE (updQ g.E r (some ⟨a, b, 0, false⟩)) (g.ne + 1)) r ⟨a, b, 0, false⟩ 0) (K + 2))) from ⟨F4, HS3.out.trans hS4, hG4⟩)
  clear hS4 hG4 HC3 HS3
  go_wp2
  go_returns
  exact ⟨r, el', eb', rfl, HQ.out.1, HQ.out.2, HF.out⟩
end
end Go.Proofs.YtcbgeahcnjamdabGreat
