/- Layer 10: readers of level 0's forest. -/
import Derived.Test.YtcbgeahcnjamdabGreatLevRead
namespace Go.Proofs.YtcbgeahcnjamdabGreat
open Go.RowKit
set_option linter.unusedVariables false
section
variable {p : Gp} {w : World} {F : Nat → Prop} {B : Nat} {g : Gs} {K : Nat}
set_option maxRecDepth 100000 in
set_option maxHeartbeats 1600000 in
theorem rhas_any (h : Gm p w F B g K) (hm : 1 ≤ g.m) (v : Int) (hb : B64 v) : Calls Tryz.prog 18 #[.pointer (some ⟨B, 0, none⟩), .int .i64 v] w fun e w' => IsBn e (Vp (g.P 0) v) ∧ Below w.heap.size w w' := by
  have HA := hid_mk (at_yes h hm)
  have HL : Hid (∀ W, Gm p W F B g K → Calls Tryz.prog 40 #[.pointer (some ⟨p.Bf 0, 0, none⟩), .int .i64 v] W fun e w' => IsBn e (Vp (g.P 0) v) ∧ Below W.heap.size W w') := fun W k => (ghas_any k hm v hb).mono fun e w1 h1 => ⟨h1.1, by rw [h1.2]; exact Below.refl _ _⟩
  have HG := hid_mk h
  clear h
  go_enter Tryz.func18, Tryz.ntmps18
  go_wp2_with fail
  refine HA.out.mono ?_
  rintro e w1 ⟨rfl, hb1⟩
  have HC := hid_mk (HL.out w1 (HG.out.below hb1))
  have HB1 := hid_mk hb1
  clear hb1 HA HL HG
  go_wp2_with fail
  refine HC.out.mono ?_
  rintro e w2 ⟨⟨t, rfl, ht⟩, hb2⟩
  have HB2 := hid_mk (HB1.out.trans (hb2.mono HB1.out.size))
  have HT := hid_mk ht
  clear hb2 HB1 HC ht
  go_wp2
  go_ret
  exact ⟨⟨_, rfl, HT.out⟩, HB2.out⟩
set_option maxRecDepth 100000 in
set_option maxHeartbeats 1600000 in
theorem rsame_any (h : Gm p w F B g K) (hK : K ≤ 30000) (hm : 1 ≤ g.m) (a b : Int) (ha : B64 a) (hb : B64 b) : Calls Tryz.prog 12 #[.pointer (some ⟨B, 0, none⟩), .int .i64 a, .int .i64 b] w fun e w' => IsBn e (Vp (g.P 0) a ∧ Vp (g.P 0) b ∧ Jq (g.Q 0) a b) ∧ Below w.heap.size w w' := by
  have HA := hid_mk (at_yes h hm)
  have HL : Hid (∀ W, Gm p W F B g K → Calls Tryz.prog 36 #[.pointer (some ⟨p.Bf 0, 0, none⟩), .int .i64 a, .int .i64 b] W fun e w' => IsBn e (Vp (g.P 0) a ∧ Vp (g.P 0) b ∧ Jq (g.Q 0) a b) ∧ Below W.heap.size W w') := fun W k => gsame_any k hK hm a b ha hb
  have HG := hid_mk h
  clear h
  go_enter Tryz.func12, Tryz.ntmps12
  go_wp2_with fail
  refine HA.out.mono ?_
  rintro e w1 ⟨rfl, hb1⟩
  have HC := hid_mk (HL.out w1 (HG.out.below hb1))
  have HB1 := hid_mk hb1
  clear hb1 HA HL HG
  go_wp2_with fail
  refine HC.out.mono ?_
  rintro e w2 ⟨⟨t, rfl, ht⟩, hb2⟩
  have HB2 := hid_mk (HB1.out.trans (hb2.mono HB1.out.size))
  have HT := hid_mk ht
  clear hb2 HB1 HC ht
  go_wp2
  go_ret
  exact ⟨⟨_, rfl, HT.out⟩, HB2.out⟩
set_option maxRecDepth 100000 in
set_option maxHeartbeats 1600000 in
theorem rsize_any (h : Gm p w F B g K) (hK : K ≤ 30000) (hm : 1 ≤ g.m) (v : Int) (hb : B64 v) : Calls Tryz.prog 13 #[.pointer (some ⟨B, 0, none⟩), .int .i64 v] w fun e w' => (∃ n, e = .returned (.int .i64 n) ∧ SizeIs (g.P 0) (g.Q 0) v n ∧ 0 ≤ n ∧ n ≤ K) ∧ Below w.heap.size w w' := by
  have HA := hid_mk (at_yes h hm)
  have HL : Hid (∀ W, Gm p W F B g K → Calls Tryz.prog 37 #[.pointer (some ⟨p.Bf 0, 0, none⟩), .int .i64 v] W fun e w' => (∃ n, e = .returned (.int .i64 n) ∧ SizeIs (g.P 0) (g.Q 0) v n ∧ 0 ≤ n ∧ n ≤ K) ∧ Below W.heap.size W w') := fun W k => gsize_any k hK hm v hb
  have HG := hid_mk h
  clear h
  go_enter Tryz.func13, Tryz.ntmps13
  go_wp2_with fail
  refine HA.out.mono ?_
  rintro e w1 ⟨rfl, hb1⟩
  have HC := hid_mk (HL.out w1 (HG.out.below hb1))
  have HB1 := hid_mk hb1
  clear hb1 HA HL HG
  go_wp2_with fail
  refine HC.out.mono ?_
  rintro e w2 ⟨⟨t, rfl, ht⟩, hb2⟩
  have HB2 := hid_mk (HB1.out.trans (hb2.mono HB1.out.size))
  have HT := hid_mk ht
  clear hb2 HB1 HC ht
  go_wp2
  go_ret
  exact ⟨⟨_, rfl, HT.out⟩, HB2.out⟩
set_option maxRecDepth 100000 in
set_option maxHeartbeats 1600000 in
theorem rsum_any (h : Gm p w F B g K) (hK : K ≤ 30000) (hm : 1 ≤ g.m) (v : Int) (hb : B64 v) {sv lv : Int → Int} (hs : ∀ x, g.P 0 x → x.s = sv x.v ∧ x.l = lv x.v) : Calls Tryz.prog 14 #[.pointer (some ⟨B, 0, none⟩), .int .i64 v] w fun e w' => (∃ n, e = .returned (.int .i64 n) ∧ SumIs (g.P 0) (g.Q 0) sv v n) ∧ Below w.heap.size w w' := by
  have HA := hid_mk (at_yes h hm)
  have HL : Hid (∀ W, Gm p W F B g K → Calls Tryz.prog 38 #[.pointer (some ⟨p.Bf 0, 0, none⟩), .int .i64 v] W fun e w' => (∃ n, e = .returned (.int .i64 n) ∧ SumIs (g.P 0) (g.Q 0) sv v n) ∧ Below W.heap.size W w') := fun W k => gsum_any k hK hm v hb hs
  have HG := hid_mk h
  clear h
  go_enter Tryz.func14, Tryz.ntmps14
  go_wp2_with fail
  refine HA.out.mono ?_
  rintro e w1 ⟨rfl, hb1⟩
  have HC := hid_mk (HL.out w1 (HG.out.below hb1))
  have HB1 := hid_mk hb1
  clear hb1 HA HL HG
  go_wp2_with fail
  refine HC.out.mono ?_
  rintro e w2 ⟨⟨t, rfl, ht⟩, hb2⟩
  have HB2 := hid_mk (HB1.out.trans (hb2.mono HB1.out.size))
  have HT := hid_mk ht
  clear hb2 HB1 HC ht
  go_wp2
  go_ret
  exact ⟨⟨_, rfl, HT.out⟩, HB2.out⟩
set_option maxRecDepth 100000 in
set_option maxHeartbeats 1600000 in
theorem rleast_any (h : Gm p w F B g K) (hK : K ≤ 30000) (hm : 1 ≤ g.m) (v : Int) (hb : B64 v) {sv lv : Int → Int} (hs : ∀ x, g.P 0 x → x.s = sv x.v ∧ x.l = lv x.v) : Calls Tryz.prog 15 #[.pointer (some ⟨B, 0, none⟩), .int .i64 v] w fun e w' => (∃ n, e = .returned (.int .i64 n) ∧ LeastIs (g.P 0) (g.Q 0) lv v n) ∧ Below w.heap.size w w' := by
  have HA := hid_mk (at_yes h hm)
  have HL : Hid (∀ W, Gm p W F B g K → Calls Tryz.prog 39 #[.pointer (some ⟨p.Bf 0, 0, none⟩), .int .i64 v] W fun e w' => (∃ n, e = .returned (.int .i64 n) ∧ LeastIs (g.P 0) (g.Q 0) lv v n) ∧ Below W.heap.size W w') := fun W k => gleast_any k hK hm v hb hs
  have HG := hid_mk h
  clear h
  go_enter Tryz.func15, Tryz.ntmps15
  go_wp2_with fail
  refine HA.out.mono ?_
  rintro e w1 ⟨rfl, hb1⟩
  have HC := hid_mk (HL.out w1 (HG.out.below hb1))
  have HB1 := hid_mk hb1
  clear hb1 HA HL HG
  go_wp2_with fail
  refine HC.out.mono ?_
  rintro e w2 ⟨⟨t, rfl, ht⟩, hb2⟩
  have HB2 := hid_mk (HB1.out.trans (hb2.mono HB1.out.size))
  have HT := hid_mk ht
  clear hb2 HB1 HC ht
  go_wp2
  go_ret
  exact ⟨⟨_, rfl, HT.out⟩, HB2.out⟩
end
end Go.Proofs.YtcbgeahcnjamdabGreat
