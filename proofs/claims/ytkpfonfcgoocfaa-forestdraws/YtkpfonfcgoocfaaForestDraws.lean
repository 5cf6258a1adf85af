/- Layer 8's statement ForestDraws (by tools/gen_fordraws.py). -/
import Derived.Test.YtkpfonfcgoocfaaForestAct
import Derived.Test.YtkpfonfcgoocfaaDrawOpen
import Derived.Deep.RegionHeld3
namespace Go.Proofs.Ytkpfonfcgoocfaa
open Go.RowKit
set_option linter.unusedVariables false
set_option maxRecDepth 100000 in
set_option maxHeartbeats 16000000 in
theorem forestdraws_walk (ao : Option Addr) (ca : Nat) (xs : List Int) (bo : Option Addr) (cb : Nat) (ys : List Int) (co : Option Addr) (cc : Nat) (qs : List A8.Ac) (w : World) (hka : UAt w ao xs) (hwa : Wu xs) (hla : xs.length ≤ 9223372036854775807) (hkb : UAt w bo ys) (hwb : Wu ys) (hlb : ys.length ≤ 9223372036854775807) (hkq : A8.AcAt w co qs) (hlq : qs.length ≤ 9223372036854775807) :
    Calls Try.prog 5 #[.slice ao xs.length ca, .slice bo ys.length cb, .slice co qs.length cc] w fun e w' => e = .returned (.bool true) ∧ Below w.heap.size w w' := by
  have HA : Hid (UAt w ao xs ∧ Wu xs) := ⟨hka, hwa⟩
  have HBb : Hid (UAt w bo ys ∧ Wu ys) := ⟨hkb, hwb⟩
  have HQ := hid_mk hkq
  clear hka hwa hkb hwb hkq
  obtain ⟨na, hna⟩ : ∃ na, na = xs.length := ⟨_, rfl⟩
  obtain ⟨nb, hnb⟩ : ∃ nb, nb = ys.length := ⟨_, rfl⟩
  obtain ⟨m, hm⟩ : ∃ m, m = qs.length := ⟨_, rfl⟩
  rw [← hna, ← hnb, ← hm]
  rw [← hna] at hla
  rw [← hnb] at hlb
  rw [← hm] at hlq
  have HNA := hid_mk hna
  have HNB := hid_mk hnb
  have HM := hid_mk hm
  clear hna hnb hm
  have wake : ∀ wx : World, Below w.heap.size w wx → Calls Try.prog 22 #[] wx fun e w' => e = .returned (.bool true) ∧ Below w.heap.size w w' := fun wx hb => (fwakes_any wx).mono fun e w' ⟨h1, h2⟩ => ⟨h1, hb.trans (h2.mono hb.size)⟩
  have WK := hid_mk wake
  clear wake
  by_cases hq : (120 : Int) < (m : Int)
  · go_enter Try.func5, Try.ntmps5
    go_wp2_with fail
    refine (WK.out _ (Below.refl _ _)).mono ?_
    rintro e w1 ⟨rfl, hb⟩
    have HB1 := hid_mk hb
    clear hb
    go_wp2
    go_ret
    exact ⟨rfl, HB1.out⟩
  by_cases ha : (60 : Int) < (na : Int)
  · go_enter Try.func5, Try.ntmps5
    go_wp2_with fail
    refine (WK.out _ (Below.refl _ _)).mono ?_
    rintro e w1 ⟨rfl, hb⟩
    have HB1 := hid_mk hb
    clear hb
    go_wp2
    go_ret
    exact ⟨rfl, HB1.out⟩
  by_cases hb : (60 : Int) < (nb : Int)
  · go_enter Try.func5, Try.ntmps5
    go_wp2_with fail
    refine (WK.out _ (Below.refl _ _)).mono ?_
    rintro e w1 ⟨rfl, hb⟩
    have HB1 := hid_mk hb
    clear hb
    go_wp2
    go_ret
    exact ⟨rfl, HB1.out⟩
  have hN1 := dnew_yes ao xs.length ca xs w rfl HA.out.1 HA.out.2 (by have := HNA.out; omega)
  rw [← HNA.out] at hN1
  have HN1 := hid_mk hN1
  have HN2 : Hid (∀ wx, Below w.heap.size w wx → Calls Try.prog 23 #[.slice bo nb cb] wx fun e w' => ∃ D G, e = .returned (.tuple #[.pointer (some ⟨D, 0, none⟩), .int .i64 0]) ∧ wx.heap.size ≤ D ∧ wx.heap.size ≤ G ∧ Drw w' D G ys 0 ∧ Below wx.heap.size wx w') := fun wx hb => by
    have := dnew_yes bo ys.length cb ys wx rfl (HBb.out.1.below hb) HBb.out.2 (by have := HNB.out; omega)
    rw [← HNB.out] at this
    exact this
  clear hN1 HA HBb
  go_enter Try.func5, Try.ntmps5
  go_wp2_with fail
  refine HN1.out.mono ?_
  rintro e w1 ⟨D1, E1, rfl, hd1, he1, hD1, hb1⟩
  have HD1 := hid_mk hD1
  have HB1 := hid_mk hb1
  have s1 := hb1.size
  have t1 := hD1.lt
  have u1 := hD1.gl
  clear hD1 hb1 HN1
  go_wp2_with fail
  refine (HN2.out _ HB1.out).mono ?_
  rintro e w2 ⟨D2, E2, rfl, hd2, he2, hD2, hb2⟩
  have HD2 := hid_mk hD2
  have HB2 := hid_mk hb2
  have s2 := hb2.size
  have t2 := hD2.lt
  have u2 := hD2.gl
  clear hD2 hb2 HN2
  go_wp2_with fail
  refine (fonew_any _ _).mono ?_
  rintro e w3 ⟨B1, rfl, hB1, hK1, hb3⟩
  have HK1 := hid_mk hK1
  have HB3 := hid_mk hb3
  have s3 := hb3.size
  have t3 := hK1.lt
  clear hK1 hb3
  go_wp2_with fail
  refine (fonew_any _ _).mono ?_
  rintro e w4 ⟨B2, rfl, hB2, hK2, hb4⟩
  have HK2 := hid_mk hK2
  have HB4 := hid_mk hb4
  have s4 := hb4.size
  have t4 := hK2.lt
  clear hK2 hb4
  go_wp2_with fail
  refine (fonew_any _ _).mono ?_
  rintro e w5 ⟨B3, rfl, hB3, hK3, hb5⟩
  have HK3 := hid_mk hK3
  have HB5 := hid_mk hb5
  have s5 := hb5.size
  have t5 := hK3.lt
  clear hK3 hb5
  have b25 : Below w2.heap.size w2 w5 := (HB3.out.trans (HB4.out.mono s3)).trans (HB5.out.mono (by omega))
  have b15 : Below w1.heap.size w1 w5 := HB2.out.trans (b25.mono s2)
  have b35 : Below w3.heap.size w3 w5 := HB4.out.trans (HB5.out.mono s4)
  have HT0 : Hid (Tri w w5 (fun k => k = B1 ∨ k = D1 ∨ k = E1) B1 0 fo0 (fun k => k = B2 ∨ k = D2 ∨ k = E2) B2 0 fo0 (fun k => k = B3) B3 0 fo0) := by
    refine ⟨Fd.fresh (HK1.out.below b35) (.inl rfl) (fun k hk => by omega) (.inr ⟨D1, E1, xs, 0, rfl, HD1.out.below b15, Nat.le_refl _, .inr (.inl rfl), .inr (.inr rfl), by omega, by omega⟩),
      Fd.fresh (HK2.out.below HB5.out) (.inl rfl) (fun k hk => by omega) (.inr ⟨D2, E2, ys, 0, rfl, HD2.out.below b25, Nat.le_refl _, .inr (.inl rfl), .inr (.inr rfl), by omega, by omega⟩),
      Fd.fresh HK3.out rfl (fun k hk => by omega) (.inl rfl), fun k p q => by omega, fun k p q => by omega, fun k p q => by omega, fun k p => by omega, fun k p => by omega, fun k p => by omega, HB1.out.trans (b15.mono s1)⟩
  clear HK1 HK2 HK3 HB1 HB2 HB3 HB4 HB5 HD1 HD2 b25 b15 b35 s1 s2 s3 s4 s5 t1 t2 t3 t4 t5 u1 u2 hd1 he1 hd2 he2 hB1 hB2 hB3
  go_wp2
  go_loopw [14] (fun vk wr => ∃ (k : Nat) (f : Fo) (F1 F2 F3 : Nat → Prop) (G1 G2 G3 : Nat), vk = .int .i64 k ∧ k ≤ m ∧ f.Wf k ∧ Hid (Tri w wr F1 B1 G1 f F2 B2 G2 f F3 B3 G3 f)) (fun vk _ => m - (intOf vk).toNat)
  case atStart => exact ⟨0, fo0, _, _, _, 0, 0, 0, rfl, Nat.zero_le _, fo0_wf, HT0.out⟩
  case round =>
    obtain ⟨k, f, F1, F2, F3, G1, G2, G3, rfl, hkm, hwf, HT⟩ := hrel
    by_cases hlt : k < m
    · rcases HQ.out with h | ⟨b, off, rfl, hbl, hc⟩
      · have := HM.out; rw [h] at this; simp at this; omega
      · have hok := (hc k (by rw [← HM.out]; exact hlt)).2
        have CL : Hid (∀ wx, Below w.heap.size w wx → A8.AcIn wx b (off + k * 7) (A8.aAt qs k)) := fun wx hb => (hc k (by rw [← HM.out]; exact hlt)).1.below hb hbl
        obtain ⟨ob1, oe, oa, ob, ox, oy, om⟩ := hok
        have hbe : B64 (A8.aAt qs k).e := oe
        have hba : B64 (A8.aAt qs k).a := oa
        have hbb : B64 (A8.aAt qs k).b := ob
        clear hc ob1 oe oa ob ox oy om
        have hlti : (k : Int) < (m : Int) := by omega
        have hk10 : k ≤ 10000 := by omega
        have hk11 : k + 1 ≤ 10000 := by omega
        generalize A8.aAt qs k = q at *
        obtain ⟨qd, qe, qa, qb, qx, qy, qm⟩ := q
        simp only at hbe hba hbb
        have hwf2 := hwf.act hk10 qd qe qa qb qx qy qm
        have CA : Hid (∀ wx F B G, Fd wx F B G f → Calls Try.prog 25 #[.pointer (some ⟨B, 0, none⟩), .agg #[.int .u8 qd, .int .i64 qe, .int .i64 qa, .int .i64 qb, .int .i64 qx, .int .i64 qy, .int .u8 qm]] wx fun e w' => ∃ F' G', e = .returned (.int .i64 (f.actR qd qe qa qb qx qy qm)) ∧ Fd w' F' B G' (f.act qd qe qa qb qx qy qm) ∧ Step F F' wx w') := fun wx F B G h => foact_any h qd qe qa qb qx qy qm hbe hba hbb hwf hk10
        generalize f.actR qd qe qa qb qx qy qm = r at *
        generalize f.act qd qe qa qb qx qy qm = f2 at *
        obtain ⟨c0, c1, c2, c3, c4, c5, c6⟩ := CL.out _ HT.out.below
        clear hwf
        go_wp2_with fail
        refine (CA.out _ _ _ _ HT.out.a).mono ?_
        rintro e v1 ⟨X1, Y1, rfl, hT, hS⟩
        have HT1 := hid_mk (HT.out.stepA hT hS)
        clear c0 c1 c2 c3 c4 c5 c6
        obtain ⟨c0, c1, c2, c3, c4, c5, c6⟩ := CL.out _ HT1.out.below
        clear hT hS HT
        go_wp2_with fail
        refine (CA.out _ _ _ _ HT1.out.b).mono ?_
        rintro e v2 ⟨X2, Y2, rfl, hT, hS⟩
        have HT2 := hid_mk (HT1.out.stepB hT hS)
        clear c0 c1 c2 c3 c4 c5 c6
        obtain ⟨c0, c1, c2, c3, c4, c5, c6⟩ := CL.out _ HT2.out.below
        clear hT hS HT1
        go_wp2_with fail
        refine (CA.out _ _ _ _ HT2.out.c).mono ?_
        rintro e v3 ⟨X3, Y3, rfl, hT, hS⟩
        have HT3 := hid_mk (HT2.out.stepC hT hS)
        clear c0 c1 c2 c3 c4 c5 c6
        obtain ⟨c0, c1, c2, c3, c4, c5, c6⟩ := CL.out _ HT3.out.below
        clear hT hS HT2
        clear c0 c1 c4 c5 c6 CA
        have hbA := (Below.refl v3.heap.size v3).alloc (Nat.le_refl _) (.cells #[.int .i64 qa, .int .i64 qb] 3)
        have HX : Hid (Blk (v3.alloc (.cells #[.int .i64 qa, .int .i64 qb] 3)).drew v3.heap.size 3 #[.int .i64 qa, .int .i64 qb]) := Blk.new v3 3 #[.int .i64 qa, .int .i64 qb]
        have HT4 : Hid (Tri w (v3.alloc (.cells #[.int .i64 qa, .int .i64 qb] 3)).drew X1 B1 Y1 f2 X2 B2 Y2 f2 X3 B3 Y3 f2) := (HT3.out.grow hbA).grow ⟨rfl, rfl, rfl, Nat.le_refl _, fun _ _ => rfl⟩
        clear hbA HT3
        go_wp2_with fail
        go_region_held3 (fun w' => w'.cell? ⟨b, off + k * 7 + 2, none⟩ = some (.int .i64 qa) ∧ w'.cell? ⟨b, off + k * 7 + 3, none⟩ = some (.int .i64 qb)) (first | go_keep) (fail)
        generalize (v3.alloc (.cells #[.int .i64 qa, .int .i64 qb] 3)).drew = v4 at *
        generalize v3.heap.size = X at *
        clear c2 c3
        go_wp2
        go_loopw [103] (fun vj wr => ∃ (j : Nat), vj = .int .i64 j ∧ j ≤ 2 ∧ Hid (Tri w wr X1 B1 Y1 f2 X2 B2 Y2 f2 X3 B3 Y3 f2) ∧ Hid (Blk wr X 3 #[.int .i64 qa, .int .i64 qb])) (fun vj _ => 2 - (intOf vj).toNat)
        case atStart => exact ⟨0, rfl, Nat.zero_le _, HT4.out, HX.out⟩
        case round =>
          obtain ⟨j, rfl, hj2, HR0, HZ0⟩ := hrel
          by_cases hj : j < 2
          · as_aux_lemma =>
              obtain ⟨vv, hcx, hbv⟩ : ∃ vv, wr.cell? ⟨X, j, none⟩ = some (.int .i64 vv) ∧ B64 vv := by
                  rcases (by omega : j = 0 ∨ j = 1) with rfl | rfl
                  · exact ⟨qa, HZ0.out.at rfl, hba⟩
                  · exact ⟨qb, HZ0.out.at rfl, hbb⟩
              have hji : (j : Int) < 2 := by omega
              have CV : Hid (∀ wx F B G, Fd wx F B G f2 → Calls Try.prog 26 #[.pointer (some ⟨B, 0, none⟩), .int .i64 vv, .int .u8 qm] wx fun e w' => e = .returned (.tuple #[.int .i64 (f2.vo (f2.findV vv qm)), .bool (decide (f2.findV vv qm ≠ 0))]) ∧ Below wx.heap.size wx w') := fun wx F B G h => fofindV_any h vv qm hbv hwf2 hk11
              have CE : Hid (∀ wx F B G, Fd wx F B G f2 → Calls Try.prog 27 #[.pointer (some ⟨B, 0, none⟩), .int .i64 vv, .int .u8 qm] wx fun e w' => e = .returned (.tuple #[.int .i64 (f2.eo (f2.findE vv qm)), .bool (decide (f2.findE vv qm ≠ 0))]) ∧ Below wx.heap.size wx w') := fun wx F B G h => fofindE_any h vv qm hbv hwf2 hk11
              have CZ : Hid (∀ wx F B G, Fd wx F B G f2 → Calls Try.prog 28 #[.pointer (some ⟨B, 0, none⟩), .int .i64 vv] wx fun e w' => e = .returned (.int .i64 (f2.total vv).c) ∧ Below wx.heap.size wx w') := fun wx F B G h => fosize_any h vv hbv hwf2 hk11
              have CS : Hid (∀ wx F B G, Fd wx F B G f2 → Calls Try.prog 29 #[.pointer (some ⟨B, 0, none⟩), .int .i64 vv] wx fun e w' => e = .returned (.int .i64 (f2.total vv).s) ∧ Below wx.heap.size wx w') := fun wx F B G h => fosum_any h vv hbv hwf2 hk11
              have CT : Hid (∀ wx F B G, Fd wx F B G f2 → Calls Try.prog 30 #[.pointer (some ⟨B, 0, none⟩), .int .i64 vv] wx fun e w' => e = .returned (.int .i64 (f2.least vv)) ∧ Below wx.heap.size wx w') := fun wx F B G h => foleast_any h vv hbv hwf2 hk11
              have CM : Hid (∀ wx F B G, Fd wx F B G f2 → Calls Try.prog 31 #[.pointer (some ⟨B, 0, none⟩), .int .i64 qa, .int .i64 qb] wx fun e w' => e = .returned (.bool (f2.same qa qb)) ∧ Below wx.heap.size wx w') := fun wx F B G h => fosame_any h qa qb hba hbb hwf2 hk11
              generalize decide (f2.findV vv qm ≠ 0) = rv at *
              generalize f2.vo (f2.findV vv qm) = ru at *
              generalize decide (f2.findE vv qm ≠ 0) = re at *
              generalize f2.eo (f2.findE vv qm) = rf at *
              generalize (f2.total vv).c = rc at *
              generalize (f2.total vv).s = rs at *
              generalize f2.least vv = rl at *
              generalize f2.same qa qb = rm at *
              obtain ⟨_, _, _, _, _, _, c6⟩ := CL.out _ HR0.out.below
              go_wp2_with fail
              refine (CV.out _ _ _ _ HR0.out.a).mono ?_
              rintro e y1 ⟨rfl, hb⟩
              have HR1 := hid_mk (HR0.out.grow hb)
              have HZ1 := hid_mk (HZ0.out.below hb)
              clear hb HR0 HZ0 c6 hcx
              obtain ⟨_, _, _, _, _, _, c6⟩ := CL.out _ HR1.out.below
              go_wp2_with fail
              refine (CV.out _ _ _ _ HR1.out.b).mono ?_
              rintro e y2 ⟨rfl, hb⟩
              have HR2 := hid_mk (HR1.out.grow hb)
              have HZ2 := hid_mk (HZ1.out.below hb)
              clear hb HR1 HZ1 c6
              obtain ⟨_, _, _, _, _, _, c6⟩ := CL.out _ HR2.out.below
              go_wp2_with fail
              refine (CE.out _ _ _ _ HR2.out.a).mono ?_
              rintro e y3 ⟨rfl, hb⟩
              have HR3 := hid_mk (HR2.out.grow hb)
              have HZ3 := hid_mk (HZ2.out.below hb)
              clear hb HR2 HZ2 c6
              obtain ⟨_, _, _, _, _, _, c6⟩ := CL.out _ HR3.out.below
              go_wp2_with fail
              refine (CE.out _ _ _ _ HR3.out.b).mono ?_
              rintro e y4 ⟨rfl, hb⟩
              have HR4 := hid_mk (HR3.out.grow hb)
              have HZ4 := hid_mk (HZ3.out.below hb)
              clear hb HR3 HZ3 c6
              obtain ⟨_, _, c2, c3, _, _, _⟩ := CL.out _ HR4.out.below
              have hbl4 : b < y4.heap.size := Nat.lt_of_lt_of_le hbl HR4.out.below.size
              have g2 : ∀ g : Grow y4, g.w.cell? ⟨b, off + k * 7 + 2, none⟩ = some (.int .i64 qa) := Grow.cell hbl4 c2
              have g3 : ∀ g : Grow y4, g.w.cell? ⟨b, off + k * 7 + 3, none⟩ = some (.int .i64 qb) := Grow.cell hbl4 c3
              have hne := Grow.ne y4
              have RCZ : Hid (∀ (g : Grow y4) (xs : Array Value), (xs = #[.pointer (some ⟨B1, 0, none⟩), .int .i64 vv] ∨ xs = #[.pointer (some ⟨B2, 0, none⟩), .int .i64 vv] ∨ xs = #[.pointer (some ⟨B3, 0, none⟩), .int .i64 vv]) → Calls Try.prog 28 xs g.w fun e w' => e = .returned (.int .i64 rc) ∧ Below g.w.heap.size g.w w') := fun g xs hx => by
                rcases hx with rfl | rfl | rfl
                · exact CZ.out _ _ _ _ (HR4.out.a.below g.h)
                · exact CZ.out _ _ _ _ (HR4.out.b.below g.h)
                · exact CZ.out _ _ _ _ (HR4.out.c.below g.h)
              have RCS : Hid (∀ (g : Grow y4) (xs : Array Value), (xs = #[.pointer (some ⟨B1, 0, none⟩), .int .i64 vv] ∨ xs = #[.pointer (some ⟨B2, 0, none⟩), .int .i64 vv] ∨ xs = #[.pointer (some ⟨B3, 0, none⟩), .int .i64 vv]) → Calls Try.prog 29 xs g.w fun e w' => e = .returned (.int .i64 rs) ∧ Below g.w.heap.size g.w w') := fun g xs hx => by
                rcases hx with rfl | rfl | rfl
                · exact CS.out _ _ _ _ (HR4.out.a.below g.h)
                · exact CS.out _ _ _ _ (HR4.out.b.below g.h)
                · exact CS.out _ _ _ _ (HR4.out.c.below g.h)
              have RCT : Hid (∀ (g : Grow y4) (xs : Array Value), (xs = #[.pointer (some ⟨B1, 0, none⟩), .int .i64 vv] ∨ xs = #[.pointer (some ⟨B2, 0, none⟩), .int .i64 vv] ∨ xs = #[.pointer (some ⟨B3, 0, none⟩), .int .i64 vv]) → Calls Try.prog 30 xs g.w fun e w' => e = .returned (.int .i64 rl) ∧ Below g.w.heap.size g.w w') := fun g xs hx => by
                rcases hx with rfl | rfl | rfl
                · exact CT.out _ _ _ _ (HR4.out.a.below g.h)
                · exact CT.out _ _ _ _ (HR4.out.b.below g.h)
                · exact CT.out _ _ _ _ (HR4.out.c.below g.h)
              have RCM : Hid (∀ (g : Grow y4) (xs : Array Value), (xs = #[.pointer (some ⟨B1, 0, none⟩), .int .i64 qa, .int .i64 qb] ∨ xs = #[.pointer (some ⟨B2, 0, none⟩), .int .i64 qa, .int .i64 qb] ∨ xs = #[.pointer (some ⟨B3, 0, none⟩), .int .i64 qa, .int .i64 qb]) → Calls Try.prog 31 xs g.w fun e w' => e = .returned (.bool rm) ∧ Below g.w.heap.size g.w w') := fun g xs hx => by
                rcases hx with rfl | rfl | rfl
                · exact CM.out _ _ _ _ (HR4.out.a.below g.h)
                · exact CM.out _ _ _ _ (HR4.out.b.below g.h)
                · exact CM.out _ _ _ _ (HR4.out.c.below g.h)
              clear CV CE CZ CS CT CM c2 c3
              go_wp2_with fail
              refine wp_region_grow (by kernel_rfl) (by kernel_rfl) ?_
              try simp only [List.append_eq, List.cons_append, List.nil_append]
              repeat (go_big_quiet_step (first
                | (go_at_call 28; exact grow_call (RCZ.out _ _ (by first | exact .inl rfl | exact .inr (.inl rfl) | exact .inr (.inr rfl))))
                | (go_at_call 29; exact grow_call (RCS.out _ _ (by first | exact .inl rfl | exact .inr (.inl rfl) | exact .inr (.inr rfl))))
                | (go_at_call 30; exact grow_call (RCT.out _ _ (by first | exact .inl rfl | exact .inr (.inl rfl) | exact .inr (.inr rfl))))
                | (go_at_call 31; exact grow_call (RCM.out _ _ (by first | exact .inl rfl | exact .inr (.inl rfl) | exact .inr (.inr rfl))))
                | fail))
              refine wpQuiet_nil ?_
              rintro w7 ⟨⟨_, hb7⟩, rfl⟩
              have HR5 := hid_mk (HR4.out.grow hb7)
              have HZ5 := hid_mk (HZ4.out.below hb7)
              clear hb7 g2 g3 hne RCZ RCS RCT RCM HR4 HZ4 hbl4
              go_wp2
              go_roundw
              case rel => exact ⟨j + 1, by go_num, by omega, HR5.out, HZ5.out⟩
              case measure => simp [intOf]; omega
          · have hji : ¬ (j : Int) < 2 := by omega
            have HT9 := HR0
            clear HR0 HZ0 HX HT4
            go_wp2
            go_roundw
            case rel => exact ⟨k + 1, f2, X1, X2, X3, Y1, Y2, Y3, by go_num, by omega, hwf2, HT9.out⟩
            case measure => simp [intOf]; omega
    · have hlti : ¬ (k : Int) < (m : Int) := by omega
      have HBk := hid_mk HT.out.below
      clear HT
      go_wp2_with fail
      refine (WK.out _ HBk.out).mono ?_
      rintro e w9 ⟨rfl, hb⟩
      have HB9 := hid_mk hb
      clear hb HBk
      go_wp2
      go_ret
      exact ⟨rfl, HB9.out⟩
end Go.Proofs.Ytkpfonfcgoocfaa
