/- Layer 10's statement LevelsDraws (by tools/gen_levdraws.py). -/
import Derived.Test.YtcbgeahcnjamdabGreatLevDuo
import Derived.Test.YtcbgeahcnjamdabGreatLevActs
import Derived.Test.YtcbgeahcnjamdabGreatDrawOpen
import Derived.Deep.RegionHeld3
namespace Go.Proofs.YtcbgeahcnjamdabGreat
open Go.RowKit
set_option linter.unusedVariables false
theorem lw_reads (y : Gv) (n : Int) (m : Nat) (a b : Int) (ha : B64 a) (hb : B64 b) : ∃ (cc : Bool) (cz cs cl : Int),
    (∀ W F B T, Lw F W B n m y T → Calls Tryz.prog 12 #[.pointer (some ⟨B, 0, none⟩), .int .i64 a, .int .i64 b] W fun e w' => e = .returned (.bool cc) ∧ Below W.heap.size W w') ∧
    (∀ W F B T, Lw F W B n m y T → Calls Tryz.prog 13 #[.pointer (some ⟨B, 0, none⟩), .int .i64 a] W fun e w' => e = .returned (.int .i64 cz) ∧ Below W.heap.size W w') ∧
    (∀ W F B T, Lw F W B n m y T → Calls Tryz.prog 14 #[.pointer (some ⟨B, 0, none⟩), .int .i64 a] W fun e w' => e = .returned (.int .i64 cs) ∧ Below W.heap.size W w') ∧
    (∀ W F B T, Lw F W B n m y T → Calls Tryz.prog 15 #[.pointer (some ⟨B, 0, none⟩), .int .i64 b] W fun e w' => e = .returned (.int .i64 cl) ∧ Below W.heap.size W w') :=
  ⟨_, _, _, _, fun W F B T h => lg_conn h a b ha hb, fun W F B T h => lg_size h a ha, fun W F B T h => lg_sum h a ha, fun W F B T h => lg_least h b hb⟩
set_option maxRecDepth 100000 in
set_option maxHeartbeats 16000000 in
theorem levdraws_walk (ao : Option Addr) (ca : Nat) (xs : List Int) (bo : Option Addr) (cb : Nat) (ys : List Int) (n : Int) (co : Option Addr) (cc : Nat) (qs : List A10.Ac) (w : World) (hka : UAt w ao xs) (hwa : Wu xs) (hla : xs.length ≤ 9223372036854775807) (hkb : UAt w bo ys) (hwb : Wu ys) (hlb : ys.length ≤ 9223372036854775807) (hkq : A10.AcAt w co qs) (hlq : qs.length ≤ 9223372036854775807) :
    Calls Tryz.prog 3 #[.slice ao xs.length ca, .slice bo ys.length cb, .int .i64 n, .slice co qs.length cc] w fun e w' => e = .returned (.bool true) ∧ Below w.heap.size w w' := by
  have HA : Hid (UAt w ao xs ∧ Wu xs) := ⟨hka, hwa⟩
  have HBb : Hid (UAt w bo ys ∧ Wu ys) := ⟨hkb, hwb⟩
  have HQ := hid_mk hkq
  clear hka hwa hkb hwb hkq
  obtain ⟨na, hna⟩ : ∃ na, na = xs.length := ⟨_, rfl⟩
  obtain ⟨nb, hnb⟩ : ∃ nb, nb = ys.length := ⟨_, rfl⟩
  obtain ⟨c, hm⟩ : ∃ c, c = qs.length := ⟨_, rfl⟩
  rw [← hna, ← hnb, ← hm]
  rw [← hna] at hla
  rw [← hnb] at hlb
  rw [← hm] at hlq
  have HNA := hid_mk hna
  have HNB := hid_mk hnb
  have HM := hid_mk hm
  clear hna hnb hm
  have wake : ∀ wx : World, Below w.heap.size w wx → Calls Tryz.prog 5 #[] wx fun e w' => e = .returned (.bool true) ∧ Below w.heap.size w w' := fun wx hb => (wakes10_any wx).mono fun e w' ⟨h1, h2⟩ => ⟨h1, hb.trans (h2.mono hb.size)⟩
  have WK := hid_mk wake
  clear wake
  by_cases hq : (120 : Int) < (c : Int)
  · go_enter Tryz.func3, Tryz.ntmps3
    go_wp2_with fail
    refine (WK.out _ (Below.refl _ _)).mono ?_
    rintro e w1 ⟨rfl, hb⟩
    have HB1 := hid_mk hb
    clear hb
    go_wp2
    go_ret
    exact ⟨rfl, HB1.out⟩
  by_cases ha : (60 : Int) < (na : Int)
  · go_enter Tryz.func3, Tryz.ntmps3
    go_wp2_with fail
    refine (WK.out _ (Below.refl _ _)).mono ?_
    rintro e w1 ⟨rfl, hb⟩
    have HB1 := hid_mk hb
    clear hb
    go_wp2
    go_ret
    exact ⟨rfl, HB1.out⟩
  by_cases hb : (60 : Int) < (nb : Int)
  · go_enter Tryz.func3, Tryz.ntmps3
    go_wp2_with fail
    refine (WK.out _ (Below.refl _ _)).mono ?_
    rintro e w1 ⟨rfl, hb⟩
    have HB1 := hid_mk hb
    clear hb
    go_wp2
    go_ret
    exact ⟨rfl, HB1.out⟩
  have hN1 := dnew_yes ao xs.length ca xs w rfl HA.out.1 HA.out.2 (by have := HNA.out; omega)
  rw [← HNA.out] at hN1
  have HN1 := hid_mk hN1
  have HN2 : Hid (∀ wx, Below w.heap.size w wx → Calls Tryz.prog 6 #[.slice bo nb cb] wx fun e w' => ∃ D G, e = .returned (.tuple #[.pointer (some ⟨D, 0, none⟩), .int .i64 0]) ∧ wx.heap.size ≤ D ∧ wx.heap.size ≤ G ∧ Drw w' D G ys 0 ∧ Below wx.heap.size wx w') := fun wx hb => by
    have := dnew_yes bo ys.length cb ys wx rfl (HBb.out.1.below hb) HBb.out.2 (by have := HNB.out; omega)
    rw [← HNB.out] at this
    exact this
  clear hN1 HA HBb
  go_enter Tryz.func3, Tryz.ntmps3
  go_wp2_with fail
  refine HN1.out.mono ?_
  rintro e w1 ⟨D1, E1, rfl, hd1, he1, hD1, hb1⟩
  have HD1 := hid_mk hD1
  have HB1 := hid_mk hb1
  have s1 := hb1.size
  have t1 := hD1.lt
  have u1 := hD1.gl
  clear hD1 hb1 HN1
  go_wp2_with fail
  refine (HN2.out _ HB1.out).mono ?_
  rintro e w2 ⟨D2, E2, rfl, hd2, he2, hD2, hb2⟩
  have HD2 := hid_mk hD2
  have HB2 := hid_mk hb2
  have s2 := hb2.size
  have t2 := hD2.lt
  have u2 := hD2.gl
  clear hD2 hb2 HN2
  by_cases hn : n < 1 ∨ 4194304 < n
  · have HW2 : Hid (Below w.heap.size w w2) := below_step HB1.out HB2.out (Nat.le_refl _)
    have HNo := hid_mk (fun d : Option Addr => lnew_no d n w2 hn)
    clear hn HD1 HD2 HB1 HB2 s1 s2 t1 t2 u1 u2 hd1 he1 hd2 he2
    go_wp2_with fail
    refine (HNo.out _).mono ?_
    rintro e _ ⟨rfl, rfl⟩
    go_wp2_with fail
    refine (HNo.out _).mono ?_
    rintro e _ ⟨rfl, rfl⟩
    go_wp2_with fail
    refine (WK.out _ HW2.out).mono ?_
    rintro e w3 ⟨rfl, hb⟩
    have HB3 := hid_mk hb
    clear hb
    go_wp2
    go_ret
    exact ⟨rfl, HB3.out⟩
  obtain ⟨N, rfl⟩ : ∃ N : Nat, n = (N : Int) := ⟨n.toNat, by omega⟩
  have hN0 : 1 ≤ N ∧ N ≤ 4194304 := by omega
  clear hn
  obtain ⟨m, hmm⟩ : ∃ m, m = bitLen N := ⟨_, rfl⟩
  have HC1 := hid_mk (lg_new (some ⟨D1, 0, none⟩) (some (D1, E1, xs)) N w2 hN0.1 hN0.2 (.inr ⟨D1, E1, xs, rfl, rfl, HD1.out.below HB2.out⟩))
  have HC2 := hid_mk (fun (W : World) (hb : Below w2.heap.size w2 W) => lg_new (some ⟨D2, 0, none⟩) (some (D2, E2, ys)) N W hN0.1 hN0.2 (.inr ⟨D2, E2, ys, rfl, rfl, HD2.out.below hb⟩))
  rw [← hmm] at HC1 HC2
  clear hmm hN0
  go_wp2_with fail
  refine HC1.out.mono ?_
  rintro e w3 ⟨B1, F1, rfl, hL, hF, hb3⟩
  have hF1 : ∀ k, F1 k → w2.heap.size ≤ k ∨ k = D1 ∨ k = E1 := fun k hk => (hF k hk).imp id fun ⟨D, Dg, zs, e, h⟩ => by cases e; exact h
  have hF1l := hL.lt
  have s3 := hb3.size
  have HL1 := hid_mk hL
  have HB3 := hid_mk hb3
  clear hL hF hb3 HC1
  go_wp2_with fail
  refine (HC2.out _ HB3.out).mono ?_
  rintro e w4 ⟨B2, F2, rfl, hL, hF, hb4⟩
  have hF2 : ∀ k, F2 k → w3.heap.size ≤ k ∨ k = D2 ∨ k = E2 := fun k hk => (hF k hk).imp id fun ⟨D, Dg, zs, e, h⟩ => by cases e; exact h
  have HT0 : Hid (Dl w w4 F1 B1 ⟨[], n0, n0, []⟩ 0 F2 B2 ⟨[], n0, n0, []⟩ 0 N m) := by
    refine ⟨Lg.below HL1.out hb4, hL, fun k k1 k2 => ?_, fun k k1 => ?_, fun k k2 => ?_, below_step (below_step (below_step HB1.out HB2.out (Nat.le_refl _)) HB3.out (Nat.le_refl _)) hb4 (Nat.le_refl _)⟩
    · have := hF1 k k1; have := hF2 k k2; have := hF1l k k1; omega
    · have := hF1 k k1; omega
    · have := hF2 k k2; omega
  clear hL hF hb4 hF1 hF2 hF1l HL1 HB1 HB2 HB3 HC2 HD1 HD2 s1 s2 s3 t1 t2 u1 u2 hd1 he1 hd2 he2
  go_wp2
  go_loopw [17] (fun vk wr => ∃ (k : Nat) (x : Gv) (F1 F2 : Nat → Prop), vk = .int .i64 k ∧ k ≤ c ∧ Hid (Dl w wr F1 B1 x k F2 B2 x k N m)) (fun vk _ => c - (intOf vk).toNat)
  case atStart => exact ⟨0, _, _, _, rfl, Nat.zero_le _, HT0.out⟩
  case round =>
    clear HT0
    obtain ⟨k, x, F1, F2, rfl, hkm, HT⟩ := hrel
    by_cases hlt : k < c
    · rcases HQ.out with h | ⟨b, off, rfl, hbl, hc⟩
      · have := HM.out; rw [h] at this; simp at this; omega
      · have hok := (hc k (by rw [← HM.out]; exact hlt)).2
        have CL : Hid (∀ wx, Below w.heap.size w wx → A10.AcIn wx b (off + k * 6) (A10.aAt qs k)) := fun wx hb => (hc k (by rw [← HM.out]; exact hlt)).1.below hb hbl
        obtain ⟨ob1, oe, oa, ob, ox, oy⟩ := hok
        have hbe : B64 (A10.aAt qs k).e := oe
        have hba : B64 (A10.aAt qs k).a := oa
        have hbb : B64 (A10.aAt qs k).b := ob
        clear hc ob1 oe oa ob ox oy
        have hlti : (k : Int) < (c : Int) := by omega
        have hT1 : k + 1 ≤ 200 := by omega
        generalize A10.aAt qs k = q at *
        obtain ⟨qd, qe, qa, qb, qx, qy⟩ := q
        simp only at hbe hba hbb
        have RD := hid_mk (fun y => lw_reads y N m qa qb hba hbb)
        have hbW : Hid (b < w.heap.size) := hbl
        have hTe := hid_mk hbe
        have hTa := hid_mk hba
        have hTb := hid_mk hbb
        clear hbe hba hbb hbl
        obtain ⟨c0, c1, c2, c3, c4, c5⟩ := CL.out _ HT.out.bl
        by_cases d0 : qd = 0
        · subst d0
          have HDd0 := hid_mk (HT.out.below (Below.refl wr.heap.size wr).drew)
          have CU0 := hid_mk (lw_vertex HDd0.out.a hT1 qx qy)
          have HO0 : Hid (∀ W o F', Step F1 F' wr.drew W → W.cell? ⟨b, o, none⟩ = wr.drew.cell? ⟨b, o, none⟩) := fun W o F' hs => hs.cell (by have := HDd0.out.bl.size; have := hbW.out; omega) (fun k1 => by have := HDd0.out.la _ k1; have := hbW.out; omega)
          have HE0 : Hid (∀ W F' y, Lw F' W B1 N m y (k + 1) → Step F1 F' wr.drew W → Dl w W F' B1 y (k + 1) F2 B2 x k N m) := fun W F' y h1 h2 => HDd0.out.stepA h1 h2
          clear HT HDd0
          have z4 : wr.drew.cell? ⟨b, off + k * 6 + 4, none⟩ = some (.int .i64 qx) := c4
          have z5 : wr.drew.cell? ⟨b, off + k * 6 + 5, none⟩ = some (.int .i64 qy) := c5
          go_wp2
          go_region_held3 (fun w' => w'.cell? ⟨b, off + k * 6 + 4, none⟩ = some (.int .i64 qx) ∧ w'.cell? ⟨b, off + k * 6 + 5, none⟩ = some (.int .i64 qy))
            (first | go_keep | exact ⟨(HO0.out _ _ _ hS5).trans z4, (HO0.out _ _ _ hS5).trans z5⟩)
            (first | (go_at_call 8; refine CU0.out.mono ?_; rintro e w5 ⟨r5, er5, y5, F5, rfl, hR5, hG5, hS5⟩) | fail)
          have HX1 := hid_mk (HE0.out _ _ _ hG5 hS5)
          rename_i hHeld
          clear hHeld hG5 hS5 HE0 HO0 CU0 z4 z5
          have HR5 := hid_mk hR5
          clear hR5
          generalize hy0 : y5 = y0 at *
          clear hy0
          generalize hF4 : F5 = F4 at *
          clear hF4
          clear c0 c1 c2 c3 c4 c5
          obtain ⟨c0, c1, c2, c3, c4, c5⟩ := CL.out _ HX1.out.bl
          have HDd1 := hid_mk (HX1.out.below (Below.refl w5.heap.size w5).drew)
          have CU1 := hid_mk (lw_vertex HDd1.out.b hT1 qx qy)
          have HO1 : Hid (∀ W o F', Step F2 F' w5.drew W → W.cell? ⟨b, o, none⟩ = w5.drew.cell? ⟨b, o, none⟩) := fun W o F' hs => hs.cell (by have := HDd1.out.bl.size; have := hbW.out; omega) (fun k1 => by have := HDd1.out.lb _ k1; have := hbW.out; omega)
          have HE1 : Hid (∀ W F' y, Lw F' W B2 N m y (k + 1) → Step F2 F' w5.drew W → Dl w W F4 B1 y0 (k + 1) F' B2 y (k + 1) N m) := fun W F' y h1 h2 => HDd1.out.stepB h1 h2
          clear HX1 HDd1
          have z4 : w5.drew.cell? ⟨b, off + k * 6 + 4, none⟩ = some (.int .i64 qx) := c4
          have z5 : w5.drew.cell? ⟨b, off + k * 6 + 5, none⟩ = some (.int .i64 qy) := c5
          go_wp2
          go_region_held3 (fun w' => w'.cell? ⟨b, off + k * 6 + 4, none⟩ = some (.int .i64 qx) ∧ w'.cell? ⟨b, off + k * 6 + 5, none⟩ = some (.int .i64 qy))
            (first | go_keep | exact ⟨(HO1.out _ _ _ hS6).trans z4, (HO1.out _ _ _ hS6).trans z5⟩)
            (first | (go_at_call 8; refine CU1.out.mono ?_; rintro e w6 ⟨r6, er6, y6, F6, rfl, hR6, hG6, hS6⟩) | fail)
          have HX2 := hid_mk (HE1.out _ _ _ hG6 hS6)
          rename_i hHeld
          clear hHeld hG6 hS6 HE1 HO1 CU1 z4 z5
          obtain ⟨rfl, rfl, rfl⟩ := HR5.out.one hR6
          clear hR6 HR5
          generalize y6 = y at *
          clear c0 c1 c2 c3 c4 c5
          obtain ⟨c0, c1, c2, c3, c4, c5⟩ := CL.out _ HX2.out.bl
          obtain ⟨rc, rz, rs, rl, RC, RZ, RS, RL⟩ := RD.out y
          have RC := hid_mk RC
          have RZ := hid_mk RZ
          have RS := hid_mk RS
          have RL := hid_mk RL
          clear RD
          go_wp2_with fail
          refine (RC.out _ _ _ _ HX2.out.a).mono ?_
          rintro e v1 ⟨rfl, hb⟩
          have HV1 := hid_mk (HX2.out.below hb)
          clear hb HX2 c0 c1 c2 c3 c4 c5
          go_wp2_with fail
          refine (RC.out _ _ _ _ HV1.out.b).mono ?_
          rintro e v2 ⟨rfl, hb⟩
          have HV2 := hid_mk (HV1.out.below hb)
          clear hb HV1
          go_wp2_with fail
          refine (RZ.out _ _ _ _ HV2.out.a).mono ?_
          rintro e v3 ⟨rfl, hb⟩
          have HV3 := hid_mk (HV2.out.below hb)
          clear hb HV2
          go_wp2_with fail
          refine (RZ.out _ _ _ _ HV3.out.b).mono ?_
          rintro e v4 ⟨rfl, hb⟩
          have HV4 := hid_mk (HV3.out.below hb)
          clear hb HV3
          go_wp2_with fail
          refine (RS.out _ _ _ _ HV4.out.a).mono ?_
          rintro e v5 ⟨rfl, hb⟩
          have HV5 := hid_mk (HV4.out.below hb)
          clear hb HV4
          go_wp2_with fail
          refine (RS.out _ _ _ _ HV5.out.b).mono ?_
          rintro e v6 ⟨rfl, hb⟩
          have HV6 := hid_mk (HV5.out.below hb)
          clear hb HV5
          go_wp2_with fail
          refine (RL.out _ _ _ _ HV6.out.a).mono ?_
          rintro e v7 ⟨rfl, hb⟩
          have HV7 := hid_mk (HV6.out.below hb)
          clear hb HV6
          go_wp2_with fail
          refine (RL.out _ _ _ _ HV7.out.b).mono ?_
          rintro e v8 ⟨rfl, hb⟩
          have HV8 := hid_mk (HV7.out.below hb)
          clear hb HV7
          clear RC RZ RS RL
          go_wp2
          go_roundw
          case rel => exact ⟨k + 1, y, _, _, by go_num, by omega, HV8.out⟩
          case measure => simp [intOf]; omega
        by_cases d1 : qd = 1
        · subst d1
          go_wp2_with fail
          refine (lw_drop HT.out.a hT1 qa hTa.out).mono ?_
          rintro e w5 ⟨er5, y5, F5, rfl, hR, hG, hS⟩
          have HX1 := hid_mk (HT.out.stepA hG hS)
          have HR5 := hid_mk hR
          clear hR hG hS HT
          clear c0 c1 c2 c3 c4 c5
          obtain ⟨c0, c1, c2, c3, c4, c5⟩ := CL.out _ HX1.out.bl
          go_wp2_with fail
          refine (lw_drop HX1.out.b hT1 qa hTa.out).mono ?_
          rintro e w6 ⟨er6, y6, F6, rfl, hR, hG, hS⟩
          have HX2 := hid_mk (HX1.out.stepB hG hS)
          have HR6 := hid_mk hR
          clear hR hG hS HX1
          clear c0 c1 c2 c3 c4 c5
          obtain ⟨c0, c1, c2, c3, c4, c5⟩ := CL.out _ HX2.out.bl
          obtain ⟨rfl, rfl⟩ := HR5.out.one HR6.out
          clear HR6 HR5
          generalize y6 = y at *
          obtain ⟨rc, rz, rs, rl, RC, RZ, RS, RL⟩ := RD.out y
          have RC := hid_mk RC
          have RZ := hid_mk RZ
          have RS := hid_mk RS
          have RL := hid_mk RL
          clear RD
          go_wp2_with fail
          refine (RC.out _ _ _ _ HX2.out.a).mono ?_
          rintro e v1 ⟨rfl, hb⟩
          have HV1 := hid_mk (HX2.out.below hb)
          clear hb HX2 c0 c1 c2 c3 c4 c5
          go_wp2_with fail
          refine (RC.out _ _ _ _ HV1.out.b).mono ?_
          rintro e v2 ⟨rfl, hb⟩
          have HV2 := hid_mk (HV1.out.below hb)
          clear hb HV1
          go_wp2_with fail
          refine (RZ.out _ _ _ _ HV2.out.a).mono ?_
          rintro e v3 ⟨rfl, hb⟩
          have HV3 := hid_mk (HV2.out.below hb)
          clear hb HV2
          go_wp2_with fail
          refine (RZ.out _ _ _ _ HV3.out.b).mono ?_
          rintro e v4 ⟨rfl, hb⟩
          have HV4 := hid_mk (HV3.out.below hb)
          clear hb HV3
          go_wp2_with fail
          refine (RS.out _ _ _ _ HV4.out.a).mono ?_
          rintro e v5 ⟨rfl, hb⟩
          have HV5 := hid_mk (HV4.out.below hb)
          clear hb HV4
          go_wp2_with fail
          refine (RS.out _ _ _ _ HV5.out.b).mono ?_
          rintro e v6 ⟨rfl, hb⟩
          have HV6 := hid_mk (HV5.out.below hb)
          clear hb HV5
          go_wp2_with fail
          refine (RL.out _ _ _ _ HV6.out.a).mono ?_
          rintro e v7 ⟨rfl, hb⟩
          have HV7 := hid_mk (HV6.out.below hb)
          clear hb HV6
          go_wp2_with fail
          refine (RL.out _ _ _ _ HV7.out.b).mono ?_
          rintro e v8 ⟨rfl, hb⟩
          have HV8 := hid_mk (HV7.out.below hb)
          clear hb HV7
          clear RC RZ RS RL
          go_wp2
          go_roundw
          case rel => exact ⟨k + 1, y, _, _, by go_num, by omega, HV8.out⟩
          case measure => simp [intOf]; omega
        by_cases d2 : qd = 2
        · subst d2
          have HDd0 := hid_mk (HT.out.below (Below.refl wr.heap.size wr).drew)
          have CU0 := hid_mk (lw_insert HDd0.out.a hT1 qa qb hTa.out hTb.out)
          have HO0 : Hid (∀ W o F', Step F1 F' wr.drew W → W.cell? ⟨b, o, none⟩ = wr.drew.cell? ⟨b, o, none⟩) := fun W o F' hs => hs.cell (by have := HDd0.out.bl.size; have := hbW.out; omega) (fun k1 => by have := HDd0.out.la _ k1; have := hbW.out; omega)
          have HE0 : Hid (∀ W F' y, Lw F' W B1 N m y (k + 1) → Step F1 F' wr.drew W → Dl w W F' B1 y (k + 1) F2 B2 x k N m) := fun W F' y h1 h2 => HDd0.out.stepA h1 h2
          clear HT HDd0
          have z2 : wr.drew.cell? ⟨b, off + k * 6 + 2, none⟩ = some (.int .i64 qa) := c2
          have z3 : wr.drew.cell? ⟨b, off + k * 6 + 3, none⟩ = some (.int .i64 qb) := c3
          go_wp2
          go_region_held3 (fun w' => w'.cell? ⟨b, off + k * 6 + 2, none⟩ = some (.int .i64 qa) ∧ w'.cell? ⟨b, off + k * 6 + 3, none⟩ = some (.int .i64 qb))
            (first | go_keep | exact ⟨(HO0.out _ _ _ hS5).trans z2, (HO0.out _ _ _ hS5).trans z3⟩)
            (first | (go_at_call 10; refine CU0.out.mono ?_; rintro e w5 ⟨r5, er5, y5, F5, rfl, hR5, hG5, hS5⟩) | fail)
          have HX1 := hid_mk (HE0.out _ _ _ hG5 hS5)
          rename_i hHeld
          clear hHeld hG5 hS5 HE0 HO0 CU0 z2 z3
          have HR5 := hid_mk hR5
          clear hR5
          generalize hy0 : y5 = y0 at *
          clear hy0
          generalize hF4 : F5 = F4 at *
          clear hF4
          clear c0 c1 c2 c3 c4 c5
          obtain ⟨c0, c1, c2, c3, c4, c5⟩ := CL.out _ HX1.out.bl
          have HDd1 := hid_mk (HX1.out.below (Below.refl w5.heap.size w5).drew)
          have CU1 := hid_mk (lw_insert HDd1.out.b hT1 qa qb hTa.out hTb.out)
          have HO1 : Hid (∀ W o F', Step F2 F' w5.drew W → W.cell? ⟨b, o, none⟩ = w5.drew.cell? ⟨b, o, none⟩) := fun W o F' hs => hs.cell (by have := HDd1.out.bl.size; have := hbW.out; omega) (fun k1 => by have := HDd1.out.lb _ k1; have := hbW.out; omega)
          have HE1 : Hid (∀ W F' y, Lw F' W B2 N m y (k + 1) → Step F2 F' w5.drew W → Dl w W F4 B1 y0 (k + 1) F' B2 y (k + 1) N m) := fun W F' y h1 h2 => HDd1.out.stepB h1 h2
          clear HX1 HDd1
          have z2 : w5.drew.cell? ⟨b, off + k * 6 + 2, none⟩ = some (.int .i64 qa) := c2
          have z3 : w5.drew.cell? ⟨b, off + k * 6 + 3, none⟩ = some (.int .i64 qb) := c3
          go_wp2
          go_region_held3 (fun w' => w'.cell? ⟨b, off + k * 6 + 2, none⟩ = some (.int .i64 qa) ∧ w'.cell? ⟨b, off + k * 6 + 3, none⟩ = some (.int .i64 qb))
            (first | go_keep | exact ⟨(HO1.out _ _ _ hS6).trans z2, (HO1.out _ _ _ hS6).trans z3⟩)
            (first | (go_at_call 10; refine CU1.out.mono ?_; rintro e w6 ⟨r6, er6, y6, F6, rfl, hR6, hG6, hS6⟩) | fail)
          have HX2 := hid_mk (HE1.out _ _ _ hG6 hS6)
          rename_i hHeld
          clear hHeld hG6 hS6 HE1 HO1 CU1 z2 z3
          obtain ⟨rfl, rfl, rfl⟩ := HR5.out.one hR6
          clear hR6 HR5
          generalize y6 = y at *
          clear c0 c1 c2 c3 c4 c5
          obtain ⟨c0, c1, c2, c3, c4, c5⟩ := CL.out _ HX2.out.bl
          obtain ⟨rc, rz, rs, rl, RC, RZ, RS, RL⟩ := RD.out y
          have RC := hid_mk RC
          have RZ := hid_mk RZ
          have RS := hid_mk RS
          have RL := hid_mk RL
          clear RD
          go_wp2_with fail
          refine (RC.out _ _ _ _ HX2.out.a).mono ?_
          rintro e v1 ⟨rfl, hb⟩
          have HV1 := hid_mk (HX2.out.below hb)
          clear hb HX2 c0 c1 c2 c3 c4 c5
          go_wp2_with fail
          refine (RC.out _ _ _ _ HV1.out.b).mono ?_
          rintro e v2 ⟨rfl, hb⟩
          have HV2 := hid_mk (HV1.out.below hb)
          clear hb HV1
          go_wp2_with fail
          refine (RZ.out _ _ _ _ HV2.out.a).mono ?_
          rintro e v3 ⟨rfl, hb⟩
          have HV3 := hid_mk (HV2.out.below hb)
          clear hb HV2
          go_wp2_with fail
          refine (RZ.out _ _ _ _ HV3.out.b).mono ?_
          rintro e v4 ⟨rfl, hb⟩
          have HV4 := hid_mk (HV3.out.below hb)
          clear hb HV3
          go_wp2_with fail
          refine (RS.out _ _ _ _ HV4.out.a).mono ?_
          rintro e v5 ⟨rfl, hb⟩
          have HV5 := hid_mk (HV4.out.below hb)
          clear hb HV4
          go_wp2_with fail
          refine (RS.out _ _ _ _ HV5.out.b).mono ?_
          rintro e v6 ⟨rfl, hb⟩
          have HV6 := hid_mk (HV5.out.below hb)
          clear hb HV5
          go_wp2_with fail
          refine (RL.out _ _ _ _ HV6.out.a).mono ?_
          rintro e v7 ⟨rfl, hb⟩
          have HV7 := hid_mk (HV6.out.below hb)
          clear hb HV6
          go_wp2_with fail
          refine (RL.out _ _ _ _ HV7.out.b).mono ?_
          rintro e v8 ⟨rfl, hb⟩
          have HV8 := hid_mk (HV7.out.below hb)
          clear hb HV7
          clear RC RZ RS RL
          go_wp2
          go_roundw
          case rel => exact ⟨k + 1, y, _, _, by go_num, by omega, HV8.out⟩
          case measure => simp [intOf]; omega
        have e0 : (qd == 0) = false := by simpa using d0
        have e1 : (qd == 1) = false := by simpa using d1
        have e2 : (qd == 2) = false := by simpa using d2
        go_wp2_with fail
        refine (lw_delete HT.out.a hT1 qe hTe.out).mono ?_
        rintro e w5 ⟨er5, y5, F5, rfl, hR, hG, hS⟩
        have HX1 := hid_mk (HT.out.stepA hG hS)
        have HR5 := hid_mk hR
        clear hR hG hS HT
        clear c0 c1 c2 c3 c4 c5
        obtain ⟨c0, c1, c2, c3, c4, c5⟩ := CL.out _ HX1.out.bl
        go_wp2_with fail
        refine (lw_delete HX1.out.b hT1 qe hTe.out).mono ?_
        rintro e w6 ⟨er6, y6, F6, rfl, hR, hG, hS⟩
        have HX2 := hid_mk (HX1.out.stepB hG hS)
        have HR6 := hid_mk hR
        clear hR hG hS HX1
        clear c0 c1 c2 c3 c4 c5
        obtain ⟨c0, c1, c2, c3, c4, c5⟩ := CL.out _ HX2.out.bl
        obtain ⟨rfl, rfl⟩ := HR5.out.one HR6.out
        clear HR6 HR5
        generalize y6 = y at *
        obtain ⟨rc, rz, rs, rl, RC, RZ, RS, RL⟩ := RD.out y
        have RC := hid_mk RC
        have RZ := hid_mk RZ
        have RS := hid_mk RS
        have RL := hid_mk RL
        clear RD
        go_wp2_with fail
        refine (RC.out _ _ _ _ HX2.out.a).mono ?_
        rintro e v1 ⟨rfl, hb⟩
        have HV1 := hid_mk (HX2.out.below hb)
        clear hb HX2 c0 c1 c2 c3 c4 c5
        go_wp2_with fail
        refine (RC.out _ _ _ _ HV1.out.b).mono ?_
        rintro e v2 ⟨rfl, hb⟩
        have HV2 := hid_mk (HV1.out.below hb)
        clear hb HV1
        go_wp2_with fail
        refine (RZ.out _ _ _ _ HV2.out.a).mono ?_
        rintro e v3 ⟨rfl, hb⟩
        have HV3 := hid_mk (HV2.out.below hb)
        clear hb HV2
        go_wp2_with fail
        refine (RZ.out _ _ _ _ HV3.out.b).mono ?_
        rintro e v4 ⟨rfl, hb⟩
        have HV4 := hid_mk (HV3.out.below hb)
        clear hb HV3
        go_wp2_with fail
        refine (RS.out _ _ _ _ HV4.out.a).mono ?_
        rintro e v5 ⟨rfl, hb⟩
        have HV5 := hid_mk (HV4.out.below hb)
        clear hb HV4
        go_wp2_with fail
        refine (RS.out _ _ _ _ HV5.out.b).mono ?_
        rintro e v6 ⟨rfl, hb⟩
        have HV6 := hid_mk (HV5.out.below hb)
        clear hb HV5
        go_wp2_with fail
        refine (RL.out _ _ _ _ HV6.out.a).mono ?_
        rintro e v7 ⟨rfl, hb⟩
        have HV7 := hid_mk (HV6.out.below hb)
        clear hb HV6
        go_wp2_with fail
        refine (RL.out _ _ _ _ HV7.out.b).mono ?_
        rintro e v8 ⟨rfl, hb⟩
        have HV8 := hid_mk (HV7.out.below hb)
        clear hb HV7
        clear RC RZ RS RL
        go_wp2
        go_roundw
        case rel => exact ⟨k + 1, y, _, _, by go_num, by omega, HV8.out⟩
        case measure => simp [intOf]; omega
    · have hlti : ¬ (k : Int) < (c : Int) := by omega
      have HBk := hid_mk HT.out.bl
      clear HT
      go_wp2_with fail
      refine (WK.out _ HBk.out).mono ?_
      rintro e w9 ⟨rfl, hb⟩
      have HB9 := hid_mk hb
      clear hb HBk
      go_wp2
      go_ret
      exact ⟨rfl, HB9.out⟩
end Go.Proofs.YtcbgeahcnjamdabGreat
