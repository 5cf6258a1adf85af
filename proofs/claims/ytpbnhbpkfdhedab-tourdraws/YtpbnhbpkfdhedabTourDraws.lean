/- Layer 7's statement TourDraws (by tools/gen_tourdraws.py). -/
import Derived.Test.YtpbnhbpkfdhedabTourDuo
import Derived.Deep.RegionHeld3
import Derived.Deep.CutRange
import Derived.Deep.CutBlock
namespace Go.Proofs.Ytpbnhbpkfdhedab
open Go.RowKit
set_option linter.unusedVariables false
set_option maxRecDepth 100000 in
set_option maxHeartbeats 8000000 in
theorem tourdraws_walk (ao : Option Addr) (ca : Nat) (xs : List Int) (bo : Option Addr) (cb : Nat) (ys : List Int) (qo : Option Addr) (cq : Nat) (qs : List A7.Ac) (bits : Int) (w : World)
    (ha : UAt w ao xs) (hwa : Wu xs) (hla : xs.length ≤ 9223372036854775807) (hb : UAt w bo ys) (hwb : Wu ys) (hlb : ys.length ≤ 9223372036854775807) (hq : A7.AcAt w qo qs) (hlq : qs.length ≤ 9223372036854775807) (hbits : 0 ≤ bits ∧ bits ≤ 255) :
    Calls Try.prog 3 #[.slice ao xs.length ca, .slice bo ys.length cb, .slice qo qs.length cq, .int .u8 bits] w fun e w' => e = .returned (.bool true) ∧ Below w.heap.size w w' := by
  have HA : Hid (UAt w ao xs ∧ Wu xs) := ⟨ha, hwa⟩
  have HBb : Hid (UAt w bo ys ∧ Wu ys) := ⟨hb, hwb⟩
  have HQ : Hid (A7.AcAt w qo qs) := hq
  clear ha hwa hb hwb hq
  obtain ⟨m, hm⟩ : ∃ m, m = qs.length := ⟨_, rfl⟩
  have HM : Hid (qs.length = m) := hm.symm
  obtain ⟨na, hna⟩ : ∃ m, m = xs.length := ⟨_, rfl⟩
  have HNA : Hid (xs.length = na) := hna.symm
  obtain ⟨nb, hnb⟩ : ∃ m, m = ys.length := ⟨_, rfl⟩
  have HNB : Hid (ys.length = nb) := hnb.symm
  rw [← hm] at hlq ⊢
  rw [← hna] at hla ⊢
  rw [← hnb] at hlb ⊢
  clear hm hna hnb
  go_enter Try.func3, Try.ntmps3
  go_wp2_with fail
  refine (tawk_any w).mono ?_
  rintro e w1 ⟨rfl, hb1⟩
  have HW1 : Hid (Below w.heap.size w w1) := hb1
  clear hb1
  go_wp2_with fail
  refine (great7_any ao ca na qo cq m qs w1 HM.out hlq hla (HQ.out.below HW1.out)).mono ?_
  rintro e w2 ⟨g1, rfl, hg1, hb2⟩
  have HW2 : Hid (Below w.heap.size w w2) := HW1.out.trans (hb2.mono HW1.out.size)
  clear hb2 HW1
  cases g1 with
  | true =>
    go_wp2
    go_ret
    exact ⟨rfl, HW2.out⟩
  | false =>
    obtain ⟨hm2, hna2⟩ := hg1 rfl
    clear hg1
    go_wp2_with fail
    refine (great7_any bo cb nb none 0 0 [] w2 rfl (by omega) hlb (.inl rfl)).mono ?_
    rintro e w3 ⟨g2, rfl, hg2, hb3⟩
    have HW3 : Hid (Below w.heap.size w w3) := HW2.out.trans (hb3.mono HW2.out.size)
    clear hb3 HW2
    cases g2 with
    | true =>
      go_wp2
      go_ret
      exact ⟨rfl, HW3.out⟩
    | false =>
      clear hg2
      go_wp2_with fail
      have hM1 := made7_any ao ca xs w3 (HA.out.1.below HW3.out) HA.out.2 (by rw [HNA.out]; exact hla)
      rw [HNA.out] at hM1
      refine hM1.mono ?_
      rintro e w4 ⟨Bf, Ff, rfl, hT, hF, hb4⟩
      have HW4 : Hid (Below w.heap.size w w4) := HW3.out.trans (hb4.mono HW3.out.size)
      have HTf := hid_mk hT
      have HFf : Hid (∀ k, Ff k → w.heap.size ≤ k) := fun k hk => Nat.le_trans HW3.out.size (hF k hk)
      clear hT hF hb4 HW3 hM1
      go_wp2_with fail
      have hM2 := made7_any bo cb ys w4 (HBb.out.1.below HW4.out) HBb.out.2 (by rw [HNB.out]; exact hlb)
      rw [HNB.out] at hM2
      refine hM2.mono ?_
      rintro e w5 ⟨Bg, Fg, rfl, hT, hF, hb5⟩
      have HD0 : Hid (Du w w5 Ff Bf 0 to0 Fg Bg 0 to0) := Du.made HTf.out hb5 hT HW4.out HFf.out hF
      clear hT hF hb5 HW4 HTf HFf hM2 HA HBb
      go_wp2
      go_loopw [11] (fun vk wr => ∃ (k : Nat) (t : To) (F1 F2 : Nat → Prop) (G1 G2 : Nat), vk = .int .i64 k ∧ k ≤ m ∧ t.Wf k ∧ Hid (Du w wr F1 Bf G1 t F2 Bg G2 t)) (fun vk _ => m - (intOf vk).toNat)
      case atStart => exact ⟨0, to0, Ff, Fg, 0, 0, rfl, Nat.zero_le _, to0_wf, HD0.out⟩
      case round =>
        obtain ⟨k, t, F1, F2, G1, G2, rfl, hkm, hwf, HD⟩ := hrel
        by_cases hlt : k < m
        · rcases HQ.out with h | ⟨b, off, rfl, hbl, hc⟩
          · have := HM.out; rw [h] at this; simp at this; omega
          · obtain ⟨c0, c1, c2, c3, c4, c5⟩ := (hc k (by rw [HM.out]; exact hlt)).1
            have hok := (hc k (by rw [HM.out]; exact hlt)).2
            have hqb := hok.2.2.2.2.2
            clear hc hok
            have hBw := HD.out.below
            replace c0 := (hBw.cell (p := ⟨b, _, none⟩) hbl).trans c0
            replace c1 := (hBw.cell (p := ⟨b, _, none⟩) hbl).trans c1
            replace c2 := (hBw.cell (p := ⟨b, _, none⟩) hbl).trans c2
            replace c3 := (hBw.cell (p := ⟨b, _, none⟩) hbl).trans c3
            replace c4 := (hBw.cell (p := ⟨b, _, none⟩) hbl).trans c4
            replace c5 := (hBw.cell (p := ⟨b, _, none⟩) hbl).trans c5
            have hlti : (k : Int) < (m : Int) := by omega
            generalize (A7.aAt qs k).d = qd at *
            generalize (A7.aAt qs k).i = qi at *
            generalize (A7.aAt qs k).j = qj at *
            generalize (A7.aAt qs k).m = qm at *
            generalize (A7.aAt qs k).n = qn at *
            generalize (A7.aAt qs k).b = qb at *
            have hb6 := (Below.refl wr.heap.size wr).alloc (Nat.le_refl _) (.cells #[.int .i64 qd, .int .i64 qi, .int .i64 qj, .int .i64 qm, .int .i64 qn, .int .u8 qb] 29)
            have HX : Hid (Blk (wr.alloc (.cells #[.int .i64 qd, .int .i64 qi, .int .i64 qj, .int .i64 qm, .int .i64 qn, .int .u8 qb] 29)) wr.heap.size 29 #[.int .i64 qd, .int .i64 qi, .int .i64 qj, .int .i64 qm, .int .i64 qn, .int .u8 qb]) := Blk.new wr _ _
            have HD6 := hid_mk (HD.out.grow hb6)
            have HNF : Hid (¬ F1 wr.heap.size ∧ ¬ F2 wr.heap.size) := ⟨fun h => by have := HD.out.f.lt _ h; omega, fun h => by have := HD.out.g.lt _ h; omega⟩
            clear hb6 HD hBw
            go_upto_block 2 with fail
            generalize wr.alloc (.cells #[.int .i64 qd, .int .i64 qi, .int .i64 qj, .int .i64 qm, .int .i64 qn, .int .u8 qb] 29) = w6 at *
            generalize wr.heap.size = X at *
            clear c0 c1 c2 c3 c4 c5
            have d0 := HX.out.at (j := 0) rfl
            have nz : Hid (∀ wx, Blk wx X 29 #[.int .i64 qd, .int .i64 qi, .int .i64 qj, .int .i64 qm, .int .i64 qn, .int .u8 qb] → wx.cell? ⟨X, 1, none⟩ = some (.int .i64 qi) ∧ wx.cell? ⟨X, 2, none⟩ = some (.int .i64 qj) ∧ wx.cell? ⟨X, 3, none⟩ = some (.int .i64 qm) ∧ wx.cell? ⟨X, 4, none⟩ = some (.int .i64 qn) ∧ wx.cell? ⟨X, 5, none⟩ = some (.int .u8 qb)) := fun wx hx => ⟨hx.at rfl, hx.at rfl, hx.at rfl, hx.at rfl, hx.at rfl⟩
            have hk1 : k + 1 ≤ 10000 := by omega
            go_cut [13] from 39 to 256 (fun vok wc => ∃ (F1' F2' : Nat → Prop) (G1' G2' : Nat) (t' : To), vok = .bool true ∧ t'.Wf (k + 1) ∧ Hid (Du w wc F1' Bf G1' t' F2' Bg G2' t') ∧ Hid (Blk wc X 29 #[.int .i64 qd, .int .i64 qi, .int .i64 qj, .int .i64 qm, .int .i64 qn, .int .u8 qb]) ∧ Hid (¬ F1' X ∧ ¬ F2' X))
            case first =>
              by_cases e0 : qd = 0
              · subst e0
                as_aux_lemma =>
                  obtain ⟨x1, x2, x3, x4, x5⟩ := nz.out _ HX.out
                  have HXd : Hid (Blk w6.drew X 29 #[.int .i64 0, .int .i64 qi, .int .i64 qj, .int .i64 qm, .int .i64 qn, .int .u8 qb]) := HX.out
                  have HDr : Hid (Du w w6.drew F1 Bf G1 t F2 Bg G2 t) := HD6.out.grow ⟨rfl, rfl, rfl, Nat.le_refl _, fun _ _ => rfl⟩
                  have CF : Hid (Calls Try.prog 8 #[.pointer (some ⟨Bf, 0, none⟩), .int .i64 qm, .int .i64 qn] w6.drew fun e w' => ∃ F', e = .returned (.int .i64 (tkI t.v t.fv)) ∧ Tf w' F' Bf G1 (t.addV qm qn) ∧ Step F1 F' w6.drew w' ∧ Kpt F1 F' w6.drew w') := (fvertex_any HDr.out.f qm qn hwf.le (by omega)).mono fun e w' ⟨F', a, b, c⟩ => ⟨F', a, b, c, c.kpt⟩
                  have CG : Hid (∀ w8 F8, Du w w8 F8 Bf G1 (t.addV qm qn) F2 Bg G2 t → Calls Try.prog 8 #[.pointer (some ⟨Bg, 0, none⟩), .int .i64 qm, .int .i64 qn] w8 fun e w' => ∃ F', e = .returned (.int .i64 (tkI t.v t.fv)) ∧ Tf w' F' Bg G2 (t.addV qm qn) ∧ Step F2 F' w8 w' ∧ Kpt F2 F' w8 w') := fun w8 F8 D8 => (fvertex_any D8.g qm qn hwf.le (by omega)).mono fun e w' ⟨F', a, b, c⟩ => ⟨F', a, b, c, c.kpt⟩
                  have WF' : (t.addV qm qn).Wf (k + 1) := hwf.addV qm qn
                  generalize tkI t.v t.fv = r at *
                  generalize t.addV qm qn = t' at *
                  clear d0 hwf
                  go_wp2_with fail
                  go_region_held3 (fun w' => w'.cell? ⟨X, 1, none⟩ = some (.int .i64 qi) ∧ w'.cell? ⟨X, 2, none⟩ = some (.int .i64 qj) ∧ w'.cell? ⟨X, 3, none⟩ = some (.int .i64 qm) ∧ w'.cell? ⟨X, 4, none⟩ = some (.int .i64 qn) ∧ w'.cell? ⟨X, 5, none⟩ = some (.int .u8 qb))
                    (first
                      | go_keep
                      | with_reducible exact nz.out _ hB9
                      | with_reducible exact nz.out _ hB8)
                    (first
                      | (go_at_call 8; refine (CG.out _ _ D8).mono ?_; rintro e w9 ⟨F9, rfl, t9, s9, k9⟩; have D9 := D8.stepG t9 s9; have hB9 := (k9 X _ _ hB8 HNF.out.2).1; have n9 := (k9 X _ _ hB8 HNF.out.2).2)
                      | (go_at_call 8; refine CF.out.mono ?_; rintro e w8 ⟨F8, rfl, t8, s8, k8⟩; have D8 := HDr.out.stepF t8 s8; have hB8 := (k8 X _ _ HXd.out HNF.out.1).1; have n8 := (k8 X _ _ HXd.out HNF.out.1).2)
                      | fail)
                  have HD9 := hid_mk D9
                  have HX9 := hid_mk hB9
                  have HN9 : Hid (¬ F8 X ∧ ¬ F9 X) := ⟨n8, n9⟩
                  rename_i hHeld
                  clear hHeld t8 s8 D8 t9 s9 D9 k8 k9 hB8 hB9 n8 n9 HDr CF CG HD6 HX HXd x1 x2 x3 x4 x5
                  go_wp2
                  go_meet
                  case rel => exact ⟨F8, F9, _, _, t', by simp, WF', HD9.out, HX9.out, HN9.out⟩
              · have e0' : (qd == 0) = false := by simpa using e0
                by_cases e1 : qd = 1
                · subst e1
                  as_aux_lemma =>
                    obtain ⟨x1, x2, x3, x4, x5⟩ := nz.out _ HX.out
                    have CF := hid_mk (flink_any HD6.out.f qi qj (fun hv => hwf.mv qi hv) hwf.le (by omega))
                    have CG : Hid (∀ w8 F8 G8, Du w w8 F8 Bf G8 (t.linked qi qj) F2 Bg G2 t → Calls Try.prog 9 #[.pointer (some ⟨Bg, 0, none⟩), .int .i64 qi, .int .i64 qj] w8 fun e w' => ∃ F' G', e = .returned (.tuple #[.int .i64 (t.linkN qi qj), .int .i64 (t.linkR qi qj)]) ∧ Tf w' F' Bg G' (t.linked qi qj) ∧ Step F2 F' w8 w') := fun w8 F8 G8 D8 => flink_any D8.g qi qj (fun hv => hwf.mv qi hv) hwf.le (by omega)
                    have WF' : (t.linked qi qj).Wf (k + 1) := hwf.linked qi qj
                    generalize t.linkN qi qj = r at *
                    generalize t.linkR qi qj = r' at *
                    generalize t.linked qi qj = t' at *
                    clear d0 hwf
                    go_wp2_with fail
                    refine CF.out.mono ?_
                    rintro e w8 ⟨F8, G8, rfl, t8, s8⟩
                    have HD8 := hid_mk (HD6.out.stepF t8 s8)
                    have hB8 := (s8.kpt X _ _ HX.out HNF.out.1).1
                    have n8 := (s8.kpt X _ _ HX.out HNF.out.1).2
                    have HX8 := hid_mk hB8
                    obtain ⟨y1, y2, y3, y4, y5⟩ := nz.out _ hB8
                    clear t8 s8 HD6 HX CF x1 x2 x3 x4 x5 hB8
                    go_wp2_with fail
                    refine (CG.out _ _ _ HD8.out).mono ?_
                    rintro e w9 ⟨F9, G9, rfl, t9, s9⟩
                    have HD9 := hid_mk (HD8.out.stepG t9 s9)
                    have HX9 := hid_mk (s9.kpt X _ _ HX8.out HNF.out.2).1
                    have n9 := (s9.kpt X _ _ HX8.out HNF.out.2).2
                    have HN9 : Hid (¬ F8 X ∧ ¬ F9 X) := ⟨n8, n9⟩
                    clear t9 s9 HD8 HX8 CG y1 y2 y3 y4 y5 n8 n9
                    go_wp2
                    go_meet
                    case rel => exact ⟨F8, F9, _, _, t', by simp, WF', HD9.out, HX9.out, HN9.out⟩
                · have e1' : (qd == 1) = false := by simpa using e1
                  by_cases e2 : qd = 2
                  · subst e2
                    as_aux_lemma =>
                      obtain ⟨x1, x2, x3, x4, x5⟩ := nz.out _ HX.out
                      have HXd : Hid (Blk w6.drew X 29 #[.int .i64 2, .int .i64 qi, .int .i64 qj, .int .i64 qm, .int .i64 qn, .int .u8 qb]) := HX.out
                      have HDr : Hid (Du w w6.drew F1 Bf G1 t F2 Bg G2 t) := HD6.out.grow ⟨rfl, rfl, rfl, Nat.le_refl _, fun _ _ => rfl⟩
                      have CF : Hid (Calls Try.prog 10 #[.pointer (some ⟨Bf, 0, none⟩), .int .i64 qi] w6.drew fun e w' => ∃ F', e = .returned (.int .i64 (t.cutR qi)) ∧ Tf w' F' Bf G1 (t.cut qi) ∧ Step F1 F' w6.drew w' ∧ Kpt F1 F' w6.drew w') := (fcut_any HDr.out.f qi hwf.le (by omega)).mono fun e w' ⟨F', a, b, c⟩ => ⟨F', a, b, c, c.kpt⟩
                      have CG : Hid (∀ w8 F8, Du w w8 F8 Bf G1 (t.cut qi) F2 Bg G2 t → Calls Try.prog 10 #[.pointer (some ⟨Bg, 0, none⟩), .int .i64 qi] w8 fun e w' => ∃ F', e = .returned (.int .i64 (t.cutR qi)) ∧ Tf w' F' Bg G2 (t.cut qi) ∧ Step F2 F' w8 w' ∧ Kpt F2 F' w8 w') := fun w8 F8 D8 => (fcut_any D8.g qi hwf.le (by omega)).mono fun e w' ⟨F', a, b, c⟩ => ⟨F', a, b, c, c.kpt⟩
                      have WF' : (t.cut qi).Wf (k + 1) := hwf.cut qi
                      generalize t.cutR qi = r at *
                      generalize t.cut qi = t' at *
                      clear d0 hwf
                      go_wp2_with fail
                      go_region_held3 (fun w' => w'.cell? ⟨X, 1, none⟩ = some (.int .i64 qi) ∧ w'.cell? ⟨X, 2, none⟩ = some (.int .i64 qj) ∧ w'.cell? ⟨X, 3, none⟩ = some (.int .i64 qm) ∧ w'.cell? ⟨X, 4, none⟩ = some (.int .i64 qn) ∧ w'.cell? ⟨X, 5, none⟩ = some (.int .u8 qb))
                        (first
                          | go_keep
                          | with_reducible exact nz.out _ hB9
                          | with_reducible exact nz.out _ hB8)
                        (first
                          | (go_at_call 10; refine (CG.out _ _ D8).mono ?_; rintro e w9 ⟨F9, rfl, t9, s9, k9⟩; have D9 := D8.stepG t9 s9; have hB9 := (k9 X _ _ hB8 HNF.out.2).1; have n9 := (k9 X _ _ hB8 HNF.out.2).2)
                          | (go_at_call 10; refine CF.out.mono ?_; rintro e w8 ⟨F8, rfl, t8, s8, k8⟩; have D8 := HDr.out.stepF t8 s8; have hB8 := (k8 X _ _ HXd.out HNF.out.1).1; have n8 := (k8 X _ _ HXd.out HNF.out.1).2)
                          | fail)
                      have HD9 := hid_mk D9
                      have HX9 := hid_mk hB9
                      have HN9 : Hid (¬ F8 X ∧ ¬ F9 X) := ⟨n8, n9⟩
                      rename_i hHeld
                      clear hHeld t8 s8 D8 t9 s9 D9 k8 k9 hB8 hB9 n8 n9 HDr CF CG HD6 HX HXd x1 x2 x3 x4 x5
                      go_wp2
                      go_meet
                      case rel => exact ⟨F8, F9, _, _, t', by simp, WF', HD9.out, HX9.out, HN9.out⟩
                  · have e2' : (qd == 2) = false := by simpa using e2
                    by_cases e3 : qd = 3
                    · subst e3
                      as_aux_lemma =>
                        obtain ⟨x1, x2, x3, x4, x5⟩ := nz.out _ HX.out
                        have HXd : Hid (Blk w6.drew X 29 #[.int .i64 3, .int .i64 qi, .int .i64 qj, .int .i64 qm, .int .i64 qn, .int .u8 qb]) := HX.out
                        have HDr : Hid (Du w w6.drew F1 Bf G1 t F2 Bg G2 t) := HD6.out.grow ⟨rfl, rfl, rfl, Nat.le_refl _, fun _ _ => rfl⟩
                        have CF : Hid (Calls Try.prog 11 #[.pointer (some ⟨Bf, 0, none⟩), .int .i64 qi, .int .i64 qm, .int .i64 qn] w6.drew fun e w' => ∃ F', e = .returned (.int .i64 (t.setR qi)) ∧ Tf w' F' Bf G1 (t.set qi qm qn) ∧ Step F1 F' w6.drew w' ∧ Kpt F1 F' w6.drew w') := (fset_any HDr.out.f qi qm qn hwf.le (by omega)).mono fun e w' ⟨F', a, b, c⟩ => ⟨F', a, b, c, c.kpt⟩
                        have CG : Hid (∀ w8 F8, Du w w8 F8 Bf G1 (t.set qi qm qn) F2 Bg G2 t → Calls Try.prog 11 #[.pointer (some ⟨Bg, 0, none⟩), .int .i64 qi, .int .i64 qm, .int .i64 qn] w8 fun e w' => ∃ F', e = .returned (.int .i64 (t.setR qi)) ∧ Tf w' F' Bg G2 (t.set qi qm qn) ∧ Step F2 F' w8 w' ∧ Kpt F2 F' w8 w') := fun w8 F8 D8 => (fset_any D8.g qi qm qn hwf.le (by omega)).mono fun e w' ⟨F', a, b, c⟩ => ⟨F', a, b, c, c.kpt⟩
                        have WF' : (t.set qi qm qn).Wf (k + 1) := (hwf.set qi qm qn).mono (Nat.le_succ k)
                        generalize t.setR qi = r at *
                        generalize t.set qi qm qn = t' at *
                        clear d0 hwf
                        go_wp2_with fail
                        go_region_held3 (fun w' => w'.cell? ⟨X, 1, none⟩ = some (.int .i64 qi) ∧ w'.cell? ⟨X, 2, none⟩ = some (.int .i64 qj) ∧ w'.cell? ⟨X, 3, none⟩ = some (.int .i64 qm) ∧ w'.cell? ⟨X, 4, none⟩ = some (.int .i64 qn) ∧ w'.cell? ⟨X, 5, none⟩ = some (.int .u8 qb))
                          (first
                            | go_keep
                            | with_reducible exact nz.out _ hB9
                            | with_reducible exact nz.out _ hB8)
                          (first
                            | (go_at_call 11; refine (CG.out _ _ D8).mono ?_; rintro e w9 ⟨F9, rfl, t9, s9, k9⟩; have D9 := D8.stepG t9 s9; have hB9 := (k9 X _ _ hB8 HNF.out.2).1; have n9 := (k9 X _ _ hB8 HNF.out.2).2)
                            | (go_at_call 11; refine CF.out.mono ?_; rintro e w8 ⟨F8, rfl, t8, s8, k8⟩; have D8 := HDr.out.stepF t8 s8; have hB8 := (k8 X _ _ HXd.out HNF.out.1).1; have n8 := (k8 X _ _ HXd.out HNF.out.1).2)
                            | fail)
                        have HD9 := hid_mk D9
                        have HX9 := hid_mk hB9
                        have HN9 : Hid (¬ F8 X ∧ ¬ F9 X) := ⟨n8, n9⟩
                        rename_i hHeld
                        clear hHeld t8 s8 D8 t9 s9 D9 k8 k9 hB8 hB9 n8 n9 HDr CF CG HD6 HX HXd x1 x2 x3 x4 x5
                        go_wp2
                        go_meet
                        case rel => exact ⟨F8, F9, _, _, t', by simp, WF', HD9.out, HX9.out, HN9.out⟩
                    · have e3' : (qd == 3) = false := by simpa using e3
                      by_cases e4 : qd = 4
                      · subst e4
                        as_aux_lemma =>
                          obtain ⟨x1, x2, x3, x4, x5⟩ := nz.out _ HX.out
                          have HXd : Hid (Blk w6.drew X 29 #[.int .i64 4, .int .i64 qi, .int .i64 qj, .int .i64 qm, .int .i64 qn, .int .u8 qb]) := HX.out
                          have HDr : Hid (Du w w6.drew F1 Bf G1 t F2 Bg G2 t) := HD6.out.grow ⟨rfl, rfl, rfl, Nat.le_refl _, fun _ _ => rfl⟩
                          have CF : Hid (Calls Try.prog 12 #[.pointer (some ⟨Bf, 0, none⟩), .int .i64 qi, .int .u8 qb] w6.drew fun e w' => ∃ F', e = .returned (.int .i64 (t.markR qi qb)) ∧ Tf w' F' Bf G1 (t.mark qi qb) ∧ Step F1 F' w6.drew w' ∧ Kpt F1 F' w6.drew w') := (fmark_any HDr.out.f qi qb hwf.le (by omega)).mono fun e w' ⟨F', a, b, c⟩ => ⟨F', a, b, c, c.kpt⟩
                          have CG : Hid (∀ w8 F8, Du w w8 F8 Bf G1 (t.mark qi qb) F2 Bg G2 t → Calls Try.prog 12 #[.pointer (some ⟨Bg, 0, none⟩), .int .i64 qi, .int .u8 qb] w8 fun e w' => ∃ F', e = .returned (.int .i64 (t.markR qi qb)) ∧ Tf w' F' Bg G2 (t.mark qi qb) ∧ Step F2 F' w8 w' ∧ Kpt F2 F' w8 w') := fun w8 F8 D8 => (fmark_any D8.g qi qb hwf.le (by omega)).mono fun e w' ⟨F', a, b, c⟩ => ⟨F', a, b, c, c.kpt⟩
                          have WF' : (t.mark qi qb).Wf (k + 1) := (hwf.mark qi qb).mono (Nat.le_succ k)
                          generalize t.markR qi qb = r at *
                          generalize t.mark qi qb = t' at *
                          clear d0 hwf
                          go_wp2_with fail
                          go_region_held3 (fun w' => w'.cell? ⟨X, 1, none⟩ = some (.int .i64 qi) ∧ w'.cell? ⟨X, 2, none⟩ = some (.int .i64 qj) ∧ w'.cell? ⟨X, 3, none⟩ = some (.int .i64 qm) ∧ w'.cell? ⟨X, 4, none⟩ = some (.int .i64 qn) ∧ w'.cell? ⟨X, 5, none⟩ = some (.int .u8 qb))
                            (first
                              | go_keep
                              | with_reducible exact nz.out _ hB9
                              | with_reducible exact nz.out _ hB8)
                            (first
                              | (go_at_call 12; refine (CG.out _ _ D8).mono ?_; rintro e w9 ⟨F9, rfl, t9, s9, k9⟩; have D9 := D8.stepG t9 s9; have hB9 := (k9 X _ _ hB8 HNF.out.2).1; have n9 := (k9 X _ _ hB8 HNF.out.2).2)
                              | (go_at_call 12; refine CF.out.mono ?_; rintro e w8 ⟨F8, rfl, t8, s8, k8⟩; have D8 := HDr.out.stepF t8 s8; have hB8 := (k8 X _ _ HXd.out HNF.out.1).1; have n8 := (k8 X _ _ HXd.out HNF.out.1).2)
                              | fail)
                          have HD9 := hid_mk D9
                          have HX9 := hid_mk hB9
                          have HN9 : Hid (¬ F8 X ∧ ¬ F9 X) := ⟨n8, n9⟩
                          rename_i hHeld
                          clear hHeld t8 s8 D8 t9 s9 D9 k8 k9 hB8 hB9 n8 n9 HDr CF CG HD6 HX HXd x1 x2 x3 x4 x5
                          go_wp2
                          go_meet
                          case rel => exact ⟨F8, F9, _, _, t', by simp, WF', HD9.out, HX9.out, HN9.out⟩
                      · have e4' : (qd == 4) = false := by simpa using e4
                        by_cases e5 : qd = 5
                        · subst e5
                          as_aux_lemma =>
                            obtain ⟨x1, x2, x3, x4, x5⟩ := nz.out _ HX.out
                            have HXd : Hid (Blk w6.drew X 29 #[.int .i64 5, .int .i64 qi, .int .i64 qj, .int .i64 qm, .int .i64 qn, .int .u8 qb]) := HX.out
                            have HDr : Hid (Du w w6.drew F1 Bf G1 t F2 Bg G2 t) := HD6.out.grow ⟨rfl, rfl, rfl, Nat.le_refl _, fun _ _ => rfl⟩
                            have CF : Hid (Calls Try.prog 13 #[.pointer (some ⟨Bf, 0, none⟩), .int .i64 qi, .int .u8 qb] w6.drew fun e w' => ∃ F', e = .returned (.int .i64 (t.emarkR qi qb)) ∧ Tf w' F' Bf G1 (t.emark qi qb) ∧ Step F1 F' w6.drew w' ∧ Kpt F1 F' w6.drew w') := (femark_any HDr.out.f qi qb hwf.le (by omega)).mono fun e w' ⟨F', a, b, c⟩ => ⟨F', a, b, c, c.kpt⟩
                            have CG : Hid (∀ w8 F8, Du w w8 F8 Bf G1 (t.emark qi qb) F2 Bg G2 t → Calls Try.prog 13 #[.pointer (some ⟨Bg, 0, none⟩), .int .i64 qi, .int .u8 qb] w8 fun e w' => ∃ F', e = .returned (.int .i64 (t.emarkR qi qb)) ∧ Tf w' F' Bg G2 (t.emark qi qb) ∧ Step F2 F' w8 w' ∧ Kpt F2 F' w8 w') := fun w8 F8 D8 => (femark_any D8.g qi qb hwf.le (by omega)).mono fun e w' ⟨F', a, b, c⟩ => ⟨F', a, b, c, c.kpt⟩
                            have WF' : (t.emark qi qb).Wf (k + 1) := (hwf.emark qi qb).mono (Nat.le_succ k)
                            generalize t.emarkR qi qb = r at *
                            generalize t.emark qi qb = t' at *
                            clear d0 hwf
                            go_wp2_with fail
                            go_region_held3 (fun w' => w'.cell? ⟨X, 1, none⟩ = some (.int .i64 qi) ∧ w'.cell? ⟨X, 2, none⟩ = some (.int .i64 qj) ∧ w'.cell? ⟨X, 3, none⟩ = some (.int .i64 qm) ∧ w'.cell? ⟨X, 4, none⟩ = some (.int .i64 qn) ∧ w'.cell? ⟨X, 5, none⟩ = some (.int .u8 qb))
                              (first
                                | go_keep
                                | with_reducible exact nz.out _ hB9
                                | with_reducible exact nz.out _ hB8)
                              (first
                                | (go_at_call 13; refine (CG.out _ _ D8).mono ?_; rintro e w9 ⟨F9, rfl, t9, s9, k9⟩; have D9 := D8.stepG t9 s9; have hB9 := (k9 X _ _ hB8 HNF.out.2).1; have n9 := (k9 X _ _ hB8 HNF.out.2).2)
                                | (go_at_call 13; refine CF.out.mono ?_; rintro e w8 ⟨F8, rfl, t8, s8, k8⟩; have D8 := HDr.out.stepF t8 s8; have hB8 := (k8 X _ _ HXd.out HNF.out.1).1; have n8 := (k8 X _ _ HXd.out HNF.out.1).2)
                                | fail)
                            have HD9 := hid_mk D9
                            have HX9 := hid_mk hB9
                            have HN9 : Hid (¬ F8 X ∧ ¬ F9 X) := ⟨n8, n9⟩
                            rename_i hHeld
                            clear hHeld t8 s8 D8 t9 s9 D9 k8 k9 hB8 hB9 n8 n9 HDr CF CG HD6 HX HXd x1 x2 x3 x4 x5
                            go_wp2
                            go_meet
                            case rel => exact ⟨F8, F9, _, _, t', by simp, WF', HD9.out, HX9.out, HN9.out⟩
                        · have e5' : (qd == 5) = false := by simpa using e5
                          by_cases e6 : qd = 6
                          · subst e6
                            as_aux_lemma =>
                              obtain ⟨x1, x2, x3, x4, x5⟩ := nz.out _ HX.out
                              have HXd : Hid (Blk w6.drew X 29 #[.int .i64 6, .int .i64 qi, .int .i64 qj, .int .i64 qm, .int .i64 qn, .int .u8 qb]) := HX.out
                              have HDr : Hid (Du w w6.drew F1 Bf G1 t F2 Bg G2 t) := HD6.out.grow ⟨rfl, rfl, rfl, Nat.le_refl _, fun _ _ => rfl⟩
                              have CF : Hid (Calls Try.prog 14 #[.pointer (some ⟨Bf, 0, none⟩), .int .i64 qi] w6.drew fun e w' => ∃ F', e = .returned (.int .i64 (t.dropR qi)) ∧ Tf w' F' Bf G1 (t.drop qi) ∧ Step F1 F' w6.drew w' ∧ Kpt F1 F' w6.drew w') := (fdrop_any HDr.out.f qi hwf.le (by omega)).mono fun e w' ⟨F', a, b, c⟩ => ⟨F', a, b, c, c.kpt⟩
                              have CG : Hid (∀ w8 F8, Du w w8 F8 Bf G1 (t.drop qi) F2 Bg G2 t → Calls Try.prog 14 #[.pointer (some ⟨Bg, 0, none⟩), .int .i64 qi] w8 fun e w' => ∃ F', e = .returned (.int .i64 (t.dropR qi)) ∧ Tf w' F' Bg G2 (t.drop qi) ∧ Step F2 F' w8 w' ∧ Kpt F2 F' w8 w') := fun w8 F8 D8 => (fdrop_any D8.g qi hwf.le (by omega)).mono fun e w' ⟨F', a, b, c⟩ => ⟨F', a, b, c, c.kpt⟩
                              have WF' : (t.drop qi).Wf (k + 1) := hwf.drop qi
                              generalize t.dropR qi = r at *
                              generalize t.drop qi = t' at *
                              clear d0 hwf
                              go_wp2_with fail
                              go_region_held3 (fun w' => w'.cell? ⟨X, 1, none⟩ = some (.int .i64 qi) ∧ w'.cell? ⟨X, 2, none⟩ = some (.int .i64 qj) ∧ w'.cell? ⟨X, 3, none⟩ = some (.int .i64 qm) ∧ w'.cell? ⟨X, 4, none⟩ = some (.int .i64 qn) ∧ w'.cell? ⟨X, 5, none⟩ = some (.int .u8 qb))
                                (first
                                  | go_keep
                                  | with_reducible exact nz.out _ hB9
                                  | with_reducible exact nz.out _ hB8)
                                (first
                                  | (go_at_call 14; refine (CG.out _ _ D8).mono ?_; rintro e w9 ⟨F9, rfl, t9, s9, k9⟩; have D9 := D8.stepG t9 s9; have hB9 := (k9 X _ _ hB8 HNF.out.2).1; have n9 := (k9 X _ _ hB8 HNF.out.2).2)
                                  | (go_at_call 14; refine CF.out.mono ?_; rintro e w8 ⟨F8, rfl, t8, s8, k8⟩; have D8 := HDr.out.stepF t8 s8; have hB8 := (k8 X _ _ HXd.out HNF.out.1).1; have n8 := (k8 X _ _ HXd.out HNF.out.1).2)
                                  | fail)
                              have HD9 := hid_mk D9
                              have HX9 := hid_mk hB9
                              have HN9 : Hid (¬ F8 X ∧ ¬ F9 X) := ⟨n8, n9⟩
                              rename_i hHeld
                              clear hHeld t8 s8 D8 t9 s9 D9 k8 k9 hB8 hB9 n8 n9 HDr CF CG HD6 HX HXd x1 x2 x3 x4 x5
                              go_wp2
                              go_meet
                              case rel => exact ⟨F8, F9, _, _, t', by simp, WF', HD9.out, HX9.out, HN9.out⟩
                          · have e6' : (qd == 6) = false := by simpa using e6
                            clear nz
                            go_wp2
                            go_meet
                            case rel => exact ⟨F1, F2, _, _, t, by simp, hwf.mono (Nat.le_succ k), HD6.out, HX.out, HNF.out⟩
            case rest =>
              obtain ⟨F3, F4, G3, G4, t', rfl, hwf', HD3, HX3, HN3⟩ := hcut
              clear HD6 HX HNF d0 hwf
              as_aux_lemma =>
                obtain ⟨x1, x2, x3, x4, x5⟩ := nz.out _ HX3.out
                have hp1 := (hwf'.find hk1 qi (vmk bits)).1
                have hp2 := (hwf'.find hk1 qi (emk bits)).2
                have hv := vmk_bd bits
                have hm' := emk_bd bits
                have C1 := hid_mk (ffindV_any HD3.out.f qi bits hv hp1 hwf'.le hk1)
                generalize hz1 : (t'.find qi (vmk bits)).1 = z1 at C1
                go_wp2_with fail
                refine C1.out.mono ?_
                rintro e u1w ⟨rfl, hb⟩
                have HDa1 := hid_mk (HD3.out.grow hb)
                have HXa1 := hid_mk (HX3.out.below hb)
                obtain ⟨y1, y2, _, _, _⟩ := nz.out _ HXa1.out
                clear hb HD3 HX3 C1 x1 x2 x3 x4 x5
                have x1 := y1
                have x2 := y2
                clear y1 y2
                have C2 := hid_mk (ffindV_any HDa1.out.g qi bits hv hp1 hwf'.le hk1)
                generalize hz2 : (t'.find qi (vmk bits)).1 = z2 at C2
                go_wp2_with fail
                refine C2.out.mono ?_
                rintro e u2w ⟨rfl, hb⟩
                have HDa2 := hid_mk (HDa1.out.grow hb)
                have HXa2 := hid_mk (HXa1.out.below hb)
                obtain ⟨y1, y2, _, _, _⟩ := nz.out _ HXa2.out
                clear hb HDa1 HXa1 C2 x1 x2
                have x1 := y1
                have x2 := y2
                clear y1 y2
                have C3 := hid_mk (ffindE_any HDa2.out.f qi bits hm' hp2 hwf'.le hk1)
                generalize hz3 : (t'.find qi (emk bits)).2 = z3 at C3
                go_wp2_with fail
                refine C3.out.mono ?_
                rintro e u3w ⟨rfl, hb⟩
                have HDa3 := hid_mk (HDa2.out.grow hb)
                have HXa3 := hid_mk (HXa2.out.below hb)
                obtain ⟨y1, y2, _, _, _⟩ := nz.out _ HXa3.out
                clear hb HDa2 HXa2 C3 x1 x2
                have x1 := y1
                have x2 := y2
                clear y1 y2
                have C4 := hid_mk (ffindE_any HDa3.out.g qi bits hm' hp2 hwf'.le hk1)
                generalize hz4 : (t'.find qi (emk bits)).2 = z4 at C4
                go_wp2_with fail
                refine C4.out.mono ?_
                rintro e u4w ⟨rfl, hb⟩
                have HDa4 := hid_mk (HDa3.out.grow hb)
                have HXa4 := hid_mk (HXa3.out.below hb)
                obtain ⟨y1, y2, _, _, _⟩ := nz.out _ HXa4.out
                clear hb HDa3 HXa3 C4 x1 x2
                have x1 := y1
                have x2 := y2
                clear y1 y2
                have hz12 : z1 = z2 := hz1.symm.trans hz2
                have hz34 : z3 = z4 := hz3.symm.trans hz4
                subst hz12 hz34
                clear hz1 hz2 hz3 hz4
                have hXl := HXa4.out.lt
                have gx1 : ∀ g : Grow u4w, g.w.cell? ⟨X, 1, none⟩ = some (.int .i64 qi) := Grow.cell hXl x1
                have gx2 : ∀ g : Grow u4w, g.w.cell? ⟨X, 2, none⟩ = some (.int .i64 qj) := Grow.cell hXl x2
                have hne := Grow.ne u4w
                have Rc : Hid (∀ (g : Grow u4w) (xs : Array Value), (xs = #[.pointer (some ⟨Bf, 0, none⟩), .int .i64 qi] ∨ xs = #[.pointer (some ⟨Bg, 0, none⟩), .int .i64 qi]) → Calls Try.prog 17 xs g.w fun e w' => e = .returned (.int .i64 (t'.total qi).c) ∧ Below g.w.heap.size g.w w') := fun g xs hx => by
                  rcases hx with rfl | rfl
                  · exact fsize_any (HDa4.out.f.below g.h) qi hwf'.le hk1
                  · exact fsize_any (HDa4.out.g.below g.h) qi hwf'.le hk1
                generalize (t'.total qi).c = vc at Rc
                have Rs : Hid (∀ (g : Grow u4w) (xs : Array Value), (xs = #[.pointer (some ⟨Bf, 0, none⟩), .int .i64 qi] ∨ xs = #[.pointer (some ⟨Bg, 0, none⟩), .int .i64 qi]) → Calls Try.prog 18 xs g.w fun e w' => e = .returned (.int .i64 (t'.total qi).s) ∧ Below g.w.heap.size g.w w') := fun g xs hx => by
                  rcases hx with rfl | rfl
                  · exact fsum_any (HDa4.out.f.below g.h) qi hwf'.le hk1
                  · exact fsum_any (HDa4.out.g.below g.h) qi hwf'.le hk1
                generalize (t'.total qi).s = vs at Rs
                have Rl : Hid (∀ (g : Grow u4w) (xs : Array Value), (xs = #[.pointer (some ⟨Bf, 0, none⟩), .int .i64 qi] ∨ xs = #[.pointer (some ⟨Bg, 0, none⟩), .int .i64 qi]) → Calls Try.prog 19 xs g.w fun e w' => e = .returned (.int .i64 (t'.total qi).l) ∧ Below g.w.heap.size g.w w') := fun g xs hx => by
                  rcases hx with rfl | rfl
                  · exact fleast_any (HDa4.out.f.below g.h) qi hwf'.le hk1
                  · exact fleast_any (HDa4.out.g.below g.h) qi hwf'.le hk1
                generalize (t'.total qi).l = vl at Rl
                have Rm : Hid (∀ (g : Grow u4w) (xs : Array Value), (xs = #[.pointer (some ⟨Bf, 0, none⟩), .int .i64 qi, .int .i64 qj] ∨ xs = #[.pointer (some ⟨Bg, 0, none⟩), .int .i64 qi, .int .i64 qj]) → Calls Try.prog 20 xs g.w fun e w' => e = .returned (.bool (t'.same qi qj)) ∧ Below g.w.heap.size g.w w') := fun g xs hx => by
                  rcases hx with rfl | rfl
                  · exact fsame_any (HDa4.out.f.below g.h) qi qj hwf'.le hk1
                  · exact fsame_any (HDa4.out.g.below g.h) qi qj hwf'.le hk1
                generalize t'.same qi qj = vm at Rm
                go_wp2_with fail
                refine wp_region_grow (by kernel_rfl) (by kernel_rfl) ?_
                try simp only [List.append_eq, List.cons_append, List.nil_append]
                repeat (go_big_quiet_step (first
                  | (go_at_call 17; exact grow_call (Rc.out _ _ (by first | exact .inl rfl | exact .inr rfl)))
                  | (go_at_call 18; exact grow_call (Rs.out _ _ (by first | exact .inl rfl | exact .inr rfl)))
                  | (go_at_call 19; exact grow_call (Rl.out _ _ (by first | exact .inl rfl | exact .inr rfl)))
                  | (go_at_call 20; exact grow_call (Rm.out _ _ (by first | exact .inl rfl | exact .inr rfl)))
                  | fail))
                refine wpQuiet_nil ?_
                rintro w7 ⟨⟨_, hb7⟩, rfl⟩
                have HD7 := hid_mk (HDa4.out.grow hb7)
                clear hb7 gx1 gx2 hne Rc Rs Rl Rm x1 x2 HDa4 HXa4
                go_wp2
                go_roundw
                case rel => exact ⟨k + 1, t', F3, F4, G3, G4, by go_num, by omega, hwf', HD7.out⟩
                case measure => simp [intOf]; omega
        · have hlti : ¬ (k : Int) < (m : Int) := by omega
          have HBk := hid_mk HD.out.below
          clear HD
          go_wp2
          go_ret
          exact ⟨rfl, HBk.out⟩
end Go.Proofs.Ytpbnhbpkfdhedab
