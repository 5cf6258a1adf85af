/- Layer 6's statement TreapDraws. -/
import Derived.Test.YtaoeifeiendfhaaTreapDuo
import Derived.Deep.RegionHeld3
import Derived.Deep.CutRange
import Derived.Deep.CutBlock
namespace Go.Proofs.Ytaoeifeiendfhaa
open Go.RowKit
set_option linter.unusedVariables false

theorem Duo.drewN {w wr : World} {Ff Fg : Nat → Prop} {Bf Bg : Nat} {s t : Sq} (h : Duo w wr Ff Bf s Fg Bg t) (n : Nat) : Duo w (wr.drewN n) Ff Bf s Fg Bg t := h.grow ⟨rfl, rfl, rfl, Nat.le_refl _, fun _ _ => rfl⟩
set_option maxRecDepth 100000 in
set_option maxHeartbeats 8000000 in
theorem tdraws_walk (ao : Option Addr) (ca : Nat) (xs : List Int) (bo : Option Addr) (cb : Nat) (ys : List Int) (qo : Option Addr) (cq : Nat) (qs : List A6.Ac) (mask : Int) (w : World)
    (ha : UAt w ao xs) (hwa : Wu xs) (hla : xs.length ≤ 9223372036854775807) (hb : UAt w bo ys) (hwb : Wu ys) (hlb : ys.length ≤ 9223372036854775807) (hq : A6.AcAt w qo qs) (hlq : qs.length ≤ 9223372036854775807) (hmk : 0 ≤ mask ∧ mask ≤ 255) :
    Calls Try.prog 7 #[.slice ao xs.length ca, .slice bo ys.length cb, .slice qo qs.length cq, .int .u8 mask] w fun e w' => e = .returned (.bool true) ∧ Below w.heap.size w w' := by
  have HA : Hid (UAt w ao xs ∧ Wu xs) := ⟨ha, hwa⟩
  have HBb : Hid (UAt w bo ys ∧ Wu ys) := ⟨hb, hwb⟩
  have HQ : Hid (A6.AcAt w qo qs) := hq
  have hfl := eqVal
  clear ha hwa hb hwb hq
  obtain ⟨m, hm⟩ : ∃ m, m = qs.length := ⟨_, rfl⟩
  have HM : Hid (qs.length = m) := hm.symm
  obtain ⟨na, hna⟩ : ∃ m, m = xs.length := ⟨_, rfl⟩
  have HNA : Hid (xs.length = na) := hna.symm
  obtain ⟨nb, hnb⟩ : ∃ m, m = ys.length := ⟨_, rfl⟩
  have HNB : Hid (ys.length = nb) := hnb.symm
  rw [← hm] at hlq ⊢
  rw [← hna] at hla ⊢
  rw [← hnb] at hlb ⊢
  clear hm hna hnb
  go_enter Try.func7, Try.ntmps7
  go_wp2_with fail
  refine (tawake_any w).mono ?_
  rintro e w1 ⟨rfl, hb1⟩
  have HW1 : Hid (Below w.heap.size w w1) := hb1
  clear hb1
  go_wp2_with fail
  refine (tgreat_any ao ca na qo cq m qs w1 HM.out hlq hla (HQ.out.below HW1.out)).mono ?_
  rintro e w2 ⟨g1, rfl, hg1, hb2⟩
  have HW2 : Hid (Below w.heap.size w w2) := HW1.out.trans (hb2.mono HW1.out.size)
  clear hb2 HW1
  cases g1 with
  | true =>
    go_wp2
    go_ret
    exact ⟨rfl, HW2.out⟩
  | false =>
    obtain ⟨hm2, hna2⟩ := hg1 rfl
    clear hg1
    go_wp2_with fail
    refine (tgreat_any bo cb nb none 0 0 [] w2 rfl (by omega) hlb (.inl rfl)).mono ?_
    rintro e w3 ⟨g2, rfl, hg2, hb3⟩
    have HW3 : Hid (Below w.heap.size w w3) := HW2.out.trans (hb3.mono HW2.out.size)
    clear hb3 HW2
    cases g2 with
    | true =>
      go_wp2
      go_ret
      exact ⟨rfl, HW3.out⟩
    | false =>
      clear hg2
      go_wp2_with fail
      have hM1 := made_any ao ca xs w3 (HA.out.1.below HW3.out) HA.out.2 (by rw [HNA.out]; exact hla)
      rw [HNA.out] at hM1
      refine hM1.mono ?_
      rintro e w4 ⟨Bf, Ff, rfl, hT, hF, hb4⟩
      have HW4 : Hid (Below w.heap.size w w4) := HW3.out.trans (hb4.mono HW3.out.size)
      have HTf : Hid (Ts w4 Ff Bf sq0) := hT
      have HFf : Hid (∀ k, Ff k → w.heap.size ≤ k) := fun k hk => Nat.le_trans HW3.out.size (hF k hk)
      clear hT hF hb4 HW3 hM1
      go_wp2_with fail
      have hM2 := made_any bo cb ys w4 (HBb.out.1.below HW4.out) HBb.out.2 (by rw [HNB.out]; exact hlb)
      rw [HNB.out] at hM2
      refine hM2.mono ?_
      rintro e w5 ⟨Bg, Fg, rfl, hT, hF, hb5⟩
      have HD0 : Hid (Duo w w5 Ff Bf sq0 Fg Bg sq0) := ⟨HTf.out.below hb5, hT, fun k a b => by have := HTf.out.lt k a; have := hF k b; omega, HFf.out, fun k hk => Nat.le_trans HW4.out.size (hF k hk), HW4.out.trans (hb5.mono HW4.out.size)⟩
      clear hT hF hb5 HW4 HTf HFf hM2 HA HBb
      go_wp2
      go_loopw [11] (fun vk wr => ∃ (k : Nat) (s : Sq) (F1 F2 : Nat → Prop), vk = .int .i64 k ∧ k ≤ m ∧ s.le k ∧ Hid (Duo w wr F1 Bf s F2 Bg s)) (fun vk _ => m - (intOf vk).toNat)
      case atStart => exact ⟨0, sq0, Ff, Fg, rfl, Nat.zero_le _, ⟨Nat.le_refl _, Nat.le_refl _⟩, HD0.out⟩
      case round =>
        obtain ⟨k, s, F1, F2, rfl, hkm, hle, HD⟩ := hrel
        by_cases hlt : k < m
        · rcases HQ.out with h | ⟨b, off, rfl, hbl, hc⟩
          · have := HM.out; rw [h] at this; simp at this; omega
          · obtain ⟨c0, c1, c2, c3, c4, c5, c6⟩ := (hc k (by rw [HM.out]; exact hlt)).1
            clear hc
            have hBw := HD.out.below
            replace c0 := (hBw.cell (p := ⟨b, _, none⟩) hbl).trans c0
            replace c1 := (hBw.cell (p := ⟨b, _, none⟩) hbl).trans c1
            replace c2 := (hBw.cell (p := ⟨b, _, none⟩) hbl).trans c2
            replace c3 := (hBw.cell (p := ⟨b, _, none⟩) hbl).trans c3
            replace c4 := (hBw.cell (p := ⟨b, _, none⟩) hbl).trans c4
            replace c5 := (hBw.cell (p := ⟨b, _, none⟩) hbl).trans c5
            replace c6 := (hBw.cell (p := ⟨b, _, none⟩) hbl).trans c6
            have hlti : (k : Int) < (m : Int) := by omega
            generalize (A6.aAt qs k).d = qd at *
            generalize (A6.aAt qs k).i = qi at *
            generalize (A6.aAt qs k).j = qj at *
            generalize (A6.aAt qs k).c = xc at *
            generalize (A6.aAt qs k).s = xs' at *
            generalize (A6.aAt qs k).l = xl at *
            generalize (A6.aAt qs k).m = xm at *
            have hb6 := (Below.refl wr.heap.size wr).alloc (Nat.le_refl _) (.cells #[.int .i64 qd, .int .i64 qi, .int .i64 qj, .int .i64 xc, .int .i64 xs', .int .i64 xl, .int .u8 xm] 57)
            have HX : Hid (Blk (wr.alloc (.cells #[.int .i64 qd, .int .i64 qi, .int .i64 qj, .int .i64 xc, .int .i64 xs', .int .i64 xl, .int .u8 xm] 57)) wr.heap.size 57 #[.int .i64 qd, .int .i64 qi, .int .i64 qj, .int .i64 xc, .int .i64 xs', .int .i64 xl, .int .u8 xm]) := Blk.new wr _ _
            have HD6 : Hid (Duo w (wr.alloc (.cells #[.int .i64 qd, .int .i64 qi, .int .i64 qj, .int .i64 xc, .int .i64 xs', .int .i64 xl, .int .u8 xm] 57)) F1 Bf s F2 Bg s) := HD.out.grow hb6
            have HNF : Hid (¬ F1 wr.heap.size ∧ ¬ F2 wr.heap.size) := ⟨fun h => by have := HD.out.f.lt _ h; omega, fun h => by have := HD.out.g.lt _ h; omega⟩
            clear hb6 HD hBw
            go_wp2_with fail
            generalize wr.alloc (.cells #[.int .i64 qd, .int .i64 qi, .int .i64 qj, .int .i64 xc, .int .i64 xs', .int .i64 xl, .int .u8 xm] 57) = w6 at *
            generalize wr.heap.size = X at *
            clear c0 c1 c2 c3 c4 c5 c6
            have hXl := HX.out.lt
            have gx1 : ∀ g : Grow w6, g.w.cell? ⟨X, 1, none⟩ = some (.int .i64 qi) := Grow.cell hXl (HX.out.at (j := 1) rfl)
            have gx2 : ∀ g : Grow w6, g.w.cell? ⟨X, 2, none⟩ = some (.int .i64 qj) := Grow.cell hXl (HX.out.at (j := 2) rfl)
            have hne := Grow.ne w6
            have HNum : Hid (∀ (g : Grow w6) (i : Int), Calls Try.prog 38 #[.int .i64 i] g.w fun e w' => e = .returned (.int .i32 (numI i)) ∧ Below g.w.heap.size g.w w') := fun g i => (number6_any i _).mono fun e w' ⟨h1, h2⟩ => ⟨h1, by rw [h2]; exact Below.refl _ _⟩
            refine wp_region_grow (by kernel_rfl) (by kernel_rfl) ?_
            repeat (go_big_quiet_step ((go_at_call 38; exact grow_call (HNum.out _ _))))
            refine wpQuiet_nil ?_
            rintro w7 ⟨⟨_, hb7⟩, rfl⟩
            have HX7 : Hid (Blk w7 X 57 #[.int .i64 qd, .int .i64 qi, .int .i64 qj, .int .i64 xc, .int .i64 xs', .int .i64 xl, .int .u8 xm]) := HX.out.below hb7
            have HD7 : Hid (Duo w w7 F1 Bf s F2 Bg s) := HD6.out.grow hb7
            have hiB := numI_bd qi
            have hjB := numI_bd qj
            clear HX HD6 hb7 gx1 gx2 hne HNum hXl
            generalize numI qi = I at *
            generalize numI qj = J at *
            have d0 := HX7.out.at (j := 0) rfl
            go_upto_block 2 with fail
            go_cut [15] from 29 to 169 (fun vok wc => ∃ (F1' F2' : Nat → Prop) (s' : Sq), vok = .bool true ∧ s'.le (k + 1) ∧ Hid (Duo w wc F1' Bf s' F2' Bg s'))
            case first =>
              clear d0
              by_cases e0 : qd = 0
              · subst e0
                have HDr : Hid (Duo w w7.drew F1 Bf s F2 Bg s) := HD7.out.grow ⟨rfl, rfl, rfl, Nat.le_refl _, fun _ _ => rfl⟩
                go_wp2_with fail
                have hXl := HX7.out.lt
                have y3 := HX7.out.at (j := 3) rfl
                have y4 := HX7.out.at (j := 4) rfl
                have y5 := HX7.out.at (j := 5) rfl
                have y6 := HX7.out.at (j := 6) rfl
                have CF : Hid (Calls Try.prog 17 #[.pointer (some ⟨Bf, 0, none⟩), .agg #[.int .i64 xc, .int .i64 xs', .int .i64 xl, .int .u8 xm]] w7.drew fun e w' => ∃ F', e = .returned (.int .i32 (newI s.K s.fr)) ∧ Ts w' F' Bf (s.make ⟨xc, xs', xl, xm⟩) ∧ Step F1 F' w7.drew w') := smake_any HDr.out.f ⟨xc, xs', xl, xm⟩ hle (by omega)
                have CG : Hid (∀ w8 F8, Duo w w8 F8 Bf (s.make ⟨xc, xs', xl, xm⟩) F2 Bg s → Calls Try.prog 17 #[.pointer (some ⟨Bg, 0, none⟩), .agg #[.int .i64 xc, .int .i64 xs', .int .i64 xl, .int .u8 xm]] w8 fun e w' => ∃ F', e = .returned (.int .i32 (newI s.K s.fr)) ∧ Ts w' F' Bg (s.make ⟨xc, xs', xl, xm⟩) ∧ Step F2 F' w8 w') := fun w8 F8 D8 => smake_any D8.g ⟨xc, xs', xl, xm⟩ hle (by omega)
                go_region_held3 (fun w' => w'.cell? ⟨X, 3, none⟩ = some (.int .i64 xc) ∧ w'.cell? ⟨X, 4, none⟩ = some (.int .i64 xs') ∧ w'.cell? ⟨X, 5, none⟩ = some (.int .i64 xl) ∧ w'.cell? ⟨X, 6, none⟩ = some (.int .u8 xm))
                  (first
                    | go_keep
                    | exact ⟨(s9.cell hX8 HNF.out.2).trans ((s8.cell hXl HNF.out.1).trans y3), (s9.cell hX8 HNF.out.2).trans ((s8.cell hXl HNF.out.1).trans y4), (s9.cell hX8 HNF.out.2).trans ((s8.cell hXl HNF.out.1).trans y5), (s9.cell hX8 HNF.out.2).trans ((s8.cell hXl HNF.out.1).trans y6)⟩
                    | exact ⟨(s8.cell hXl HNF.out.1).trans y3, (s8.cell hXl HNF.out.1).trans y4, (s8.cell hXl HNF.out.1).trans y5, (s8.cell hXl HNF.out.1).trans y6⟩)
                  (first
                    | (go_at_call 17; refine (CG.out _ _ D8).mono ?_; rintro e w9 ⟨F9, rfl, t9, s9⟩; have D9 := D8.stepG t9 s9)
                    | (go_at_call 17; refine CF.out.mono ?_; rintro e w8 ⟨F8, rfl, t8, s8⟩; have hX8 : X < w8.heap.size := Nat.lt_of_lt_of_le hXl s8.size; have D8 := HDr.out.stepF t8 s8)
                    | skip)
                have HD9 : Hid (Duo w w9 F8 Bf (s.make ⟨xc, xs', xl, xm⟩) F9 Bg (s.make ⟨xc, xs', xl, xm⟩)) := D9
                rename_i hHeld
                clear hHeld t8 s8 D8 t9 s9 D9 HDr CF CG HD7 HX7 y3 y4 y5 y6
                go_wp2
                go_meet
                case rel => exact ⟨F8, F9, s.make ⟨xc, xs', xl, xm⟩, by simp, Sq.le_make hle _, HD9.out⟩
              · have e0' : (qd == 0) = false := by simpa using e0
                by_cases e1 : qd = 1
                · subst e1
                  go_wp2_with fail
                  refine (sjoin_any HD7.out.f I J hiB hjB).mono ?_
                  rintro e w8 ⟨F8, rfl, t8, s8⟩
                  have HD8 : Hid (Duo w w8 F8 Bf (s.join I J) F2 Bg s) := HD7.out.stepF t8 s8
                  clear t8 s8 HD7 HX7
                  go_wp2_with fail
                  refine (sjoin_any HD8.out.g I J hiB hjB).mono ?_
                  rintro e w9 ⟨F9, rfl, t9, s9⟩
                  have HD9 : Hid (Duo w w9 F8 Bf (s.join I J) F9 Bg (s.join I J)) := HD8.out.stepG t9 s9
                  clear t9 s9 HD8
                  go_wp2
                  go_meet
                  case rel => exact ⟨F8, F9, s.join I J, by simp, Sq.le_mono (Sq.le_join hle I J) (by omega), HD9.out⟩
                · have e1' : (qd == 1) = false := by simpa using e1
                  by_cases e2 : qd = 2
                  · subst e2
                    go_wp2_with fail
                    refine (scut_any HD7.out.f I hiB).mono ?_
                    rintro e w8 ⟨F8, rfl, t8, s8⟩
                    have HD8 : Hid (Duo w w8 F8 Bf (s.cut I) F2 Bg s) := HD7.out.stepF t8 s8
                    clear t8 s8 HD7 HX7
                    go_wp2_with fail
                    refine (scut_any HD8.out.g I hiB).mono ?_
                    rintro e w9 ⟨F9, rfl, t9, s9⟩
                    have HD9 : Hid (Duo w w9 F8 Bf (s.cut I) F9 Bg (s.cut I)) := HD8.out.stepG t9 s9
                    clear t9 s9 HD8
                    go_wp2
                    go_meet
                    case rel => exact ⟨F8, F9, s.cut I, by simp, Sq.le_mono (Sq.le_cut hle I) (by omega), HD9.out⟩
                  · have e2' : (qd == 2) = false := by simpa using e2
                    by_cases e3 : qd = 3
                    · subst e3
                      have HDr : Hid (Duo w w7.drew F1 Bf s F2 Bg s) := HD7.out.grow ⟨rfl, rfl, rfl, Nat.le_refl _, fun _ _ => rfl⟩
                      go_wp2_with fail
                      have hXl := HX7.out.lt
                      have y3 := HX7.out.at (j := 3) rfl
                      have y4 := HX7.out.at (j := 4) rfl
                      have y5 := HX7.out.at (j := 5) rfl
                      have y6 := HX7.out.at (j := 6) rfl
                      have CF : Hid (Calls Try.prog 30 #[.pointer (some ⟨Bf, 0, none⟩), .int .i32 I, .agg #[.int .i64 xc, .int .i64 xs', .int .i64 xl, .int .u8 xm]] w7.drew fun e w' => ∃ F', e = .returned (.bool (isK s.K I)) ∧ Ts w' F' Bf (s.set I ⟨xc, xs', xl, xm⟩) ∧ Step F1 F' w7.drew w') := sset_any HDr.out.f I ⟨xc, xs', xl, xm⟩ hiB
                      have CG : Hid (∀ w8 F8, Duo w w8 F8 Bf (s.set I ⟨xc, xs', xl, xm⟩) F2 Bg s → Calls Try.prog 30 #[.pointer (some ⟨Bg, 0, none⟩), .int .i32 I, .agg #[.int .i64 xc, .int .i64 xs', .int .i64 xl, .int .u8 xm]] w8 fun e w' => ∃ F', e = .returned (.bool (isK s.K I)) ∧ Ts w' F' Bg (s.set I ⟨xc, xs', xl, xm⟩) ∧ Step F2 F' w8 w') := fun w8 F8 D8 => sset_any D8.g I ⟨xc, xs', xl, xm⟩ hiB
                      go_region_held3 (fun w' => w'.cell? ⟨X, 3, none⟩ = some (.int .i64 xc) ∧ w'.cell? ⟨X, 4, none⟩ = some (.int .i64 xs') ∧ w'.cell? ⟨X, 5, none⟩ = some (.int .i64 xl) ∧ w'.cell? ⟨X, 6, none⟩ = some (.int .u8 xm))
                        (first
                          | go_keep
                          | exact ⟨(s9.cell hX8 HNF.out.2).trans ((s8.cell hXl HNF.out.1).trans y3), (s9.cell hX8 HNF.out.2).trans ((s8.cell hXl HNF.out.1).trans y4), (s9.cell hX8 HNF.out.2).trans ((s8.cell hXl HNF.out.1).trans y5), (s9.cell hX8 HNF.out.2).trans ((s8.cell hXl HNF.out.1).trans y6)⟩
                          | exact ⟨(s8.cell hXl HNF.out.1).trans y3, (s8.cell hXl HNF.out.1).trans y4, (s8.cell hXl HNF.out.1).trans y5, (s8.cell hXl HNF.out.1).trans y6⟩)
                        (first
                          | (go_at_call 30; refine (CG.out _ _ D8).mono ?_; rintro e w9 ⟨F9, rfl, t9, s9⟩; have D9 := D8.stepG t9 s9)
                          | (go_at_call 30; refine CF.out.mono ?_; rintro e w8 ⟨F8, rfl, t8, s8⟩; have hX8 : X < w8.heap.size := Nat.lt_of_lt_of_le hXl s8.size; have D8 := HDr.out.stepF t8 s8)
                          | skip)
                      have HD9 : Hid (Duo w w9 F8 Bf (s.set I ⟨xc, xs', xl, xm⟩) F9 Bg (s.set I ⟨xc, xs', xl, xm⟩)) := D9
                      rename_i hHeld
                      clear hHeld t8 s8 D8 t9 s9 D9 HDr CF CG HD7 HX7 y3 y4 y5 y6
                      go_wp2
                      go_meet
                      case rel => exact ⟨F8, F9, s.set I ⟨xc, xs', xl, xm⟩, by simp, Sq.le_mono (Sq.le_set hle I _) (by omega), HD9.out⟩
                    · have e3' : (qd == 3) = false := by simpa using e3
                      by_cases e4 : qd = 4
                      · subst e4
                        go_wp2_with fail
                        refine (sfree_any HD7.out.f I hiB).mono ?_
                        rintro e w8 ⟨F8, rfl, t8, s8⟩
                        have HD8 : Hid (Duo w w8 F8 Bf (s.free I) F2 Bg s) := HD7.out.stepF t8 s8
                        clear t8 s8 HD7 HX7
                        go_wp2_with fail
                        refine (sfree_any HD8.out.g I hiB).mono ?_
                        rintro e w9 ⟨F9, rfl, t9, s9⟩
                        have HD9 : Hid (Duo w w9 F8 Bf (s.free I) F9 Bg (s.free I)) := HD8.out.stepG t9 s9
                        clear t9 s9 HD8
                        go_wp2
                        go_meet
                        case rel => exact ⟨F8, F9, s.free I, by simp, Sq.le_mono (Sq.le_free hle I) (by omega), HD9.out⟩
                      · have e4' : (qd == 4) = false := by simpa using e4
                        go_wp2
                        go_meet
                        case rel => exact ⟨F1, F2, s, rfl, Sq.le_mono hle (by omega), HD7.out⟩
            case rest =>
              obtain ⟨G1, G2, s', rfl, hle', HDc⟩ := hcut
              clear HX7 HD7 HNF d0 hle
              go_wp2_with fail
              refine (tplace_any HDc.out.f I hiB).mono ?_
              rintro e wc1 ⟨rfl, rfl⟩
              go_wp2_with fail
              refine (tplace_any HDc.out.g I hiB).mono ?_
              rintro e wc2 ⟨rfl, rfl⟩
              go_wp2_with fail
              refine (tsize_any HDc.out.f I hiB).mono ?_
              rintro e wc3 ⟨rfl, rfl⟩
              go_wp2_with fail
              refine (tsize_any HDc.out.g I hiB).mono ?_
              rintro e wc4 ⟨rfl, rfl⟩
              go_wp2_with fail
              refine (ttotal_any HDc.out.f I hiB).mono ?_
              rintro e wd1 ⟨rfl, hbd1⟩
              have HDd : Hid (Duo w wd1 G1 Bf s' G2 Bg s') := HDc.out.grow hbd1
              clear hbd1 HDc
              go_wp2_with fail
              refine (ttotal_any HDd.out.g I hiB).mono ?_
              rintro e wd2 ⟨rfl, hbd2⟩
              have HDe : Hid (Duo w wd2 G1 Bf s' G2 Bg s') := HDd.out.grow hbd2
              clear hbd2 HDd
              go_wp2_with fail
              refine (tfirst_any HDe.out.f I hiB).mono ?_
              rintro e wd3 ⟨rfl, rfl⟩
              go_wp2_with fail
              refine (tfirst_any HDe.out.g I hiB).mono ?_
              rintro e wd4 ⟨rfl, rfl⟩
              go_wp2_with fail
              refine (tfind_any HDe.out.f I mask hiB hmk).mono ?_
              rintro e we1 ⟨rfl, hbe1⟩
              have HDf : Hid (Duo w we1 G1 Bf s' G2 Bg s') := HDe.out.grow hbe1
              clear hbe1 HDe
              go_wp2_with fail
              refine (tfind_any HDf.out.g I mask hiB hmk).mono ?_
              rintro e we2 ⟨rfl, hbe2⟩
              have HDg : Hid (Duo w we2 G1 Bf s' G2 Bg s') := HDf.out.grow hbe2
              clear hbe2 HDf
              go_wp2_with fail
              refine (tsame_any HDg.out.f I J hiB hjB).mono ?_
              rintro e we3 ⟨rfl, rfl⟩
              go_wp2_with fail
              refine (tsame_any HDg.out.g I J hiB hjB).mono ?_
              rintro e we4 ⟨rfl, rfl⟩
              have hlS : (s'.S I).length ≤ 1000 := by have := HDg.out.f.len I; have := hle'.1; omega
              go_wp2_with fail
              refine (twalk_any HDg.out.f I hiB hlS).mono ?_
              rintro e wf1 ⟨p1, q1, rfl, hn1, hbf1⟩
              have HDh : Hid (Duo w wf1 G1 Bf s' G2 Bg s') := HDg.out.grow hbf1
              have HN1 : Hid (NAt .i64 wf1 p1 (s'.S I)) := hn1
              clear hn1 hbf1 HDg
              go_wp2_with fail
              refine (twalk_any HDh.out.g I hiB hlS).mono ?_
              rintro e wf2 ⟨p2, q2, rfl, hn2, hbf2⟩
              have HDi : Hid (Duo w wf2 G1 Bf s' G2 Bg s') := HDh.out.grow hbf2
              have HN1' : Hid (NAt .i64 wf2 p1 (s'.S I)) := HN1.out.below hbf2
              have HN2 : Hid (NAt .i64 wf2 p2 (s'.S I)) := hn2
              clear hn2 hbf2 HDh HN1
              go_wp2_with fail
              refine (same6_any HN1'.out HN2.out (by omega) (by omega)).mono ?_
              rintro e wf3 ⟨rfl, hbf3⟩
              rw [show decide (s'.S I = s'.S I) = true by simp]
              have HDj : Hid (Duo w wf3 G1 Bf s' G2 Bg s') := HDi.out.grow hbf3
              clear hbf3 HDi HN1' HN2
              go_wp2
              go_roundw
              case rel => exact ⟨k + 1, s', G1, G2, by go_num, by omega, hle', HDj.out⟩
              case measure => simp [intOf]; omega
        · have hlti : ¬ (k : Int) < (m : Int) := by omega
          go_wp2_with fail
          refine (tlen_any HD.out.f).mono ?_
          rintro e wz1 ⟨rfl, hbz1⟩
          have HDz : Hid (Duo w wz1 F1 Bf s F2 Bg s) := HD.out.grow hbz1
          clear hbz1 HD
          go_wp2_with fail
          refine (tlen_any HDz.out.g).mono ?_
          rintro e wz2 ⟨rfl, hbz2⟩
          have HDy : Hid (Duo w wz2 F1 Bf s F2 Bg s) := HDz.out.grow hbz2
          clear hbz2 HDz
          go_wp2
          go_ret
          exact ⟨by simp, HDy.out.below⟩
end Go.Proofs.Ytaoeifeiendfhaa
