/- Layer 8 (forest): Link, New (by tools/gen_forestlink.py). -/
import Derived.Test.YtcbgeahcnjamdabGreatForestFunB
import Derived.Test.YtcbgeahcnjamdabGreatDrawNew
namespace Go.Proofs.YtcbgeahcnjamdabGreat
open Go.RowKit
set_option linter.unusedVariables false
section
variable {w : World} {F : Nat → Prop} {B G : Nat} {f : Fo}
theorem folink_nil (n a b : Int) (w : World) : Calls Tryz.prog 78 #[.pointer none, .int .i64 n, .int .i64 a, .int .i64 b] w fun e w' => e = .returned (.int .i64 2) ∧ w' = w := by
  go_enter Tryz.func78, Tryz.ntmps78
  go_wp2
  go_ret
  exact ⟨rfl, rfl⟩
theorem Fo.link_no {f : Fo} {n a b : Int} (h : f.linkR n a b ≠ 0) : f.link n a b = f := by unfold Fo.link; rw [if_neg h]
set_option maxHeartbeats 3200000 in
set_option maxRecDepth 100000 in
theorem folink_any (h : Fd w F B G f) (n a b : Int) (hbn : B64 n) (hba : B64 a) (hbb : B64 b) {k : Nat} (hw : f.Wf k) (hk : k ≤ 30000) : Calls Tryz.prog 78 #[.pointer (some ⟨B, 0, none⟩), .int .i64 n, .int .i64 a, .int .i64 b] w fun e w' => ∃ F' G', e = .returned (.int .i64 (f.linkR n a b)) ∧ Fd w' F' B G' (f.link n a b) ∧ Step F F' w w' := by
  have H0 := hid_mk h
  have HE := hid_mk (fohasE_any h n hbn)
  have HA := hid_mk (fohas_any h a hba)
  have HB := hid_mk (fohas_any h b hbb)
  have HS := hid_mk (fosame_any h a b hba hbb hw hk)
  by_cases hn : n < 1
  · have e1 : f.linkR n a b = 1 := by unfold Fo.linkR; rw [if_pos hn]
    rw [Fo.link_no (by rw [e1]; omega), e1]
    clear h hw e1
    go_enter Tryz.func78, Tryz.ntmps78
    go_wp2
    go_ret
    exact ⟨_, _, rfl, H0.out, Step.refl _ _⟩
  by_cases hE : f.ei n = 0
  case neg =>
    have e1 : f.linkR n a b = 5 := by unfold Fo.linkR; rw [if_neg hn, if_pos hE]
    rw [Fo.link_no (by rw [e1]; omega), e1]
    rw [show (f.ei n != 0) = true by simpa using hE] at HE
    clear h hw e1 hE
    go_enter Tryz.func78, Tryz.ntmps78
    go_wp2_with fail
    refine HE.out.mono ?_
    rintro e w1 ⟨rfl, rfl⟩
    go_wp2
    go_ret
    exact ⟨_, _, rfl, H0.out, Step.refl _ _⟩
  rw [hE] at HE
  by_cases hA : f.vi a = 0
  · have e1 : f.linkR n a b = 4 := by unfold Fo.linkR; rw [if_neg hn, if_neg (by simp [hE]), if_neg (by simp [hA])]
    rw [Fo.link_no (by rw [e1]; omega), e1]
    rw [hA] at HA
    clear h hw e1 hE hA
    go_enter Tryz.func78, Tryz.ntmps78
    go_wp2_with fail
    refine HE.out.mono ?_
    rintro e w1 ⟨rfl, rfl⟩
    go_wp2_with fail
    refine HA.out.mono ?_
    rintro e w2 ⟨rfl, rfl⟩
    go_wp2
    go_ret
    exact ⟨_, _, rfl, H0.out, Step.refl _ _⟩
  have hA1 : (f.vi a != 0) = true := by simpa using hA
  rw [hA1] at HA
  by_cases hB : f.vi b = 0
  · have e1 : f.linkR n a b = 4 := by unfold Fo.linkR; rw [if_neg hn, if_neg (by simp [hE]), if_neg (by simp [hB])]
    rw [Fo.link_no (by rw [e1]; omega), e1]
    rw [hB] at HB
    clear h hw e1 hE hB hA hA1
    go_enter Tryz.func78, Tryz.ntmps78
    go_wp2_with fail
    refine HE.out.mono ?_
    rintro e w1 ⟨rfl, rfl⟩
    go_wp2_with fail
    refine HA.out.mono ?_
    rintro e w2 ⟨rfl, rfl⟩
    go_wp2_with fail
    refine HB.out.mono ?_
    rintro e w3 ⟨rfl, rfl⟩
    go_wp2
    go_ret
    exact ⟨_, _, rfl, H0.out, Step.refl _ _⟩
  have hB1 : (f.vi b != 0) = true := by simpa using hB
  rw [hB1] at HB
  cases hs : f.same a b with
  | true =>
    have e1 : f.linkR n a b = 13 := by unfold Fo.linkR; rw [if_neg hn, if_neg (by simp [hE]), if_pos ⟨hA, hB⟩, if_pos (show f.t.same (f.vi a) (f.vi b) = true from hs)]
    rw [Fo.link_no (by rw [e1]; omega), e1]
    rw [hs] at HS
    clear h hw e1 hE hB hA hA1 hB1 hs
    go_enter Tryz.func78, Tryz.ntmps78
    go_wp2_with fail
    refine HE.out.mono ?_
    rintro e w1 ⟨rfl, rfl⟩
    go_wp2_with fail
    refine HA.out.mono ?_
    rintro e w2 ⟨rfl, rfl⟩
    go_wp2_with fail
    refine HB.out.mono ?_
    rintro e w3 ⟨rfl, rfl⟩
    go_wp2_with fail
    refine HS.out.mono ?_
    rintro e w4 ⟨rfl, hb4⟩
    have HB4 := hid_mk hb4
    clear hb4
    go_wp2
    go_ret
    exact ⟨_, _, rfl, H0.out.below HB4.out, Step.of_below HB4.out⟩
  | false =>
    have e1 : f.linkR n a b = 0 := by unfold Fo.linkR; rw [if_neg hn, if_neg (by simp [hE]), if_pos ⟨hA, hB⟩, if_neg (by rw [show f.t.same (f.vi a) (f.vi b) = false from hs]; simp)]
    have e2 : f.link n a b = (f.wt (f.t.linked (f.vi a) (f.vi b))).we (updI f.ei n (f.t.linkN (f.vi a) (f.vi b))) (updI f.eo (f.t.linkN (f.vi a) (f.vi b)) n) (f.ne + 1) := by unfold Fo.link; rw [if_pos e1]
    rw [e1, e2]
    rw [hs] at HS
    have hnN := hw.newE hk (f.vi a) (f.vi b)
    have HP : Hid (∀ w' F' G', Fd w' F' B G' (f.wt (f.t.linked (f.vi a) (f.vi b))) → Calls Tryz.prog 47 #[.pointer (some ⟨B, 10, none⟩), .int .i64 n, .int .i64 (f.t.linkN (f.vi a) (f.vi b))] w' fun e w2 => ∃ F2, e = .returned (.tuple #[]) ∧ Fd w2 F2 B G' ((f.wt (f.t.linked (f.vi a) (f.vi b))).we (updI f.ei n (f.t.linkN (f.vi a) (f.vi b))) (updI f.eo (f.t.linkN (f.vi a) (f.vi b)) n) (f.ne + 1)) ∧ Step F' F2 w' w2) := fun w' F' G' h' => feput_any h' hbn (by unfold B64; omega) (Nat.le_trans hw.ne hk)
    obtain ⟨mx, my, mu, mv, h⟩ := h
    have HX := hid_mk h
    have NZ : Hid (∀ w' F' G' f', FdX mx my mu mv w' F' B G' f' → f'.vi = f.vi → w'.cell? ⟨B, 8, none⟩ = some mx ∧ (Instr.lookup 98 mx (.int .i64 a) false).run Tryz.prog w' = .ok (.int .i64 (f.vi a)) w' ∧ (Instr.lookup 98 mx (.int .i64 b) false).run Tryz.prog w' = .ok (.int .i64 (f.vi b)) w') := fun w' F' G' f' h' e => ⟨h'.cells.1, by rw [← e]; exact (h'.vlook hba).1, by rw [← e]; exact (h'.vlook hbb).1⟩
    have HC : Hid (∀ wx, FdX mx my mu mv wx F B G f → Calls Tryz.prog 103 #[.pointer (some ⟨B, 0, none⟩), .int .i64 (f.vi a), .int .i64 (f.vi b)] wx.drew fun e w' => ∃ F' G', e = .returned (.tuple #[.int .i64 (f.t.linkN (f.vi a) (f.vi b)), .int .i64 (f.t.linkR (f.vi a) (f.vi b))]) ∧ FdX mx my mu mv w' F' B G' (f.wt (f.t.linked (f.vi a) (f.vi b))) ∧ Step F F' wx w') := fun wx hx => by
      obtain ⟨Ft, hT, hup⟩ := hx.trees
      exact (flink_any (hT.kept (W' := wx.drew) (fun _ _ => rfl) (Nat.le_refl _)) _ _ (hw.t.mv _) hw.t.le hk).mono fun e w' ⟨Ft', G2, h1, h2, h3⟩ => let ⟨F', a, b⟩ := hup _ _ _ _ h2 (Step.undrew h3); ⟨F', G2, h1, a, b⟩
    have HW : Hid ((f.wt (f.t.linked (f.vi a) (f.vi b))).vi = f.vi) := rfl
    generalize (f.wt (f.t.linked (f.vi a) (f.vi b))).we (updI f.ei n (f.t.linkN (f.vi a) (f.vi b))) (updI f.eo (f.t.linkN (f.vi a) (f.vi b)) n) (f.ne + 1) = f2 at *
    generalize f.wt (f.t.linked (f.vi a) (f.vi b)) = f1 at *
    generalize f.t.linkN (f.vi a) (f.vi b) = r at *
    generalize f.t.linkR (f.vi a) (f.vi b) = q at *
    obtain ⟨za, hza⟩ : ∃ za, za = f.vi a := ⟨_, rfl⟩
    obtain ⟨zb, hzb⟩ : ∃ zb, zb = f.vi b := ⟨_, rfl⟩
    rw [← hza, ← hzb] at HC NZ
    clear h hw hE hB hA hA1 hB1 hs e1 e2 hnN H0 hza hzb
    go_enter Tryz.func78, Tryz.ntmps78
    go_wp2_with fail
    refine HE.out.mono ?_
    rintro e w1 ⟨rfl, rfl⟩
    go_wp2_with fail
    refine HA.out.mono ?_
    rintro e w2 ⟨rfl, rfl⟩
    go_wp2_with fail
    refine HB.out.mono ?_
    rintro e w3 ⟨rfl, rfl⟩
    go_wp2_with fail
    refine HS.out.mono ?_
    rintro e w4 ⟨rfl, hb4⟩
    have HX4 := hid_mk (HX.out.below hb4)
    have S4 : Hid (Step F F w3 w4) := Step.of_below hb4
    have HC4 := hid_mk (HC.out _ HX4.out)
    obtain ⟨c8, hla, hlb⟩ := NZ.out _ _ _ _ HX4.out.drew rfl
    clear hb4 HX HC HE HA HB HS
    go_wp2_with fail
    go_region_held3 (fun w' => w'.cell? ⟨B, 8, none⟩ = some mx ∧ (Instr.lookup 98 mx (.int .i64 a) false).run Tryz.prog w' = .ok (.int .i64 za) w' ∧ (Instr.lookup 98 mx (.int .i64 b) false).run Tryz.prog w' = .ok (.int .i64 zb) w')
      (first | go_keep | with_reducible exact NZ.out _ _ _ _ hT3 HW.out)
      (first | (go_at_call 103; refine HC4.out.mono ?_; rintro e w5 ⟨F5, G5, rfl, hT3, hS3⟩) | fail)
    all_goals
      have H5 : Hid (Fd w5 F5 B G5 f1) := ⟨_, _, _, _, hT3⟩
      have S5 := hid_mk (S4.out.trans hS3)
      clear hT3 hS3 HC4 NZ c8 hla hlb HX4 S4
      go_wp2_with fail
      refine (HP.out _ _ _ H5.out).mono ?_
      rintro e w6 ⟨F6, rfl, hT6, hS6⟩
      have H6 := hid_mk hT6
      have S6 := hid_mk (S5.out.trans hS6)
      clear hT6 hS6 H5 S5 HP
      go_wp2
      go_ret
      exact ⟨_, _, rfl, H6.out, S6.out⟩
set_option maxHeartbeats 1600000 in
theorem fonew_any (d : Option Addr) (w : World) : Calls Tryz.prog 23 #[.pointer d] w fun e w' => ∃ B, e = .returned (.pointer (some ⟨B, 0, none⟩)) ∧ w.heap.size ≤ B ∧ Blk w' B 102 #[.slice none 0 0, .slice none 0 0, .pointer d, .slice none 0 0, .slice none 0 0, .slice none 0 0, .slice none 0 0, .map none, .map none, .map none, .map none, .map none] ∧ Below w.heap.size w w' := by
  go_enter Tryz.func23, Tryz.ntmps23
  go_wp2_with fail
  refine (fnew_any d w).mono ?_
  rintro e w1 ⟨B, rfl, hB, hK, hb⟩
  have k0 := hK.at (j := 0) rfl
  have k1 := hK.at (j := 1) rfl
  have k2 := hK.at (j := 2) rfl
  have k3 := hK.at (j := 3) rfl
  have k4 := hK.at (j := 4) rfl
  have k5 := hK.at (j := 5) rfl
  have k6 := hK.at (j := 6) rfl
  have k7 := hK.at (j := 7) rfl
  have HB1 := hid_mk (hb.alloc hb.size (.cells #[.slice none 0 0, .slice none 0 0, .pointer d, .slice none 0 0, .slice none 0 0, .slice none 0 0, .slice none 0 0, .map none, .map none, .map none, .map none, .map none] 102))
  have HK := hid_mk (Blk.new w1 102 #[.slice none 0 0, .slice none 0 0, .pointer d, .slice none 0 0, .slice none 0 0, .slice none 0 0, .slice none 0 0, .map none, .map none, .map none, .map none, .map none])
  have hs := hb.size
  clear hK hb
  go_wp2
  go_ret
  exact ⟨_, rfl, hs, HK.out, HB1.out⟩
end
end Go.Proofs.YtcbgeahcnjamdabGreat
