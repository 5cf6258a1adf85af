/- Layer 8's statements: act; three forests apart (by tools/gen_foract.py). -/
import Derived.Test.YtkpfonfcgoocfaaForestAwake
import Derived.Test.YtkpfonfcgoocfaaForestActs
namespace Go.Proofs.Ytkpfonfcgoocfaa
open Go.RowKit
set_option linter.unusedVariables false
/-- An act as a value. -/
def acv (d n a b x y m : Int) : Value := .agg #[.int .u8 d, .int .i64 n, .int .i64 a, .int .i64 b, .int .i64 x, .int .i64 y, .int .u8 m]
section
variable {w : World} {F : Nat → Prop} {B G : Nat} {f : Fo}
set_option maxHeartbeats 3200000 in
set_option maxRecDepth 100000 in
theorem foact_any (h : Fd w F B G f) (d n a b x y m : Int) (hbn : B64 n) (hba : B64 a) (hbb : B64 b) {k : Nat} (hw : f.Wf k) (hk : k ≤ 10000) : Calls Try.prog 25 #[.pointer (some ⟨B, 0, none⟩), acv d n a b x y m] w fun e w' => ∃ F' G', e = .returned (.int .i64 (f.actR d n a b x y m)) ∧ Fd w' F' B G' (f.act d n a b x y m) ∧ Step F F' w w' := by
  have hb1 := (Below.refl w.heap.size w).alloc (Nat.le_refl _) (.cells #[.int .u8 d, .int .i64 n, .int .i64 a, .int .i64 b, .int .i64 x, .int .i64 y, .int .u8 m] 68)
  have hX := Blk.new w 68 #[.int .u8 d, .int .i64 n, .int .i64 a, .int .i64 b, .int .i64 x, .int .i64 y, .int .u8 m]
  have H1 := hid_mk (h.below hb1)
  have S1 : Hid (Step F F w (w.alloc (.cells #[.int .u8 d, .int .i64 n, .int .i64 a, .int .i64 b, .int .i64 x, .int .i64 y, .int .u8 m] 68))) := Step.of_below hb1
  have c0 := hX.at (j := 0) rfl
  have c1 := hX.at (j := 1) rfl
  have c2 := hX.at (j := 2) rfl
  have c3 := hX.at (j := 3) rfl
  have c4 := hX.at (j := 4) rfl
  have c5 := hX.at (j := 5) rfl
  have c6 := hX.at (j := 6) rfl
  have hbl := hX.lt
  unfold acv
  clear h hX hb1
  unfold Fo.actR Fo.act
  by_cases n0 : d = 0
  · subst n0
    rw [if_pos rfl, if_pos rfl]
    have HC := hid_mk (foadd_any H1.out a x y hba hw hk)
    generalize f.add a x y = f2 at *
    generalize f.addR a x y = r at *
    clear hw hbn hba hbb
    go_enter Try.func25, Try.ntmps25
    go_wp2_with fail
    refine HC.out.mono ?_
    rintro e w2 ⟨F2, rfl, hT, hS⟩
    have H2 := hid_mk hT
    have S2 := hid_mk (S1.out.trans hS)
    clear hT hS HC H1 S1 c0 c1 c2 c3 c4 c5 c6
    go_wp2
    go_ret
    exact ⟨_, _, rfl, H2.out, S2.out⟩
  by_cases n1 : d = 1
  · subst n1
    simp only [show ¬ ((1 : Int) = 0) by omega, if_false, if_true]
    have HC := hid_mk (fodrop_any H1.out a hba hw hk)
    generalize f.drop a = f2 at *
    generalize f.dropR a = r at *
    clear hw hbn hba hbb n0
    go_enter Try.func25, Try.ntmps25
    go_wp2_with fail
    refine HC.out.mono ?_
    rintro e w2 ⟨F2, rfl, hT, hS⟩
    have H2 := hid_mk hT
    have S2 := hid_mk (S1.out.trans hS)
    clear hT hS HC H1 S1 c0 c1 c2 c3 c4 c5 c6
    go_wp2
    go_ret
    exact ⟨_, _, rfl, H2.out, S2.out⟩
  by_cases n2 : d = 2
  · subst n2
    simp only [show ¬ ((2 : Int) = 0) by omega, show ¬ ((2 : Int) = 1) by omega, if_false, if_true]
    have HC := hid_mk (foset_any H1.out a x y hba hw hk)
    generalize f.set a x y = f2 at *
    generalize f.setR a x y = r at *
    clear hw hbn hba hbb n0 n1
    go_enter Try.func25, Try.ntmps25
    go_wp2_with fail
    refine HC.out.mono ?_
    rintro e w2 ⟨F2, rfl, hT, hS⟩
    have H2 := hid_mk hT
    have S2 := hid_mk (S1.out.trans hS)
    clear hT hS HC H1 S1 c0 c1 c2 c3 c4 c5 c6
    go_wp2
    go_ret
    exact ⟨_, _, rfl, H2.out, S2.out⟩
  by_cases n3 : d = 3
  · subst n3
    simp only [show ¬ ((3 : Int) = 0) by omega, show ¬ ((3 : Int) = 1) by omega, show ¬ ((3 : Int) = 2) by omega, if_false, if_true]
    have HC := hid_mk (folink_any H1.out n a b hbn hba hbb hw hk)
    generalize f.link n a b = f2 at *
    generalize f.linkR n a b = r at *
    clear hw hbn hba hbb n0 n1 n2
    go_enter Try.func25, Try.ntmps25
    go_wp2_with fail
    refine HC.out.mono ?_
    rintro e w2 ⟨F2, G2, rfl, hT, hS⟩
    have H2 := hid_mk hT
    have S2 := hid_mk (S1.out.trans hS)
    clear hT hS HC H1 S1 c0 c1 c2 c3 c4 c5 c6
    go_wp2
    go_ret
    exact ⟨_, _, rfl, H2.out, S2.out⟩
  by_cases n4 : d = 4
  · subst n4
    simp only [show ¬ ((4 : Int) = 0) by omega, show ¬ ((4 : Int) = 1) by omega, show ¬ ((4 : Int) = 2) by omega, show ¬ ((4 : Int) = 3) by omega, if_false, if_true]
    have HC := hid_mk (focut_any H1.out n hbn hw hk)
    generalize f.cut n = f2 at *
    generalize f.cutR n = r at *
    clear hw hbn hba hbb n0 n1 n2 n3
    go_enter Try.func25, Try.ntmps25
    go_wp2_with fail
    refine HC.out.mono ?_
    rintro e w2 ⟨F2, rfl, hT, hS⟩
    have H2 := hid_mk hT
    have S2 := hid_mk (S1.out.trans hS)
    clear hT hS HC H1 S1 c0 c1 c2 c3 c4 c5 c6
    go_wp2
    go_ret
    exact ⟨_, _, rfl, H2.out, S2.out⟩
  by_cases n5 : d = 5
  · subst n5
    simp only [show ¬ ((5 : Int) = 0) by omega, show ¬ ((5 : Int) = 1) by omega, show ¬ ((5 : Int) = 2) by omega, show ¬ ((5 : Int) = 3) by omega, show ¬ ((5 : Int) = 4) by omega, if_false, if_true]
    have HC := hid_mk (fomark_any H1.out a m hba hw hk)
    generalize f.mark a m = f2 at *
    generalize f.markR a m = r at *
    clear hw hbn hba hbb n0 n1 n2 n3 n4
    go_enter Try.func25, Try.ntmps25
    go_wp2_with fail
    refine HC.out.mono ?_
    rintro e w2 ⟨F2, rfl, hT, hS⟩
    have H2 := hid_mk hT
    have S2 := hid_mk (S1.out.trans hS)
    clear hT hS HC H1 S1 c0 c1 c2 c3 c4 c5 c6
    go_wp2
    go_ret
    exact ⟨_, _, rfl, H2.out, S2.out⟩
  rw [if_neg n0, if_neg n1, if_neg n2, if_neg n3, if_neg n4, if_neg n5, if_neg n0, if_neg n1, if_neg n2, if_neg n3, if_neg n4, if_neg n5]
  have q0 : (d == 0) = false := by simpa using n0
  have q1 : (d == 1) = false := by simpa using n1
  have q2 : (d == 2) = false := by simpa using n2
  have q3 : (d == 3) = false := by simpa using n3
  have q4 : (d == 4) = false := by simpa using n4
  have q5 : (d == 5) = false := by simpa using n5
  have HC := hid_mk (foemark_any H1.out n m hbn hw hk)
  generalize f.emark n m = f2 at *
  generalize f.emarkR n m = r at *
  clear hw hbn hba hbb n0 n1 n2 n3 n4 n5
  go_enter Try.func25, Try.ntmps25
  go_wp2_with fail
  refine HC.out.mono ?_
  rintro e w2 ⟨F2, rfl, hT, hS⟩
  have H2 := hid_mk hT
  have S2 := hid_mk (S1.out.trans hS)
  clear hT hS HC H1 S1 c0 c1 c2 c3 c4 c5 c6
  go_wp2
  go_ret
  exact ⟨_, _, rfl, H2.out, S2.out⟩
end
/-- Three forests apart from one another, all made since w. -/
structure Tri (w wr : World) (F1 : Nat → Prop) (B1 G1 : Nat) (s : Fo) (F2 : Nat → Prop) (B2 G2 : Nat) (t : Fo) (F3 : Nat → Prop) (B3 G3 : Nat) (u : Fo) : Prop where
  a : Fd wr F1 B1 G1 s
  b : Fd wr F2 B2 G2 t
  c : Fd wr F3 B3 G3 u
  ab : ∀ k, F1 k → ¬ F2 k
  ac : ∀ k, F1 k → ¬ F3 k
  bc : ∀ k, F2 k → ¬ F3 k
  fa : ∀ k, F1 k → w.heap.size ≤ k
  fb : ∀ k, F2 k → w.heap.size ≤ k
  fc : ∀ k, F3 k → w.heap.size ≤ k
  below : Below w.heap.size w wr
section
variable {w wr wr' : World} {F1 F2 F3 F' : Nat → Prop} {B1 G1 B2 G2 B3 G3 G' : Nat} {s t u s' : Fo}
theorem Tri.grow (h : Tri w wr F1 B1 G1 s F2 B2 G2 t F3 B3 G3 u) (hb : Below wr.heap.size wr wr') : Tri w wr' F1 B1 G1 s F2 B2 G2 t F3 B3 G3 u := ⟨h.a.below hb, h.b.below hb, h.c.below hb, h.ab, h.ac, h.bc, h.fa, h.fb, h.fc, h.below.trans (hb.mono h.below.size)⟩
theorem Tri.stepA (h : Tri w wr F1 B1 G1 s F2 B2 G2 t F3 B3 G3 u) (h1 : Fd wr' F' B1 G' s') (hS : Step F1 F' wr wr') : Tri w wr' F' B1 G' s' F2 B2 G2 t F3 B3 G3 u :=
  ⟨h1, h.b.step hS (fun k p q => h.ab k q p), h.c.step hS (fun k p q => h.ac k q p), fun k p q => hS.apart (fun k p q => h.ab k q p) h.b.lt k q p, fun k p q => hS.apart (fun k p q => h.ac k q p) h.c.lt k q p, h.bc, hS.from h.below.size h.fa, h.fb, h.fc, hS.start h.below (Nat.le_refl _) h.fa⟩
theorem Tri.stepB (h : Tri w wr F1 B1 G1 s F2 B2 G2 t F3 B3 G3 u) (h1 : Fd wr' F' B2 G' s') (hS : Step F2 F' wr wr') : Tri w wr' F1 B1 G1 s F' B2 G' s' F3 B3 G3 u :=
  ⟨h.a.step hS h.ab, h1, h.c.step hS (fun k p q => h.bc k q p), hS.apart h.ab h.a.lt, h.ac, fun k p q => hS.apart (fun k p q => h.bc k q p) h.c.lt k q p, h.fa, hS.from h.below.size h.fb, h.fc, hS.start h.below (Nat.le_refl _) h.fb⟩
theorem Tri.stepC (h : Tri w wr F1 B1 G1 s F2 B2 G2 t F3 B3 G3 u) (h1 : Fd wr' F' B3 G' s') (hS : Step F3 F' wr wr') : Tri w wr' F1 B1 G1 s F2 B2 G2 t F' B3 G' s' :=
  ⟨h.a.step hS h.ac, h.b.step hS h.bc, h1, h.ab, hS.apart h.ac h.a.lt, hS.apart h.bc h.b.lt, h.fa, h.fb, hS.from h.below.size h.fc, hS.start h.below (Nat.le_refl _) h.fc⟩
end
end Go.Proofs.Ytkpfonfcgoocfaa
