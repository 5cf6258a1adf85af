/- Layer 8's statements: forests that are written out, call by call (by tools/gen_fawake.py). -/
import Derived.Test.YtkpfonfcgoocfabForestLink
namespace Go.Proofs.Ytkpfonfcgoocfab
open Go.RowKit
set_option linter.unusedVariables false
section
variable {w : World} {F : Nat → Prop} {B G : Nat}
def fw0 : Fo := fo0
theorem fw0_wf : fw0.Wf 0 := fo0_wf
def fw1 : Fo := fw0.add 1 5 9
theorem fw1_wf : fw1.Wf 1 := fw0_wf.add (by omega) 1 5 9
theorem fw1_v : fw0.addR 1 5 9 = 0 := by kernel_rfl
theorem fw1_c (h : Fd w F B G fw0) : Calls Try.prog 8 #[.pointer (some ⟨B, 0, none⟩), .int .i64 1, .int .i64 5, .int .i64 9] w fun e w' => ∃ F', e = .returned (.int .i64 0) ∧ Fd w' F' B G fw1 ∧ Step F F' w w' := by
  have := foadd_any h 1 5 9 (by unfold B64; omega) fw0_wf (by omega)
  rw [fw1_v] at this
  exact this
def fw2 : Fo := fw1.add 2 6 3
theorem fw2_wf : fw2.Wf 2 := fw1_wf.add (by omega) 2 6 3
theorem fw2_v : fw1.addR 2 6 3 = 0 := by kernel_rfl
theorem fw2_c (h : Fd w F B G fw1) : Calls Try.prog 8 #[.pointer (some ⟨B, 0, none⟩), .int .i64 2, .int .i64 6, .int .i64 3] w fun e w' => ∃ F', e = .returned (.int .i64 0) ∧ Fd w' F' B G fw2 ∧ Step F F' w w' := by
  have := foadd_any h 2 6 3 (by unfold B64; omega) fw1_wf (by omega)
  rw [fw2_v] at this
  exact this
def fw3 : Fo := fw2.link 7 1 2
theorem fw3_wf : fw3.Wf 3 := fw2_wf.link (by omega) 7 1 2
theorem fw3_v : fw2.linkR 7 1 2 = 0 := by kernel_rfl
theorem fw3_c (h : Fd w F B G fw2) : Calls Try.prog 9 #[.pointer (some ⟨B, 0, none⟩), .int .i64 7, .int .i64 1, .int .i64 2] w fun e w' => ∃ F' G', e = .returned (.int .i64 0) ∧ Fd w' F' B G' fw3 ∧ Step F F' w w' := by
  have := folink_any h 7 1 2 (by unfold B64; omega) (by unfold B64; omega) (by unfold B64; omega) fw2_wf (by omega)
  rw [fw3_v] at this
  exact this
def fw4 : Fo := fw3.mark 2 1
theorem fw4_wf : fw4.Wf 3 := fw3_wf.mark 2 1
theorem fw4_v : fw3.markR 2 1 = 0 := by kernel_rfl
theorem fw4_c (h : Fd w F B G fw3) : Calls Try.prog 16 #[.pointer (some ⟨B, 0, none⟩), .int .i64 2, .int .u8 1] w fun e w' => ∃ F', e = .returned (.int .i64 0) ∧ Fd w' F' B G fw4 ∧ Step F F' w w' := by
  have := fomark_any h 2 1 (by unfold B64; omega) fw3_wf (by omega)
  rw [fw4_v] at this
  exact this
theorem fw4_findv4_0 : fw4.vo (fw4.findV 1 1) = 2 := by kernel_rfl
theorem fw4_findv4_1 : decide (fw4.findV 1 1 ≠ 0) = true := by kernel_rfl
theorem fw4_findv4 (h : Fd w F B G fw4) : Calls Try.prog 18 #[.pointer (some ⟨B, 0, none⟩), .int .i64 1, .int .u8 1] w fun e w' => e = .returned (.tuple #[.int .i64 2, .bool true]) ∧ Below w.heap.size w w' := by
  have := fofindV_any h 1 1 (by unfold B64; omega) fw4_wf (by omega)
  rw [fw4_findv4_0, fw4_findv4_1] at this
  exact this
theorem fw4_size5_0 : (fw4.total 1).c = 2 := by kernel_rfl
theorem fw4_size5 (h : Fd w F B G fw4) : Calls Try.prog 10 #[.pointer (some ⟨B, 0, none⟩), .int .i64 1] w fun e w' => e = .returned (.int .i64 2) ∧ Below w.heap.size w w' := by
  have := fosize_any h 1 (by unfold B64; omega) fw4_wf (by omega)
  rw [fw4_size5_0] at this
  exact this
theorem fw4_sum6_0 : (fw4.total 2).s = 11 := by kernel_rfl
theorem fw4_sum6 (h : Fd w F B G fw4) : Calls Try.prog 13 #[.pointer (some ⟨B, 0, none⟩), .int .i64 2] w fun e w' => e = .returned (.int .i64 11) ∧ Below w.heap.size w w' := by
  have := fosum_any h 2 (by unfold B64; omega) fw4_wf (by omega)
  rw [fw4_sum6_0] at this
  exact this
theorem fw4_least7_0 : fw4.least 1 = 3 := by kernel_rfl
theorem fw4_least7 (h : Fd w F B G fw4) : Calls Try.prog 14 #[.pointer (some ⟨B, 0, none⟩), .int .i64 1] w fun e w' => e = .returned (.int .i64 3) ∧ Below w.heap.size w w' := by
  have := foleast_any h 1 (by unfold B64; omega) fw4_wf (by omega)
  rw [fw4_least7_0] at this
  exact this
theorem fw4_same8_0 : fw4.same 1 2 = true := by kernel_rfl
theorem fw4_same8 (h : Fd w F B G fw4) : Calls Try.prog 11 #[.pointer (some ⟨B, 0, none⟩), .int .i64 1, .int .i64 2] w fun e w' => e = .returned (.bool true) ∧ Below w.heap.size w w' := by
  have := fosame_any h 1 2 (by unfold B64; omega) (by unfold B64; omega) fw4_wf (by omega)
  rw [fw4_same8_0] at this
  exact this
end
set_option maxRecDepth 100000 in
set_option maxHeartbeats 4000000 in
theorem fwakes_any (w : World) : Calls Try.prog 5 #[] w fun e w' => e = .returned (.bool true) ∧ Below w.heap.size w w' := by
  go_enter Try.func5, Try.ntmps5
  go_wp2_with fail
  refine (fonew_any none w).mono ?_
  rintro e w0 ⟨B, rfl, hB, hK, hb⟩
  have H0 : Hid (Fd w0 (fun k => k = B) B 0 fw0) := Fd.fresh hK rfl (fun k hk => by subst hk; exact hK.lt) (.inl rfl)
  have B0 := hid_mk hb
  have Q0 : Hid (∀ k, (fun k => k = B) k → w.heap.size ≤ k) := fun k hk => by have h' : k = B := hk; omega
  clear hK hb
  go_wp2_with fail
  refine (fw1_c H0.out).mono ?_
  rintro e w1 ⟨F1, rfl, hT, hS⟩
  have H1 := hid_mk hT
  have B1 := hid_mk (hS.start B0.out (Nat.le_refl _) Q0.out)
  have Q1 := hid_mk (hS.from B0.out.size Q0.out)
  clear hT hS H0 B0 Q0
  go_wp2_with fail
  refine (fw2_c H1.out).mono ?_
  rintro e w2 ⟨F2, rfl, hT, hS⟩
  have H2 := hid_mk hT
  have B2 := hid_mk (hS.start B1.out (Nat.le_refl _) Q1.out)
  have Q2 := hid_mk (hS.from B1.out.size Q1.out)
  clear hT hS H1 B1 Q1
  go_wp2_with fail
  refine (fw3_c H2.out).mono ?_
  rintro e w3 ⟨F3, G3, rfl, hT, hS⟩
  have H3 := hid_mk hT
  have B3 := hid_mk (hS.start B2.out (Nat.le_refl _) Q2.out)
  have Q3 := hid_mk (hS.from B2.out.size Q2.out)
  clear hT hS H2 B2 Q2
  go_wp2_with fail
  refine (fw4_c H3.out).mono ?_
  rintro e w4 ⟨F4, rfl, hT, hS⟩
  have H4 := hid_mk hT
  have B4 := hid_mk (hS.start B3.out (Nat.le_refl _) Q3.out)
  have Q4 := hid_mk (hS.from B3.out.size Q3.out)
  clear hT hS H3 B3 Q3
  go_wp2_with fail
  refine (fw4_findv4 H4.out).mono ?_
  rintro e w5 ⟨rfl, hb⟩
  have H5 := hid_mk (H4.out.below hb)
  have B5 := hid_mk (B4.out.trans (hb.mono B4.out.size))
  have Q5 := Q4
  clear hb H4 B4 Q4
  go_wp2_with fail
  refine (fw4_size5 H5.out).mono ?_
  rintro e w6 ⟨rfl, hb⟩
  have H6 := hid_mk (H5.out.below hb)
  have B6 := hid_mk (B5.out.trans (hb.mono B5.out.size))
  have Q6 := Q5
  clear hb H5 B5 Q5
  go_wp2_with fail
  refine (fw4_sum6 H6.out).mono ?_
  rintro e w7 ⟨rfl, hb⟩
  have H7 := hid_mk (H6.out.below hb)
  have B7 := hid_mk (B6.out.trans (hb.mono B6.out.size))
  have Q7 := Q6
  clear hb H6 B6 Q6
  go_wp2_with fail
  refine (fw4_least7 H7.out).mono ?_
  rintro e w8 ⟨rfl, hb⟩
  have H8 := hid_mk (H7.out.below hb)
  have B8 := hid_mk (B7.out.trans (hb.mono B7.out.size))
  have Q8 := Q7
  clear hb H7 B7 Q7
  go_wp2_with fail
  refine (fw4_same8 H8.out).mono ?_
  rintro e w9 ⟨rfl, hb⟩
  have H9 := hid_mk (H8.out.below hb)
  have B9 := hid_mk (B8.out.trans (hb.mono B8.out.size))
  have Q9 := Q8
  clear hb H8 B8 Q8
  go_wp2
  go_ret
  exact ⟨rfl, B9.out⟩
end Go.Proofs.Ytkpfonfcgoocfab
