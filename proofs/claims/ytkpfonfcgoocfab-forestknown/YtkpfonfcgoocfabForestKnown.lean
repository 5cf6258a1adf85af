/- Layer 8's statement ForestKnown (by tools/gen_fawake.py). -/
import Derived.Test.YtkpfonfcgoocfabForestAwake
namespace Go.Proofs.Ytkpfonfcgoocfab
open Go.RowKit
set_option linter.unusedVariables false
section
variable {w : World} {F : Nat → Prop} {B G : Nat}
def fk0 : Fo := fo0
theorem fk0_wf : fk0.Wf 0 := fo0_wf
def fk1 : Fo := fk0.add 1 5 9
theorem fk1_wf : fk1.Wf 1 := fk0_wf.add (by omega) 1 5 9
theorem fk1_v : fk0.addR 1 5 9 = 0 := by kernel_rfl
theorem fk1_c (h : Fd w F B G fk0) : Calls Try.prog 8 #[.pointer (some ⟨B, 0, none⟩), .int .i64 1, .int .i64 5, .int .i64 9] w fun e w' => ∃ F', e = .returned (.int .i64 0) ∧ Fd w' F' B G fk1 ∧ Step F F' w w' := by
  have := foadd_any h 1 5 9 (by unfold B64; omega) fk0_wf (by omega)
  rw [fk1_v] at this
  exact this
def fk2 : Fo := fk1.add 2 6 3
theorem fk2_wf : fk2.Wf 2 := fk1_wf.add (by omega) 2 6 3
theorem fk2_v : fk1.addR 2 6 3 = 0 := by kernel_rfl
theorem fk2_c (h : Fd w F B G fk1) : Calls Try.prog 8 #[.pointer (some ⟨B, 0, none⟩), .int .i64 2, .int .i64 6, .int .i64 3] w fun e w' => ∃ F', e = .returned (.int .i64 0) ∧ Fd w' F' B G fk2 ∧ Step F F' w w' := by
  have := foadd_any h 2 6 3 (by unfold B64; omega) fk1_wf (by omega)
  rw [fk2_v] at this
  exact this
def fk3 : Fo := fk2.add 1 0 0
theorem fk3_wf : fk3.Wf 3 := fk2_wf.add (by omega) 1 0 0
theorem fk3_v : fk2.addR 1 0 0 = 5 := by kernel_rfl
theorem fk3_c (h : Fd w F B G fk2) : Calls Try.prog 8 #[.pointer (some ⟨B, 0, none⟩), .int .i64 1, .int .i64 0, .int .i64 0] w fun e w' => ∃ F', e = .returned (.int .i64 5) ∧ Fd w' F' B G fk3 ∧ Step F F' w w' := by
  have := foadd_any h 1 0 0 (by unfold B64; omega) fk2_wf (by omega)
  rw [fk3_v] at this
  exact this
def fk4 : Fo := fk3.add 3 (-1) 0
theorem fk4_wf : fk4.Wf 4 := fk3_wf.add (by omega) 3 (-1) 0
theorem fk4_v : fk3.addR 3 (-1) 0 = 1 := by kernel_rfl
theorem fk4_c (h : Fd w F B G fk3) : Calls Try.prog 8 #[.pointer (some ⟨B, 0, none⟩), .int .i64 3, .int .i64 (-1), .int .i64 0] w fun e w' => ∃ F', e = .returned (.int .i64 1) ∧ Fd w' F' B G fk4 ∧ Step F F' w w' := by
  have := foadd_any h 3 (-1) 0 (by unfold B64; omega) fk3_wf (by omega)
  rw [fk4_v] at this
  exact this
def fk5 : Fo := fk4.add 3 0 1099511627777
theorem fk5_wf : fk5.Wf 5 := fk4_wf.add (by omega) 3 0 1099511627777
theorem fk5_v : fk4.addR 3 0 1099511627777 = 1 := by kernel_rfl
theorem fk5_c (h : Fd w F B G fk4) : Calls Try.prog 8 #[.pointer (some ⟨B, 0, none⟩), .int .i64 3, .int .i64 0, .int .i64 1099511627777] w fun e w' => ∃ F', e = .returned (.int .i64 1) ∧ Fd w' F' B G fk5 ∧ Step F F' w w' := by
  have := foadd_any h 3 0 1099511627777 (by unfold B64; omega) fk4_wf (by omega)
  rw [fk5_v] at this
  exact this
def fk6 : Fo := fk5.add (-4) 1099511627776 0
theorem fk6_wf : fk6.Wf 6 := fk5_wf.add (by omega) (-4) 1099511627776 0
theorem fk6_v : fk5.addR (-4) 1099511627776 0 = 0 := by kernel_rfl
theorem fk6_c (h : Fd w F B G fk5) : Calls Try.prog 8 #[.pointer (some ⟨B, 0, none⟩), .int .i64 (-4), .int .i64 1099511627776, .int .i64 0] w fun e w' => ∃ F', e = .returned (.int .i64 0) ∧ Fd w' F' B G fk6 ∧ Step F F' w w' := by
  have := foadd_any h (-4) 1099511627776 0 (by unfold B64; omega) fk5_wf (by omega)
  rw [fk6_v] at this
  exact this
def fk7 : Fo := fk6.link 7 1 2
theorem fk7_wf : fk7.Wf 7 := fk6_wf.link (by omega) 7 1 2
theorem fk7_v : fk6.linkR 7 1 2 = 0 := by kernel_rfl
theorem fk7_c (h : Fd w F B G fk6) : Calls Try.prog 9 #[.pointer (some ⟨B, 0, none⟩), .int .i64 7, .int .i64 1, .int .i64 2] w fun e w' => ∃ F' G', e = .returned (.int .i64 0) ∧ Fd w' F' B G' fk7 ∧ Step F F' w w' := by
  have := folink_any h 7 1 2 (by unfold B64; omega) (by unfold B64; omega) (by unfold B64; omega) fk6_wf (by omega)
  rw [fk7_v] at this
  exact this
theorem fk7_size7_0 : (fk7.total 1).c = 2 := by kernel_rfl
theorem fk7_size7 (h : Fd w F B G fk7) : Calls Try.prog 10 #[.pointer (some ⟨B, 0, none⟩), .int .i64 1] w fun e w' => e = .returned (.int .i64 2) ∧ Below w.heap.size w w' := by
  have := fosize_any h 1 (by unfold B64; omega) fk7_wf (by omega)
  rw [fk7_size7_0] at this
  exact this
theorem fk7_sum8_0 : (fk7.total 2).s = 11 := by kernel_rfl
theorem fk7_sum8 (h : Fd w F B G fk7) : Calls Try.prog 13 #[.pointer (some ⟨B, 0, none⟩), .int .i64 2] w fun e w' => e = .returned (.int .i64 11) ∧ Below w.heap.size w w' := by
  have := fosum_any h 2 (by unfold B64; omega) fk7_wf (by omega)
  rw [fk7_sum8_0] at this
  exact this
theorem fk7_least9_0 : fk7.least 1 = 3 := by kernel_rfl
theorem fk7_least9 (h : Fd w F B G fk7) : Calls Try.prog 14 #[.pointer (some ⟨B, 0, none⟩), .int .i64 1] w fun e w' => e = .returned (.int .i64 3) ∧ Below w.heap.size w w' := by
  have := foleast_any h 1 (by unfold B64; omega) fk7_wf (by omega)
  rw [fk7_least9_0] at this
  exact this
def fk8 : Fo := fk7.link 8 2 1
theorem fk8_wf : fk8.Wf 8 := fk7_wf.link (by omega) 8 2 1
theorem fk8_v : fk7.linkR 8 2 1 = 13 := by kernel_rfl
theorem fk8_c (h : Fd w F B G fk7) : Calls Try.prog 9 #[.pointer (some ⟨B, 0, none⟩), .int .i64 8, .int .i64 2, .int .i64 1] w fun e w' => ∃ F' G', e = .returned (.int .i64 13) ∧ Fd w' F' B G' fk8 ∧ Step F F' w w' := by
  have := folink_any h 8 2 1 (by unfold B64; omega) (by unfold B64; omega) (by unfold B64; omega) fk7_wf (by omega)
  rw [fk8_v] at this
  exact this
def fk9 : Fo := fk8.link 7 1 (-4)
theorem fk9_wf : fk9.Wf 9 := fk8_wf.link (by omega) 7 1 (-4)
theorem fk9_v : fk8.linkR 7 1 (-4) = 5 := by kernel_rfl
theorem fk9_c (h : Fd w F B G fk8) : Calls Try.prog 9 #[.pointer (some ⟨B, 0, none⟩), .int .i64 7, .int .i64 1, .int .i64 (-4)] w fun e w' => ∃ F' G', e = .returned (.int .i64 5) ∧ Fd w' F' B G' fk9 ∧ Step F F' w w' := by
  have := folink_any h 7 1 (-4) (by unfold B64; omega) (by unfold B64; omega) (by unfold B64; omega) fk8_wf (by omega)
  rw [fk9_v] at this
  exact this
def fk10 : Fo := fk9.link 0 1 (-4)
theorem fk10_wf : fk10.Wf 10 := fk9_wf.link (by omega) 0 1 (-4)
theorem fk10_v : fk9.linkR 0 1 (-4) = 1 := by kernel_rfl
theorem fk10_c (h : Fd w F B G fk9) : Calls Try.prog 9 #[.pointer (some ⟨B, 0, none⟩), .int .i64 0, .int .i64 1, .int .i64 (-4)] w fun e w' => ∃ F' G', e = .returned (.int .i64 1) ∧ Fd w' F' B G' fk10 ∧ Step F F' w w' := by
  have := folink_any h 0 1 (-4) (by unfold B64; omega) (by unfold B64; omega) (by unfold B64; omega) fk9_wf (by omega)
  rw [fk10_v] at this
  exact this
def fk11 : Fo := fk10.link 8 1 5
theorem fk11_wf : fk11.Wf 11 := fk10_wf.link (by omega) 8 1 5
theorem fk11_v : fk10.linkR 8 1 5 = 4 := by kernel_rfl
theorem fk11_c (h : Fd w F B G fk10) : Calls Try.prog 9 #[.pointer (some ⟨B, 0, none⟩), .int .i64 8, .int .i64 1, .int .i64 5] w fun e w' => ∃ F' G', e = .returned (.int .i64 4) ∧ Fd w' F' B G' fk11 ∧ Step F F' w w' := by
  have := folink_any h 8 1 5 (by unfold B64; omega) (by unfold B64; omega) (by unfold B64; omega) fk10_wf (by omega)
  rw [fk11_v] at this
  exact this
def fk12 : Fo := fk11.link 8 1 1
theorem fk12_wf : fk12.Wf 12 := fk11_wf.link (by omega) 8 1 1
theorem fk12_v : fk11.linkR 8 1 1 = 13 := by kernel_rfl
theorem fk12_c (h : Fd w F B G fk11) : Calls Try.prog 9 #[.pointer (some ⟨B, 0, none⟩), .int .i64 8, .int .i64 1, .int .i64 1] w fun e w' => ∃ F' G', e = .returned (.int .i64 13) ∧ Fd w' F' B G' fk12 ∧ Step F F' w w' := by
  have := folink_any h 8 1 1 (by unfold B64; omega) (by unfold B64; omega) (by unfold B64; omega) fk11_wf (by omega)
  rw [fk12_v] at this
  exact this
def fk13 : Fo := fk12.drop 1
theorem fk13_wf : fk13.Wf 13 := fk12_wf.drop 1
theorem fk13_v : fk12.dropR 1 = 13 := by kernel_rfl
theorem fk13_c (h : Fd w F B G fk12) : Calls Try.prog 15 #[.pointer (some ⟨B, 0, none⟩), .int .i64 1] w fun e w' => ∃ F', e = .returned (.int .i64 13) ∧ Fd w' F' B G fk13 ∧ Step F F' w w' := by
  have := fodrop_any h 1 (by unfold B64; omega) fk12_wf (by omega)
  rw [fk13_v] at this
  exact this
def fk14 : Fo := fk13.drop 5
theorem fk14_wf : fk14.Wf 14 := fk13_wf.drop 5
theorem fk14_v : fk13.dropR 5 = 4 := by kernel_rfl
theorem fk14_c (h : Fd w F B G fk13) : Calls Try.prog 15 #[.pointer (some ⟨B, 0, none⟩), .int .i64 5] w fun e w' => ∃ F', e = .returned (.int .i64 4) ∧ Fd w' F' B G fk14 ∧ Step F F' w w' := by
  have := fodrop_any h 5 (by unfold B64; omega) fk13_wf (by omega)
  rw [fk14_v] at this
  exact this
def fk15 : Fo := fk14.mark 2 1
theorem fk15_wf : fk15.Wf 14 := fk14_wf.mark 2 1
theorem fk15_v : fk14.markR 2 1 = 0 := by kernel_rfl
theorem fk15_c (h : Fd w F B G fk14) : Calls Try.prog 16 #[.pointer (some ⟨B, 0, none⟩), .int .i64 2, .int .u8 1] w fun e w' => ∃ F', e = .returned (.int .i64 0) ∧ Fd w' F' B G fk15 ∧ Step F F' w w' := by
  have := fomark_any h 2 1 (by unfold B64; omega) fk14_wf (by omega)
  rw [fk15_v] at this
  exact this
def fk16 : Fo := fk15.mark 5 1
theorem fk16_wf : fk16.Wf 14 := fk15_wf.mark 5 1
theorem fk16_v : fk15.markR 5 1 = 4 := by kernel_rfl
theorem fk16_c (h : Fd w F B G fk15) : Calls Try.prog 16 #[.pointer (some ⟨B, 0, none⟩), .int .i64 5, .int .u8 1] w fun e w' => ∃ F', e = .returned (.int .i64 4) ∧ Fd w' F' B G fk16 ∧ Step F F' w w' := by
  have := fomark_any h 5 1 (by unfold B64; omega) fk15_wf (by omega)
  rw [fk16_v] at this
  exact this
def fk17 : Fo := fk16.mark 2 16
theorem fk17_wf : fk17.Wf 14 := fk16_wf.mark 2 16
theorem fk17_v : fk16.markR 2 16 = 1 := by kernel_rfl
theorem fk17_c (h : Fd w F B G fk16) : Calls Try.prog 16 #[.pointer (some ⟨B, 0, none⟩), .int .i64 2, .int .u8 16] w fun e w' => ∃ F', e = .returned (.int .i64 1) ∧ Fd w' F' B G fk17 ∧ Step F F' w w' := by
  have := fomark_any h 2 16 (by unfold B64; omega) fk16_wf (by omega)
  rw [fk17_v] at this
  exact this
def fk18 : Fo := fk17.emark 7 255
theorem fk18_wf : fk18.Wf 14 := fk17_wf.emark 7 255
theorem fk18_v : fk17.emarkR 7 255 = 1 := by kernel_rfl
theorem fk18_c (h : Fd w F B G fk17) : Calls Try.prog 17 #[.pointer (some ⟨B, 0, none⟩), .int .i64 7, .int .u8 255] w fun e w' => ∃ F', e = .returned (.int .i64 1) ∧ Fd w' F' B G fk18 ∧ Step F F' w w' := by
  have := foemark_any h 7 255 (by unfold B64; omega) fk17_wf (by omega)
  rw [fk18_v] at this
  exact this
def fk19 : Fo := fk18.emark 7 2
theorem fk19_wf : fk19.Wf 14 := fk18_wf.emark 7 2
theorem fk19_v : fk18.emarkR 7 2 = 0 := by kernel_rfl
theorem fk19_c (h : Fd w F B G fk18) : Calls Try.prog 17 #[.pointer (some ⟨B, 0, none⟩), .int .i64 7, .int .u8 2] w fun e w' => ∃ F', e = .returned (.int .i64 0) ∧ Fd w' F' B G fk19 ∧ Step F F' w w' := by
  have := foemark_any h 7 2 (by unfold B64; omega) fk18_wf (by omega)
  rw [fk19_v] at this
  exact this
def fk20 : Fo := fk19.emark 8 2
theorem fk20_wf : fk20.Wf 14 := fk19_wf.emark 8 2
theorem fk20_v : fk19.emarkR 8 2 = 4 := by kernel_rfl
theorem fk20_c (h : Fd w F B G fk19) : Calls Try.prog 17 #[.pointer (some ⟨B, 0, none⟩), .int .i64 8, .int .u8 2] w fun e w' => ∃ F', e = .returned (.int .i64 4) ∧ Fd w' F' B G fk20 ∧ Step F F' w w' := by
  have := foemark_any h 8 2 (by unfold B64; omega) fk19_wf (by omega)
  rw [fk20_v] at this
  exact this
theorem fk20_findv23_0 : fk20.vo (fk20.findV 1 1) = 2 := by kernel_rfl
theorem fk20_findv23_1 : decide (fk20.findV 1 1 ≠ 0) = true := by kernel_rfl
theorem fk20_findv23 (h : Fd w F B G fk20) : Calls Try.prog 18 #[.pointer (some ⟨B, 0, none⟩), .int .i64 1, .int .u8 1] w fun e w' => e = .returned (.tuple #[.int .i64 2, .bool true]) ∧ Below w.heap.size w w' := by
  have := fofindV_any h 1 1 (by unfold B64; omega) fk20_wf (by omega)
  rw [fk20_findv23_0, fk20_findv23_1] at this
  exact this
theorem fk20_findv24_0 : fk20.vo (fk20.findV 1 2) = 0 := by kernel_rfl
theorem fk20_findv24_1 : decide (fk20.findV 1 2 ≠ 0) = false := by kernel_rfl
theorem fk20_findv24 (h : Fd w F B G fk20) : Calls Try.prog 18 #[.pointer (some ⟨B, 0, none⟩), .int .i64 1, .int .u8 2] w fun e w' => e = .returned (.tuple #[.int .i64 0, .bool false]) ∧ Below w.heap.size w w' := by
  have := fofindV_any h 1 2 (by unfold B64; omega) fk20_wf (by omega)
  rw [fk20_findv24_0, fk20_findv24_1] at this
  exact this
theorem fk20_finde25_0 : fk20.eo (fk20.findE 2 2) = 7 := by kernel_rfl
theorem fk20_finde25_1 : decide (fk20.findE 2 2 ≠ 0) = true := by kernel_rfl
theorem fk20_finde25 (h : Fd w F B G fk20) : Calls Try.prog 19 #[.pointer (some ⟨B, 0, none⟩), .int .i64 2, .int .u8 2] w fun e w' => e = .returned (.tuple #[.int .i64 7, .bool true]) ∧ Below w.heap.size w w' := by
  have := fofindE_any h 2 2 (by unfold B64; omega) fk20_wf (by omega)
  rw [fk20_finde25_0, fk20_finde25_1] at this
  exact this
theorem fk20_finde26_0 : fk20.eo (fk20.findE (-4) 255) = 0 := by kernel_rfl
theorem fk20_finde26_1 : decide (fk20.findE (-4) 255 ≠ 0) = false := by kernel_rfl
theorem fk20_finde26 (h : Fd w F B G fk20) : Calls Try.prog 19 #[.pointer (some ⟨B, 0, none⟩), .int .i64 (-4), .int .u8 255] w fun e w' => e = .returned (.tuple #[.int .i64 0, .bool false]) ∧ Below w.heap.size w w' := by
  have := fofindE_any h (-4) 255 (by unfold B64; omega) fk20_wf (by omega)
  rw [fk20_finde26_0, fk20_finde26_1] at this
  exact this
def fk21 : Fo := fk20.set 1 7 2
theorem fk21_wf : fk21.Wf 14 := fk20_wf.set 1 7 2
theorem fk21_v : fk20.setR 1 7 2 = 0 := by kernel_rfl
theorem fk21_c (h : Fd w F B G fk20) : Calls Try.prog 20 #[.pointer (some ⟨B, 0, none⟩), .int .i64 1, .int .i64 7, .int .i64 2] w fun e w' => ∃ F', e = .returned (.int .i64 0) ∧ Fd w' F' B G fk21 ∧ Step F F' w w' := by
  have := foset_any h 1 7 2 (by unfold B64; omega) fk20_wf (by omega)
  rw [fk21_v] at this
  exact this
theorem fk21_least28_0 : fk21.least 2 = 2 := by kernel_rfl
theorem fk21_least28 (h : Fd w F B G fk21) : Calls Try.prog 14 #[.pointer (some ⟨B, 0, none⟩), .int .i64 2] w fun e w' => e = .returned (.int .i64 2) ∧ Below w.heap.size w w' := by
  have := foleast_any h 2 (by unfold B64; omega) fk21_wf (by omega)
  rw [fk21_least28_0] at this
  exact this
theorem fk21_sum29_0 : (fk21.total 2).s = 13 := by kernel_rfl
theorem fk21_sum29 (h : Fd w F B G fk21) : Calls Try.prog 13 #[.pointer (some ⟨B, 0, none⟩), .int .i64 2] w fun e w' => e = .returned (.int .i64 13) ∧ Below w.heap.size w w' := by
  have := fosum_any h 2 (by unfold B64; omega) fk21_wf (by omega)
  rw [fk21_sum29_0] at this
  exact this
def fk22 : Fo := fk21.set 1 (-1) 2
theorem fk22_wf : fk22.Wf 14 := fk21_wf.set 1 (-1) 2
theorem fk22_v : fk21.setR 1 (-1) 2 = 1 := by kernel_rfl
theorem fk22_c (h : Fd w F B G fk21) : Calls Try.prog 20 #[.pointer (some ⟨B, 0, none⟩), .int .i64 1, .int .i64 (-1), .int .i64 2] w fun e w' => ∃ F', e = .returned (.int .i64 1) ∧ Fd w' F' B G fk22 ∧ Step F F' w w' := by
  have := foset_any h 1 (-1) 2 (by unfold B64; omega) fk21_wf (by omega)
  rw [fk22_v] at this
  exact this
def fk23 : Fo := fk22.set 5 0 0
theorem fk23_wf : fk23.Wf 14 := fk22_wf.set 5 0 0
theorem fk23_v : fk22.setR 5 0 0 = 4 := by kernel_rfl
theorem fk23_c (h : Fd w F B G fk22) : Calls Try.prog 20 #[.pointer (some ⟨B, 0, none⟩), .int .i64 5, .int .i64 0, .int .i64 0] w fun e w' => ∃ F', e = .returned (.int .i64 4) ∧ Fd w' F' B G fk23 ∧ Step F F' w w' := by
  have := foset_any h 5 0 0 (by unfold B64; omega) fk22_wf (by omega)
  rw [fk23_v] at this
  exact this
def fk24 : Fo := fk23.cut 7
theorem fk24_wf : fk24.Wf 15 := fk23_wf.cut 7
theorem fk24_v : fk23.cutR 7 = 0 := by kernel_rfl
theorem fk24_c (h : Fd w F B G fk23) : Calls Try.prog 12 #[.pointer (some ⟨B, 0, none⟩), .int .i64 7] w fun e w' => ∃ F', e = .returned (.int .i64 0) ∧ Fd w' F' B G fk24 ∧ Step F F' w w' := by
  have := focut_any h 7 (by unfold B64; omega) fk23_wf (by omega)
  rw [fk24_v] at this
  exact this
def fk25 : Fo := fk24.cut 7
theorem fk25_wf : fk25.Wf 16 := fk24_wf.cut 7
theorem fk25_v : fk24.cutR 7 = 4 := by kernel_rfl
theorem fk25_c (h : Fd w F B G fk24) : Calls Try.prog 12 #[.pointer (some ⟨B, 0, none⟩), .int .i64 7] w fun e w' => ∃ F', e = .returned (.int .i64 4) ∧ Fd w' F' B G fk25 ∧ Step F F' w w' := by
  have := focut_any h 7 (by unfold B64; omega) fk24_wf (by omega)
  rw [fk25_v] at this
  exact this
theorem fk25_same34_0 : fk25.same 1 2 = false := by kernel_rfl
theorem fk25_same34 (h : Fd w F B G fk25) : Calls Try.prog 11 #[.pointer (some ⟨B, 0, none⟩), .int .i64 1, .int .i64 2] w fun e w' => e = .returned (.bool false) ∧ Below w.heap.size w w' := by
  have := fosame_any h 1 2 (by unfold B64; omega) (by unfold B64; omega) fk25_wf (by omega)
  rw [fk25_same34_0] at this
  exact this
theorem fk25_least35_0 : fk25.least 1 = 2 := by kernel_rfl
theorem fk25_least35 (h : Fd w F B G fk25) : Calls Try.prog 14 #[.pointer (some ⟨B, 0, none⟩), .int .i64 1] w fun e w' => e = .returned (.int .i64 2) ∧ Below w.heap.size w w' := by
  have := foleast_any h 1 (by unfold B64; omega) fk25_wf (by omega)
  rw [fk25_least35_0] at this
  exact this
def fk26 : Fo := fk25.drop 1
theorem fk26_wf : fk26.Wf 17 := fk25_wf.drop 1
theorem fk26_v : fk25.dropR 1 = 0 := by kernel_rfl
theorem fk26_c (h : Fd w F B G fk25) : Calls Try.prog 15 #[.pointer (some ⟨B, 0, none⟩), .int .i64 1] w fun e w' => ∃ F', e = .returned (.int .i64 0) ∧ Fd w' F' B G fk26 ∧ Step F F' w w' := by
  have := fodrop_any h 1 (by unfold B64; omega) fk25_wf (by omega)
  rw [fk26_v] at this
  exact this
theorem fk26_least37_0 : fk26.least 1 = -1 := by kernel_rfl
theorem fk26_least37 (h : Fd w F B G fk26) : Calls Try.prog 14 #[.pointer (some ⟨B, 0, none⟩), .int .i64 1] w fun e w' => e = .returned (.int .i64 (-1)) ∧ Below w.heap.size w w' := by
  have := foleast_any h 1 (by unfold B64; omega) fk26_wf (by omega)
  rw [fk26_least37_0] at this
  exact this
theorem fk26_has38_0 : (fk26.vi 1 != 0) = false := by kernel_rfl
theorem fk26_has38 (h : Fd w F B G fk26) : Calls Try.prog 21 #[.pointer (some ⟨B, 0, none⟩), .int .i64 1] w fun e w' => e = .returned (.bool false) ∧ w' = w := by
  have := fohas_any h 1 (by unfold B64; omega)
  rw [fk26_has38_0] at this
  exact this
def fk27 : Fo := fk26.add 1 0 0
theorem fk27_wf : fk27.Wf 18 := fk26_wf.add (by omega) 1 0 0
theorem fk27_v : fk26.addR 1 0 0 = 0 := by kernel_rfl
theorem fk27_c (h : Fd w F B G fk26) : Calls Try.prog 8 #[.pointer (some ⟨B, 0, none⟩), .int .i64 1, .int .i64 0, .int .i64 0] w fun e w' => ∃ F', e = .returned (.int .i64 0) ∧ Fd w' F' B G fk27 ∧ Step F F' w w' := by
  have := foadd_any h 1 0 0 (by unfold B64; omega) fk26_wf (by omega)
  rw [fk27_v] at this
  exact this
def fk28 : Fo := fk27.link 7 1 2
theorem fk28_wf : fk28.Wf 19 := fk27_wf.link (by omega) 7 1 2
theorem fk28_v : fk27.linkR 7 1 2 = 0 := by kernel_rfl
theorem fk28_c (h : Fd w F B G fk27) : Calls Try.prog 9 #[.pointer (some ⟨B, 0, none⟩), .int .i64 7, .int .i64 1, .int .i64 2] w fun e w' => ∃ F' G', e = .returned (.int .i64 0) ∧ Fd w' F' B G' fk28 ∧ Step F F' w w' := by
  have := folink_any h 7 1 2 (by unfold B64; omega) (by unfold B64; omega) (by unfold B64; omega) fk27_wf (by omega)
  rw [fk28_v] at this
  exact this
theorem fk28_finde41_0 : fk28.eo (fk28.findE 1 255) = 0 := by kernel_rfl
theorem fk28_finde41_1 : decide (fk28.findE 1 255 ≠ 0) = false := by kernel_rfl
theorem fk28_finde41 (h : Fd w F B G fk28) : Calls Try.prog 19 #[.pointer (some ⟨B, 0, none⟩), .int .i64 1, .int .u8 255] w fun e w' => e = .returned (.tuple #[.int .i64 0, .bool false]) ∧ Below w.heap.size w w' := by
  have := fofindE_any h 1 255 (by unfold B64; omega) fk28_wf (by omega)
  rw [fk28_finde41_0, fk28_finde41_1] at this
  exact this
theorem fk28_hasE42_0 : (fk28.ei 7 != 0) = true := by kernel_rfl
theorem fk28_hasE42 (h : Fd w F B G fk28) : Calls Try.prog 22 #[.pointer (some ⟨B, 0, none⟩), .int .i64 7] w fun e w' => e = .returned (.bool true) ∧ w' = w := by
  have := fohasE_any h 7 (by unfold B64; omega)
  rw [fk28_hasE42_0] at this
  exact this
end
set_option maxRecDepth 100000 in
set_option maxHeartbeats 16000000 in
theorem forestknown_walk (w : World) : Calls Try.prog 4 #[] w fun e w' => e = .returned (.bool true) ∧ Below w.heap.size w w' := by
  go_enter Try.func4, Try.ntmps4
  go_wp2_with fail
  refine (fonew_any none w).mono ?_
  rintro e w0 ⟨B, rfl, hB, hK, hb⟩
  have H0 : Hid (Fd w0 (fun k => k = B) B 0 fk0) := Fd.fresh hK rfl (fun k hk => by subst hk; exact hK.lt) (.inl rfl)
  have B0 := hid_mk hb
  have Q0 : Hid (∀ k, (fun k => k = B) k → w.heap.size ≤ k) := fun k hk => by have h' : k = B := hk; omega
  clear hK hb
  go_wp2_with fail
  refine (fk1_c H0.out).mono ?_
  rintro e w1 ⟨F1, rfl, hT, hS⟩
  have H1 := hid_mk hT
  have B1 := hid_mk (hS.start B0.out (Nat.le_refl _) Q0.out)
  have Q1 := hid_mk (hS.from B0.out.size Q0.out)
  clear hT hS H0 B0 Q0
  go_wp2_with fail
  refine (fk2_c H1.out).mono ?_
  rintro e w2 ⟨F2, rfl, hT, hS⟩
  have H2 := hid_mk hT
  have B2 := hid_mk (hS.start B1.out (Nat.le_refl _) Q1.out)
  have Q2 := hid_mk (hS.from B1.out.size Q1.out)
  clear hT hS H1 B1 Q1
  go_wp2_with fail
  refine (fk3_c H2.out).mono ?_
  rintro e w3 ⟨F3, rfl, hT, hS⟩
  have H3 := hid_mk hT
  have B3 := hid_mk (hS.start B2.out (Nat.le_refl _) Q2.out)
  have Q3 := hid_mk (hS.from B2.out.size Q2.out)
  clear hT hS H2 B2 Q2
  go_wp2_with fail
  refine (fk4_c H3.out).mono ?_
  rintro e w4 ⟨F4, rfl, hT, hS⟩
  have H4 := hid_mk hT
  have B4 := hid_mk (hS.start B3.out (Nat.le_refl _) Q3.out)
  have Q4 := hid_mk (hS.from B3.out.size Q3.out)
  clear hT hS H3 B3 Q3
  go_wp2_with fail
  refine (fk5_c H4.out).mono ?_
  rintro e w5 ⟨F5, rfl, hT, hS⟩
  have H5 := hid_mk hT
  have B5 := hid_mk (hS.start B4.out (Nat.le_refl _) Q4.out)
  have Q5 := hid_mk (hS.from B4.out.size Q4.out)
  clear hT hS H4 B4 Q4
  go_wp2_with fail
  refine (fk6_c H5.out).mono ?_
  rintro e w6 ⟨F6, rfl, hT, hS⟩
  have H6 := hid_mk hT
  have B6 := hid_mk (hS.start B5.out (Nat.le_refl _) Q5.out)
  have Q6 := hid_mk (hS.from B5.out.size Q5.out)
  clear hT hS H5 B5 Q5
  go_wp2_with fail
  refine (fk7_c H6.out).mono ?_
  rintro e w7 ⟨F7, G7, rfl, hT, hS⟩
  have H7 := hid_mk hT
  have B7 := hid_mk (hS.start B6.out (Nat.le_refl _) Q6.out)
  have Q7 := hid_mk (hS.from B6.out.size Q6.out)
  clear hT hS H6 B6 Q6
  go_wp2_with fail
  refine (fk7_size7 H7.out).mono ?_
  rintro e w8 ⟨rfl, hb⟩
  have H8 := hid_mk (H7.out.below hb)
  have B8 := hid_mk (B7.out.trans (hb.mono B7.out.size))
  have Q8 := Q7
  clear hb H7 B7 Q7
  go_wp2_with fail
  refine (fk7_sum8 H8.out).mono ?_
  rintro e w9 ⟨rfl, hb⟩
  have H9 := hid_mk (H8.out.below hb)
  have B9 := hid_mk (B8.out.trans (hb.mono B8.out.size))
  have Q9 := Q8
  clear hb H8 B8 Q8
  go_wp2_with fail
  refine (fk7_least9 H9.out).mono ?_
  rintro e w10 ⟨rfl, hb⟩
  have H10 := hid_mk (H9.out.below hb)
  have B10 := hid_mk (B9.out.trans (hb.mono B9.out.size))
  have Q10 := Q9
  clear hb H9 B9 Q9
  go_wp2_with fail
  refine (fk8_c H10.out).mono ?_
  rintro e w11 ⟨F11, G11, rfl, hT, hS⟩
  have H11 := hid_mk hT
  have B11 := hid_mk (hS.start B10.out (Nat.le_refl _) Q10.out)
  have Q11 := hid_mk (hS.from B10.out.size Q10.out)
  clear hT hS H10 B10 Q10
  go_wp2_with fail
  refine (fk9_c H11.out).mono ?_
  rintro e w12 ⟨F12, G12, rfl, hT, hS⟩
  have H12 := hid_mk hT
  have B12 := hid_mk (hS.start B11.out (Nat.le_refl _) Q11.out)
  have Q12 := hid_mk (hS.from B11.out.size Q11.out)
  clear hT hS H11 B11 Q11
  go_wp2_with fail
  refine (fk10_c H12.out).mono ?_
  rintro e w13 ⟨F13, G13, rfl, hT, hS⟩
  have H13 := hid_mk hT
  have B13 := hid_mk (hS.start B12.out (Nat.le_refl _) Q12.out)
  have Q13 := hid_mk (hS.from B12.out.size Q12.out)
  clear hT hS H12 B12 Q12
  go_wp2_with fail
  refine (fk11_c H13.out).mono ?_
  rintro e w14 ⟨F14, G14, rfl, hT, hS⟩
  have H14 := hid_mk hT
  have B14 := hid_mk (hS.start B13.out (Nat.le_refl _) Q13.out)
  have Q14 := hid_mk (hS.from B13.out.size Q13.out)
  clear hT hS H13 B13 Q13
  go_wp2_with fail
  refine (fk12_c H14.out).mono ?_
  rintro e w15 ⟨F15, G15, rfl, hT, hS⟩
  have H15 := hid_mk hT
  have B15 := hid_mk (hS.start B14.out (Nat.le_refl _) Q14.out)
  have Q15 := hid_mk (hS.from B14.out.size Q14.out)
  clear hT hS H14 B14 Q14
  go_wp2_with fail
  refine (fk13_c H15.out).mono ?_
  rintro e w16 ⟨F16, rfl, hT, hS⟩
  have H16 := hid_mk hT
  have B16 := hid_mk (hS.start B15.out (Nat.le_refl _) Q15.out)
  have Q16 := hid_mk (hS.from B15.out.size Q15.out)
  clear hT hS H15 B15 Q15
  go_wp2_with fail
  refine (fk14_c H16.out).mono ?_
  rintro e w17 ⟨F17, rfl, hT, hS⟩
  have H17 := hid_mk hT
  have B17 := hid_mk (hS.start B16.out (Nat.le_refl _) Q16.out)
  have Q17 := hid_mk (hS.from B16.out.size Q16.out)
  clear hT hS H16 B16 Q16
  go_wp2_with fail
  refine (fk15_c H17.out).mono ?_
  rintro e w18 ⟨F18, rfl, hT, hS⟩
  have H18 := hid_mk hT
  have B18 := hid_mk (hS.start B17.out (Nat.le_refl _) Q17.out)
  have Q18 := hid_mk (hS.from B17.out.size Q17.out)
  clear hT hS H17 B17 Q17
  go_wp2_with fail
  refine (fk16_c H18.out).mono ?_
  rintro e w19 ⟨F19, rfl, hT, hS⟩
  have H19 := hid_mk hT
  have B19 := hid_mk (hS.start B18.out (Nat.le_refl _) Q18.out)
  have Q19 := hid_mk (hS.from B18.out.size Q18.out)
  clear hT hS H18 B18 Q18
  go_wp2_with fail
  refine (fk17_c H19.out).mono ?_
  rintro e w20 ⟨F20, rfl, hT, hS⟩
  have H20 := hid_mk hT
  have B20 := hid_mk (hS.start B19.out (Nat.le_refl _) Q19.out)
  have Q20 := hid_mk (hS.from B19.out.size Q19.out)
  clear hT hS H19 B19 Q19
  go_wp2_with fail
  refine (fk18_c H20.out).mono ?_
  rintro e w21 ⟨F21, rfl, hT, hS⟩
  have H21 := hid_mk hT
  have B21 := hid_mk (hS.start B20.out (Nat.le_refl _) Q20.out)
  have Q21 := hid_mk (hS.from B20.out.size Q20.out)
  clear hT hS H20 B20 Q20
  go_wp2_with fail
  refine (fk19_c H21.out).mono ?_
  rintro e w22 ⟨F22, rfl, hT, hS⟩
  have H22 := hid_mk hT
  have B22 := hid_mk (hS.start B21.out (Nat.le_refl _) Q21.out)
  have Q22 := hid_mk (hS.from B21.out.size Q21.out)
  clear hT hS H21 B21 Q21
  go_wp2_with fail
  refine (fk20_c H22.out).mono ?_
  rintro e w23 ⟨F23, rfl, hT, hS⟩
  have H23 := hid_mk hT
  have B23 := hid_mk (hS.start B22.out (Nat.le_refl _) Q22.out)
  have Q23 := hid_mk (hS.from B22.out.size Q22.out)
  clear hT hS H22 B22 Q22
  go_wp2_with fail
  refine (fk20_findv23 H23.out).mono ?_
  rintro e w24 ⟨rfl, hb⟩
  have H24 := hid_mk (H23.out.below hb)
  have B24 := hid_mk (B23.out.trans (hb.mono B23.out.size))
  have Q24 := Q23
  clear hb H23 B23 Q23
  go_wp2_with fail
  refine (fk20_findv24 H24.out).mono ?_
  rintro e w25 ⟨rfl, hb⟩
  have H25 := hid_mk (H24.out.below hb)
  have B25 := hid_mk (B24.out.trans (hb.mono B24.out.size))
  have Q25 := Q24
  clear hb H24 B24 Q24
  go_wp2_with fail
  refine (fk20_finde25 H25.out).mono ?_
  rintro e w26 ⟨rfl, hb⟩
  have H26 := hid_mk (H25.out.below hb)
  have B26 := hid_mk (B25.out.trans (hb.mono B25.out.size))
  have Q26 := Q25
  clear hb H25 B25 Q25
  go_wp2_with fail
  refine (fk20_finde26 H26.out).mono ?_
  rintro e w27 ⟨rfl, hb⟩
  have H27 := hid_mk (H26.out.below hb)
  have B27 := hid_mk (B26.out.trans (hb.mono B26.out.size))
  have Q27 := Q26
  clear hb H26 B26 Q26
  go_wp2_with fail
  refine (fk21_c H27.out).mono ?_
  rintro e w28 ⟨F28, rfl, hT, hS⟩
  have H28 := hid_mk hT
  have B28 := hid_mk (hS.start B27.out (Nat.le_refl _) Q27.out)
  have Q28 := hid_mk (hS.from B27.out.size Q27.out)
  clear hT hS H27 B27 Q27
  go_wp2_with fail
  refine (fk21_least28 H28.out).mono ?_
  rintro e w29 ⟨rfl, hb⟩
  have H29 := hid_mk (H28.out.below hb)
  have B29 := hid_mk (B28.out.trans (hb.mono B28.out.size))
  have Q29 := Q28
  clear hb H28 B28 Q28
  go_wp2_with fail
  refine (fk21_sum29 H29.out).mono ?_
  rintro e w30 ⟨rfl, hb⟩
  have H30 := hid_mk (H29.out.below hb)
  have B30 := hid_mk (B29.out.trans (hb.mono B29.out.size))
  have Q30 := Q29
  clear hb H29 B29 Q29
  go_wp2_with fail
  refine (fk22_c H30.out).mono ?_
  rintro e w31 ⟨F31, rfl, hT, hS⟩
  have H31 := hid_mk hT
  have B31 := hid_mk (hS.start B30.out (Nat.le_refl _) Q30.out)
  have Q31 := hid_mk (hS.from B30.out.size Q30.out)
  clear hT hS H30 B30 Q30
  go_wp2_with fail
  refine (fk23_c H31.out).mono ?_
  rintro e w32 ⟨F32, rfl, hT, hS⟩
  have H32 := hid_mk hT
  have B32 := hid_mk (hS.start B31.out (Nat.le_refl _) Q31.out)
  have Q32 := hid_mk (hS.from B31.out.size Q31.out)
  clear hT hS H31 B31 Q31
  go_wp2_with fail
  refine (fk24_c H32.out).mono ?_
  rintro e w33 ⟨F33, rfl, hT, hS⟩
  have H33 := hid_mk hT
  have B33 := hid_mk (hS.start B32.out (Nat.le_refl _) Q32.out)
  have Q33 := hid_mk (hS.from B32.out.size Q32.out)
  clear hT hS H32 B32 Q32
  go_wp2_with fail
  refine (fk25_c H33.out).mono ?_
  rintro e w34 ⟨F34, rfl, hT, hS⟩
  have H34 := hid_mk hT
  have B34 := hid_mk (hS.start B33.out (Nat.le_refl _) Q33.out)
  have Q34 := hid_mk (hS.from B33.out.size Q33.out)
  clear hT hS H33 B33 Q33
  go_wp2_with fail
  refine (fk25_same34 H34.out).mono ?_
  rintro e w35 ⟨rfl, hb⟩
  have H35 := hid_mk (H34.out.below hb)
  have B35 := hid_mk (B34.out.trans (hb.mono B34.out.size))
  have Q35 := Q34
  clear hb H34 B34 Q34
  go_wp2_with fail
  refine (fk25_least35 H35.out).mono ?_
  rintro e w36 ⟨rfl, hb⟩
  have H36 := hid_mk (H35.out.below hb)
  have B36 := hid_mk (B35.out.trans (hb.mono B35.out.size))
  have Q36 := Q35
  clear hb H35 B35 Q35
  go_wp2_with fail
  refine (fk26_c H36.out).mono ?_
  rintro e w37 ⟨F37, rfl, hT, hS⟩
  have H37 := hid_mk hT
  have B37 := hid_mk (hS.start B36.out (Nat.le_refl _) Q36.out)
  have Q37 := hid_mk (hS.from B36.out.size Q36.out)
  clear hT hS H36 B36 Q36
  go_wp2_with fail
  refine (fk26_least37 H37.out).mono ?_
  rintro e w38 ⟨rfl, hb⟩
  have H38 := hid_mk (H37.out.below hb)
  have B38 := hid_mk (B37.out.trans (hb.mono B37.out.size))
  have Q38 := Q37
  clear hb H37 B37 Q37
  go_wp2_with fail
  refine (fk26_has38 H38.out).mono ?_
  rintro e w39 ⟨rfl, rfl⟩
  have H39 := H38
  have B39 := B38
  have Q39 := Q38
  clear H38 B38 Q38
  go_wp2_with fail
  refine (fk27_c H39.out).mono ?_
  rintro e w40 ⟨F40, rfl, hT, hS⟩
  have H40 := hid_mk hT
  have B40 := hid_mk (hS.start B39.out (Nat.le_refl _) Q39.out)
  have Q40 := hid_mk (hS.from B39.out.size Q39.out)
  clear hT hS H39 B39 Q39
  go_wp2_with fail
  refine (fk28_c H40.out).mono ?_
  rintro e w41 ⟨F41, G41, rfl, hT, hS⟩
  have H41 := hid_mk hT
  have B41 := hid_mk (hS.start B40.out (Nat.le_refl _) Q40.out)
  have Q41 := hid_mk (hS.from B40.out.size Q40.out)
  clear hT hS H40 B40 Q40
  go_wp2_with fail
  refine (fk28_finde41 H41.out).mono ?_
  rintro e w42 ⟨rfl, hb⟩
  have H42 := hid_mk (H41.out.below hb)
  have B42 := hid_mk (B41.out.trans (hb.mono B41.out.size))
  have Q42 := Q41
  clear hb H41 B41 Q41
  go_wp2_with fail
  refine (fk28_hasE42 H42.out).mono ?_
  rintro e w43 ⟨rfl, rfl⟩
  have H43 := H42
  have B43 := B42
  have Q43 := Q42
  clear H42 B42 Q42
  go_wp2_with fail
  refine (fwakes_any _).mono ?_
  rintro e wa ⟨rfl, hb⟩
  have BZ := hid_mk (B43.out.trans (hb.mono B43.out.size))
  clear hb H43 B43 Q43
  go_wp2
  go_ret
  exact ⟨rfl, BZ.out⟩
end Go.Proofs.Ytkpfonfcgoocfab
