/- Layer 7's statements: forests that are written out, call by call (by tools/gen_tawake.py). -/
import Derived.Test.YtkpfonfcgoocfaaTourMade
namespace Go.Proofs.Ytkpfonfcgoocfaa
open Go.RowKit
set_option linter.unusedVariables false
theorem ne_of_b {n : Nat} (h : Nat.beq n 0 = false) : n ≠ 0 := fun e => by rw [e] at h; cases h
theorem le_of_b {t : To} {k : Nat} (h : (Nat.ble t.s.K.length (3 * k) && Nat.ble t.s.n (3 * k) && Nat.ble t.v.length k && Nat.ble t.fv.length k && Nat.ble t.e.length k && Nat.ble t.fe.length k && Nat.ble t.m (3 * k)) = true) : t.le k := by
  simp only [Bool.and_eq_true, Nat.ble_eq] at h
  obtain ⟨⟨⟨⟨⟨⟨h1, h2⟩, h3⟩, h4⟩, h5⟩, h6⟩, h7⟩ := h
  exact ⟨⟨h1, h2⟩, h3, h4, h5, h6, h7⟩
section
variable {w : World} {F : Nat → Prop} {B G : Nat}
def aw0 : To := to0
theorem aw0_wf : aw0.Wf 0 := to0_wf
theorem aw0_le : aw0.le 50 := aw0_wf.le.mono (by omega)
def aw1 : To := aw0.addV 10 7
theorem aw1_wf : aw1.Wf 1 := aw0_wf.addV 10 7
theorem aw1_le : aw1.le 50 := aw1_wf.le.mono (by omega)
theorem aw1_v0 : tkI aw0.v aw0.fv = 1 := by kernel_rfl
theorem aw1_c (h : Tf Y0 w F B G aw0) : Calls Try.prog 16 #[.pointer (some ⟨B, 0, none⟩), .int .i64 10, .int .i64 7] w fun e w' => ∃ F', e = .returned (.int .i64 1) ∧ Tf Y0 w' F' B G aw1 ∧ Step F F' w w' := by
  have := fvertex_any h 10 7 aw0_le (by omega)
  rw [aw1_v0] at this
  exact this
def aw2 : To := aw1.addV 20 5
theorem aw2_wf : aw2.Wf 2 := aw1_wf.addV 20 5
theorem aw2_le : aw2.le 50 := aw2_wf.le.mono (by omega)
theorem aw2_v0 : tkI aw1.v aw1.fv = 2 := by kernel_rfl
theorem aw2_c (h : Tf Y0 w F B G aw1) : Calls Try.prog 16 #[.pointer (some ⟨B, 0, none⟩), .int .i64 20, .int .i64 5] w fun e w' => ∃ F', e = .returned (.int .i64 2) ∧ Tf Y0 w' F' B G aw2 ∧ Step F F' w w' := by
  have := fvertex_any h 20 5 aw1_le (by omega)
  rw [aw2_v0] at this
  exact this
def aw3 : To := aw2.addV 30 6
theorem aw3_wf : aw3.Wf 3 := aw2_wf.addV 30 6
theorem aw3_le : aw3.le 50 := aw3_wf.le.mono (by omega)
theorem aw3_v0 : tkI aw2.v aw2.fv = 3 := by kernel_rfl
theorem aw3_c (h : Tf Y0 w F B G aw2) : Calls Try.prog 16 #[.pointer (some ⟨B, 0, none⟩), .int .i64 30, .int .i64 6] w fun e w' => ∃ F', e = .returned (.int .i64 3) ∧ Tf Y0 w' F' B G aw3 ∧ Step F F' w w' := by
  have := fvertex_any h 30 6 aw2_le (by omega)
  rw [aw3_v0] at this
  exact this
def aw4 : To := aw3.linked 1 2
theorem aw4_wf : aw4.Wf 4 := aw3_wf.linked 1 2
theorem aw4_le : aw4.le 50 := aw4_wf.le.mono (by omega)
theorem aw4_v0 : aw3.linkN 1 2 = 1 := by kernel_rfl
theorem aw4_v1 : aw3.linkR 1 2 = 0 := by kernel_rfl
theorem aw4_c (h : Tf Y0 w F B G aw3) : Calls Try.prog 17 #[.pointer (some ⟨B, 0, none⟩), .int .i64 1, .int .i64 2] w fun e w' => ∃ F' G', e = .returned (.tuple #[.int .i64 1, .int .i64 0]) ∧ Tf Y0 w' F' B G' aw4 ∧ Step F F' w w' := by
  have := flink_any h 1 2 (fun _ => ne_of_b (by kernel_rfl)) aw3_le (by omega)
  rw [aw4_v0, aw4_v1] at this
  exact this
def aw5 : To := aw4.linked 3 2
theorem aw5_wf : aw5.Wf 5 := aw4_wf.linked 3 2
theorem aw5_le : aw5.le 50 := aw5_wf.le.mono (by omega)
theorem aw5_v0 : aw4.linkN 3 2 = 2 := by kernel_rfl
theorem aw5_v1 : aw4.linkR 3 2 = 0 := by kernel_rfl
theorem aw5_c (h : Tf Y0 w F B G aw4) : Calls Try.prog 17 #[.pointer (some ⟨B, 0, none⟩), .int .i64 3, .int .i64 2] w fun e w' => ∃ F' G', e = .returned (.tuple #[.int .i64 2, .int .i64 0]) ∧ Tf Y0 w' F' B G' aw5 ∧ Step F F' w w' := by
  have := flink_any h 3 2 (fun _ => ne_of_b (by kernel_rfl)) aw4_le (by omega)
  rw [aw5_v0, aw5_v1] at this
  exact this
def aw6 : To := aw5.linked 1 3
theorem aw6_wf : aw6.Wf 6 := aw5_wf.linked 1 3
theorem aw6_le : aw6.le 50 := aw6_wf.le.mono (by omega)
theorem aw6_v0 : aw5.linkN 1 3 = 0 := by kernel_rfl
theorem aw6_v1 : aw5.linkR 1 3 = 5 := by kernel_rfl
theorem aw6_c (h : Tf Y0 w F B G aw5) : Calls Try.prog 17 #[.pointer (some ⟨B, 0, none⟩), .int .i64 1, .int .i64 3] w fun e w' => ∃ F' G', e = .returned (.tuple #[.int .i64 0, .int .i64 5]) ∧ Tf Y0 w' F' B G' aw6 ∧ Step F F' w w' := by
  have := flink_any h 1 3 (fun _ => ne_of_b (by kernel_rfl)) aw5_le (by omega)
  rw [aw6_v0, aw6_v1] at this
  exact this
theorem aw6_size1_0 : (aw6.total 1).c = 3 := by kernel_rfl
theorem aw6_size1_ (h : Tf Y0 w F B G aw6) : Calls Try.prog 18 #[.pointer (some ⟨B, 0, none⟩), .int .i64 1] w fun e w' => e = .returned (.int .i64 3) ∧ Below w.heap.size w w' := by
  have := fsize_any h 1 aw6_le (by omega)
  rw [aw6_size1_0] at this
  exact this
theorem aw6_sum3_0 : (aw6.total 3).s = 60 := by kernel_rfl
theorem aw6_sum3_ (h : Tf Y0 w F B G aw6) : Calls Try.prog 19 #[.pointer (some ⟨B, 0, none⟩), .int .i64 3] w fun e w' => e = .returned (.int .i64 60) ∧ Below w.heap.size w w' := by
  have := fsum_any h 3 aw6_le (by omega)
  rw [aw6_sum3_0] at this
  exact this
theorem aw6_least1_0 : (aw6.total 1).l = 5 := by kernel_rfl
theorem aw6_least1_ (h : Tf Y0 w F B G aw6) : Calls Try.prog 20 #[.pointer (some ⟨B, 0, none⟩), .int .i64 1] w fun e w' => e = .returned (.int .i64 5) ∧ Below w.heap.size w w' := by
  have := fleast_any h 1 aw6_le (by omega)
  rw [aw6_least1_0] at this
  exact this
def aw7 : To := aw6.mark 3 2
theorem aw7_wf : aw7.Wf 6 := aw6_wf.mark 3 2
theorem aw7_le : aw7.le 50 := aw7_wf.le.mono (by omega)
theorem aw7_v0 : aw6.markR 3 2 = 0 := by kernel_rfl
theorem aw7_c (h : Tf Y0 w F B G aw6) : Calls Try.prog 57 #[.pointer (some ⟨B, 0, none⟩), .int .i64 3, .int .u8 2] w fun e w' => ∃ F', e = .returned (.int .i64 0) ∧ Tf Y0 w' F' B G aw7 ∧ Step F F' w w' := by
  have := fmark_any h 3 2 aw6_le (by omega)
  rw [aw7_v0] at this
  exact this
theorem aw7_findv1_m : vmk 6 = 6 := by kernel_rfl
theorem aw7_findv1_f : (aw7.find 1 6).1 = 3 := by kernel_rfl
theorem aw7_findv1_ (h : Tf Y0 w F B G aw7) : Calls Try.prog 58 #[.pointer (some ⟨B, 0, none⟩), .int .i64 1, .int .u8 6] w fun e w' => e = .returned (.tuple #[.int .i64 3, .bool true]) ∧ Below w.heap.size w w' := by
  have := ffindV_any h 1 6 (by rw [aw7_findv1_m]; omega) (by rw [aw7_findv1_m, aw7_findv1_f]; omega) aw7_le (by omega)
  rw [aw7_findv1_m, aw7_findv1_f] at this
  exact this
def aw8 : To := aw7.emark 2 1
theorem aw8_wf : aw8.Wf 6 := aw7_wf.emark 2 1
theorem aw8_le : aw8.le 50 := aw8_wf.le.mono (by omega)
theorem aw8_v0 : aw7.emarkR 2 1 = 0 := by kernel_rfl
theorem aw8_c (h : Tf Y0 w F B G aw7) : Calls Try.prog 59 #[.pointer (some ⟨B, 0, none⟩), .int .i64 2, .int .u8 1] w fun e w' => ∃ F', e = .returned (.int .i64 0) ∧ Tf Y0 w' F' B G aw8 ∧ Step F F' w w' := by
  have := femark_any h 2 1 aw7_le (by omega)
  rw [aw8_v0] at this
  exact this
theorem aw8_finde1_m : emk 1 = 16 := by kernel_rfl
theorem aw8_finde1_f : (aw8.find 1 16).2 = 2 := by kernel_rfl
theorem aw8_finde1_ (h : Tf Y0 w F B G aw8) : Calls Try.prog 60 #[.pointer (some ⟨B, 0, none⟩), .int .i64 1, .int .u8 1] w fun e w' => e = .returned (.tuple #[.int .i64 2, .bool true]) ∧ Below w.heap.size w w' := by
  have := ffindE_any h 1 1 (by rw [aw8_finde1_m]; omega) (by rw [aw8_finde1_m, aw8_finde1_f]; omega) aw8_le (by omega)
  rw [aw8_finde1_m, aw8_finde1_f] at this
  exact this
theorem aw8_ends2_0 : aw8.endA 2 = 3 := by kernel_rfl
theorem aw8_ends2_1 : aw8.endB 2 = 2 := by kernel_rfl
theorem aw8_ends2_2 : isA aw8.e 2 = true := by kernel_rfl
theorem aw8_ends2_ (h : Tf Y0 w F B G aw8) : Calls Try.prog 61 #[.pointer (some ⟨B, 0, none⟩), .int .i64 2] w fun e w' => e = .returned (.tuple #[.int .i64 3, .int .i64 2, .bool true]) ∧ Below w.heap.size w w' := by
  have := fends_any h 2 aw8_le (by omega)
  rw [aw8_ends2_0, aw8_ends2_1, aw8_ends2_2] at this
  exact this
def aw9 : To := aw8.cut 2
theorem aw9_wf : aw9.Wf 7 := aw8_wf.cut 2
theorem aw9_le : aw9.le 50 := aw9_wf.le.mono (by omega)
theorem aw9_v0 : aw8.cutR 2 = 0 := by kernel_rfl
theorem aw9_c (h : Tf Y0 w F B G aw8) : Calls Try.prog 62 #[.pointer (some ⟨B, 0, none⟩), .int .i64 2] w fun e w' => ∃ F', e = .returned (.int .i64 0) ∧ Tf Y0 w' F' B G aw9 ∧ Step F F' w w' := by
  have := fcut_any h 2 aw8_le (by omega)
  rw [aw9_v0] at this
  exact this
def aw10 : To := aw9.set 1 1 1
theorem aw10_wf : aw10.Wf 7 := aw9_wf.set 1 1 1
theorem aw10_le : aw10.le 50 := aw10_wf.le.mono (by omega)
theorem aw10_v0 : aw9.setR 1 = 0 := by kernel_rfl
theorem aw10_c (h : Tf Y0 w F B G aw9) : Calls Try.prog 63 #[.pointer (some ⟨B, 0, none⟩), .int .i64 1, .int .i64 1, .int .i64 1] w fun e w' => ∃ F', e = .returned (.int .i64 0) ∧ Tf Y0 w' F' B G aw10 ∧ Step F F' w w' := by
  have := fset_any h 1 1 1 aw9_le (by omega)
  rw [aw10_v0] at this
  exact this
def aw11 : To := aw10.drop 3
theorem aw11_wf : aw11.Wf 8 := aw10_wf.drop 3
theorem aw11_le : aw11.le 50 := aw11_wf.le.mono (by omega)
theorem aw11_v0 : aw10.dropR 3 = 0 := by kernel_rfl
theorem aw11_c (h : Tf Y0 w F B G aw10) : Calls Try.prog 64 #[.pointer (some ⟨B, 0, none⟩), .int .i64 3] w fun e w' => ∃ F', e = .returned (.int .i64 0) ∧ Tf Y0 w' F' B G aw11 ∧ Step F F' w w' := by
  have := fdrop_any h 3 aw10_le (by omega)
  rw [aw11_v0] at this
  exact this
theorem aw11_same13_0 : aw11.same 1 3 = false := by kernel_rfl
theorem aw11_same13_ (h : Tf Y0 w F B G aw11) : Calls Try.prog 21 #[.pointer (some ⟨B, 0, none⟩), .int .i64 1, .int .i64 3] w fun e w' => e = .returned (.bool false) ∧ Below w.heap.size w w' := by
  have := fsame_any h 1 3 aw11_le (by omega)
  rw [aw11_same13_0] at this
  exact this
theorem aw11_same12_0 : aw11.same 1 2 = true := by kernel_rfl
theorem aw11_same12_ (h : Tf Y0 w F B G aw11) : Calls Try.prog 21 #[.pointer (some ⟨B, 0, none⟩), .int .i64 1, .int .i64 2] w fun e w' => e = .returned (.bool true) ∧ Below w.heap.size w w' := by
  have := fsame_any h 1 2 aw11_le (by omega)
  rw [aw11_same12_0] at this
  exact this
theorem aw11_sum2_0 : (aw11.total 2).s = 21 := by kernel_rfl
theorem aw11_sum2_ (h : Tf Y0 w F B G aw11) : Calls Try.prog 19 #[.pointer (some ⟨B, 0, none⟩), .int .i64 2] w fun e w' => e = .returned (.int .i64 21) ∧ Below w.heap.size w w' := by
  have := fsum_any h 2 aw11_le (by omega)
  rw [aw11_sum2_0] at this
  exact this
theorem aw11_size1_0 : (aw11.total 1).c = 2 := by kernel_rfl
theorem aw11_size1_ (h : Tf Y0 w F B G aw11) : Calls Try.prog 18 #[.pointer (some ⟨B, 0, none⟩), .int .i64 1] w fun e w' => e = .returned (.int .i64 2) ∧ Below w.heap.size w w' := by
  have := fsize_any h 1 aw11_le (by omega)
  rw [aw11_size1_0] at this
  exact this
theorem aw_verts : aw11.verts 1 = [2, 1] := by kernel_rfl
theorem aw_p : ∀ i, 0 ≤ (aw11.p i).1 ∧ (aw11.p i).1 ≤ 2147483647 := fun i => ⟨(aw11_wf.pb i).1, by have := (aw11_wf.pb i).2.1; omega⟩
def kn0 : To := to0
theorem kn0_wf : kn0.Wf 0 := to0_wf
theorem kn0_le : kn0.le 50 := kn0_wf.le.mono (by omega)
def kn1 : To := kn0.addV 10 7
theorem kn1_wf : kn1.Wf 1 := kn0_wf.addV 10 7
theorem kn1_le : kn1.le 50 := kn1_wf.le.mono (by omega)
theorem kn1_v0 : tkI kn0.v kn0.fv = 1 := by kernel_rfl
theorem kn1_c (h : Tf Y0 w F B G kn0) : Calls Try.prog 16 #[.pointer (some ⟨B, 0, none⟩), .int .i64 10, .int .i64 7] w fun e w' => ∃ F', e = .returned (.int .i64 1) ∧ Tf Y0 w' F' B G kn1 ∧ Step F F' w w' := by
  have := fvertex_any h 10 7 kn0_le (by omega)
  rw [kn1_v0] at this
  exact this
def kn2 : To := kn1.addV 20 5
theorem kn2_wf : kn2.Wf 2 := kn1_wf.addV 20 5
theorem kn2_le : kn2.le 50 := kn2_wf.le.mono (by omega)
theorem kn2_v0 : tkI kn1.v kn1.fv = 2 := by kernel_rfl
theorem kn2_c (h : Tf Y0 w F B G kn1) : Calls Try.prog 16 #[.pointer (some ⟨B, 0, none⟩), .int .i64 20, .int .i64 5] w fun e w' => ∃ F', e = .returned (.int .i64 2) ∧ Tf Y0 w' F' B G kn2 ∧ Step F F' w w' := by
  have := fvertex_any h 20 5 kn1_le (by omega)
  rw [kn2_v0] at this
  exact this
def kn3 : To := kn2.addV 30 6
theorem kn3_wf : kn3.Wf 3 := kn2_wf.addV 30 6
theorem kn3_le : kn3.le 50 := kn3_wf.le.mono (by omega)
theorem kn3_v0 : tkI kn2.v kn2.fv = 3 := by kernel_rfl
theorem kn3_c (h : Tf Y0 w F B G kn2) : Calls Try.prog 16 #[.pointer (some ⟨B, 0, none⟩), .int .i64 30, .int .i64 6] w fun e w' => ∃ F', e = .returned (.int .i64 3) ∧ Tf Y0 w' F' B G kn3 ∧ Step F F' w w' := by
  have := fvertex_any h 30 6 kn2_le (by omega)
  rw [kn3_v0] at this
  exact this
def kn4 : To := kn3.linked 1 2
theorem kn4_wf : kn4.Wf 4 := kn3_wf.linked 1 2
theorem kn4_le : kn4.le 50 := kn4_wf.le.mono (by omega)
theorem kn4_v0 : kn3.linkN 1 2 = 1 := by kernel_rfl
theorem kn4_v1 : kn3.linkR 1 2 = 0 := by kernel_rfl
theorem kn4_c (h : Tf Y0 w F B G kn3) : Calls Try.prog 17 #[.pointer (some ⟨B, 0, none⟩), .int .i64 1, .int .i64 2] w fun e w' => ∃ F' G', e = .returned (.tuple #[.int .i64 1, .int .i64 0]) ∧ Tf Y0 w' F' B G' kn4 ∧ Step F F' w w' := by
  have := flink_any h 1 2 (fun _ => ne_of_b (by kernel_rfl)) kn3_le (by omega)
  rw [kn4_v0, kn4_v1] at this
  exact this
def kn5 : To := kn4.linked 3 2
theorem kn5_wf : kn5.Wf 5 := kn4_wf.linked 3 2
theorem kn5_le : kn5.le 50 := kn5_wf.le.mono (by omega)
theorem kn5_v0 : kn4.linkN 3 2 = 2 := by kernel_rfl
theorem kn5_v1 : kn4.linkR 3 2 = 0 := by kernel_rfl
theorem kn5_c (h : Tf Y0 w F B G kn4) : Calls Try.prog 17 #[.pointer (some ⟨B, 0, none⟩), .int .i64 3, .int .i64 2] w fun e w' => ∃ F' G', e = .returned (.tuple #[.int .i64 2, .int .i64 0]) ∧ Tf Y0 w' F' B G' kn5 ∧ Step F F' w w' := by
  have := flink_any h 3 2 (fun _ => ne_of_b (by kernel_rfl)) kn4_le (by omega)
  rw [kn5_v0, kn5_v1] at this
  exact this
def kn6 : To := kn5.mark 3 2
theorem kn6_wf : kn6.Wf 5 := kn5_wf.mark 3 2
theorem kn6_le : kn6.le 50 := kn6_wf.le.mono (by omega)
theorem kn6_v0 : kn5.markR 3 2 = 0 := by kernel_rfl
theorem kn6_c (h : Tf Y0 w F B G kn5) : Calls Try.prog 57 #[.pointer (some ⟨B, 0, none⟩), .int .i64 3, .int .u8 2] w fun e w' => ∃ F', e = .returned (.int .i64 0) ∧ Tf Y0 w' F' B G kn6 ∧ Step F F' w w' := by
  have := fmark_any h 3 2 kn5_le (by omega)
  rw [kn6_v0] at this
  exact this
def kn7 : To := kn6.cut 2
theorem kn7_wf : kn7.Wf 6 := kn6_wf.cut 2
theorem kn7_le : kn7.le 50 := kn7_wf.le.mono (by omega)
theorem kn7_v0 : kn6.cutR 2 = 0 := by kernel_rfl
theorem kn7_c (h : Tf Y0 w F B G kn6) : Calls Try.prog 62 #[.pointer (some ⟨B, 0, none⟩), .int .i64 2] w fun e w' => ∃ F', e = .returned (.int .i64 0) ∧ Tf Y0 w' F' B G kn7 ∧ Step F F' w w' := by
  have := fcut_any h 2 kn6_le (by omega)
  rw [kn7_v0] at this
  exact this
theorem kn7_findv1_m : vmk 6 = 6 := by kernel_rfl
theorem kn7_findv1_f : (kn7.find 1 6).1 = 0 := by kernel_rfl
theorem kn7_findv1_ (h : Tf Y0 w F B G kn7) : Calls Try.prog 58 #[.pointer (some ⟨B, 0, none⟩), .int .i64 1, .int .u8 6] w fun e w' => e = .returned (.tuple #[.int .i64 0, .bool false]) ∧ Below w.heap.size w w' := by
  have := ffindV_any h 1 6 (by rw [kn7_findv1_m]; omega) (by rw [kn7_findv1_m, kn7_findv1_f]; omega) kn7_le (by omega)
  rw [kn7_findv1_m, kn7_findv1_f] at this
  exact this
def kn8 : To := kn7.drop 3
theorem kn8_wf : kn8.Wf 7 := kn7_wf.drop 3
theorem kn8_le : kn8.le 50 := kn8_wf.le.mono (by omega)
theorem kn8_v0 : kn7.dropR 3 = 0 := by kernel_rfl
theorem kn8_c (h : Tf Y0 w F B G kn7) : Calls Try.prog 64 #[.pointer (some ⟨B, 0, none⟩), .int .i64 3] w fun e w' => ∃ F', e = .returned (.int .i64 0) ∧ Tf Y0 w' F' B G kn8 ∧ Step F F' w w' := by
  have := fdrop_any h 3 kn7_le (by omega)
  rw [kn8_v0] at this
  exact this
def kn9 : To := kn8.drop 1
theorem kn9_wf : kn9.Wf 8 := kn8_wf.drop 1
theorem kn9_le : kn9.le 50 := kn9_wf.le.mono (by omega)
theorem kn9_v0 : kn8.dropR 1 = 13 := by kernel_rfl
theorem kn9_c (h : Tf Y0 w F B G kn8) : Calls Try.prog 64 #[.pointer (some ⟨B, 0, none⟩), .int .i64 1] w fun e w' => ∃ F', e = .returned (.int .i64 13) ∧ Tf Y0 w' F' B G kn9 ∧ Step F F' w w' := by
  have := fdrop_any h 1 kn8_le (by omega)
  rw [kn9_v0] at this
  exact this
def kn10 : To := kn9.linked 2 2
theorem kn10_wf : kn10.Wf 9 := kn9_wf.linked 2 2
theorem kn10_le : kn10.le 50 := kn10_wf.le.mono (by omega)
theorem kn10_v0 : kn9.linkN 2 2 = 0 := by kernel_rfl
theorem kn10_v1 : kn9.linkR 2 2 = 5 := by kernel_rfl
theorem kn10_c (h : Tf Y0 w F B G kn9) : Calls Try.prog 17 #[.pointer (some ⟨B, 0, none⟩), .int .i64 2, .int .i64 2] w fun e w' => ∃ F' G', e = .returned (.tuple #[.int .i64 0, .int .i64 5]) ∧ Tf Y0 w' F' B G' kn10 ∧ Step F F' w w' := by
  have := flink_any h 2 2 (fun _ => ne_of_b (by kernel_rfl)) kn9_le (by omega)
  rw [kn10_v0, kn10_v1] at this
  exact this
def kn11 : To := kn10.addV 0 0
theorem kn11_wf : kn11.Wf 10 := kn10_wf.addV 0 0
theorem kn11_le : kn11.le 50 := kn11_wf.le.mono (by omega)
theorem kn11_v0 : tkI kn10.v kn10.fv = 3 := by kernel_rfl
theorem kn11_c (h : Tf Y0 w F B G kn10) : Calls Try.prog 16 #[.pointer (some ⟨B, 0, none⟩), .int .i64 0, .int .i64 0] w fun e w' => ∃ F', e = .returned (.int .i64 3) ∧ Tf Y0 w' F' B G kn11 ∧ Step F F' w w' := by
  have := fvertex_any h 0 0 kn10_le (by omega)
  rw [kn11_v0] at this
  exact this
def kn12 : To := kn11.linked 3 1
theorem kn12_wf : kn12.Wf 11 := kn11_wf.linked 3 1
theorem kn12_le : kn12.le 50 := kn12_wf.le.mono (by omega)
theorem kn12_v0 : kn11.linkN 3 1 = 2 := by kernel_rfl
theorem kn12_v1 : kn11.linkR 3 1 = 0 := by kernel_rfl
theorem kn12_c (h : Tf Y0 w F B G kn11) : Calls Try.prog 17 #[.pointer (some ⟨B, 0, none⟩), .int .i64 3, .int .i64 1] w fun e w' => ∃ F' G', e = .returned (.tuple #[.int .i64 2, .int .i64 0]) ∧ Tf Y0 w' F' B G' kn12 ∧ Step F F' w w' := by
  have := flink_any h 3 1 (fun _ => ne_of_b (by kernel_rfl)) kn11_le (by omega)
  rw [kn12_v0, kn12_v1] at this
  exact this
def kn13 : To := kn12.mark 1 16
theorem kn13_wf : kn13.Wf 11 := kn12_wf.mark 1 16
theorem kn13_le : kn13.le 50 := kn13_wf.le.mono (by omega)
theorem kn13_v0 : kn12.markR 1 16 = 1 := by kernel_rfl
theorem kn13_c (h : Tf Y0 w F B G kn12) : Calls Try.prog 57 #[.pointer (some ⟨B, 0, none⟩), .int .i64 1, .int .u8 16] w fun e w' => ∃ F', e = .returned (.int .i64 1) ∧ Tf Y0 w' F' B G kn13 ∧ Step F F' w w' := by
  have := fmark_any h 1 16 kn12_le (by omega)
  rw [kn13_v0] at this
  exact this
def kn14 : To := kn13.mark 9 16
theorem kn14_wf : kn14.Wf 11 := kn13_wf.mark 9 16
theorem kn14_le : kn14.le 50 := kn14_wf.le.mono (by omega)
theorem kn14_v0 : kn13.markR 9 16 = 1 := by kernel_rfl
theorem kn14_c (h : Tf Y0 w F B G kn13) : Calls Try.prog 57 #[.pointer (some ⟨B, 0, none⟩), .int .i64 9, .int .u8 16] w fun e w' => ∃ F', e = .returned (.int .i64 1) ∧ Tf Y0 w' F' B G kn14 ∧ Step F F' w w' := by
  have := fmark_any h 9 16 kn13_le (by omega)
  rw [kn14_v0] at this
  exact this
def kn15 : To := kn14.emark 9 1
theorem kn15_wf : kn15.Wf 11 := kn14_wf.emark 9 1
theorem kn15_le : kn15.le 50 := kn15_wf.le.mono (by omega)
theorem kn15_v0 : kn14.emarkR 9 1 = 4 := by kernel_rfl
theorem kn15_c (h : Tf Y0 w F B G kn14) : Calls Try.prog 59 #[.pointer (some ⟨B, 0, none⟩), .int .i64 9, .int .u8 1] w fun e w' => ∃ F', e = .returned (.int .i64 4) ∧ Tf Y0 w' F' B G kn15 ∧ Step F F' w w' := by
  have := femark_any h 9 1 kn14_le (by omega)
  rw [kn15_v0] at this
  exact this
end
end Go.Proofs.Ytkpfonfcgoocfaa
