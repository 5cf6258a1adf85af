/- The statements' helper awake. -/
import Derived.Test.YtcflbekjiohfnaaCellAll
namespace Go.Proofs.Ytcflbekjiohfnaa
open Go.RowKit
set_option linter.unusedVariables false

def awE : List Ed := [(0, 1), (0, 0), (1, 0)]
def aw0 : List Int := List.replicate (4 * 3 : Int).toNat 0
def aw1 : List Int := setL twoL.length aw0 5 1
def aw2 : List Int := fillL twoL.length 4 3 aw1 1 0 2 2 1
def aw3 : List Int := batL twoL.length aw2 awE
theorem aw_made : madeB 4 3 twoL 1 = true := by decide +kernel
theorem aw_e1 : errS twoL.length aw0.length 5 1 = 0 := by decide +kernel
theorem aw_e2 : errF twoL.length 4 3 1 0 2 2 1 = 0 := by decide +kernel
theorem aw_e3 : errB twoL.length aw2.length awE = 0 := by decide +kernel
theorem aw_d1 : diffs aw0 aw1 = [5] := by decide +kernel
theorem aw_d2 : diffs aw1 aw2 = [1, 2, 6] := by decide +kernel
theorem aw_d3 : diffs aw2 aw3 = [1] := by decide +kernel
theorem aw_g : getN aw3 5 = 1 := by decide +kernel
theorem aw_h : hasN aw3.length 5 = true := by decide +kernel
theorem aw_m0 : gmayN twoL 1 aw3 0 0 = true := by decide +kernel
theorem aw_m5 : gmayN twoL 1 aw3 0 5 = false := by decide +kernel
theorem aw_c : gcostN twoL aw3 5 = 3 := by decide +kernel
/-- Edits that a new block holds. -/
def eRow (es : List Ed) : Array Value := (es.flatMap fun e => [.int .i64 e.1, .int .i64 e.2]).toArray
theorem eRow_at : ∀ (es : List Ed) (i : Nat), i < es.length → (eRow es)[i * 2]? = some (.int .i64 (eAt es i).1) ∧ (eRow es)[i * 2 + 1]? = some (.int .i64 (eAt es i).2) := by
  intro es
  induction es with
  | nil => intro i hi; simp at hi
  | cons x es ih =>
    intro i hi
    cases i with
    | zero => exact ⟨rfl, rfl⟩
    | succ i =>
      have h := ih i (by simpa using hi)
      unfold eRow at *
      rw [show (i + 1) * 2 = i * 2 + 2 by omega]
      simpa [eAt, Nat.add_right_comm _ 2 1] using h
theorem EAt.blk {W : World} {g : Nat} {t : TypeId} {es : List Ed} (h : Blk W g t (eRow es)) : EAt W (some ⟨g, 0, none⟩) es :=
  .inr ⟨g, 0, rfl, fun i hi => by rw [Nat.zero_add]; exact ⟨h.at (eRow_at es i hi).1, h.at (eRow_at es i hi).2⟩⟩

set_option maxRecDepth 100000 in
set_option maxHeartbeats 4000000 in
theorem awake_any (w : World) : Calls Try.prog 15 #[] w fun e w' => e = .returned (.bool true) ∧ Below w.heap.size w w' := by
  go_enter Try.func15, Try.ntmps15
  go_wp2_with fail
  refine (two_any _).mono ?_
  rintro e w0 ⟨rfl, hw0⟩
  have hb0 : Below w.heap.size w w0 := by rw [hw0]; exact (Below.refl _ _).alloc (Nat.le_refl _) _
  have hk0 : KAt w0 (some ⟨w.heap.size, 0, none⟩) twoL := by rw [hw0]; exact two_at w
  have HK0 : Hid (KAt w0 (some ⟨w.heap.size, 0, none⟩) twoL) := hk0
  clear hw0 hk0
  go_wp2_with fail
  refine (made_yes 4 3 _ 2 2 twoL 1 w0 rfl HK0.out twoL_wk aw_made).mono ?_
  rintro e w1 ⟨F, B, K, T, rfl, hB0, hK0, hO1, hF, hb1⟩
  have O1 : Hid (Own w1 F B K T 4 3 twoL 1 aw0) := hO1
  have hKw : w.heap.size ≤ K := Nat.le_trans hb0.size hK0
  have U1 : But w.heap.size K w w1 := Below.but K (below_step hb0 hb1 (Nat.le_refl _))
  have hK1 : K < w1.heap.size := hO1.row.lt
  clear hO1 hF hb1 hb0 hB0 hK0 HK0
  go_wp2_with fail
  refine (set_any O1.out 5 1).mono ?_
  rintro e w2 ⟨va, rfl, hI, hO, hU⟩
  rw [aw_e1]
  have O2 : Hid (Own w2 F B K T 4 3 twoL 1 aw1) := hO
  have IA2 : Hid (IS w2 w1.heap.size va [5]) := by rw [← aw_d1]; exact hI
  have U2 := U1.step hU (Nat.le_refl _)
  have hK2 := Nat.lt_of_lt_of_le hK1 hU.size
  clear hI hO hU
  go_wp2_with fail
  refine (fill_any O2.out 1 0 2 2 1).mono ?_
  rintro e w3 ⟨vb, rfl, hI, hO, hU⟩
  rw [aw_e2]
  have O3 : Hid (Own w3 F B K T 4 3 twoL 1 aw2) := hO
  have IB3 : Hid (IS w3 w2.heap.size vb [1, 2, 6]) := by rw [← aw_d2]; exact hI
  have IA3 : Hid (IS w3 w1.heap.size va [5]) := IA2.out.but hU hK1
  have U3 := U2.step hU (Nat.le_refl _)
  have hK3 := Nat.lt_of_lt_of_le hK2 hU.size
  clear hI hO hU
  have hbn : Below w3.heap.size w3 (w3.alloc (.cells #[.int .i64 0, .int .i64 1, .int .i64 0, .int .i64 0, .int .i64 1, .int .i64 0] 36)) := (Below.refl _ _).alloc (Nat.le_refl _) _
  have HE : Hid (EAt (w3.alloc (.cells #[.int .i64 0, .int .i64 1, .int .i64 0, .int .i64 0, .int .i64 1, .int .i64 0] 36)) (some ⟨w3.heap.size, 0, none⟩) awE) := EAt.blk (t := 36) (Blk.new w3 36 (eRow awE))
  have O4 : Hid (Own (w3.alloc (.cells #[.int .i64 0, .int .i64 1, .int .i64 0, .int .i64 0, .int .i64 1, .int .i64 0] 36)) F B K T 4 3 twoL 1 aw2) := O3.out.below hbn
  have IA4 : Hid (IS (w3.alloc (.cells #[.int .i64 0, .int .i64 1, .int .i64 0, .int .i64 0, .int .i64 1, .int .i64 0] 36)) w1.heap.size va [5]) := IA3.out.below hbn
  have IB4 : Hid (IS (w3.alloc (.cells #[.int .i64 0, .int .i64 1, .int .i64 0, .int .i64 0, .int .i64 1, .int .i64 0] 36)) w2.heap.size vb [1, 2, 6]) := IB3.out.below hbn
  have U4 := U3.step (Below.but K hbn) (Nat.le_refl _)
  clear hbn
  go_wp2_with fail
  refine (batch_any O4.out _ 3 3 awE rfl (by omega) HE.out (.inr (fun a ha => by cases ha; show w3.heap.size ≠ K; omega))).mono ?_
  rintro e w5 ⟨vc, rfl, hI, hO, hU⟩
  rw [aw_e3]
  have O5 : Hid (Own w5 F B K T 4 3 twoL 1 aw3) := hO
  have IC5 : Hid (IAt w5 vc [1]) := by rw [← aw_d3]; exact hI.iat
  have IA5 : Hid (IAt w5 va [5]) := (IA4.out.but hU hK1).iat
  have IB5 : Hid (IAt w5 vb [1, 2, 6]) := (IB4.out.but hU hK2).iat
  have U5 := U4.step hU (Nat.le_refl _)
  have G5 : Hid (GV w5 (.pointer (some ⟨B, 0, none⟩)) twoL 1 aw3) := hO.gv
  clear hI hO hU
  go_wp2_with fail
  refine (get_any G5.out 5).mono ?_
  rintro e w6 ⟨rfl, rfl⟩
  rw [aw_g, aw_h]
  have A6 : Below w6.heap.size w6 (w6.alloc (.cells #[.int .i64 5] 3)) := (Below.refl _ _).alloc (Nat.le_refl _) _
  go_wp2_with fail
  refine (same_any (ys := [5]) (IA5.out.below A6) (IAt.blk 1 (Blk.new w6 3 (iRow [5]))) (by simp) (by simp)).mono ?_
  rintro e w7 ⟨rfl, hb7⟩
  rw [show decide (([5] : List Int) = [5]) = true from by decide]
  have H7 : Below w6.heap.size w6 w7 := below_step A6 hb7 (Nat.le_refl _)
  have A7 : Below w6.heap.size w6 (w7.alloc (.cells #[.int .i64 1, .int .i64 2, .int .i64 6] 3)) := below_new H7 (Nat.le_refl _) _
  clear hb7
  go_wp2_with fail
  refine (same_any (ys := [1, 2, 6]) (IB5.out.below A7) (IAt.blk 3 (Blk.new w7 3 (iRow [1, 2, 6]))) (by simp) (by simp)).mono ?_
  rintro e w8 ⟨rfl, hb8⟩
  rw [show decide (([1, 2, 6] : List Int) = [1, 2, 6]) = true from by decide]
  have H8 : Below w6.heap.size w6 w8 := below_step A7 hb8 (Nat.le_refl _)
  have A8 : Below w6.heap.size w6 (w8.alloc (.cells #[.int .i64 1] 3)) := below_new H8 (Nat.le_refl _) _
  clear hb8
  go_wp2_with fail
  refine (same_any (ys := [1]) (IC5.out.below A8) (IAt.blk 1 (Blk.new w8 3 (iRow [1]))) (by simp) (by simp)).mono ?_
  rintro e w9 ⟨rfl, hb9⟩
  rw [show decide (([1] : List Int) = [1]) = true from by decide]
  have H9 : Below w6.heap.size w6 w9 := below_step A8 hb9 (Nat.le_refl _)
  clear hb9
  go_wp2_with fail
  refine (gmay_any (G5.out.below H9) 0 0).mono ?_
  rintro e w10 ⟨rfl, hb⟩
  rw [aw_m0]
  have H10 : Below w6.heap.size w6 w10 := below_step H9 hb (Nat.le_refl _)
  clear hb
  go_wp2_with fail
  refine (gmay_any (G5.out.below H10) 0 5).mono ?_
  rintro e w11 ⟨rfl, hb⟩
  rw [aw_m5]
  have H11 : Below w6.heap.size w6 w11 := below_step H10 hb (Nat.le_refl _)
  clear hb
  go_wp2_with fail
  refine (gcost_any (G5.out.below H11) 5).mono ?_
  rintro e w12 ⟨rfl, rfl⟩
  rw [aw_c]
  go_wp2_with fail
  refine (size_grd (O5.out.below H11).grd).mono ?_
  rintro e w13 ⟨rfl, hb⟩
  have H13 : Below w6.heap.size w6 w13 := below_step H11 hb (Nat.le_refl _)
  clear hb
  go_wp2_with fail
  refine (table_grd (O5.out.below H13).grd).mono ?_
  rintro e w14 ⟨rfl, rfl⟩
  go_wp2_with fail
  refine (twin_yes (O5.out.below H13)).mono ?_
  rintro e w15 ⟨B2, K2, rfl, hB2, hK2', hO2, hb⟩
  have H15 : Below w6.heap.size w6 w15 := below_step H13 hb (Nat.le_refl _)
  clear hO2 hb
  go_wp2
  go_ret
  exact ⟨rfl, (U5.step (Below.but K H15) (Nat.le_refl _)).below hKw⟩
end Go.Proofs.Ytcflbekjiohfnaa
