/- Layer 7's statement TourKnown (by tools/gen_tawake.py). -/
import Derived.Test.YtpbnhbpkfdhedaaTourAwake
namespace Go.Proofs.Ytpbnhbpkfdhedaa
open Go.RowKit
set_option linter.unusedVariables false
set_option maxRecDepth 100000 in
set_option maxHeartbeats 4000000 in
theorem tourknown_walk (w : World) : Calls Try.prog 5 #[] w fun e w' => e = .returned (.bool true) ∧ Below w.heap.size w w' := by
  go_enter Try.func5, Try.ntmps5
  go_wp2_with fail
  refine (fnew_any none w).mono ?_
  rintro e w0 ⟨B, rfl, hB, hK, hb⟩
  have H0 : Hid (Tf w0 (fun k => k = B) B 0 kn0) := Tf.fresh (mx := 0) hK rfl (fun k hk => by subst hk; exact hK.lt) (.inl rfl)
  have B0 := hid_mk hb
  have Q0 : Hid (∀ k, (fun k => k = B) k → w.heap.size ≤ k) := fun k hk => by have h' : k = B := hk; omega
  clear hK hb
  go_wp2_with fail
  refine (kn1_c H0.out).mono ?_
  rintro e w1 ⟨F1, rfl, hT, hS⟩
  have H1 := hid_mk hT
  have B1 := hid_mk (hS.start B0.out (Nat.le_refl _) Q0.out)
  have Q1 := hid_mk (hS.from B0.out.size Q0.out)
  clear hT hS H0 B0 Q0
  go_wp2_with fail
  refine (kn2_c H1.out).mono ?_
  rintro e w2 ⟨F2, rfl, hT, hS⟩
  have H2 := hid_mk hT
  have B2 := hid_mk (hS.start B1.out (Nat.le_refl _) Q1.out)
  have Q2 := hid_mk (hS.from B1.out.size Q1.out)
  clear hT hS H1 B1 Q1
  go_wp2_with fail
  refine (kn3_c H2.out).mono ?_
  rintro e w3 ⟨F3, rfl, hT, hS⟩
  have H3 := hid_mk hT
  have B3 := hid_mk (hS.start B2.out (Nat.le_refl _) Q2.out)
  have Q3 := hid_mk (hS.from B2.out.size Q2.out)
  clear hT hS H2 B2 Q2
  go_wp2_with fail
  refine (kn4_c H3.out).mono ?_
  rintro e w4 ⟨F4, G4, rfl, hT, hS⟩
  have H4 := hid_mk hT
  have B4 := hid_mk (hS.start B3.out (Nat.le_refl _) Q3.out)
  have Q4 := hid_mk (hS.from B3.out.size Q3.out)
  clear hT hS H3 B3 Q3
  go_wp2_with fail
  refine (kn5_c H4.out).mono ?_
  rintro e w5 ⟨F5, G5, rfl, hT, hS⟩
  have H5 := hid_mk hT
  have B5 := hid_mk (hS.start B4.out (Nat.le_refl _) Q4.out)
  have Q5 := hid_mk (hS.from B4.out.size Q4.out)
  clear hT hS H4 B4 Q4
  go_wp2_with fail
  refine (kn6_c H5.out).mono ?_
  rintro e w6 ⟨F6, rfl, hT, hS⟩
  have H6 := hid_mk hT
  have B6 := hid_mk (hS.start B5.out (Nat.le_refl _) Q5.out)
  have Q6 := hid_mk (hS.from B5.out.size Q5.out)
  clear hT hS H5 B5 Q5
  go_wp2_with fail
  refine (kn7_c H6.out).mono ?_
  rintro e w7 ⟨F7, rfl, hT, hS⟩
  have H7 := hid_mk hT
  have B7 := hid_mk (hS.start B6.out (Nat.le_refl _) Q6.out)
  have Q7 := hid_mk (hS.from B6.out.size Q6.out)
  clear hT hS H6 B6 Q6
  go_wp2_with fail
  refine (kn7_findv1_ H7.out).mono ?_
  rintro e w8 ⟨rfl, hb⟩
  have H8 := hid_mk (H7.out.below hb)
  have B8 := hid_mk (B7.out.trans (hb.mono B7.out.size))
  have Q8 := Q7
  clear hb H7 B7 Q7
  go_wp2_with fail
  refine (kn8_c H8.out).mono ?_
  rintro e w9 ⟨F9, rfl, hT, hS⟩
  have H9 := hid_mk hT
  have B9 := hid_mk (hS.start B8.out (Nat.le_refl _) Q8.out)
  have Q9 := hid_mk (hS.from B8.out.size Q8.out)
  clear hT hS H8 B8 Q8
  go_wp2_with fail
  refine (kn9_c H9.out).mono ?_
  rintro e w10 ⟨F10, rfl, hT, hS⟩
  have H10 := hid_mk hT
  have B10 := hid_mk (hS.start B9.out (Nat.le_refl _) Q9.out)
  have Q10 := hid_mk (hS.from B9.out.size Q9.out)
  clear hT hS H9 B9 Q9
  go_wp2_with fail
  refine (kn10_c H10.out).mono ?_
  rintro e w11 ⟨F11, G11, rfl, hT, hS⟩
  have H11 := hid_mk hT
  have B11 := hid_mk (hS.start B10.out (Nat.le_refl _) Q10.out)
  have Q11 := hid_mk (hS.from B10.out.size Q10.out)
  clear hT hS H10 B10 Q10
  go_wp2_with fail
  refine (kn11_c H11.out).mono ?_
  rintro e w12 ⟨F12, rfl, hT, hS⟩
  have H12 := hid_mk hT
  have B12 := hid_mk (hS.start B11.out (Nat.le_refl _) Q11.out)
  have Q12 := hid_mk (hS.from B11.out.size Q11.out)
  clear hT hS H11 B11 Q11
  go_wp2_with fail
  refine (kn12_c H12.out).mono ?_
  rintro e w13 ⟨F13, G13, rfl, hT, hS⟩
  have H13 := hid_mk hT
  have B13 := hid_mk (hS.start B12.out (Nat.le_refl _) Q12.out)
  have Q13 := hid_mk (hS.from B12.out.size Q12.out)
  clear hT hS H12 B12 Q12
  go_wp2_with fail
  refine (tawk_any _).mono ?_
  rintro e wa ⟨rfl, hb⟩
  replace H13 := hid_mk (H13.out.below hb)
  replace B13 := hid_mk (B13.out.trans (hb.mono B13.out.size))
  clear hb
  go_wp2_with fail
  refine (kn13_c H13.out).mono ?_
  rintro e w14 ⟨F14, rfl, hT, hS⟩
  have H14 := hid_mk hT
  have B14 := hid_mk (hS.start B13.out (Nat.le_refl _) Q13.out)
  have Q14 := hid_mk (hS.from B13.out.size Q13.out)
  clear hT hS H13 B13 Q13
  go_wp2_with fail
  refine (kn14_c H14.out).mono ?_
  rintro e w15 ⟨F15, rfl, hT, hS⟩
  have H15 := hid_mk hT
  have B15 := hid_mk (hS.start B14.out (Nat.le_refl _) Q14.out)
  have Q15 := hid_mk (hS.from B14.out.size Q14.out)
  clear hT hS H14 B14 Q14
  go_wp2_with fail
  refine (kn15_c H15.out).mono ?_
  rintro e w16 ⟨F16, rfl, hT, hS⟩
  have H16 := hid_mk hT
  have B16 := hid_mk (hS.start B15.out (Nat.le_refl _) Q15.out)
  have Q16 := hid_mk (hS.from B15.out.size Q15.out)
  clear hT hS H15 B15 Q15
  go_wp2
  go_ret
  exact ⟨rfl, B16.out⟩
end Go.Proofs.Ytpbnhbpkfdhedaa
