/- Layer 6's statements: awake. -/
import Derived.Test.YtpbnhbpkfdhedaaTreapSame
namespace Go.Proofs.Ytpbnhbpkfdhedaa
open Go.RowKit
set_option linter.unusedVariables false

def aS3 : Int → List Int := makeS (makeS (makeS S0 1) 2) 3
def aS5 : Int → List Int := joinS (joinS aS3 1 2) 2 3
def aS7 : Int → List Int := joinS (cutS aS5 2) 3 1
def aV3 : Int → Vl := updV (updV (updV V0 1 ⟨1, 0, 0, 1⟩) 2 ⟨2, 0, 0, 0⟩) 3 ⟨4, 0, 0, 2⟩
theorem a_facts : joinB aS3 1 2 = true ∧ joinB (joinS aS3 1 2) 2 3 = true ∧ plS (aS5 3) 3 = 2 ∧ (sumV ((aS5 1).map aV3)).c = 7 ∧ joinB (cutS aS5 2) 3 1 = true ∧ aS7 1 = [2, 3, 1] ∧ (aS7 1).headD 0 = 2 ∧ nxS (aS7 3) 3 = 1 ∧ fdS aV3 (aS7 3) 1 = 1 ∧ decide (3 ∈ aS7 1) = true := by
  refine ⟨by decide +kernel, by decide +kernel, by decide +kernel, by decide +kernel, by decide +kernel, by decide +kernel, by decide +kernel, by decide +kernel, by decide +kernel, by decide +kernel⟩
theorem uat_nil (w : World) : UAt w none [] := .inl rfl
set_option maxRecDepth 100000 in
set_option maxHeartbeats 2000000 in
theorem tawake_any (w : World) : Calls Try.prog 8 #[] w fun e w' => e = .returned (.bool true) ∧ Below w.heap.size w w' := by
  obtain ⟨q1, q2, q3, q4, q5, q6, q7, q8, q9, q10⟩ := a_facts
  have Q1 : Hid _ := q1
  have Q2 : Hid _ := q2
  have Q3 : Hid _ := q3
  have Q4 : Hid ((sumV ((aS5 1).map aV3)).c = 7) := q4
  have Q5 : Hid _ := q5
  have Q6 : Hid (aS7 1 = [2, 3, 1]) := q6
  have Q7 : Hid _ := q7
  have Q8 : Hid _ := q8
  have Q9 : Hid _ := q9
  have Q10 : Hid _ := q10
  clear q1 q2 q3 q4 q5 q6 q7 q8 q9 q10
  go_enter Try.func8, Try.ntmps8
  go_wp2_with fail
  refine (made_any none 0 [] w (uat_nil w) (fun z hz => (by simp at hz)) (by simp)).mono ?_
  rintro e w1 ⟨B, F, rfl, hT, hF, hb1⟩
  have T1 : Hid (Tp X0 w1 F B [] [] S0 V0 0) := hT
  have HB : Hid (Below w.heap.size w w1) := hb1
  have HF : Hid (∀ k, F k → w.heap.size ≤ k) := hF
  clear hT hF hb1
  go_wp2_with fail
  refine (tmake_any T1.out ⟨1, 0, 0, 1⟩ (by simp) (by omega)).mono ?_
  rintro e w2 ⟨F2, rfl, hT, hS⟩
  rw [show newI [] [] = 1 from rfl] at hT ⊢
  have T2 : Hid (Tp X0 w2 F2 B [true] [] (makeS S0 1) (updV V0 1 ⟨1, 0, 0, 1⟩) 1) := hT
  have HB2 : Hid (Below w.heap.size w w2) := hS.start HB.out (Nat.le_refl _) HF.out
  have HF2 : Hid (∀ k, F2 k → w.heap.size ≤ k) := hS.from HB.out.size HF.out
  clear hT hS T1 HB HF
  go_wp2_with fail
  refine (tmake_any T2.out ⟨2, 0, 0, 0⟩ (by simp) (by omega)).mono ?_
  rintro e w3 ⟨F3, rfl, hT, hS⟩
  rw [show newI [true] [] = 2 from rfl] at hT ⊢
  have T3 : Hid (Tp X0 w3 F3 B [true, true] [] (makeS (makeS S0 1) 2) (updV (updV V0 1 ⟨1, 0, 0, 1⟩) 2 ⟨2, 0, 0, 0⟩) 2) := hT
  have HB3 : Hid (Below w.heap.size w w3) := hS.start HB2.out (Nat.le_refl _) HF2.out
  have HF3 : Hid (∀ k, F3 k → w.heap.size ≤ k) := hS.from HB2.out.size HF2.out
  clear hT hS T2 HB2 HF2
  go_wp2_with fail
  refine (tmake_any T3.out ⟨4, 0, 0, 2⟩ (by simp) (by omega)).mono ?_
  rintro e w4 ⟨F4, rfl, hT, hS⟩
  rw [show newI [true, true] [] = 3 from rfl] at hT ⊢
  have T4 : Hid (Tp X0 w4 F4 B [true, true, true] [] aS3 aV3 3) := hT
  have HB4 : Hid (Below w.heap.size w w4) := hS.start HB3.out (Nat.le_refl _) HF3.out
  have HF4 : Hid (∀ k, F4 k → w.heap.size ≤ k) := hS.from HB3.out.size HF3.out
  clear hT hS T3 HB3 HF3
  go_wp2_with fail
  refine (tjoin_any T4.out 1 2 (by omega) (by omega)).mono ?_
  rintro e w5 ⟨rfl, hT, hS⟩
  rw [Q1.out]
  have T5 : Hid (Tp X0 w5 F4 B [true, true, true] [] (joinS aS3 1 2) aV3 3) := hT
  have HB5 : Hid (Below w.heap.size w w5) := hS.start HB4.out (Nat.le_refl _) HF4.out
  clear hT hS T4 HB4
  go_wp2_with fail
  refine (tjoin_any T5.out 2 3 (by omega) (by omega)).mono ?_
  rintro e w6 ⟨rfl, hT, hS⟩
  rw [Q2.out]
  have T6 : Hid (Tp X0 w6 F4 B [true, true, true] [] aS5 aV3 3) := hT
  have HB6 : Hid (Below w.heap.size w w6) := hS.start HB5.out (Nat.le_refl _) HF4.out
  clear hT hS T5 HB5
  go_wp2_with fail
  refine (tplace_any T6.out 3 (by omega)).mono ?_
  rintro e w6a ⟨rfl, rfl⟩
  rw [Q3.out]
  go_wp2_with fail
  refine (ttotal_any T6.out 1 (by omega)).mono ?_
  rintro e w7 ⟨rfl, hb7⟩
  generalize sumV ((aS5 1).map aV3) = X at *
  have T7 : Hid (Tp X0 w7 F4 B [true, true, true] [] aS5 aV3 3) := T6.out.below hb7
  have HB7 : Hid (Below w.heap.size w w7) := HB6.out.trans (hb7.mono HB6.out.size)
  clear hb7 T6 HB6
  have b8 : Below w7.heap.size w7 (w7.alloc (.cells #[.int .i64 X.c, .int .i64 X.s, .int .i64 X.l, .int .u8 X.m] 40)) := (Below.refl _ _).alloc (Nat.le_refl _) _
  have bk8 : Hid (Blk (w7.alloc (.cells #[.int .i64 X.c, .int .i64 X.s, .int .i64 X.l, .int .u8 X.m] 40)) w7.heap.size 40 #[.int .i64 X.c, .int .i64 X.s, .int .i64 X.l, .int .u8 X.m]) := Blk.new w7 _ _
  have T8 : Hid (Tp X0 (w7.alloc (.cells #[.int .i64 X.c, .int .i64 X.s, .int .i64 X.l, .int .u8 X.m] 40)) F4 B [true, true, true] [] aS5 aV3 3) := T7.out.below b8
  have HB8 : Hid (Below w.heap.size w (w7.alloc (.cells #[.int .i64 X.c, .int .i64 X.s, .int .i64 X.l, .int .u8 X.m] 40))) := HB7.out.trans (b8.mono HB7.out.size)
  have NF : Hid (¬ F4 w7.heap.size) := fun h => by have := T7.out.lt _ h; omega
  clear b8 T7 HB7
  go_wp2_with fail
  generalize w7.alloc (.cells #[.int .i64 X.c, .int .i64 X.s, .int .i64 X.l, .int .u8 X.m] 40) = w8 at *
  generalize w7.heap.size = bX at *
  refine (tcut_any T8.out 2 (by omega)).mono ?_
  rintro e w9 ⟨rfl, hT, hS⟩
  rw [show isK [true, true, true] 2 = true from rfl]
  have T9 : Hid (Tp X0 w9 F4 B [true, true, true] [] (cutS aS5 2) aV3 3) := hT
  have HB9 : Hid (Below w.heap.size w w9) := hS.start HB8.out (Nat.le_refl _) HF4.out
  have bk9 : Hid (Blk w9 bX 40 #[.int .i64 X.c, .int .i64 X.s, .int .i64 X.l, .int .u8 X.m]) := (hS.only.block bX bk8.out.lt NF.out).trans bk8.out
  clear hT hS T8 HB8 bk8
  go_wp2_with fail
  refine (tjoin_any T9.out 3 1 (by omega) (by omega)).mono ?_
  rintro e w10 ⟨rfl, hT, hS⟩
  rw [Q5.out]
  have T10 : Hid (Tp X0 w10 F4 B [true, true, true] [] aS7 aV3 3) := hT
  have HB10 : Hid (Below w.heap.size w w10) := hS.start HB9.out (Nat.le_refl _) HF4.out
  have bk10 : Hid (Blk w10 bX 40 #[.int .i64 X.c, .int .i64 X.s, .int .i64 X.l, .int .u8 X.m]) := (hS.only.block bX bk9.out.lt NF.out).trans bk9.out
  clear hT hS T9 HB9 bk9
  go_wp2_with fail
  refine (tget_any T10.out 2 (by omega)).mono ?_
  rintro e w11 ⟨rfl, hb11⟩
  rw [show isK [true, true, true] 2 = true from rfl, if_pos rfl, show aV3 2 = ⟨2, 0, 0, 0⟩ from rfl]
  have T11 : Hid (Tp X0 w11 F4 B [true, true, true] [] aS7 aV3 3) := T10.out.below hb11
  have HB11 : Hid (Below w.heap.size w w11) := HB10.out.trans (hb11.mono HB10.out.size)
  have bk11 : Hid (Blk w11 bX 40 #[.int .i64 X.c, .int .i64 X.s, .int .i64 X.l, .int .u8 X.m]) := bk10.out.below hb11
  clear hb11 T10 HB10 bk10
  have b12 : Below w11.heap.size w11 (w11.alloc (.cells #[.int .i64 2, .int .i64 0, .int .i64 0, .int .u8 0] 40)) := (Below.refl _ _).alloc (Nat.le_refl _) _
  have cX : (w11.alloc (.cells #[.int .i64 2, .int .i64 0, .int .i64 0, .int .u8 0] 40)).cell? ⟨bX, 0, none⟩ = some (.int .i64 7) := by rw [← Q4.out]; exact (bk11.out.below b12).at (j := 0) rfl
  have cV : (w11.alloc (.cells #[.int .i64 2, .int .i64 0, .int .i64 0, .int .u8 0] 40)).cell? ⟨w11.heap.size, 0, none⟩ = some (.int .i64 2) := (Blk.new w11 _ _).at (j := 0) rfl
  have T12 : Hid (Tp X0 (w11.alloc (.cells #[.int .i64 2, .int .i64 0, .int .i64 0, .int .u8 0] 40)) F4 B [true, true, true] [] aS7 aV3 3) := T11.out.below b12
  have HB12 : Hid (Below w.heap.size w (w11.alloc (.cells #[.int .i64 2, .int .i64 0, .int .i64 0, .int .u8 0] 40))) := HB11.out.trans (b12.mono HB11.out.size)
  have hXl : bX < (w11.alloc (.cells #[.int .i64 2, .int .i64 0, .int .i64 0, .int .u8 0] 40)).heap.size := (bk11.out.below b12).lt
  have hVl : w11.heap.size < (w11.alloc (.cells #[.int .i64 2, .int .i64 0, .int .i64 0, .int .u8 0] 40)).heap.size := by simp
  clear b12 T11 HB11 bk11
  go_wp2_with fail
  generalize w11.alloc (.cells #[.int .i64 2, .int .i64 0, .int .i64 0, .int .u8 0] 40) = w12 at *
  generalize w11.heap.size = bV at *
  refine (twalk_any T12.out 1 (by omega) (by rw [Q6.out]; simp)).mono ?_
  rintro e w13 ⟨ao, cp, rfl, hna, hb13⟩
  rw [Q6.out] at hna ⊢
  rw [show ([2, 3, 1] : List Int).length = 3 from rfl]
  have HN : Hid (NAt .i64 w13 ao [2, 3, 1]) := hna
  have T13 : Hid (Tp X0 w13 F4 B [true, true, true] [] aS7 aV3 3) := T12.out.below hb13
  have HB13 : Hid (Below w.heap.size w w13) := HB12.out.trans (hb13.mono HB12.out.size)
  have cV13 := (hb13.cell (p := ⟨bV, 0, none⟩) hVl).trans cV
  have hVl13 : bV < w13.heap.size := Nat.lt_of_lt_of_le hVl hb13.size
  clear hna hb13 T12 HB12 cX cV hXl hVl
  have b14 : Below w13.heap.size w13 (w13.alloc (.cells #[.int .i64 2, .int .i64 3, .int .i64 1] 3)) := (Below.refl _ _).alloc (Nat.le_refl _) _
  have HN2 : Hid (NAt .i64 (w13.alloc (.cells #[.int .i64 2, .int .i64 3, .int .i64 1] 3)) (some ⟨w13.heap.size, 0, none⟩) [2, 3, 1]) := .inr ⟨_, 0, rfl, by simp, fun i hi => by
    match i, hi with
    | 0, _ | 1, _ | 2, _ => exact (Blk.new w13 _ _).at rfl⟩
  have HN1 : Hid (NAt .i64 (w13.alloc (.cells #[.int .i64 2, .int .i64 3, .int .i64 1] 3)) ao [2, 3, 1]) := HN.out.below b14
  have T14 : Hid (Tp X0 (w13.alloc (.cells #[.int .i64 2, .int .i64 3, .int .i64 1] 3)) F4 B [true, true, true] [] aS7 aV3 3) := T13.out.below b14
  have HB14 : Hid (Below w.heap.size w (w13.alloc (.cells #[.int .i64 2, .int .i64 3, .int .i64 1] 3))) := HB13.out.trans (b14.mono HB13.out.size)
  have cV14 := (b14.cell (p := ⟨bV, 0, none⟩) hVl13).trans cV13
  have hVl14 : bV < (w13.alloc (.cells #[.int .i64 2, .int .i64 3, .int .i64 1] 3)).heap.size := Nat.lt_of_lt_of_le hVl13 b14.size
  clear HN b14 T13 HB13 cV13 hVl13
  go_wp2_with fail
  generalize w13.alloc (.cells #[.int .i64 2, .int .i64 3, .int .i64 1] 3) = w14 at *
  generalize w13.heap.size = bS at *
  refine (same6_any (xs := [2, 3, 1]) (ys := [2, 3, 1]) HN1.out HN2.out (by simp) (by simp)).mono ?_
  rintro e w15 ⟨rfl, hb15⟩
  rw [show decide (([2, 3, 1] : List Int) = [2, 3, 1]) = true by simp]
  have T15 : Hid (Tp X0 w15 F4 B [true, true, true] [] aS7 aV3 3) := T14.out.below hb15
  have HB15 : Hid (Below w.heap.size w w15) := HB14.out.trans (hb15.mono HB14.out.size)
  have cV15 := (hb15.cell (p := ⟨bV, 0, none⟩) hVl14).trans cV14
  have hVl15 : bV < w15.heap.size := Nat.lt_of_lt_of_le hVl14 hb15.size
  clear hb15 T14 HB14 cV14 hVl14 HN1 HN2
  go_wp2_with fail
  refine (tfirst_any T15.out 1 (by omega)).mono ?_
  rintro e w15a ⟨rfl, rfl⟩
  rw [Q7.out]
  go_wp2_with fail
  refine (tnext_any T15.out 3 (by omega)).mono ?_
  rintro e w15b ⟨rfl, rfl⟩
  rw [Q8.out]
  go_wp2_with fail
  refine (tsize_any T15.out 1 (by omega)).mono ?_
  rintro e w15c ⟨rfl, rfl⟩
  rw [Q6.out, show (([2, 3, 1] : List Int).length : Int) = 3 from rfl]
  go_wp2_with fail
  refine (tfind_any T15.out 3 1 (by omega) (by omega)).mono ?_
  rintro e w16 ⟨rfl, hb16⟩
  rw [Q9.out]
  have T16 : Hid (Tp X0 w16 F4 B [true, true, true] [] aS7 aV3 3) := T15.out.below hb16
  have HB16 : Hid (Below w.heap.size w w16) := HB15.out.trans (hb16.mono HB15.out.size)
  have cV16 := (hb16.cell (p := ⟨bV, 0, none⟩) hVl15).trans cV15
  clear hb16 T15 HB15 cV15 hVl15
  go_wp2_with fail
  refine (tsame_any T16.out 1 3 (by omega) (by omega)).mono ?_
  rintro e w16a ⟨rfl, rfl⟩
  rw [Q10.out]
  go_wp2_with fail
  refine (tlen_any T16.out).mono ?_
  rintro e w17 ⟨rfl, hb17⟩
  rw [show (([true, true, true] : List Bool).length : Int) - (([] : List Int).length : Int) = 3 from rfl]
  have HB17 : Hid (Below w.heap.size w w17) := HB16.out.trans (hb17.mono HB16.out.size)
  clear hb17 T16 HB16
  go_wp2
  go_ret
  exact ⟨rfl, HB17.out⟩
end Go.Proofs.Ytpbnhbpkfdhedaa
