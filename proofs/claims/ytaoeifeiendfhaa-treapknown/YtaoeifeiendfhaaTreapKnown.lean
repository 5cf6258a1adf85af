/- Layer 6's statement TreapKnown. -/
import Derived.Test.YtaoeifeiendfhaaTreapAwake
import Derived.Test.YtaoeifeiendfhaaTreapEq
namespace Go.Proofs.Ytaoeifeiendfhaa
open Go.RowKit
set_option linter.unusedVariables false

def kS1 : Int → List Int := makeS S0 1
def kS2 : Int → List Int := makeS kS1 2
def kS3 : Int → List Int := makeS kS2 3
def kS4 : Int → List Int := joinS kS3 1 2
def kS5 : Int → List Int := joinS kS4 2 3
def kS6 : Int → List Int := cutS kS5 2
def kV1 : Int → Vl := updV V0 1 ⟨1, 10, 7, 1⟩
def kV2 : Int → Vl := updV kV1 2 ⟨2, 20, 5, 2⟩
def kV3 : Int → Vl := updV kV2 3 ⟨4, 40, 6, 4⟩
theorem Vl.ext' {a b : Vl} (h1 : a.c = b.c) (h2 : a.s = b.s) (h3 : a.l = b.l) (h4 : a.m = b.m) : a = b := by cases a; cases b; simp_all
theorem k_facts : joinB kS3 1 2 = true ∧ joinB kS4 2 3 = true ∧ joinB kS5 1 3 = false ∧ joinS kS5 1 3 = kS5 ∧ sumV ((kS5 2).map kV3) = ⟨7, 70, 5, 7⟩ ∧ (kS5 2).length ≠ 1 ∧ sumV ((kS6 1).map kV3) = ⟨1, 10, 7, 1⟩ ∧ sumV ((kS6 3).map kV3) = ⟨6, 60, 5, 6⟩ ∧ (cutS kS6 2 1).length = 1 := by
  refine ⟨by decide +kernel, by decide +kernel, by decide +kernel, if_neg (by decide +kernel), ?_, by decide +kernel, ?_, ?_, by decide +kernel⟩
  · exact Vl.ext' (by decide +kernel) (by decide +kernel) (by decide +kernel) (by decide +kernel)
  · exact Vl.ext' (by decide +kernel) (by decide +kernel) (by decide +kernel) (by decide +kernel)
  · exact Vl.ext' (by decide +kernel) (by decide +kernel) (by decide +kernel) (by decide +kernel)
set_option maxRecDepth 100000 in
set_option maxHeartbeats 4000000 in
theorem tknown_walk (w : World) : Calls Try.prog 4 #[] w fun e w' => e = .returned (.bool true) ∧ Below w.heap.size w w' := by
  have Q : Hid _ := k_facts
  have heq := eqVal
  go_enter Try.func4, Try.ntmps4
  have hu : UAt (w.alloc (.cells #[.int .u32 5, .int .u32 5, .int .u32 5] 37)) (some ⟨w.heap.size, 0, none⟩) [5, 5, 5] := .inr ⟨_, 0, rfl, fun i hi => by
    match i, hi with
    | 0, _ | 1, _ | 2, _ => exact (Blk.new w _ _).at rfl⟩
  have HU : Hid _ := hu
  clear hu
  go_wp2_with fail
  refine (made_any (some ⟨w.heap.size, 0, none⟩) 3 [5, 5, 5] _ HU.out (fun z hz => (by simp at hz; omega)) (by simp)).mono ?_
  rintro e w1 ⟨B, F, rfl, hT, hF, hb1⟩
  have T1 : Hid (Tp w1 F B [] [] S0 V0 0) := hT
  have HB1 : Hid (Below w.heap.size w w1) := ((Below.refl _ _).alloc (Nat.le_refl _) _).trans (hb1.mono (by simp))
  have HF1 : Hid (∀ k, F k → w.heap.size ≤ k) := fun k hk => by have := hF k hk; simp at this; omega
  clear hT hF hb1 HU
  go_wp2_with fail
  refine (tmake_any T1.out ⟨1, 10, 7, 1⟩ (by simp) (by omega)).mono ?_
  rintro e w2 ⟨F2, rfl, hT, hS⟩
  rw [show newI [] [] = 1 from rfl] at hT ⊢
  have T2 : Hid (Tp w2 F2 B [true] [] kS1 kV1 1) := hT
  have HB2 : Hid (Below w.heap.size w w2) := hS.start HB1.out (Nat.le_refl _) HF1.out
  have HF2 : Hid (∀ k, F2 k → w.heap.size ≤ k) := hS.from HB1.out.size HF1.out
  clear hT hS T1 HB1 HF1
  go_wp2_with fail
  refine (tmake_any T2.out ⟨2, 20, 5, 2⟩ (by simp) (by omega)).mono ?_
  rintro e w3 ⟨F3, rfl, hT, hS⟩
  rw [show newI [true] [] = 2 from rfl] at hT ⊢
  have T3 : Hid (Tp w3 F3 B [true, true] [] kS2 kV2 2) := hT
  have HB3 : Hid (Below w.heap.size w w3) := hS.start HB2.out (Nat.le_refl _) HF2.out
  have HF3 : Hid (∀ k, F3 k → w.heap.size ≤ k) := hS.from HB2.out.size HF2.out
  clear hT hS T2 HB2 HF2
  go_wp2_with fail
  refine (tmake_any T3.out ⟨4, 40, 6, 4⟩ (by simp) (by omega)).mono ?_
  rintro e w4 ⟨F4, rfl, hT, hS⟩
  rw [show newI [true, true] [] = 3 from rfl] at hT ⊢
  have T4 : Hid (Tp w4 F4 B [true, true, true] [] kS3 kV3 3) := hT
  have HB4 : Hid (Below w.heap.size w w4) := hS.start HB3.out (Nat.le_refl _) HF3.out
  have HF4 : Hid (∀ k, F4 k → w.heap.size ≤ k) := hS.from HB3.out.size HF3.out
  clear hT hS T3 HB3 HF3
  go_wp2_with fail
  refine (tjoin_any T4.out 1 2 (by omega) (by omega)).mono ?_
  rintro e w5 ⟨rfl, hT, hS⟩
  rw [Q.out.1]
  have T5 : Hid (Tp w5 F4 B [true, true, true] [] kS4 kV3 3) := hT
  have HB5 : Hid (Below w.heap.size w w5) := hS.start HB4.out (Nat.le_refl _) HF4.out
  have HF5 : Hid (∀ k, F4 k → w.heap.size ≤ k) := hS.from HB4.out.size HF4.out
  clear hT hS T4 HB4 HF4
  go_wp2_with fail
  refine (tjoin_any T5.out 2 3 (by omega) (by omega)).mono ?_
  rintro e w6 ⟨rfl, hT, hS⟩
  rw [Q.out.2.1]
  have T6 : Hid (Tp w6 F4 B [true, true, true] [] kS5 kV3 3) := hT
  have HB6 : Hid (Below w.heap.size w w6) := hS.start HB5.out (Nat.le_refl _) HF5.out
  have HF6 : Hid (∀ k, F4 k → w.heap.size ≤ k) := hS.from HB5.out.size HF5.out
  clear hT hS T5 HB5 HF5
  go_wp2_with fail
  refine (tjoin_any T6.out 1 3 (by omega) (by omega)).mono ?_
  rintro e w7 ⟨rfl, hT, hS⟩
  rw [Q.out.2.2.1]
  rw [Q.out.2.2.2.1] at hT
  have T7 : Hid (Tp w7 F4 B [true, true, true] [] kS5 kV3 3) := hT
  have HB7 : Hid (Below w.heap.size w w7) := hS.start HB6.out (Nat.le_refl _) HF6.out
  have HF7 : Hid (∀ k, F4 k → w.heap.size ≤ k) := hS.from HB6.out.size HF6.out
  clear hT hS T6 HB6 HF6
  go_wp2_with fail
  refine (ttotal_any T7.out 2 (by omega)).mono ?_
  rintro e w8 ⟨rfl, hb⟩
  rw [Q.out.2.2.2.2.1]
  have T8 : Hid (Tp w8 F4 B [true, true, true] [] kS5 kV3 3) := T7.out.below hb
  have HB8 : Hid (Below w.heap.size w w8) := HB7.out.trans (hb.mono HB7.out.size)
  have HF8 := HF7
  clear hb T7 HB7 HF7
  have hb := (Below.refl w8.heap.size w8).alloc (Nat.le_refl _) (.cells #[.int .i64 7, .int .i64 70, .int .i64 5, .int .u8 7] 41)
  have kbA_9 : Hid (Blk (w8.alloc (.cells #[.int .i64 7, .int .i64 70, .int .i64 5, .int .u8 7] 41)) w8.heap.size 41 #[.int .i64 7, .int .i64 70, .int .i64 5, .int .u8 7]) := Blk.new w8 _ _
  have nbA_9 : Hid (¬ F4 w8.heap.size) := fun h => by have := T8.out.lt _ h; omega
  have T9 : Hid (Tp (w8.alloc (.cells #[.int .i64 7, .int .i64 70, .int .i64 5, .int .u8 7] 41)) F4 B [true, true, true] [] kS5 kV3 3) := T8.out.below hb
  have HB9 : Hid (Below w.heap.size w (w8.alloc (.cells #[.int .i64 7, .int .i64 70, .int .i64 5, .int .u8 7] 41))) := HB8.out.trans (hb.mono HB8.out.size)
  have HF9 := HF8
  clear hb T8 HB8 HF8
  go_wp2_with fail
  generalize w8.alloc (.cells #[.int .i64 7, .int .i64 70, .int .i64 5, .int .u8 7] 41) = w9 at *
  generalize w8.heap.size = bA at *
  refine (tfree_no T9.out 2 (by omega) Q.out.2.2.2.2.2.1).mono ?_
  rintro e w9r1 ⟨rfl, rfl⟩
  go_wp2_with fail
  refine (tcut_any T9.out 2 (by omega)).mono ?_
  rintro e w10 ⟨rfl, hT, hS⟩
  rw [show isK [true, true, true] 2 = true from rfl]
  have T10 : Hid (Tp w10 F4 B [true, true, true] [] kS6 kV3 3) := hT
  have HB10 : Hid (Below w.heap.size w w10) := hS.start HB9.out (Nat.le_refl _) HF9.out
  have HF10 : Hid (∀ k, F4 k → w.heap.size ≤ k) := hS.from HB9.out.size HF9.out
  have kbA_10 : Hid (Blk w10 bA 41 #[.int .i64 7, .int .i64 70, .int .i64 5, .int .u8 7]) := (hS.only.block bA kbA_9.out.lt nbA_9.out).trans kbA_9.out
  have nbA_10 : Hid (¬ F4 bA) := fun h => (hS.ext bA h).elim nbA_9.out (fun h2 => by have := kbA_9.out.lt; omega)
  clear hT hS T9 HB9 HF9 kbA_9 nbA_9
  go_wp2_with fail
  refine (ttotal_any T10.out 1 (by omega)).mono ?_
  rintro e w11 ⟨rfl, hb⟩
  rw [Q.out.2.2.2.2.2.2.1]
  have T11 : Hid (Tp w11 F4 B [true, true, true] [] kS6 kV3 3) := T10.out.below hb
  have HB11 : Hid (Below w.heap.size w w11) := HB10.out.trans (hb.mono HB10.out.size)
  have HF11 := HF10
  have kbA_11 : Hid (Blk w11 bA 41 #[.int .i64 7, .int .i64 70, .int .i64 5, .int .u8 7]) := kbA_10.out.below hb
  have nbA_11 := nbA_10
  clear hb T10 HB10 HF10 kbA_10 nbA_10
  go_wp2_with fail
  refine (ttotal_any T11.out 3 (by omega)).mono ?_
  rintro e w12 ⟨rfl, hb⟩
  rw [Q.out.2.2.2.2.2.2.2.1]
  have T12 : Hid (Tp w12 F4 B [true, true, true] [] kS6 kV3 3) := T11.out.below hb
  have HB12 : Hid (Below w.heap.size w w12) := HB11.out.trans (hb.mono HB11.out.size)
  have HF12 := HF11
  have kbA_12 : Hid (Blk w12 bA 41 #[.int .i64 7, .int .i64 70, .int .i64 5, .int .u8 7]) := kbA_11.out.below hb
  have nbA_12 := nbA_11
  clear hb T11 HB11 HF11 kbA_11 nbA_11
  have hb : Below w12.heap.size w12 ((w12.alloc (.cells #[.int .i64 1, .int .i64 10, .int .i64 7, .int .u8 1] 41)).alloc (.cells #[.int .i64 6, .int .i64 60, .int .i64 5, .int .u8 6] 41)) := below_new ((Below.refl _ _).alloc (Nat.le_refl _) _) (Nat.le_refl _) _
  have kbX_13 : Hid (Blk ((w12.alloc (.cells #[.int .i64 1, .int .i64 10, .int .i64 7, .int .u8 1] 41)).alloc (.cells #[.int .i64 6, .int .i64 60, .int .i64 5, .int .u8 6] 41)) w12.heap.size 41 #[.int .i64 1, .int .i64 10, .int .i64 7, .int .u8 1]) := (Blk.new w12 _ _).alloc _
  have kbY_13 : Hid (Blk ((w12.alloc (.cells #[.int .i64 1, .int .i64 10, .int .i64 7, .int .u8 1] 41)).alloc (.cells #[.int .i64 6, .int .i64 60, .int .i64 5, .int .u8 6] 41)) (w12.heap.size + 1) 41 #[.int .i64 6, .int .i64 60, .int .i64 5, .int .u8 6]) := by have h0 := Blk.new (w12.alloc (.cells #[.int .i64 1, .int .i64 10, .int .i64 7, .int .u8 1] 41)) 41 #[.int .i64 6, .int .i64 60, .int .i64 5, .int .u8 6]; rwa [World.size_alloc] at h0
  have nbX_13 : Hid (¬ F4 w12.heap.size) := fun h => by have := T12.out.lt _ h; omega
  have nbY_13 : Hid (¬ F4 (w12.heap.size + 1)) := fun h => by have := T12.out.lt _ h; omega
  have T13 : Hid (Tp ((w12.alloc (.cells #[.int .i64 1, .int .i64 10, .int .i64 7, .int .u8 1] 41)).alloc (.cells #[.int .i64 6, .int .i64 60, .int .i64 5, .int .u8 6] 41)) F4 B [true, true, true] [] kS6 kV3 3) := T12.out.below hb
  have HB13 : Hid (Below w.heap.size w ((w12.alloc (.cells #[.int .i64 1, .int .i64 10, .int .i64 7, .int .u8 1] 41)).alloc (.cells #[.int .i64 6, .int .i64 60, .int .i64 5, .int .u8 6] 41))) := HB12.out.trans (hb.mono HB12.out.size)
  have HF13 := HF12
  have kbA_13 : Hid (Blk ((w12.alloc (.cells #[.int .i64 1, .int .i64 10, .int .i64 7, .int .u8 1] 41)).alloc (.cells #[.int .i64 6, .int .i64 60, .int .i64 5, .int .u8 6] 41)) bA 41 #[.int .i64 7, .int .i64 70, .int .i64 5, .int .u8 7]) := kbA_12.out.below hb
  have nbA_13 := nbA_12
  clear hb T12 HB12 HF12 kbA_12 nbA_12
  go_wp2_with fail
  generalize (w12.alloc (.cells #[.int .i64 1, .int .i64 10, .int .i64 7, .int .u8 1] 41)).alloc (.cells #[.int .i64 6, .int .i64 60, .int .i64 5, .int .u8 6] 41) = w13 at *
  generalize w12.heap.size + 1 = bY at *
  generalize w12.heap.size = bX at *
  refine (tcut_any T13.out 2 (by omega)).mono ?_
  rintro e w14 ⟨rfl, hT, hS⟩
  rw [show isK [true, true, true] 2 = true from rfl]
  have T14 : Hid (Tp w14 F4 B [true, true, true] [] (cutS kS6 2) kV3 3) := hT
  have HB14 : Hid (Below w.heap.size w w14) := hS.start HB13.out (Nat.le_refl _) HF13.out
  have HF14 : Hid (∀ k, F4 k → w.heap.size ≤ k) := hS.from HB13.out.size HF13.out
  have kbA_14 : Hid (Blk w14 bA 41 #[.int .i64 7, .int .i64 70, .int .i64 5, .int .u8 7]) := (hS.only.block bA kbA_13.out.lt nbA_13.out).trans kbA_13.out
  have nbA_14 : Hid (¬ F4 bA) := fun h => (hS.ext bA h).elim nbA_13.out (fun h2 => by have := kbA_13.out.lt; omega)
  have kbX_14 : Hid (Blk w14 bX 41 #[.int .i64 1, .int .i64 10, .int .i64 7, .int .u8 1]) := (hS.only.block bX kbX_13.out.lt nbX_13.out).trans kbX_13.out
  have nbX_14 : Hid (¬ F4 bX) := fun h => (hS.ext bX h).elim nbX_13.out (fun h2 => by have := kbX_13.out.lt; omega)
  have kbY_14 : Hid (Blk w14 bY 41 #[.int .i64 6, .int .i64 60, .int .i64 5, .int .u8 6]) := (hS.only.block bY kbY_13.out.lt nbY_13.out).trans kbY_13.out
  have nbY_14 : Hid (¬ F4 bY) := fun h => (hS.ext bY h).elim nbY_13.out (fun h2 => by have := kbY_13.out.lt; omega)
  clear hT hS T13 HB13 HF13 kbA_13 nbA_13 kbX_13 nbX_13 kbY_13 nbY_13
  go_wp2_with fail
  refine (tfree_yes T14.out 1 (by omega) Q.out.2.2.2.2.2.2.2.2).mono ?_
  rintro e w15 ⟨F15, rfl, hT, hS⟩
  have T15 : Hid (Tp w15 F15 B [false, true, true] [1] (freeS (cutS kS6 2) 1) (updV kV3 1 zeV) 3) := hT
  have HB15 : Hid (Below w.heap.size w w15) := hS.start HB14.out (Nat.le_refl _) HF14.out
  have HF15 : Hid (∀ k, F15 k → w.heap.size ≤ k) := hS.from HB14.out.size HF14.out
  have kbA_15 : Hid (Blk w15 bA 41 #[.int .i64 7, .int .i64 70, .int .i64 5, .int .u8 7]) := (hS.only.block bA kbA_14.out.lt nbA_14.out).trans kbA_14.out
  have nbA_15 : Hid (¬ F15 bA) := fun h => (hS.ext bA h).elim nbA_14.out (fun h2 => by have := kbA_14.out.lt; omega)
  have kbX_15 : Hid (Blk w15 bX 41 #[.int .i64 1, .int .i64 10, .int .i64 7, .int .u8 1]) := (hS.only.block bX kbX_14.out.lt nbX_14.out).trans kbX_14.out
  have nbX_15 : Hid (¬ F15 bX) := fun h => (hS.ext bX h).elim nbX_14.out (fun h2 => by have := kbX_14.out.lt; omega)
  have kbY_15 : Hid (Blk w15 bY 41 #[.int .i64 6, .int .i64 60, .int .i64 5, .int .u8 6]) := (hS.only.block bY kbY_14.out.lt nbY_14.out).trans kbY_14.out
  have nbY_15 : Hid (¬ F15 bY) := fun h => (hS.ext bY h).elim nbY_14.out (fun h2 => by have := kbY_14.out.lt; omega)
  clear hT hS T14 HB14 HF14 kbA_14 nbA_14 kbX_14 nbX_14 kbY_14 nbY_14
  go_wp2_with fail
  refine (tmake_any T15.out ⟨0, 0, 0, 0⟩ (by simp) (by omega)).mono ?_
  rintro e w16 ⟨F16, rfl, hT, hS⟩
  rw [show newI [false, true, true] [1] = 1 from rfl] at hT ⊢
  have T16 : Hid (Tp w16 F16 B [true, true, true] [] (makeS (freeS (cutS kS6 2) 1) 1) (updV (updV kV3 1 zeV) 1 ⟨0, 0, 0, 0⟩) 4) := hT
  have HB16 : Hid (Below w.heap.size w w16) := hS.start HB15.out (Nat.le_refl _) HF15.out
  have HF16 : Hid (∀ k, F16 k → w.heap.size ≤ k) := hS.from HB15.out.size HF15.out
  have kbA_16 : Hid (Blk w16 bA 41 #[.int .i64 7, .int .i64 70, .int .i64 5, .int .u8 7]) := (hS.only.block bA kbA_15.out.lt nbA_15.out).trans kbA_15.out
  have nbA_16 : Hid (¬ F16 bA) := fun h => (hS.ext bA h).elim nbA_15.out (fun h2 => by have := kbA_15.out.lt; omega)
  have kbX_16 : Hid (Blk w16 bX 41 #[.int .i64 1, .int .i64 10, .int .i64 7, .int .u8 1]) := (hS.only.block bX kbX_15.out.lt nbX_15.out).trans kbX_15.out
  have nbX_16 : Hid (¬ F16 bX) := fun h => (hS.ext bX h).elim nbX_15.out (fun h2 => by have := kbX_15.out.lt; omega)
  have kbY_16 : Hid (Blk w16 bY 41 #[.int .i64 6, .int .i64 60, .int .i64 5, .int .u8 6]) := (hS.only.block bY kbY_15.out.lt nbY_15.out).trans kbY_15.out
  have nbY_16 : Hid (¬ F16 bY) := fun h => (hS.ext bY h).elim nbY_15.out (fun h2 => by have := kbY_15.out.lt; omega)
  clear hT hS T15 HB15 HF15 kbA_15 nbA_15 kbX_15 nbX_15 kbY_15 nbY_15
  go_wp2_with fail
  refine (tawake_any _).mono ?_
  rintro e w17 ⟨rfl, hb⟩
  have T17 : Hid (Tp w17 F16 B [true, true, true] [] (makeS (freeS (cutS kS6 2) 1) 1) (updV (updV kV3 1 zeV) 1 ⟨0, 0, 0, 0⟩) 4) := T16.out.below hb
  have HB17 : Hid (Below w.heap.size w w17) := HB16.out.trans (hb.mono HB16.out.size)
  have HF17 := HF16
  have kbA_17 : Hid (Blk w17 bA 41 #[.int .i64 7, .int .i64 70, .int .i64 5, .int .u8 7]) := kbA_16.out.below hb
  have nbA_17 := nbA_16
  have kbX_17 : Hid (Blk w17 bX 41 #[.int .i64 1, .int .i64 10, .int .i64 7, .int .u8 1]) := kbX_16.out.below hb
  have nbX_17 := nbX_16
  have kbY_17 : Hid (Blk w17 bY 41 #[.int .i64 6, .int .i64 60, .int .i64 5, .int .u8 6]) := kbY_16.out.below hb
  have nbY_17 := nbY_16
  clear hb T16 HB16 HF16 kbA_16 nbA_16 kbX_16 nbX_16 kbY_16 nbY_16
  have cbA0 := kbA_17.out.at (j := 0) rfl
  have cbA1 := kbA_17.out.at (j := 1) rfl
  have cbA2 := kbA_17.out.at (j := 2) rfl
  have cbA3 := kbA_17.out.at (j := 3) rfl
  have cbX0 := kbX_17.out.at (j := 0) rfl
  have cbX1 := kbX_17.out.at (j := 1) rfl
  have cbX2 := kbX_17.out.at (j := 2) rfl
  have cbX3 := kbX_17.out.at (j := 3) rfl
  have cbY0 := kbY_17.out.at (j := 0) rfl
  have cbY1 := kbY_17.out.at (j := 1) rfl
  have cbY2 := kbY_17.out.at (j := 2) rfl
  have cbY3 := kbY_17.out.at (j := 3) rfl
  go_wp2
  go_ret
  exact ⟨rfl, HB17.out⟩
end Go.Proofs.Ytaoeifeiendfhaa
