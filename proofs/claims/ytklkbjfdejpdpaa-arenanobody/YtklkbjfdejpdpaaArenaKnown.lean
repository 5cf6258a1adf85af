/- The walks of ArenaKnown and ArenaNobody. -/
import Derived.Test.YtklkbjfdejpdpaaArenaAwake
import Derived.Test.YtklkbjfdejpdpaaArenaPair
import Derived.Test.YtklkbjfdejpdpaaArenaInt
namespace Go.Proofs.Ytklkbjfdejpdpaa
open Go.RowKit
set_option linter.unusedVariables false

/-- What == says of two things of type [2]int (the loop over the places unrolled: after the guide's worked Cov2Walks). -/
theorem eqPair (a b c d : Int) (w : World) : (Op.equalIn 10000 24 (.agg #[.int .i64 a, .int .i64 b]) (.agg #[.int .i64 c, .int .i64 d])).run Try.prog w = .ok (a == c && b == d) w := by
  have u3 := Try.underlying3
  have a3 := Try.isAgg3
  have z3 := Try.sizeOf3
  rw [show (10000 : Nat) = 9999 + 1 from rfl, Op.equalIn]
  simp only [Sem.run_bind, run_underlying Try.underlying24, Result.andThen_ok]
  simp only [Std.Legacy.Range.forIn_eq_forIn_range', Std.Legacy.Range.size, Nat.sub_zero, Nat.add_sub_cancel, Nat.div_one, List.range'_succ, List.range'_zero, List.forIn_cons, List.forIn_nil]
  go_simp
  by_cases h1 : a = c <;> by_cases h2 : b = d <;> simp [h1, h2]

set_option maxRecDepth 100000 in
set_option maxHeartbeats 1600000 in
theorem aknown_walk (w : World) : Calls Try.prog 3 #[] w fun e w' => e = .returned (.bool true) ∧ Below w.heap.size w w' := by
  have hq := eqPair
  go_enter Try.func3, Try.ntmps3
  go_wp2_with fail
  refine (AP.new_any w).mono ?_
  rintro e w1 ⟨rfl, hA, hb1⟩
  obtain ⟨B, hB⟩ : ∃ B, B = w.heap.size := ⟨_, rfl⟩
  have hBw : w.heap.size ≤ B := by omega
  rw [← hB] at hA ⊢
  clear hB
  have hF : ∀ k, (fun k => k = B) k → w.heap.size ≤ k := fun k hk => by cases hk; exact hBw
  have A1 : Hid (AP.Ar w1 (fun k => k = B) B 0 [] []) := hA
  clear hA
  go_wp2_with fail
  refine (AP.take_new 1 2 A1.out (by simp)).mono ?_
  rintro e w2 ⟨F2, G2, rfl, hA, hS2⟩
  have A2 : Hid (AP.Ar w2 F2 B G2 [([.int .i64 1, .int .i64 2], true)] []) := hA
  clear hA A1
  go_wp2_with fail
  refine (AP.take_new 3 4 A2.out (by simp)).mono ?_
  rintro e w3 ⟨F3, G3, rfl, hA, hS⟩
  have hS3 := hS2.trans hS
  have A3 : Hid (AP.Ar w3 F3 B G3 [([.int .i64 1, .int .i64 2], true), ([.int .i64 3, .int .i64 4], true)] []) := hA
  clear hA hS hS2 A2
  go_wp2_with fail
  refine (AP.take_new 5 6 A3.out (by simp)).mono ?_
  rintro e w4 ⟨F4, G4, rfl, hA, hS⟩
  have hS4 := hS3.trans hS
  have A4 : Hid (AP.Ar w4 F4 B G4 [([.int .i64 1, .int .i64 2], true), ([.int .i64 3, .int .i64 4], true), ([.int .i64 5, .int .i64 6], true)] []) := hA
  clear hA hS hS3 A3
  go_wp2_with fail
  refine (AP.free_at A4.out 2 rfl (by simp) (by simp)).mono ?_
  rintro e w5 ⟨F5, rfl, hA, hS⟩
  have hS5 := hS4.trans hS
  have A5 : Hid (AP.Ar w5 F5 B G4 [([.int .i64 1, .int .i64 2], true), ([.int .i64 0, .int .i64 0], false), ([.int .i64 5, .int .i64 6], true)] ([2])) := hA
  clear hA hS hS4 A4
  go_wp2_with fail
  refine (AP.free_no A5.out (i := 2) (by omega) rfl (by simp)).mono ?_
  rintro e w6 ⟨rfl, rfl⟩
  go_wp2_with fail
  refine (AP.at_no A5.out (i := 2) (by omega) rfl (by simp)).mono ?_
  rintro e w7 ⟨rfl, rfl⟩
  go_wp2_with fail
  refine (AP.free_at A5.out 3 rfl (by simp) (by simp)).mono ?_
  rintro e w8 ⟨F8, rfl, hA, hS⟩
  have hS8 := hS5.trans hS
  have A8 : Hid (AP.Ar w8 F8 B G4 [([.int .i64 1, .int .i64 2], true), ([.int .i64 0, .int .i64 0], false), ([.int .i64 0, .int .i64 0], false)] ([2] ++ [3])) := hA
  clear hA hS hS5 A5
  go_wp2_with fail
  refine (AP.take_old 7 8 A8.out (by simp) (by simp)).mono ?_
  rintro e w9 ⟨F9, G9, rfl, hA, hS⟩
  have hS9 := hS8.trans hS
  have A9 : Hid (AP.Ar w9 F9 B G9 [([.int .i64 1, .int .i64 2], true), ([.int .i64 0, .int .i64 0], false), ([.int .i64 7, .int .i64 8], true)] ([] ++ [2])) := hA
  clear hA hS hS8 A8
  go_wp2_with fail
  refine (AP.take_old 9 9 A9.out (by simp) (by simp)).mono ?_
  rintro e w10 ⟨F10, G10, rfl, hA, hS⟩
  have hS10 := hS9.trans hS
  have A10 : Hid (AP.Ar w10 F10 B G10 [([.int .i64 1, .int .i64 2], true), ([.int .i64 9, .int .i64 9], true), ([.int .i64 7, .int .i64 8], true)] []) := hA
  clear hA hS hS9 A9
  go_wp2_with fail
  refine (AP.at_at A10.out 1 rfl (by simp)).mono ?_
  rintro e w11 ⟨rfl, rfl⟩
  rw [show ((1 : Int) - 1).toNat * 3 = 0 from rfl]
  go_wp2_with fail
  refine (aawake_any w11).mono ?_
  rintro e w12 ⟨rfl, hb⟩
  have A12 : Hid (AP.Ar w12 F10 B G10 [([.int .i64 1, .int .i64 2], true), ([.int .i64 9, .int .i64 9], true), ([.int .i64 7, .int .i64 8], true)] []) := A10.out.below hb
  have hb12 := below_step (hS10.start hb1 (Nat.le_refl _) hF) hb (Nat.le_refl _)
  have c0 : w12.cell? ⟨G10, 0, none⟩ = some (.int .i64 1) := by simpa using (A12.out.slot (k := 0) rfl).2.2.1 0 _ rfl
  have c1 : w12.cell? ⟨G10, 1, none⟩ = some (.int .i64 2) := by simpa using (A12.out.slot (k := 0) rfl).2.2.1 1 _ rfl
  clear A10 hS10 hb
  go_wp2_with fail
  refine (AP.at_no A12.out (i := 0) (by omega) rfl (by simp)).mono ?_
  rintro e w13 ⟨rfl, rfl⟩
  go_wp2_with fail
  refine (AP.at_no A12.out (i := 4) (by omega) rfl (by simp)).mono ?_
  rintro e w13 ⟨rfl, rfl⟩
  go_wp2_with fail
  refine (AP.slots_any A12.out).mono ?_
  rintro e w13 ⟨rfl, rfl⟩
  go_wp2
  go_ret
  exact ⟨rfl, hb12⟩

set_option maxRecDepth 100000 in
set_option maxHeartbeats 1600000 in
theorem anobody_walk (n : Int) (w : World) (hn : -2147483648 ≤ n ∧ n ≤ 2147483647) : Calls Try.prog 5 #[.int .i32 n] w fun e w' => e = .returned (.bool true) ∧ Below w.heap.size w w' := by
  go_enter Try.func5, Try.ntmps5
  go_wp2_with fail
  refine (aawake_any _).mono ?_
  rintro e w1 ⟨rfl, hb1⟩
  have hs1 := hb1.size
  obtain ⟨B, hB⟩ : ∃ B, B = w1.heap.size := ⟨_, rfl⟩
  have hBw : w.heap.size ≤ B := by omega
  have A1 : Hid (AI.Ar (w1.alloc (.cells #[.slice none 0 0, .slice none 0 0] 52)) (fun k => k = B) B 0 [] []) := by
    rw [hB]
    exact ⟨⟨_, _, Blk.new w1 _ _, RowW.empty _ _ _, RowW.empty _ _ _, fun k hk => (by cases hk), fun k hk => (by cases hk), fun k hk => (by cases hk)⟩, rfl, fun k hk => by simp; omega, fun s hs => (by cases hs), fun f hf => (by cases hf)⟩
  have hF : ∀ k, (fun k => k = B) k → w.heap.size ≤ k := fun k hk => by cases hk; exact hBw
  have HF : Hid (isT [] n = false) := by
    show _ = _
    by_cases h : 1 ≤ n
    · exact isT_high (by simp; omega)
    · exact isT_low h
  have hb2 := below_new hb1 (Nat.le_refl _) (.cells #[.slice none 0 0, .slice none 0 0] 52)
  have HW : Hid (w1.alloc (.cells #[.slice none 0 0, .slice none 0 0] 52) = w1.alloc (.cells #[.slice none 0 0, .slice none 0 0] 52)) := rfl
  go_wp2_with fail
  rw [← hB]
  clear hB hs1
  generalize w1.alloc (.cells #[.slice none 0 0, .slice none 0 0] 52) = w2 at *
  refine (AI.take_nil 3 _).mono ?_
  rintro e w3 ⟨rfl, hb⟩
  have A3 : Hid (AI.Ar w3 (fun k => k = B) B 0 [] []) := A1.out.below hb
  have hb3 := below_step hb2 hb (Nat.le_refl _)
  clear A1 hb2 hb hb1
  go_wp2_with fail
  refine (AI.free_nil n _).mono ?_
  rintro e w4 ⟨rfl, rfl⟩
  go_wp2_with fail
  refine (AI.at_nil n _).mono ?_
  rintro e w5 ⟨rfl, rfl⟩
  go_wp2_with fail
  refine (AI.len_nil _).mono ?_
  rintro e w6 ⟨rfl, rfl⟩
  go_wp2_with fail
  refine (AI.slots_nil _).mono ?_
  rintro e w7 ⟨rfl, rfl⟩
  go_wp2_with fail
  refine (AI.free_no A3.out hn HF.out (by simp)).mono ?_
  rintro e w8 ⟨rfl, rfl⟩
  go_wp2_with fail
  refine (AI.at_no A3.out hn HF.out (by simp)).mono ?_
  rintro e w9 ⟨rfl, rfl⟩
  go_wp2_with fail
  refine (AI.take_new 3 A3.out (by simp)).mono ?_
  rintro e w10 ⟨F2, G2, rfl, hA, hS⟩
  have A10 : Hid (AI.Ar w10 F2 B G2 [([.int .i64 3], true)] []) := hA
  have hb10 := hS.start hb3 (Nat.le_refl _) hF
  clear hA hS A3
  go_wp2_with fail
  refine (AI.len_any A10.out (by simp) (by simp)).mono ?_
  rintro e w11 ⟨rfl, nq, rfl⟩
  go_wp2
  go_ret
  exact ⟨rfl, below_drewN hb10 nq⟩
end Go.Proofs.Ytklkbjfdejpdpaa
