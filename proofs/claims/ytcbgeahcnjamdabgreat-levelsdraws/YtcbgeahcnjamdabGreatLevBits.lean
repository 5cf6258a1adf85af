/- math/bits' Len at the numbers that New asks it. -/
import Derived.Test.YtcbgeahcnjamdabGreatLevVert
import Derived.Laws.MathBits
import Derived.Sort.CutIn
import Derived.Deep.CutBlock
namespace Go.Proofs.YtcbgeahcnjamdabGreat
open Go.RowKit
set_option linter.unusedVariables false

def lenTab : ByteArray := ⟨#[0, 1, 2, 2, 3, 3, 3, 3, 4, 4, 4, 4, 4, 4, 4, 4, 5, 5, 5, 5, 5, 5, 5, 5, 5, 5, 5, 5, 5, 5, 5, 5, 6, 6, 6, 6, 6, 6, 6, 6, 6, 6, 6, 6, 6, 6, 6, 6, 6, 6, 6, 6, 6, 6, 6, 6, 6, 6, 6, 6, 6, 6, 6, 6, 7, 7, 7, 7, 7, 7, 7, 7, 7, 7, 7, 7, 7, 7, 7, 7, 7, 7, 7, 7, 7, 7, 7, 7, 7, 7, 7, 7, 7, 7, 7, 7, 7, 7, 7, 7, 7, 7, 7, 7, 7, 7, 7, 7, 7, 7, 7, 7, 7, 7, 7, 7, 7, 7, 7, 7, 7, 7, 7, 7, 7, 7, 7, 7, 8, 8, 8, 8, 8, 8, 8, 8, 8, 8, 8, 8, 8, 8, 8, 8, 8, 8, 8, 8, 8, 8, 8, 8, 8, 8, 8, 8, 8, 8, 8, 8, 8, 8, 8, 8, 8, 8, 8, 8, 8, 8, 8, 8, 8, 8, 8, 8, 8, 8, 8, 8, 8, 8, 8, 8, 8, 8, 8, 8, 8, 8, 8, 8, 8, 8, 8, 8, 8, 8, 8, 8, 8, 8, 8, 8, 8, 8, 8, 8, 8, 8, 8, 8, 8, 8, 8, 8, 8, 8, 8, 8, 8, 8, 8, 8, 8, 8, 8, 8, 8, 8, 8, 8, 8, 8, 8, 8, 8, 8, 8, 8, 8, 8, 8, 8, 8, 8, 8, 8, 8, 8, 8, 8, 8, 8, 8, 8]⟩
set_option maxRecDepth 1000000 in
theorem lenTab_at : ∀ j : Fin 256, (lenTab[j.val]?).map (·.toNat) = some (bitLen j.val) := by decide +kernel
theorem run_index_str (s : ByteArray) (k : Nat) (b : UInt8) (hs : s[k]? = some b) (w : World) : (Instr.index 9 (.string s) (.int .u8 k)).run Tryz.prog w = .ok (.int .u8 b.toNat) w := by
  simp [Instr.index, go_sem, hs]
theorem lenTab_run (k : Nat) (hk : k < 256) (w : World) : (Instr.index 9 (.string lenTab) (.int .u8 k)).run Tryz.prog w = .ok (.int .u8 (bitLen k : Nat)) w := by
  have h := lenTab_at ⟨k, hk⟩
  cases hb : lenTab[k]? with
  | none => rw [show (⟨k, hk⟩ : Fin 256).val = k from rfl, hb] at h; cases h
  | some b =>
    rw [show (⟨k, hk⟩ : Fin 256).val = k from rfl, hb] at h
    simp at h
    rw [run_index_str lenTab k b hb w, h]
attribute [local irreducible] lenTab
set_option maxRecDepth 20000 in
set_option maxHeartbeats 400000 in
theorem blen_small (n : Nat) (hn : n < 256) (w : World) : Calls Tryz.prog 42 #[.int .u64 n] w fun e w' => e = .returned (.int .i64 (bitLen n : Nat)) ∧ w' = w := by
  have HT := fun w => lenTab_run n (by omega) w
  have hb8 := bitLen_le8 n (by omega)
  generalize bitLen n = b at *
  have h1 : ¬ (4294967296 : Int) ≤ (n : Int) := by omega
  have h2 : ¬ (65536 : Int) ≤ (n : Int) := by omega
  have h3 : ¬ (256 : Int) ≤ (n : Int) := by omega
  go_enter Tryz.func42, Tryz.ntmps42
  generalize hS : (Value.string _) = S
  have hS2 : S = .string lenTab := by rw [← hS]; unfold lenTab; kernel_rfl
  clear hS
  subst hS2
  go_upto_region 10 with fail
  go_wp2_with fail
  go_ret
  exact ⟨rfl, rfl⟩
set_option maxRecDepth 20000 in
set_option maxHeartbeats 400000 in
theorem blen_mid (n : Nat) (hn : 256 ≤ n) (hn2 : n < 65536) (w : World) : Calls Tryz.prog 42 #[.int .u64 n] w fun e w' => e = .returned (.int .i64 (bitLen n : Nat)) ∧ w' = w := by
  have HT := fun w => lenTab_run (n / 256) (by omega) w
  have hb8 := bitLen_le8 (n / 256) (by omega)
  have he : bitLen n = 8 + bitLen (n / 256) := bitLen_shift n 8 (by simp; omega)
  rw [he]
  clear he
  generalize bitLen (n / 256) = b at *
  have h1 : ¬ (4294967296 : Int) ≤ (n : Int) := by omega
  have h2 : ¬ (65536 : Int) ≤ (n : Int) := by omega
  have h3 : (256 : Int) ≤ (n : Int) := by omega
  go_enter Tryz.func42, Tryz.ntmps42
  generalize hS : (Value.string _) = S
  have hS2 : S = .string lenTab := by rw [← hS]; unfold lenTab; kernel_rfl
  clear hS
  subst hS2
  go_upto_region 10 with fail
  have ex : (n : Int) / 256 = ((n / 256 : Nat) : Int) := by omega
  have hxb : n / 256 < 256 := by omega
  rw [ex]
  clear ex
  generalize n / 256 = x at *
  go_wp2_with fail
  go_ret
  exact ⟨by first | rfl | trace_state, rfl⟩
set_option maxRecDepth 20000 in
set_option maxHeartbeats 400000 in
theorem blen_big (n : Nat) (hn : 65536 ≤ n) (hn2 : n ≤ 4194304) (w : World) : Calls Tryz.prog 42 #[.int .u64 n] w fun e w' => e = .returned (.int .i64 (bitLen n : Nat)) ∧ w' = w := by
  have HT := fun w => lenTab_run (n / 65536) (by omega) w
  have hb8 := bitLen_le8 (n / 65536) (by omega)
  have he : bitLen n = 16 + bitLen (n / 65536) := bitLen_shift n 16 (by simp; omega)
  rw [he]
  clear he
  generalize bitLen (n / 65536) = b at *
  have h1 : ¬ (4294967296 : Int) ≤ (n : Int) := by omega
  have h2 : (65536 : Int) ≤ (n : Int) := by omega
  have h3 : ¬ (256 : Int) ≤ ((n / 65536 : Nat) : Int) := by omega
  go_enter Tryz.func42, Tryz.ntmps42
  generalize hS : (Value.string _) = S
  have hS2 : S = .string lenTab := by rw [← hS]; unfold lenTab; kernel_rfl
  clear hS
  subst hS2
  go_upto_region 10 with fail
  have ex : (n : Int) / 65536 = ((n / 65536 : Nat) : Int) := by omega
  have hxb : n / 65536 < 256 := by omega
  rw [ex]
  clear ex
  generalize n / 65536 = x at *
  go_wp2_with fail
  go_ret
  exact ⟨by first | rfl | trace_state, rfl⟩
/-- How many bits a number from 1 to 2^22 has. -/
theorem blen64_any (n : Nat) (hn : n ≤ 4194304) (w : World) : Calls Tryz.prog 42 #[.int .u64 n] w fun e w' => e = .returned (.int .i64 (bitLen n : Nat)) ∧ w' = w := by
  by_cases h1 : n < 256
  · exact blen_small n h1 w
  · by_cases h2 : n < 65536
    · exact blen_mid n (by omega) h2 w
    · exact blen_big n (by omega) hn w
set_option maxHeartbeats 400000 in
theorem bitlen_any (n : Nat) (hn : n ≤ 4194304) (w : World) : Calls Tryz.prog 22 #[.int .u64 n] w fun e w' => e = .returned (.int .i64 (bitLen n : Nat)) ∧ w' = w := by
  go_enter Tryz.func22, Tryz.ntmps22
  go_wp2_with fail
  refine (blen64_any n hn w).mono ?_
  rintro e w1 ⟨rfl, rfl⟩
  go_wp2
  go_ret
  exact ⟨rfl, rfl⟩
theorem bitLen_lev {n : Nat} (h0 : 1 ≤ n) (h1 : n ≤ 4194304) : (1 ≤ bitLen n ∧ bitLen n ≤ 23) ∧ (n : Int) < 2 ^ bitLen n ∧ ∀ i : Nat, i < bitLen n → (2 : Int) ^ i ≤ n := by
  obtain ⟨s1, s2⟩ := bitLen_spec n
  have s2 := s2 (by omega)
  have h3 : 1 ≤ bitLen n := by
    rcases Nat.lt_or_ge 0 (bitLen n) with h | h
    · exact h
    · have : bitLen n = 0 := by omega
      rw [this] at s1; simp at s1; omega
  have h4 : bitLen n ≤ 23 := by
    rcases Nat.lt_or_ge 23 (bitLen n) with h | h
    · have : 2 ^ 23 ≤ 2 ^ (bitLen n - 1) := Nat.pow_le_pow_right (by decide) (by omega)
      have : (2 : Nat) ^ 23 = 8388608 := by decide
      omega
    · exact h
  refine ⟨⟨h3, h4⟩, by exact_mod_cast s1, fun i hi => ?_⟩
  have : 2 ^ i ≤ 2 ^ (bitLen n - 1) := Nat.pow_le_pow_right (by decide) (by omega)
  have : 2 ^ i ≤ n := by omega
  exact_mod_cast this
end Go.Proofs.YtcbgeahcnjamdabGreat
