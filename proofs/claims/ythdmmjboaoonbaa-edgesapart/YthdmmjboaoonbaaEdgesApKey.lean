/- Layer 9's statements: keys that are acts. -/
import Derived.Test.YthdmmjboaoonbaaMapNum
import Derived.Test.YthdmmjboaoonbaaEdgesActs
import Derived.Test.YthdmmjboaoonbaaEdgesActs9
import Derived.DeepKeys4
import Derived.OpenShut
namespace Go.Proofs.Ythdmmjboaoonbaa
open Go.RowKit
open Go.Maps (Keyed)
set_option linter.unusedVariables false

def actK (x : Int × Int × Int) : Value := .agg #[.int .u8 0, .int .i64 x.1, .int .i64 x.2.1, .int .i64 x.2.2]
set_option maxRecDepth 100000 in
theorem laidOut9 : laidOutB Try.prog = true := by kernel_rfl
theorem rowA : (53 : TypeId) < Try.prog.types.size := of_decide_eq_true (by kernel_rfl)
set_option maxRecDepth 100000 in
theorem wideA : (match Try.prog.underlying 53 with | some (.array _ _) | some (.struct _) => true | _ => false) = true := by rw [Try.underlying53]
set_option maxRecDepth 100000 in
theorem keyA : Keyed Try.prog 53 := Keyed.of_law (deep_law_laid laidOut9 (m := 3) (by omega) rowA (by kernel_rfl) wideA)
set_option maxRecDepth 100000 in
theorem keyA_is {d v l e : Int} (h0 : (Lit.int .u8 d).wf = true) (h1 : (Lit.int .i64 v).wf = true) (h2 : (Lit.int .i64 l).wf = true) (h3 : (Lit.int .i64 e).wf = true) : ∃ x, keyOf Try.prog 53 (.agg #[.int .u8 d, .int .i64 v, .int .i64 l, .int .i64 e]) = some x := by
  have hkt : Try.prog.keyType 53 = true := by kernel_rfl
  obtain ⟨m, hm⟩ := sizeT
  have hc : Try.prog.cellsOf 53 = 4 := A9.cellsA
  have h8 : Try.prog.cellsOf 5 = 1 := A9.cells_uint8
  have hi : Try.prog.cellsOf 3 = 1 := A9.cells_int
  unfold keyOf
  rw [Try.underlying53]
  simp only []
  rw [if_pos (by simp [hkt, Value.formed, Try.underlying53, hc]), hm]
  unfold Program.keyLits
  simp only [Try.underlying53, Value.cells, hc]
  simp [List.mapM_cons, h8, hi, Program.keyLits, Try.underlying5, Try.underlying3, h0, h1, h2, h3]
set_option maxRecDepth 100000 in
theorem keyA_inv {key : Value} {x : Lit} (h : keyOf Try.prog 53 key = some x) : ∃ q : Int × Int × Int × Int, key = .agg #[.int .u8 q.1, .int .i64 q.2.1, .int .i64 q.2.2.1, .int .i64 q.2.2.2] := by
  have hc : Try.prog.cellsOf 53 = 4 := A9.cellsA
  have h8 : Try.prog.cellsOf 5 = 1 := A9.cells_uint8
  have hi : Try.prog.cellsOf 3 = 1 := A9.cells_int
  obtain ⟨m, hm⟩ := sizeT
  unfold keyOf at h
  rw [Try.underlying53] at h
  simp only [] at h
  split at h
  · rename_i hf
    simp only [Bool.and_eq_true] at hf
    obtain ⟨_, hf⟩ := hf
    cases key with
    | agg cs =>
      simp only [Value.formed, Try.underlying53, hc, beq_iff_eq] at hf
      obtain ⟨l⟩ := cs
      match l, hf with
      | [c0, c1, c2, c3], _ =>
        rw [hm] at h
        unfold Program.keyLits at h
        simp only [Try.underlying53, Value.cells, hc] at h
        simp [List.mapM_cons, h8, hi] at h
        have num : ∀ (t : TypeId) (q : IntKind) (c : Value) (y : List Lit), Try.prog.underlying t = some (.int q) → Try.prog.keyLits (m + 1) t [c] = some y → ∃ a, c = .int q a := fun t q c y ht hy => by
          unfold Program.keyLits at hy
          rw [ht] at hy
          cases c <;> simp at hy
          exact ⟨_, by rw [hy.1.1]⟩
        cases k0 : Try.prog.keyLits (m + 1) 5 [c0] with
        | none => rw [k0] at h; simp at h
        | some y0 =>
          cases k1 : Try.prog.keyLits (m + 1) 3 [c1] with
          | none => rw [k0, k1] at h; simp at h
          | some y1 =>
            cases k2 : Try.prog.keyLits (m + 1) 3 [c2] with
            | none => rw [k0, k1, k2] at h; simp at h
            | some y2 =>
              cases k3 : Try.prog.keyLits (m + 1) 3 [c3] with
              | none => rw [k0, k1, k2, k3] at h; simp at h
              | some y3 =>
                obtain ⟨a0, rfl⟩ := num _ _ _ _ Try.underlying5 k0
                obtain ⟨a1, rfl⟩ := num _ _ _ _ Try.underlying3 k1
                obtain ⟨a2, rfl⟩ := num _ _ _ _ Try.underlying3 k2
                obtain ⟨a3, rfl⟩ := num _ _ _ _ Try.underlying3 k3
                exact ⟨(a0, a1, a2, a3), rfl⟩
    | _ => simp [Value.formed, Try.underlying53] at hf
  · cases h
theorem actK_inj (a b : Int × Int × Int) (_ : okT a) (_ : okT b) (h : actK a = actK b) : a = b := by
  obtain ⟨a1, a2, a3⟩ := a; obtain ⟨b1, b2, b3⟩ := b
  simpa [actK] using h
theorem KA : KeyT Try.prog 69 53 3 (.int .i64 0) actK okT :=
  ⟨keyA, by kernel_rfl, fun w => by kernel_rfl, fun a ha => keyA_is (by decide) (WalkArith.wf_i64 ha.1) (WalkArith.wf_i64 ha.2.1) (WalkArith.wf_i64 ha.2.2), actK_inj⟩
end Go.Proofs.Ythdmmjboaoonbaa
