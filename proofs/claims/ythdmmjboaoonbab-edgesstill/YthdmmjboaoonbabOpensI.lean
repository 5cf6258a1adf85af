/- Arguments that are slices of ints, opened. -/
import Derived.Test.YthdmmjboaoonbabProg
import Derived.Test.YthdmmjboaoonbabOpens
import Derived.Deep.Slices
import Derived.ProofKit
import Derived.OpenShut
namespace Go.Proofs.Ythdmmjboaoonbab
open Go.ChangeShapes Go.WideShapes Go.RowKit Go.Deep
set_option linter.unusedVariables false

theorem cells64 : Try.prog.cellsOf 3 = 1 := by kernel_rfl
set_option maxRecDepth 100000 in
theorem open_ints {H : Type} {enc : TypeId × Value → H} {W : World} {base : Nat} {v : Value} {d : DataW H} {ps : List MemPlace} (hv : Value.okWide Try.prog W .any base 22 v)
    (h : DataW.Trod enc Try.prog W 0 (fun _ => true) true 22 v d ps) : ∃ ao cap xs, v = .slice ao xs.length cap ∧ NAt .i64 W ao xs ∧ (∀ i, i < xs.length → -9223372036854775808 ≤ lAt xs i ∧ lAt xs i ≤ 9223372036854775807) ∧ xs.length ≤ 9223372036854775807 := by
  obtain ⟨a0, len, cap, rfl⟩ := okWide_slice Try.underlying22 hv
  obtain ⟨fuel, hf⟩ := h
  rcases open_slice1 Try.underlying22 cells64 hf with ⟨hcs, _⟩ | ⟨a, len', cap', m, n, V, D, Pl, hcs, _, hl, hm, hmm, _, hcell⟩
  · simp [Value.cells] at hcs
    obtain ⟨rfl, rfl, rfl⟩ := hcs
    exact ⟨none, 0, [], rfl, .inl rfl, fun i hi => (by cases hi), by simp⟩
  · simp [Value.cells] at hcs
    obtain ⟨rfl, rfl, rfl⟩ := hcs
    simp only [if_true] at hmm
    have each : ∀ i, i < len → ∃ q : Int, W.cell? (a.add i) = some (.int .i64 q) ∧ -9223372036854775808 ≤ q ∧ q ≤ 9223372036854775807 := by
      intro i hi
      obtain ⟨c0, t0⟩ := hcell i (by omega)
      obtain ⟨x, e0, _, w0⟩ := DataW.trod_int Try.underlying3 t0
      simp at e0
      rw [e0] at c0
      exact ⟨x, c0, bounds_i64 w0⟩
    obtain ⟨q, hq⟩ := choose_lt each
    have hat : ∀ i, i < len → lAt ((List.range len).map q) i = q i := fun i hi => by rw [lAt_eq (by simpa using hi)]; simp
    refine ⟨some a, cap, (List.range len).map q, by simp, ?_, fun i hi => ?_, by unfold maxLen at hm; simp; omega⟩
    · by_cases h0 : len = 0
      · subst h0; exact .inl rfl
      · have ha : a.spot = none := by
          have h1 := (hq 0 (by omega)).1
          cases hs : a.spot with
          | none => rfl
          | some s =>
            exfalso
            revert h1
            unfold World.cell?
            simp [Addr.add, hs]
            split <;> simp_all
        obtain ⟨b, off, spot⟩ := a
        simp at ha
        subst ha
        refine .inr ⟨b, off, rfl, by have h1 := (hq 0 (by omega)).1; rw [add_eq] at h1; exact cell_lt h1, fun i hi => ?_⟩
        simp at hi
        rw [hat i hi, ← add_eq]
        exact (hq i hi).1
    · simp at hi
      rw [hat i hi]
      exact (hq i hi).2
end Go.Proofs.Ythdmmjboaoonbab
