/- Arguments that are slices of edits, opened. -/
import Derived.Test.YtcflbekjiohfnaaCellRefuse
import Derived.Deep.SlicePairs
import Derived.ProofKit
import Derived.OpenShut
namespace Go.Proofs.Ytcflbekjiohfnaa
open Go.ChangeShapes Go.WideShapes Go.RowKit Go.Deep
set_option linter.unusedVariables false

theorem cellsE : Try.prog.cellsOf 36 = 2 := by kernel_rfl
theorem cellsZ : Try.prog.cellsOf 26 = 2 := by kernel_rfl
theorem cellsEI : Try.prog.cellsOf 3 = 1 := by kernel_rfl

set_option maxRecDepth 100000 in
theorem open_edits {H : Type} {enc : TypeId × Value → H} {W : World} {base : Nat} {v : Value} {d : DataW H} {ps : List MemPlace} (hv : Value.okWide Try.prog W .any base 37 v)
    (h : DataW.Trod enc Try.prog W 0 (fun _ => true) true 37 v d ps) : ∃ ao cap ks, v = .slice ao ks.length cap ∧ EAt W ao ks := by
  obtain ⟨a0, len, cap, rfl⟩ := okWide_slice Try.underlying37 hv
  obtain ⟨fuel, hf⟩ := h
  rcases open_slice_pairs Try.underlying37 Try.underlying36 cellsE rfl rfl cellsEI cellsEI hf with ⟨hcs, _⟩ | ⟨a, len', cap', m, n, V0, V1, D0, D1, P0, P1, hcs, _, hl, hm, hmm, _, hcell⟩
  · simp [Value.cells] at hcs
    obtain ⟨rfl, rfl, rfl⟩ := hcs
    exact ⟨none, 0, [], rfl, .inl rfl⟩
  · simp [Value.cells] at hcs
    obtain ⟨rfl, rfl, rfl⟩ := hcs
    simp only [if_true] at hmm
    have each : ∀ i, i < len → ∃ q : Ed, W.cell? (a.add (i * 2)) = some (.int .i64 q.1) ∧ W.cell? (a.add (i * 2 + 1)) = some (.int .i64 q.2) := by
      intro i hi
      obtain ⟨c0, c1, t0, t1⟩ := hcell i (by omega)
      obtain ⟨x, e0, _, w0⟩ := DataW.trod_int Try.underlying3 t0
      obtain ⟨y, e1, _, w1⟩ := DataW.trod_int Try.underlying3 t1
      simp at e0 e1
      rw [e0] at c0
      rw [e1] at c1
      exact ⟨(x, y), c0, c1⟩
    obtain ⟨q, hq⟩ := choose_lt each
    refine ⟨some a, cap, (List.range len).map q, by simp, ?_⟩
    · by_cases h0 : len = 0
      · subst h0; exact .inl rfl
      · have ha : a.spot = none := by
          have h1 := (hq 0 (by omega)).1
          cases hs : a.spot with
          | none => rfl
          | some s =>
            exfalso
            revert h1
            unfold World.cell?
            simp [Addr.add, hs]
            split <;> simp_all
        obtain ⟨b, off, spot⟩ := a
        simp at ha
        subst ha
        refine .inr ⟨b, off, rfl, fun i hi => ?_⟩
        simp at hi
        have h2 := hq i hi
        have hk : eAt ((List.range len).map q) i = q i := by
          rw [eAt_eq (by simpa using hi)]
          simp
        rw [hk]
        have e1 : ∀ j, (⟨b, off, none⟩ : Addr).add j = ⟨b, off + j, none⟩ := fun j => by unfold Addr.add; split <;> simp_all
        rw [e1, e1] at h2
        exact ⟨h2.1, h2.2⟩
end Go.Proofs.Ytcflbekjiohfnaa
