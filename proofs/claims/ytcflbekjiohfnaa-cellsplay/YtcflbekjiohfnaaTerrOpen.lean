/- An argument that is a slice of kinds, opened. -/
import Derived.Test.YtcflbekjiohfnaaTerrWorld
import Derived.Deep.SlicePairs
import Derived.ProofKit
import Derived.OpenShut
namespace Go.Proofs.Ytcflbekjiohfnaa
open Go.ChangeShapes Go.WideShapes Go.RowKit Go.Deep
set_option linter.unusedVariables false

theorem cellsK : Try.prog.cellsOf 74 = 2 := by kernel_rfl
theorem cellsI : Try.prog.cellsOf 3 = 1 := by kernel_rfl
theorem cellsB : Try.prog.cellsOf 5 = 1 := by kernel_rfl

set_option maxRecDepth 100000 in
theorem open_kinds {H : Type} {enc : TypeId × Value → H} {W : World} {base : Nat} {v : Value} {d : DataW H} {ps : List MemPlace} (hv : Value.okWide Try.prog W .any base 27 v)
    (h : DataW.Trod enc Try.prog W 0 (fun _ => true) true 27 v d ps) : ∃ ao cap ks, v = .slice ao ks.length cap ∧ KAt W ao ks ∧ Wk ks := by
  obtain ⟨a0, len, cap, rfl⟩ := okWide_slice Try.underlying27 hv
  obtain ⟨fuel, hf⟩ := h
  rcases open_slice_pairs Try.underlying27 Try.underlying74 cellsK rfl rfl cellsI cellsB hf with ⟨hcs, _⟩ | ⟨a, len', cap', m, n, V0, V1, D0, D1, P0, P1, hcs, _, hl, hm, hmm, _, hcell⟩
  · simp [Value.cells] at hcs
    obtain ⟨rfl, rfl, rfl⟩ := hcs
    exact ⟨none, 0, [], rfl, .inl rfl, fun x hx => (by cases hx)⟩
  · simp [Value.cells] at hcs
    obtain ⟨rfl, rfl, rfl⟩ := hcs
    simp only [if_true] at hmm
    have each : ∀ i, i < len → ∃ q : Kd, W.cell? (a.add (i * 2)) = some (.int .i64 q.1) ∧ W.cell? (a.add (i * 2 + 1)) = some (.int .u8 q.2) ∧ 0 ≤ q.2 ∧ q.2 < 256 := by
      intro i hi
      obtain ⟨c0, c1, t0, t1⟩ := hcell i (by omega)
      obtain ⟨x, e0, _, w0⟩ := DataW.trod_int Try.underlying3 t0
      obtain ⟨y, e1, _, w1⟩ := DataW.trod_int Try.underlying5 t1
      simp at e0 e1
      rw [e0] at c0
      rw [e1] at c1
      have := bounds_u8 w1
      exact ⟨(x, y), c0, c1, by omega, by omega⟩
    obtain ⟨q, hq⟩ := choose_lt each
    refine ⟨some a, cap, (List.range len).map q, by simp, ?_, ?_⟩
    · by_cases h0 : len = 0
      · subst h0; exact .inl rfl
      · have ha : a.spot = none := by
          have h1 := (hq 0 (by omega)).1
          cases hs : a.spot with
          | none => rfl
          | some s =>
            exfalso
            revert h1
            unfold World.cell?
            simp [Addr.add, hs]
            split <;> simp_all
        obtain ⟨b, off, spot⟩ := a
        simp at ha
        subst ha
        refine .inr ⟨b, off, rfl, fun i hi => ?_⟩
        simp at hi
        have h2 := hq i hi
        have hk : kAt ((List.range len).map q) i = q i := by
          rw [kAt_eq (by simpa using hi)]
          simp
        rw [hk]
        have e1 : ∀ j, (⟨b, off, none⟩ : Addr).add j = ⟨b, off + j, none⟩ := fun j => by unfold Addr.add; split <;> simp_all
        rw [e1, e1] at h2
        exact ⟨h2.1, h2.2.1⟩
    · intro x hx
      simp only [List.mem_map, List.mem_range] at hx
      obtain ⟨i, hi, rfl⟩ := hx
      exact (hq i hi).2.2
end Go.Proofs.Ytcflbekjiohfnaa
