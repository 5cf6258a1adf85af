/- Arguments that are slices of numbers of 32 bits, or of bools, opened. -/
import Derived.Test.YtcbgeahcnjamdabGreatDrawNew
import Derived.Deep.Slices
import Derived.ProofKit
import Derived.OpenShut
namespace Go.Proofs.YtcbgeahcnjamdabGreat
open Go.ChangeShapes Go.WideShapes Go.RowKit Go.Deep
set_option linter.unusedVariables false

theorem cellsW : Tryz.prog.cellsOf 46 = 1 := by kernel_rfl
theorem cellsBo : Tryz.prog.cellsOf 4 = 1 := by kernel_rfl
/-- A cell is no part of another one. -/
theorem spot_none {W : World} {a : Addr} {v : Value} (h : W.cell? (a.add 0) = some v) : a.spot = none := by
  cases hs : a.spot with
  | none => rfl
  | some s =>
    exfalso
    revert h
    unfold World.cell?
    simp [Addr.add, hs]
    split <;> simp_all

set_option maxRecDepth 100000 in
theorem open_u32s {H : Type} {enc : TypeId × Value → H} {W : World} {base : Nat} {v : Value} {d : DataW H} {ps : List MemPlace} (hv : Value.okWide Tryz.prog W .any base 22 v)
    (h : DataW.Trod enc Tryz.prog W 0 (fun _ => true) true 22 v d ps) : ∃ ao cap xs, v = .slice ao xs.length cap ∧ UAt W ao xs ∧ Wu xs ∧ xs.length ≤ 9223372036854775807 := by
  obtain ⟨a0, len, cap, rfl⟩ := okWide_slice Tryz.underlying22 hv
  obtain ⟨fuel, hf⟩ := h
  rcases open_slice1 Tryz.underlying22 cellsW hf with ⟨hcs, _⟩ | ⟨a, len', cap', m, n, V, D, Pl, hcs, _, hl, hm, hmm, _, hcell⟩
  · simp [Value.cells] at hcs
    obtain ⟨rfl, rfl, rfl⟩ := hcs
    exact ⟨none, 0, [], rfl, .inl rfl, fun x hx => (by cases hx), by simp⟩
  · simp [Value.cells] at hcs
    obtain ⟨rfl, rfl, rfl⟩ := hcs
    simp only [if_true] at hmm
    have each : ∀ i, i < len → ∃ q : Int, W.cell? (a.add i) = some (.int .u32 q) ∧ 0 ≤ q ∧ q < 4294967296 := by
      intro i hi
      obtain ⟨c0, t0⟩ := hcell i (by omega)
      obtain ⟨x, e0, _, w0⟩ := DataW.trod_int Tryz.underlying46 t0
      simp at e0
      rw [e0] at c0
      have := bounds_u32 w0
      exact ⟨x, c0, by omega, by omega⟩
    obtain ⟨q, hq⟩ := choose_lt each
    refine ⟨some a, cap, (List.range len).map q, by simp, ?_, ?_, by unfold maxLen at hm; simp; omega⟩
    · by_cases h0 : len = 0
      · subst h0; exact .inl rfl
      · have ha : a.spot = none := spot_none (hq 0 (by omega)).1
        obtain ⟨b, off, spot⟩ := a
        simp at ha
        subst ha
        refine .inr ⟨b, off, rfl, fun i hi => ?_⟩
        simp at hi
        have h2 := (hq i hi).1
        rw [lAt_eq (by simpa using hi)]
        rw [add_eq] at h2
        simpa using h2
    · intro x hx
      simp only [List.mem_map, List.mem_range] at hx
      obtain ⟨i, hi, rfl⟩ := hx
      exact (hq i hi).2

def bAt (bs : List Bool) (i : Nat) : Bool := bs.getD i false
/-- The bools that a slice's address leads to. -/
def BAt (W : World) (ao : Option Addr) (bs : List Bool) : Prop := bs = [] ∨ ∃ b off, ao = some ⟨b, off, none⟩ ∧ ∀ i, i < bs.length → W.cell? ⟨b, off + i, none⟩ = some (.bool (bAt bs i))
end Go.Proofs.YtcbgeahcnjamdabGreat
