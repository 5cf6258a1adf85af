/- terrain.New by one contract. -/
import Derived.Test.YtcflbekjiohfnaaTerrMeth
namespace Go.Proofs.Ytcflbekjiohfnaa
open Go.RowKit
set_option linter.unusedVariables false

/-- New, whatever it is handed. -/
theorem new_any (ao : Option Addr) (cap n : Nat) (ks : List Kd) (cl : Int) (w : World) (hn : ks.length = n) (hk : KAt w ao ks) (hw : Wk ks) :
    Calls Try.prog 31 #[.slice ao n cap, .int .i64 cl] w fun e w' => ∃ po : Option Nat, ∃ r : Int, e = .returned (.tuple #[.pointer (po.map fun B => ⟨B, 0, none⟩), .int .i64 r]) ∧
      ((okT ks cl = true ∧ r = 0 ∧ ∃ B, po = some B ∧ TabV w' (.pointer (some ⟨B, 0, none⟩)) ks cl) ∨ (okT ks cl = false ∧ r = 1 ∧ po = none)) ∧ Below w.heap.size w w' := by
  subst hn
  cases ho : okT ks cl with
  | false => exact (new_no ao cap ks cl w hk hw ho).mono (fun e w' h => ⟨none, 1, h.1, .inr ⟨rfl, rfl, rfl⟩, h.2⟩)
  | true =>
    have h0 := (okT_iff.1 ho).1
    rcases hk with h | ⟨b, off, rfl, hk⟩
    · rw [h] at h0; simp at h0
    · exact (new_yes b off cap ks cl w hk hw ho).mono (fun e w' ⟨B, h1, h2, h3⟩ => ⟨some B, 0, h1, .inl ⟨rfl, rfl, B, rfl, .inr ⟨_, B, rfl, h2⟩⟩, h3⟩)

end Go.Proofs.Ytcflbekjiohfnaa
