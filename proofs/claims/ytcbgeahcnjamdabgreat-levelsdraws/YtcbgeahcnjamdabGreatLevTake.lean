/- Layer 10: the graph's own numbers: taken. -/
import Derived.Test.YtcbgeahcnjamdabGreatLevPut
namespace Go.Proofs.YtcbgeahcnjamdabGreat
open Go.RowKit
set_option linter.unusedVariables false
section
variable {p : Gp} {w : World} {F : Nat → Prop} {B : Nat} {g : Gs} {K : Nat}
theorem etake_any (h : Gm p w F B g K) (hl : g.el ≤ 4611686018427387904) (hx : g.eb.length ≤ 100000) :
    Calls Tryz.prog 26 #[.pointer (some ⟨B, 6, none⟩)] w fun e w' => ∃ r, e = .returned (.int .i64 r) ∧ Least (Tk g.el g.eb) r ∧ ∃ F' el' eb', Gm p w' F' B (g.setN el' eb') K ∧ Step F F' w w' ∧ (∀ t, Tk el' eb' t ↔ Tk g.el g.eb t ∨ t = r) ∧ g.el ≤ el' ∧ el' ≤ g.el + 1 ∧ el' - eb'.length = g.el - g.eb.length + 1 ∧ eb'.length ≤ g.eb.length := by
  obtain ⟨ev, T, cs, h1, h2, h3, h4⟩ := h.enL
  refine (mtake_any h2 h1 hl hx).mono ?_
  rintro e w' ⟨r, rfl, q1, last', v', xs', q2, q3, q4, q5, q6, q7, q8⟩
  obtain ⟨F', k1, k2⟩ := h4 w' last' v' xs' q2 q3
  exact ⟨r, rfl, q1, F', last', xs', k1, k2, q4, q5, q6, q7, q8⟩
theorem vtake_any (h : Gm p w F B g K) (hl : g.vl ≤ 4611686018427387904) (hx : g.vb.length ≤ 100000) :
    Calls Tryz.prog 26 #[.pointer (some ⟨B, 4, none⟩)] w fun e w' => ∃ r, e = .returned (.int .i64 r) ∧ Least (Tk g.vl g.vb) r ∧ ∃ F' vl' vb', Gm p w' F' B (g.setV vl' vb') K ∧ Step F F' w w' ∧ (∀ t, Tk vl' vb' t ↔ Tk g.vl g.vb t ∨ t = r) ∧ g.vl ≤ vl' ∧ vl' ≤ g.vl + 1 ∧ vl' - vb'.length = g.vl - g.vb.length + 1 ∧ vb'.length ≤ g.vb.length := by
  obtain ⟨ev, T, cs, h1, h2, h3, h4⟩ := h.vnL
  refine (mtake_any h2 h1 hl hx).mono ?_
  rintro e w' ⟨r, rfl, q1, last', v', xs', q2, q3, q4, q5, q6, q7, q8⟩
  obtain ⟨F', k1, k2⟩ := h4 w' last' v' xs' q2 q3
  exact ⟨r, rfl, q1, F', last', xs', k1, k2, q4, q5, q6, q7, q8⟩
end
end Go.Proofs.YtcbgeahcnjamdabGreat
