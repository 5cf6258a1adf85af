/- Layer 6 (treap): Get, Place, Find. -/
import Derived.Test.YtcbgeahcnjamdabGreatTreapRead
namespace Go.Proofs.YtcbgeahcnjamdabGreat
open Go.RowKit
set_option linter.unusedVariables false
variable {Xh : Hx}

/-- The first item with a bit of a mask. -/
def fdS (V : Int → Vl) (l : List Int) (mask : Int) : Int := (l.find? fun j => hasB (V j).m mask).getD 0
section
variable {w : World} {F : Nat → Prop} {B : Nat} {K : List Bool} {fr : List Int} {S : Int → List Int} {V : Int → Vl} {mx : Nat}
set_option maxHeartbeats 1000000 in
theorem tget_any (h : Tp Xh w F B K fr S V mx) (i : Int) (hb : -2147483648 ≤ i ∧ i ≤ 2147483647) :
    Calls Tryz.prog 133 #[.pointer (some ⟨B, 0, none⟩), .int .i32 i] w fun e w' => e = .returned (.tuple #[vlc (if isK K i = true then V i else zeV), .bool (isK K i)]) ∧ Below w.heap.size w w' := by
  obtain ⟨G, N, d, Fa, h1, h2, h3, h4, h5, h6⟩ := h.ex
  have hN : N.length ≤ 2147483647 := by have := h.klen; rw [← h3, List.length_map] at this; exact this
  have hb1 := (Below.refl w.heap.size w).alloc (Nat.le_refl _) (.cells #[.int .i64 0, .int .i64 0, .int .i64 0, .int .u8 0] 128)
  have hF1 := h1.below hb1
  rw [← h3, ← tk_isK, ← h4]
  clear h h1 h2 h3 h4 h5 h6
  cases hi : tk N i with
  | false =>
    rw [if_neg (by simp)]
    have HA := at_un hF1 hN hb hi
    clear hF1 hb1
    go_enter Tryz.func133, Tryz.ntmps133
    go_wp2_with fail
    refine HA.mono ?_
    rintro e w0 ⟨rfl, rfl⟩
    go_wp2
    go_returns
    exact ⟨rfl, (Below.refl _ _).alloc (Nat.le_refl _) _⟩
  | true =>
    rw [if_pos rfl]
    have HA := at_tk hF1 hN hi
    have c0 := hF1.at hi (j := 0) rfl
    have c1 := hF1.at hi (j := 1) rfl
    have c2 := hF1.at hi (j := 2) rfl
    have c3 := hF1.at hi (j := 3) rfl
    rw [Nat.add_zero] at c0
    clear hF1 hb1
    go_enter Tryz.func133, Tryz.ntmps133
    go_wp2_with fail
    refine HA.mono ?_
    rintro e w0 ⟨rfl, rfl⟩
    go_wp2
    go_returns
    exact ⟨rfl, (Below.refl _ _).alloc (Nat.le_refl _) _⟩
end
end Go.Proofs.YtcbgeahcnjamdabGreat
