/- Layer 6's statements: walk. -/
import Derived.Test.YtcbgeahcnjamdabGreatTreapWalk
import Derived.Test.YtcbgeahcnjamdabGreatOpens
namespace Go.Proofs.YtcbgeahcnjamdabGreat
open Go.RowKit Go.Shelf
attribute [local go_sem] Oper.semAt_some
set_option linter.unusedVariables false
variable {Xh : Hx}

def i64s (xs : List Int) : List Value := xs.map (Value.int .i64)
theorem i64s_len (xs : List Int) : (i64s xs).length = xs.length := by simp [i64s]
theorem i64s_at {xs : List Int} {i : Nat} (h : i < xs.length) : (i64s xs)[i]? = some (.int .i64 (lAt xs i)) := by unfold i64s; rw [List.getElem?_map, lAt_some h]; rfl
theorem i64s_snoc (xs : List Int) (x : Int) : i64s (xs ++ [x]) = i64s xs ++ [.int .i64 x] := by simp [i64s]
theorem infoI64 : (Tryz.prog.info? 3).map (fun i => (i.zero, i.size, i.bytes)) = some (some (.int .i64 0), 1, 8) := by kernel_rfl
theorem RowW.nat {w : World} {ao : Option Addr} {n cap : Nat} {xs : List Int} (h : RowW w 3 1 (.slice ao n cap) n (i64s xs)) (hn : n = xs.length) : NAt .i64 w ao xs := by
  rcases h.2 with ⟨e, e0⟩ | ⟨g, cap', cur, e, hb, _⟩
  · left; cases e; exact List.eq_nil_of_length_eq_zero hn.symm
  · cases e
    exact .inr ⟨g, 0, rfl, hb.lt, fun i hi => by rw [Nat.zero_add]; exact h.cell (i64s_at hi)⟩
section
variable {F : Nat → Prop} {B : Nat} {K : List Bool} {fr : List Int} {S : Int → List Int} {V : Int → Vl} {mx : Nat}
end
end Go.Proofs.YtcbgeahcnjamdabGreat
