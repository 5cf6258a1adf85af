/- Layer 6's statements: same, Made, number. -/
import Derived.Test.YtcbgeahcnjamdabGreatTreapLaw
import Derived.Test.YtcbgeahcnjamdabGreatTreapMake
import Derived.Test.YtcbgeahcnjamdabGreatTreapFind
import Derived.Test.YtcbgeahcnjamdabGreatDrawNew
namespace Go.Proofs.YtcbgeahcnjamdabGreat
open Go.RowKit
set_option linter.unusedVariables false
variable {Xh : Hx}


/-- No items. -/
def S0 : Int → List Int := fun _ => []
def V0 : Int → Vl := fun _ => zeV
/-- A forest in a block of its own. -/
abbrev X0 : Hx := ⟨86, [], none⟩
theorem Tp.fresh {w : World} {d : Option Addr} {B : Nat} {F : Nat → Prop} {mx : Nat} (hb : Blk w B Xh.T (.slice none 0 0 :: .slice none 0 0 :: .pointer d :: Xh.ex).toArray) (hF : F B) (hlt : ∀ k, F k → k < w.heap.size) (hd : Dok Xh.dr w F (fun k => k = B) d mx) : Tp Xh w F B [] [] S0 V0 mx := by
  refine ⟨⟨B, [], d, fun k => k = B, ⟨⟨.slice none 0 0, .slice none 0 0, hb, RowW.empty _ _ _, RowW.empty _ _ _, fun k h => (by cases h), fun k h => (by cases h), fun k h => (by cases h)⟩, rfl, fun k hk => by rw [hk]; exact hb.lt, fun s hs => (by cases hs), fun f hf => (by cases hf), hole2 _⟩, ⟨fun i hi => ?_, fun i hi => ?_, fun i j hj => ?_, fun i _ => rfl⟩, rfl, fun i => ?_, fun k hk => by rw [hk]; exact hF, hd⟩, hlt, ⟨by simp, fun f hf => (by cases hf)⟩, by simp⟩
  · have := (tk_iff.1 hi).2.2; simp at this
  · have := (tk_iff.1 hi).2.2; simp at this
  · cases hj
  · unfold nd V0; split
    · simp [zeN]
    · rfl
set_option maxHeartbeats 400000 in
theorem tnew_any (d : Option Addr) (w : World) : Calls Tryz.prog 70 #[.pointer d] w fun e w' => e = .returned (.pointer (some ⟨w.heap.size, 0, none⟩)) ∧ w' = w.alloc (.cells #[.slice none 0 0, .slice none 0 0, .pointer d] 86) := by
  go_enter Tryz.func70, Tryz.ntmps70
  go_wp2
  go_ret
  exact ⟨rfl, rfl⟩
/-- A number of 32 bits, or 0. -/
def numI (i : Int) : Int := if i < -2147483648 ∨ i > 2147483647 then 0 else i
theorem numI_bd (i : Int) : -2147483648 ≤ numI i ∧ numI i ≤ 2147483647 := by unfold numI; split <;> omega
end Go.Proofs.YtcbgeahcnjamdabGreat
