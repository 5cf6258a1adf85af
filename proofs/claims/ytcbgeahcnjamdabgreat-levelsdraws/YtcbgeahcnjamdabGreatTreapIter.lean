/- Layer 6 (treap): the items of a sequence, one by one, as it is at each step. -/
import Derived.Test.YtcbgeahcnjamdabGreatBag
import Derived.Test.YtcbgeahcnjamdabGreatTreapRead
import Derived.Test.YtcbgeahcnjamdabGreatKit
namespace Go.Proofs.YtcbgeahcnjamdabGreat
open Go.RowKit Go.Shelf
attribute [local go_sem] Oper.semAt_some
set_option linter.unusedVariables false
variable {Xh : Hx}

/-- The two boxes: a forest's address (nil: none), an item's number. -/
def Bxs (b c : Nat) (p : Option Addr) (i : Int) (w : World) : Prop := Blk w b 119 #[.pointer p] ∧ Blk w c 21 #[.int .i32 i]
theorem Bxs.below {b c : Nat} {p : Option Addr} {i : Int} {w w' : World} (h : Bxs b c p i w) (hb : Below w.heap.size w w') : Bxs b c p i w' := ⟨h.1.below hb, h.2.below hb⟩
theorem Bxs.kept {b c : Nat} {p : Option Addr} {i : Int} {w w' : World} (h : Bxs b c p i w) (h1 : w'.heap[b]? = w.heap[b]?) (h2 : w'.heap[c]? = w.heap[c]?) : Bxs b c p i w' := ⟨h1.trans h.1, h2.trans h.2⟩
theorem idx_at {L : List Int} (hn : L.Nodup) {m : Nat} (h : m < L.length) : L.idxOf (lAt L m) = m := by
  rw [lAt_eq h]; exact hn.idxOf_getElem m h
section
variable {F : Nat → Prop} {B : Nat} {K : List Bool} {fr : List Int} {S : Int → List Int} {V : Int → Vl} {mx : Nat}
/-- What stands behind the item m of a sequence. -/
theorem nx_at {w : World} (h : Tp Xh w F B K fr S V mx) {i : Int} {m : Nat} (hm : m < (S i).length) : nxS (S (lAt (S i) m)) (lAt (S i) m) = lAt (S i) (m + 1) := by
  rw [h.same (lAt_mem hm)]
  unfold nxS
  rw [if_pos (lAt_mem hm), idx_at (h.nodup i) hm]
  rcases Nat.lt_or_ge (m + 1) (S i).length with h1 | h1
  · rw [List.drop_eq_getElem_cons h1, lAt_eq h1]; rfl
  · rw [List.drop_eq_nil_of_le h1, lAt_out h1]; rfl
end
end Go.Proofs.YtcbgeahcnjamdabGreat
