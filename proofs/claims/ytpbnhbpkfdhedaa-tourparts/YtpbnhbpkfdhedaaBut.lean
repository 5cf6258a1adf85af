/- Over whatever program: all blocks below n but one are as they were. -/
import Derived.Test.YtpbnhbpkfdhedaaKit
namespace Go.Proofs.Ytpbnhbpkfdhedaa
open Go.RowKit
set_option linter.unusedVariables false

/-- All blocks below n but K are as they were. -/
structure But (n K : Nat) (w w' : World) : Prop where
  os : w'.os = w.os
  tape : w'.tape = w.tape
  output : w'.output = w.output
  size : w.heap.size ≤ w'.heap.size
  block : ∀ k, k < n → k ≠ K → w'.heap[k]? = w.heap[k]?
theorem But.refl (n K : Nat) (w : World) : But n K w w := ⟨rfl, rfl, rfl, Nat.le_refl _, fun _ _ _ => rfl⟩
theorem Below.but {n : Nat} (K : Nat) {w w' : World} (h : Below n w w') : But n K w w' := ⟨h.os, h.tape, h.output, h.size, fun k hk _ => h.block k hk⟩
theorem But.trans {n K : Nat} {a b c : World} (h : But n K a b) (k : But n K b c) : But n K a c :=
  ⟨k.os.trans h.os, k.tape.trans h.tape, k.output.trans h.output, Nat.le_trans h.size k.size, fun i hi hn => (k.block i hi hn).trans (h.block i hi hn)⟩
theorem But.mono {n m K : Nat} {w w' : World} (h : But n K w w') (hm : m ≤ n) : But m K w w' := ⟨h.os, h.tape, h.output, h.size, fun k hk hn => h.block k (Nat.lt_of_lt_of_le hk hm) hn⟩
theorem But.step {n K : Nat} {a b c : World} (h : But n K a b) (k : But b.heap.size K b c) (hn : n ≤ a.heap.size) : But n K a c := h.trans (k.mono (Nat.le_trans hn h.size))
theorem But.below {n K : Nat} {w w' : World} (h : But n K w w') (hK : n ≤ K) : Below n w w' := ⟨h.os, h.tape, h.output, h.size, fun k hk => h.block k hk (by omega)⟩
theorem But.alloc {n K : Nat} {a b : World} (h : But n K a b) (hn : n ≤ a.heap.size) (o : Obj) : But n K a (b.alloc o) :=
  h.trans (Below.but K (((Below.refl _ _).alloc (Nat.le_refl _) o).mono (Nat.le_trans hn h.size)))
theorem But.set {n K : Nat} {a b : World} (h : But n K a b) (o : Nat) (u : Value) : But n K a (b.setCell ⟨K, o, none⟩ u) :=
  ⟨h.os, h.tape, h.output, by show _ ≤ (b.heap.modify _ _).size; rw [Array.size_modify]; exact h.size, fun k hk hn => (Below.heap_setCell b ⟨K, o, none⟩ u k hn).trans (h.block k hk hn)⟩
theorem But.drew {n K : Nat} {a b : World} (h : But n K a b) : But n K a b.drew := ⟨h.os, h.tape, h.output, h.size, h.block⟩
theorem But.grown {K : Nat} {w w' : World} (h : But w.heap.size K w w') : w.grownBy w' (some K) := ⟨h.os, h.tape, h.output, h.size, fun k hk hn => h.block k hk (fun e => hn (by rw [e]))⟩
theorem But.cell {n K b o : Nat} {w w' : World} (h : But n K w w') (hb : b < n) (hn : b ≠ K) : w'.cell? ⟨b, o, none⟩ = w.cell? ⟨b, o, none⟩ := World.cell?_of_block (w := w) (h.block b hb hn)
theorem Blk.but {n K B : Nat} {w w' : World} {t : TypeId} {cs : Array Value} (h : Blk w B t cs) (hb : But n K w w') (hB : B < n) (hn : B ≠ K) : Blk w' B t cs := (hb.block B hB hn).trans h
/-- Grown out of K's world by an append onto a row of one's own. -/
theorem But.append {n K base : Nat} {a w w1 : World} {ty size k : Nat} {v : Value} {xs : List Value} (hB : But n K a w) (hn : n ≤ w.heap.size) (hb : n ≤ base) (hown : w.ownsRow base ty size v k xs) (hg : w.grownBy w1 v.ownBlock) : But n K a w1 :=
  ⟨hg.os.trans hB.os, hg.tape.trans hB.tape, hg.output.trans hB.output, Nat.le_trans hB.size hg.size, fun j hj hjk => (hg.block j (by omega) (fun e => by have := (hown.lt j e.symm).1; omega)).trans (hB.block j hj hjk)⟩
theorem Blk.append {base B : Nat} {w w1 : World} {ty size k : Nat} {v : Value} {xs : List Value} {t : TypeId} {cs : Array Value} (h : Blk w B t cs) (hB : B < base) (hown : w.ownsRow base ty size v k xs) (hg : w.grownBy w1 v.ownBlock) : Blk w1 B t cs :=
  h.kept hg (fun ej => by have := (hown.lt B ej.symm).1; omega)
theorem grownBy_set (W : World) (K o : Nat) (u : Value) : W.grownBy (W.setCell ⟨K, o, none⟩ u) (some K) := ((But.refl W.heap.size K W).set o u).grown
end Go.Proofs.Ytpbnhbpkfdhedaa
