/- Layer 6's statement TreapNext. -/
import Derived.Test.YtpbnhbpkfdhedaaTreapDuo
import Derived.Deep.RegionHeld3
namespace Go.Proofs.Ytpbnhbpkfdhedaa
open Go.RowKit
set_option linter.unusedVariables false

/-- One forest, made since w. -/
structure Solo (w wr : World) (F : Nat → Prop) (B : Nat) (s : Sq) : Prop where
  f : Ts wr F B s
  ff : ∀ k, F k → w.heap.size ≤ k
  below : Below w.heap.size w wr
theorem Solo.grow {w wr wr' : World} {F : Nat → Prop} {B : Nat} {s : Sq} (h : Solo w wr F B s) (hb : Below wr.heap.size wr wr') : Solo w wr' F B s := ⟨h.f.below hb, h.ff, h.below.trans (hb.mono h.below.size)⟩
theorem Solo.step {w wr wr' : World} {F F' : Nat → Prop} {B : Nat} {s s' : Sq} (h : Solo w wr F B s) (h1 : Ts wr' F' B s') (hS : Step F F' wr wr') : Solo w wr' F' B s' := ⟨h1, hS.from h.below.size h.ff, hS.start h.below (Nat.le_refl _) h.ff⟩
theorem NAt.kept {k : IntKind} {W W' : World} {ao : Option Addr} {xs : List Int} (h : NAt k W ao xs) (hb : ∀ b off, ao = some ⟨b, off, none⟩ → W'.heap[b]? = W.heap[b]?) (hs : W.heap.size ≤ W'.heap.size) : NAt k W' ao xs := by
  rcases h with h | ⟨b, off, e, hl, h⟩
  · exact .inl h
  · exact .inr ⟨b, off, e, Nat.lt_of_lt_of_le hl hs, fun i hi => (World.cell?_of_block (w := W) (hb b off e)).trans (h i hi)⟩
/-- A box of its own is written, which is no forest's. -/
theorem Solo.put4 {w wr : World} {F : Nat → Prop} {B bA : Nat} {s : Sq} (h : Solo w wr F B s) (hn : ¬ F bA) (hw : w.heap.size ≤ bA) (a b c d : Value) : Solo w ((((wr.setCell ⟨bA, 0, none⟩ a).setCell ⟨bA, 1, none⟩ b).setCell ⟨bA, 2, none⟩ c).setCell ⟨bA, 3, none⟩ d) F B s := by
  have hbl : ∀ k, k ≠ bA → ((((wr.setCell ⟨bA, 0, none⟩ a).setCell ⟨bA, 1, none⟩ b).setCell ⟨bA, 2, none⟩ c).setCell ⟨bA, 3, none⟩ d).heap[k]? = wr.heap[k]? := fun k hk =>
    (Below.heap_setCell _ ⟨bA, 3, none⟩ _ k hk).trans ((Below.heap_setCell _ ⟨bA, 2, none⟩ _ k hk).trans ((Below.heap_setCell _ ⟨bA, 1, none⟩ _ k hk).trans (Below.heap_setCell _ ⟨bA, 0, none⟩ _ k hk)))
  refine ⟨Tp.kept h.f (fun k hk => hbl k (fun e => hn (e ▸ hk))) (by simp), h.ff, ?_⟩
  exact (((h.below.setCell (p := ⟨bA, 0, none⟩) hw _).setCell (p := ⟨bA, 1, none⟩) hw _).setCell (p := ⟨bA, 2, none⟩) hw _).setCell (p := ⟨bA, 3, none⟩) hw _
theorem put4_heap (wr : World) {bA : Nat} (a b c d : Value) {k : Nat} (hk : k ≠ bA) : ((((wr.setCell ⟨bA, 0, none⟩ a).setCell ⟨bA, 1, none⟩ b).setCell ⟨bA, 2, none⟩ c).setCell ⟨bA, 3, none⟩ d).heap[k]? = wr.heap[k]? :=
  (Below.heap_setCell _ ⟨bA, 3, none⟩ _ k hk).trans ((Below.heap_setCell _ ⟨bA, 2, none⟩ _ k hk).trans ((Below.heap_setCell _ ⟨bA, 1, none⟩ _ k hk).trans (Below.heap_setCell _ ⟨bA, 0, none⟩ _ k hk)))
set_option maxRecDepth 100000 in
theorem eqSelf (Z : Vl) (w : World) : (binOp BinOp.eql 40 (vlc Z) (vlc Z)).run Try.prog w = .ok (.bool true) w := by
  have h := eqVal Z Z w
  simp only [binOp]
  simp [Op.equal, go_sem]
  rw [show Op.maxDepth = 10000 from rfl, h]
  simp [Result.andThen]
end Go.Proofs.Ytpbnhbpkfdhedaa
