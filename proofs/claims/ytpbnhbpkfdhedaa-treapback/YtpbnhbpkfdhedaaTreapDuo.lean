/- Layer 6 (treap): two forests. -/
import Derived.Test.YtpbnhbpkfdhedaaTreapSq
import Derived.Test.YtpbnhbpkfdhedaaTreapAwake
import Derived.Test.YtpbnhbpkfdhedaaTreapEq
import Derived.Test.YtpbnhbpkfdhedaaTreapGreat
namespace Go.Proofs.Ytpbnhbpkfdhedaa
open Go.RowKit
set_option linter.unusedVariables false

/-- Two forests apart from one another, both made since w. -/
structure Duo (w wr : World) (Ff : Nat → Prop) (Bf : Nat) (s : Sq) (Fg : Nat → Prop) (Bg : Nat) (t : Sq) : Prop where
  f : Ts wr Ff Bf s
  g : Ts wr Fg Bg t
  dis : ∀ k, Ff k → ¬ Fg k
  ff : ∀ k, Ff k → w.heap.size ≤ k
  fg : ∀ k, Fg k → w.heap.size ≤ k
  below : Below w.heap.size w wr
section
variable {w wr wr' : World} {Ff Ff' Fg Fg' : Nat → Prop} {Bf Bg : Nat} {s s' t t' : Sq}
theorem Duo.grow (h : Duo w wr Ff Bf s Fg Bg t) (hb : Below wr.heap.size wr wr') : Duo w wr' Ff Bf s Fg Bg t := ⟨h.f.below hb, h.g.below hb, h.dis, h.ff, h.fg, h.below.trans (hb.mono h.below.size)⟩
theorem Duo.stepF (h : Duo w wr Ff Bf s Fg Bg t) (h1 : Ts wr' Ff' Bf s') (hS : Step Ff Ff' wr wr') : Duo w wr' Ff' Bf s' Fg Bg t :=
  ⟨h1, h.g.step hS (fun k a b => h.dis k b a), fun k a b => hS.apart (fun k a b => h.dis k b a) h.g.lt k b a, hS.from h.below.size h.ff, h.fg, hS.start h.below (Nat.le_refl _) h.ff⟩
theorem Duo.stepG (h : Duo w wr Ff Bf s Fg Bg t) (h1 : Ts wr' Fg' Bg t') (hS : Step Fg Fg' wr wr') : Duo w wr' Ff Bf s Fg' Bg t' :=
  ⟨h.f.step hS h.dis, h1, hS.apart h.dis h.f.lt, h.ff, hS.from h.below.size h.fg, hS.start h.below (Nat.le_refl _) h.fg⟩
end
/-- A box that is no forest's: it lies as it lay. -/
theorem Step.boxed {F F' : Nat → Prop} {w w' : World} {X : Nat} {t : TypeId} {cs : Array Value} (h : Step F F' w w') (hX : Blk w X t cs) (hn : ¬ F X) : Blk w' X t cs ∧ ¬ F' X := ⟨(h.only.block X hX.lt hn).trans hX, fun h' => (h.ext X h').elim hn (fun h2 => by have := hX.lt; omega)⟩
end Go.Proofs.Ytpbnhbpkfdhedaa
