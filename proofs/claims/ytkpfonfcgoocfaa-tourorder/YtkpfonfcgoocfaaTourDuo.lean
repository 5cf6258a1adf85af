/- Layer 7's statements: two forests to which the same is done. -/
import Derived.Test.YtkpfonfcgoocfaaTourAwake
import Derived.Test.YtkpfonfcgoocfaaTourGreat
namespace Go.Proofs.Ytkpfonfcgoocfaa
open Go.RowKit
set_option linter.unusedVariables false
/-- Two forests apart from one another, both made since w. -/
structure Du (w wr : World) (Ff : Nat → Prop) (Bf Gf : Nat) (s : To) (Fg : Nat → Prop) (Bg Gg : Nat) (t : To) : Prop where
  f : Tf Y0 wr Ff Bf Gf s
  g : Tf Y0 wr Fg Bg Gg t
  dis : ∀ k, Ff k → ¬ Fg k
  ff : ∀ k, Ff k → w.heap.size ≤ k
  fg : ∀ k, Fg k → w.heap.size ≤ k
  below : Below w.heap.size w wr
section
variable {w wr wr' : World} {Ff Ff' : Nat → Prop} {Bf Gf Gf' : Nat} {s s' : To} {Fg Fg' : Nat → Prop} {Bg Gg Gg' : Nat} {t t' : To}
theorem Du.grow (h : Du w wr Ff Bf Gf s Fg Bg Gg t) (hb : Below wr.heap.size wr wr') : Du w wr' Ff Bf Gf s Fg Bg Gg t := ⟨h.f.below hb, h.g.below hb, h.dis, h.ff, h.fg, h.below.trans (hb.mono h.below.size)⟩
theorem Du.stepF (h : Du w wr Ff Bf Gf s Fg Bg Gg t) (h1 : Tf Y0 wr' Ff' Bf Gf' s') (hS : Step Ff Ff' wr wr') : Du w wr' Ff' Bf Gf' s' Fg Bg Gg t :=
  ⟨h1, h.g.step hS (fun k h1 h2 => h.dis k h2 h1), fun k h1 h2 => hS.apart (fun k h1 h2 => h.dis k h2 h1) h.g.lt k h2 h1, hS.from h.below.size h.ff, h.fg, hS.start h.below (Nat.le_refl _) h.ff⟩
theorem Du.stepG (h : Du w wr Ff Bf Gf s Fg Bg Gg t) (h1 : Tf Y0 wr' Fg' Bg Gg' t') (hS : Step Fg Fg' wr wr') : Du w wr' Ff Bf Gf s Fg' Bg Gg' t' :=
  ⟨h.f.step hS h.dis, h1, hS.apart h.dis h.f.lt, h.ff, hS.from h.below.size h.fg, hS.start h.below (Nat.le_refl _) h.fg⟩
theorem Du.made (hf : Tf Y0 wr Ff Bf Gf s) (hb : Below wr.heap.size wr wr') (hg : Tf Y0 wr' Fg Bg Gg t) (hB : Below w.heap.size w wr) (hF : ∀ k, Ff k → w.heap.size ≤ k) (hG : ∀ k, Fg k → wr.heap.size ≤ k) : Du w wr' Ff Bf Gf s Fg Bg Gg t :=
  ⟨hf.below hb, hg, fun k a b => by have := hf.lt k a; have := hG k b; omega, hF, fun k hk => Nat.le_trans hB.size (hG k hk), hB.trans (hb.mono hB.size)⟩
end
end Go.Proofs.Ytkpfonfcgoocfaa
