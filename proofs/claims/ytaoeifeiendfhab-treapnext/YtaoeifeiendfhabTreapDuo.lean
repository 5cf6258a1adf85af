/- Layer 6's statements: what acts come to; two forests to which the same is done. -/
import Derived.Test.YtaoeifeiendfhabTreapAwake
import Derived.Test.YtaoeifeiendfhabTreapEq
import Derived.Test.YtaoeifeiendfhabTreapGreat
namespace Go.Proofs.Ytaoeifeiendfhab
open Go.RowKit
set_option linter.unusedVariables false

/-- A forest's state. -/
structure Sq where
  K : List Bool
  fr : List Int
  S : Int → List Int
  V : Int → Vl
  n : Nat
def Ts (W : World) (F : Nat → Prop) (B : Nat) (s : Sq) : Prop := Tp W F B s.K s.fr s.S s.V s.n
def sq0 : Sq := ⟨[], [], S0, V0, 0⟩
def Sq.make (s : Sq) (x : Vl) : Sq := ⟨newK s.K s.fr, s.fr.dropLast, makeS s.S (newI s.K s.fr), updV s.V (newI s.K s.fr) x, s.n + 1⟩
def Sq.join (s : Sq) (i j : Int) : Sq := ⟨s.K, s.fr, joinS s.S i j, s.V, s.n⟩
def Sq.cut (s : Sq) (i : Int) : Sq := ⟨s.K, s.fr, cutS s.S i, s.V, s.n⟩
def Sq.set (s : Sq) (i : Int) (x : Vl) : Sq := ⟨s.K, s.fr, s.S, if isK s.K i = true then updV s.V i x else s.V, s.n⟩
def Sq.lone (s : Sq) (i : Int) : Bool := decide ((s.S i).length = 1)
def Sq.free (s : Sq) (i : Int) : Sq := if s.lone i = true then ⟨s.K.set (i - 1).toNat false, s.fr ++ [i], freeS s.S i, updV s.V i zeV, s.n⟩ else s
/-- At most so many numbers, and draws. -/
def Sq.le (s : Sq) (m : Nat) : Prop := s.K.length ≤ m ∧ s.n ≤ m
theorem Sq.le_make {s : Sq} {m : Nat} (h : s.le m) (x : Vl) : (s.make x).le (m + 1) := ⟨by have := (newK_le s.K s.fr).1; have := h.1; show (newK s.K s.fr).length ≤ _; omega, by have := h.2; show s.n + 1 ≤ _; omega⟩
theorem Sq.le_mono {s : Sq} {m m' : Nat} (h : s.le m) (hm : m ≤ m') : s.le m' := ⟨Nat.le_trans h.1 hm, Nat.le_trans h.2 hm⟩
theorem Sq.le_join {s : Sq} {m : Nat} (h : s.le m) (i j : Int) : (s.join i j).le m := h
theorem Sq.le_cut {s : Sq} {m : Nat} (h : s.le m) (i : Int) : (s.cut i).le m := h
theorem Sq.le_set {s : Sq} {m : Nat} (h : s.le m) (i : Int) (x : Vl) : (s.set i x).le m := h
theorem Sq.le_free {s : Sq} {m : Nat} (h : s.le m) (i : Int) : (s.free i).le m := by
  unfold Sq.free; split
  · exact ⟨by show (s.K.set _ _).length ≤ m; rw [List.length_set]; exact h.1, h.2⟩
  · exact h
section
variable {w : World} {F : Nat → Prop} {B : Nat} {s : Sq}
theorem Ts.below {w' : World} (h : Ts w F B s) (hb : Below w.heap.size w w') : Ts w' F B s := Tp.below h hb
theorem Ts.step {w' : World} {F' F1 : Nat → Prop} (h : Ts w F B s) (hb : Step F' F1 w w') (hd : ∀ k, F k → ¬ F' k) : Ts w' F B s := Tp.step h hb hd
theorem smake_any (h : Ts w F B s) (x : Vl) {m : Nat} (hm : s.le m) (hm' : m ≤ 100000) : Calls Try.prog 8 #[.pointer (some ⟨B, 0, none⟩), vlc x] w fun e w' => ∃ F', e = .returned (.int .i32 (newI s.K s.fr)) ∧ Ts w' F' B (s.make x) ∧ Step F F' w w' := tmake_any h x (by have := hm.1; omega) (by have := hm.2; omega)
theorem sjoin_any (h : Ts w F B s) (i j : Int) (hb : -2147483648 ≤ i ∧ i ≤ 2147483647) (hc : -2147483648 ≤ j ∧ j ≤ 2147483647) : Calls Try.prog 9 #[.pointer (some ⟨B, 0, none⟩), .int .i32 i, .int .i32 j] w fun e w' => ∃ F', e = .returned (.bool (joinB s.S i j)) ∧ Ts w' F' B (s.join i j) ∧ Step F F' w w' :=
  (tjoin_any h i j hb hc).mono fun e w' ⟨h1, h2, h3⟩ => ⟨F, h1, h2, h3⟩
theorem scut_any (h : Ts w F B s) (i : Int) (hb : -2147483648 ≤ i ∧ i ≤ 2147483647) : Calls Try.prog 10 #[.pointer (some ⟨B, 0, none⟩), .int .i32 i] w fun e w' => ∃ F', e = .returned (.bool (isK s.K i)) ∧ Ts w' F' B (s.cut i) ∧ Step F F' w w' :=
  (tcut_any h i hb).mono fun e w' ⟨h1, h2, h3⟩ => ⟨F, h1, h2, h3⟩
theorem sset_any (h : Ts w F B s) (i : Int) (x : Vl) (hb : -2147483648 ≤ i ∧ i ≤ 2147483647) : Calls Try.prog 11 #[.pointer (some ⟨B, 0, none⟩), .int .i32 i, vlc x] w fun e w' => ∃ F', e = .returned (.bool (isK s.K i)) ∧ Ts w' F' B (s.set i x) ∧ Step F F' w w' :=
  (tset_any h i x hb).mono fun e w' ⟨h1, h2, h3⟩ => ⟨F, h1, h2, h3⟩
theorem sfree_any (h : Ts w F B s) (i : Int) (hb : -2147483648 ≤ i ∧ i ≤ 2147483647) : Calls Try.prog 12 #[.pointer (some ⟨B, 0, none⟩), .int .i32 i] w fun e w' => ∃ F', e = .returned (.bool (s.lone i)) ∧ Ts w' F' B (s.free i) ∧ Step F F' w w' := by
  by_cases hl : (s.S i).length = 1
  · have e1 : s.lone i = true := decide_eq_true hl
    rw [e1, show s.free i = ⟨s.K.set (i - 1).toNat false, s.fr ++ [i], freeS s.S i, updV s.V i zeV, s.n⟩ from if_pos e1]
    exact tfree_yes h i hb hl
  · have e1 : s.lone i = false := decide_eq_false hl
    rw [e1, show s.free i = s from if_neg (by rw [e1]; simp)]
    exact (tfree_no h i hb hl).mono fun e w' ⟨h1, h2⟩ => ⟨F, h1, by rw [h2]; exact h, by rw [h2]; exact Step.refl _ _⟩
end
/-- Two forests apart from one another, both made since w. -/
structure Duo (w wr : World) (Ff : Nat → Prop) (Bf : Nat) (s : Sq) (Fg : Nat → Prop) (Bg : Nat) (t : Sq) : Prop where
  f : Ts wr Ff Bf s
  g : Ts wr Fg Bg t
  dis : ∀ k, Ff k → ¬ Fg k
  ff : ∀ k, Ff k → w.heap.size ≤ k
  fg : ∀ k, Fg k → w.heap.size ≤ k
  below : Below w.heap.size w wr
section
variable {w wr wr' : World} {Ff Ff' Fg Fg' : Nat → Prop} {Bf Bg : Nat} {s s' t t' : Sq}
theorem Duo.grow (h : Duo w wr Ff Bf s Fg Bg t) (hb : Below wr.heap.size wr wr') : Duo w wr' Ff Bf s Fg Bg t := ⟨h.f.below hb, h.g.below hb, h.dis, h.ff, h.fg, h.below.trans (hb.mono h.below.size)⟩
theorem Duo.stepF (h : Duo w wr Ff Bf s Fg Bg t) (h1 : Ts wr' Ff' Bf s') (hS : Step Ff Ff' wr wr') : Duo w wr' Ff' Bf s' Fg Bg t :=
  ⟨h1, h.g.step hS (fun k a b => h.dis k b a), fun k a b => hS.apart (fun k a b => h.dis k b a) h.g.lt k b a, hS.from h.below.size h.ff, h.fg, hS.start h.below (Nat.le_refl _) h.ff⟩
theorem Duo.stepG (h : Duo w wr Ff Bf s Fg Bg t) (h1 : Ts wr' Fg' Bg t') (hS : Step Fg Fg' wr wr') : Duo w wr' Ff Bf s Fg' Bg t' :=
  ⟨h.f.step hS h.dis, h1, hS.apart h.dis h.f.lt, h.ff, hS.from h.below.size h.fg, hS.start h.below (Nat.le_refl _) h.fg⟩
end
/-- A box that is no forest's: it lies as it lay. -/
theorem Step.boxed {F F' : Nat → Prop} {w w' : World} {X : Nat} {t : TypeId} {cs : Array Value} (h : Step F F' w w') (hX : Blk w X t cs) (hn : ¬ F X) : Blk w' X t cs ∧ ¬ F' X := ⟨(h.only.block X hX.lt hn).trans hX, fun h' => (h.ext X h').elim hn (fun h2 => by have := hX.lt; omega)⟩
end Go.Proofs.Ytaoeifeiendfhab
