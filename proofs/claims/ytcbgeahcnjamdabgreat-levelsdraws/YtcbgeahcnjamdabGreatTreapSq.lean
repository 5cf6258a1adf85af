/- Layer 6 (treap): a forest's state. -/
import Derived.Test.YtcbgeahcnjamdabGreatTreapSame
import Derived.Test.YtcbgeahcnjamdabGreatTreapSet
namespace Go.Proofs.YtcbgeahcnjamdabGreat
open Go.RowKit
set_option linter.unusedVariables false

/-- A forest's state. -/
structure Sq where
  K : List Bool
  fr : List Int
  S : Int → List Int
  V : Int → Vl
  n : Nat
def TsX (X : Hx) (W : World) (F : Nat → Prop) (B : Nat) (s : Sq) : Prop := Tp X W F B s.K s.fr s.S s.V s.n
abbrev Ts := TsX X0
def sq0 : Sq := ⟨[], [], S0, V0, 0⟩
def Sq.make (s : Sq) (x : Vl) : Sq := ⟨newK s.K s.fr, s.fr.dropLast, makeS s.S (newI s.K s.fr), updV s.V (newI s.K s.fr) x, s.n + 1⟩
def Sq.join (s : Sq) (i j : Int) : Sq := ⟨s.K, s.fr, joinS s.S i j, s.V, s.n⟩
def Sq.cut (s : Sq) (i : Int) : Sq := ⟨s.K, s.fr, cutS s.S i, s.V, s.n⟩
def Sq.set (s : Sq) (i : Int) (x : Vl) : Sq := ⟨s.K, s.fr, s.S, if isK s.K i = true then updV s.V i x else s.V, s.n⟩
def Sq.lone (s : Sq) (i : Int) : Bool := decide ((s.S i).length = 1)
def Sq.free (s : Sq) (i : Int) : Sq := if s.lone i = true then ⟨s.K.set (i - 1).toNat false, s.fr ++ [i], freeS s.S i, updV s.V i zeV, s.n⟩ else s
/-- At most so many numbers, and draws. -/
def Sq.le (s : Sq) (m : Nat) : Prop := s.K.length ≤ m ∧ s.n ≤ m
theorem Sq.le_make {s : Sq} {m : Nat} (h : s.le m) (x : Vl) : (s.make x).le (m + 1) := ⟨by have := (newK_le s.K s.fr).1; have := h.1; show (newK s.K s.fr).length ≤ _; omega, by have := h.2; show s.n + 1 ≤ _; omega⟩
theorem Sq.le_mono {s : Sq} {m m' : Nat} (h : s.le m) (hm : m ≤ m') : s.le m' := ⟨Nat.le_trans h.1 hm, Nat.le_trans h.2 hm⟩
theorem Sq.le_join {s : Sq} {m : Nat} (h : s.le m) (i j : Int) : (s.join i j).le m := h
theorem Sq.le_cut {s : Sq} {m : Nat} (h : s.le m) (i : Int) : (s.cut i).le m := h
theorem Sq.le_set {s : Sq} {m : Nat} (h : s.le m) (i : Int) (x : Vl) : (s.set i x).le m := h
theorem Sq.le_free {s : Sq} {m : Nat} (h : s.le m) (i : Int) : (s.free i).le m := by
  unfold Sq.free; split
  · exact ⟨by show (s.K.set _ _).length ≤ m; rw [List.length_set]; exact h.1, h.2⟩
  · exact h
section
variable {X : Hx} {w : World} {F : Nat → Prop} {B : Nat} {s : Sq}
theorem TsX.below {w' : World} (h : TsX X w F B s) (hb : Below w.heap.size w w') : TsX X w' F B s := Tp.below h hb
theorem TsX.step {w' : World} {F' F1 : Nat → Prop} (h : TsX X w F B s) (hb : Step F' F1 w w') (hd : ∀ k, F k → ¬ F' k) : TsX X w' F B s := Tp.step h hb hd
theorem smake_any (h : TsX X w F B s) (x : Vl) {m : Nat} (hm : s.le m) (hm' : m ≤ 100000) : Calls Tryz.prog 72 #[.pointer (some ⟨B, 0, none⟩), vlc x] w fun e w' => ∃ F', e = .returned (.int .i32 (newI s.K s.fr)) ∧ TsX X w' F' B (s.make x) ∧ Step F F' w w' := tmake_any h x (by have := hm.1; omega) (by have := hm.2; omega)
theorem sjoin_any (h : TsX X w F B s) (i j : Int) (hb : -2147483648 ≤ i ∧ i ≤ 2147483647) (hc : -2147483648 ≤ j ∧ j ≤ 2147483647) : Calls Tryz.prog 137 #[.pointer (some ⟨B, 0, none⟩), .int .i32 i, .int .i32 j] w fun e w' => ∃ F', e = .returned (.bool (joinB s.S i j)) ∧ TsX X w' F' B (s.join i j) ∧ Step F F' w w' :=
  (tjoin_any h i j hb hc).mono fun e w' ⟨h1, h2, h3⟩ => ⟨F, h1, h2, h3⟩
theorem scut_any (h : TsX X w F B s) (i : Int) (hb : -2147483648 ≤ i ∧ i ≤ 2147483647) : Calls Tryz.prog 129 #[.pointer (some ⟨B, 0, none⟩), .int .i32 i] w fun e w' => ∃ F', e = .returned (.bool (isK s.K i)) ∧ TsX X w' F' B (s.cut i) ∧ Step F F' w w' :=
  (tcut_any h i hb).mono fun e w' ⟨h1, h2, h3⟩ => ⟨F, h1, h2, h3⟩
theorem sset_any (h : TsX X w F B s) (i : Int) (x : Vl) (hb : -2147483648 ≤ i ∧ i ≤ 2147483647) : Calls Tryz.prog 134 #[.pointer (some ⟨B, 0, none⟩), .int .i32 i, vlc x] w fun e w' => ∃ F', e = .returned (.bool (isK s.K i)) ∧ TsX X w' F' B (s.set i x) ∧ Step F F' w w' :=
  (tset_any h i x hb).mono fun e w' ⟨h1, h2, h3⟩ => ⟨F, h1, h2, h3⟩
theorem sfree_any (h : TsX X w F B s) (i : Int) (hb : -2147483648 ≤ i ∧ i ≤ 2147483647) : Calls Tryz.prog 75 #[.pointer (some ⟨B, 0, none⟩), .int .i32 i] w fun e w' => ∃ F', e = .returned (.bool (s.lone i)) ∧ TsX X w' F' B (s.free i) ∧ Step F F' w w' := by
  by_cases hl : (s.S i).length = 1
  · have e1 : s.lone i = true := decide_eq_true hl
    rw [e1, show s.free i = ⟨s.K.set (i - 1).toNat false, s.fr ++ [i], freeS s.S i, updV s.V i zeV, s.n⟩ from if_pos e1]
    exact tfree_yes h i hb hl
  · have e1 : s.lone i = false := decide_eq_false hl
    rw [e1, show s.free i = s from if_neg (by rw [e1]; simp)]
    exact (tfree_no h i hb hl).mono fun e w' ⟨h1, h2⟩ => ⟨F, h1, by rw [h2]; exact h, by rw [h2]; exact Step.refl _ _⟩
end
end Go.Proofs.YtcbgeahcnjamdabGreat
