/- Layer 10's statements: what each call makes of what the document tells; two graphs apart. -/
import Derived.Test.YtcbgeahcnjamdabGreatLevWakes
namespace Go.Proofs.YtcbgeahcnjamdabGreat
open Go.RowKit
set_option linter.unusedVariables false
structure Gv where
  V : List Int
  sv : Int → Int
  lv : Int → Int
  M : List (Int × Int × Int)
def Lw (F : Nat → Prop) (W : World) (B : Nat) (n : Int) (m : Nat) (x : Gv) (T : Nat) : Prop := Lg F W B n m x.V x.sv x.lv x.M T
def VxR (n : Int) (x : Gv) (s l r er : Int) (y : Gv) : Prop :=
  (n ≤ x.V.length ∧ r = 0 ∧ er = 6 ∧ y = x) ∨ ((x.V.length : Int) < n ∧ okSL s l = false ∧ r = 0 ∧ er = 1 ∧ y = x) ∨ ((x.V.length : Int) < n ∧ okSL s l = true ∧ Least (fun t => t ∈ x.V) r ∧ er = 0 ∧ y = ⟨x.V ++ [r], updI x.sv r s, updI x.lv r l, x.M⟩)
theorem VxR.one {n : Int} {x y y' : Gv} {s l r er r' er' : Int} (h : VxR n x s l r er y) (k : VxR n x s l r' er' y') : r' = r ∧ er' = er ∧ y' = y := by
  rcases h with ⟨a, rfl, rfl, rfl⟩ | ⟨a, b, rfl, rfl, rfl⟩ | ⟨a, b, c, rfl, rfl⟩ <;> rcases k with ⟨a', rfl, rfl, rfl⟩ | ⟨a', b', rfl, rfl, rfl⟩ | ⟨a', b', c', rfl, rfl⟩
  · exact ⟨rfl, rfl, rfl⟩
  · omega
  · omega
  · omega
  · exact ⟨rfl, rfl, rfl⟩
  · rw [b] at b'; cases b'
  · omega
  · rw [b] at b'; cases b'
  · obtain rfl := Least.one c c'
    exact ⟨rfl, rfl, rfl⟩
def DrR (x : Gv) (v er : Int) (y : Gv) : Prop :=
  (v ∉ x.V ∧ er = 4 ∧ y = x) ∨ (v ∈ x.V ∧ (∃ e a b, (e, a, b) ∈ x.M ∧ (a = v ∨ b = v)) ∧ er = 13 ∧ y = x) ∨ (v ∈ x.V ∧ (¬ ∃ e a b, (e, a, b) ∈ x.M ∧ (a = v ∨ b = v)) ∧ er = 0 ∧ y = ⟨x.V.filter fun u => decide (u ≠ v), x.sv, x.lv, x.M⟩)
theorem DrR.one {x y y' : Gv} {v er er' : Int} (h : DrR x v er y) (k : DrR x v er' y') : er' = er ∧ y' = y := by
  rcases h with ⟨a, rfl, rfl⟩ | ⟨a, b, rfl, rfl⟩ | ⟨a, b, rfl, rfl⟩ <;> rcases k with ⟨a', rfl, rfl⟩ | ⟨a', b', rfl, rfl⟩ | ⟨a', b', rfl, rfl⟩
  · exact ⟨rfl, rfl⟩
  · exact absurd a' a
  · exact absurd a' a
  · exact absurd a a'
  · exact ⟨rfl, rfl⟩
  · exact absurd b b'
  · exact absurd a a'
  · exact absurd b' b
  · exact ⟨rfl, rfl⟩
def InR (x : Gv) (a b r er : Int) (y : Gv) : Prop :=
  (¬ (a ∈ x.V ∧ b ∈ x.V) ∧ r = 0 ∧ er = 4 ∧ y = x) ∨ ((a ∈ x.V ∧ b ∈ x.V) ∧ a = b ∧ r = 0 ∧ er = 1 ∧ y = x) ∨ ((a ∈ x.V ∧ b ∈ x.V) ∧ a ≠ b ∧ Least (fun t => ∃ a b, (t, a, b) ∈ x.M) r ∧ er = 0 ∧ y = ⟨x.V, x.sv, x.lv, x.M ++ [(r, a, b)]⟩)
theorem InR.one {x y y' : Gv} {a b r er r' er' : Int} (h : InR x a b r er y) (k : InR x a b r' er' y') : r' = r ∧ er' = er ∧ y' = y := by
  rcases h with ⟨p, rfl, rfl, rfl⟩ | ⟨p, q, rfl, rfl, rfl⟩ | ⟨p, q, c, rfl, rfl⟩ <;> rcases k with ⟨p', rfl, rfl, rfl⟩ | ⟨p', q', rfl, rfl, rfl⟩ | ⟨p', q', c', rfl, rfl⟩
  · exact ⟨rfl, rfl, rfl⟩
  · exact absurd p' p
  · exact absurd p' p
  · exact absurd p p'
  · exact ⟨rfl, rfl, rfl⟩
  · exact absurd q q'
  · exact absurd p p'
  · exact absurd q' q
  · obtain rfl := Least.one c c'
    exact ⟨rfl, rfl, rfl⟩
def DeR (x : Gv) (e er : Int) (y : Gv) : Prop :=
  ((∀ a b, (e, a, b) ∉ x.M) ∧ er = 4 ∧ y = x) ∨ ((∃ a b, (e, a, b) ∈ x.M) ∧ er = 0 ∧ y = ⟨x.V, x.sv, x.lv, x.M.filter fun z => decide (z.1 ≠ e)⟩)
theorem DeR.one {x y y' : Gv} {e er er' : Int} (h : DeR x e er y) (k : DeR x e er' y') : er' = er ∧ y' = y := by
  rcases h with ⟨a, rfl, rfl⟩ | ⟨⟨a, b, c⟩, rfl, rfl⟩ <;> rcases k with ⟨a', rfl, rfl⟩ | ⟨⟨a', b', c'⟩, rfl, rfl⟩
  · exact ⟨rfl, rfl⟩
  · exact absurd c' (a _ _)
  · exact absurd c (a' _ _)
  · exact ⟨rfl, rfl⟩
section
variable {F : Nat → Prop} {w w' : World} {B : Nat} {n : Int} {m : Nat} {x : Gv} {T : Nat}
theorem Lw.below (h : Lw F w B n m x T) (hb : Below w.heap.size w w') : Lw F w' B n m x T := Lg.below h hb
theorem Lw.later (h : Lw F w B n m x T) (hT : T + 1 ≤ 200) : Lw F w B n m x (T + 1) := by
  obtain ⟨p, g, ⟨K, D, h⟩, r⟩ := h
  exact ⟨p, g, ⟨K, D, h.later h.gm (by omega) hT⟩, r⟩
theorem lw_vertex (h : Lw F w B n m x T) (hT : T + 1 ≤ 200) (s l : Int) :
    Calls Tryz.prog 8 #[.pointer (some ⟨B, 0, none⟩), .int .i64 s, .int .i64 l] w fun e w' => ∃ r er y F', e = .returned (.tuple #[.int .i64 r, .int .i64 er]) ∧ VxR n x s l r er y ∧ Lw F' w' B n m y (T + 1) ∧ Step F F' w w' := by
  refine (lg_vertex h hT s l).mono fun e w' H => ?_
  rcases H with ⟨a, b, c⟩ | ⟨a, b, c, d⟩ | ⟨a, b, r, q0, q1, F', q2, q3⟩
  · exact ⟨0, 6, x, F, b, .inl ⟨a, rfl, rfl, rfl⟩, (h.below c).later hT, Step.of_below c⟩
  · exact ⟨0, 1, x, F, c, .inr (.inl ⟨a, b, rfl, rfl, rfl⟩), (h.below d).later hT, Step.of_below d⟩
  · exact ⟨r, 0, ⟨x.V ++ [r], updI x.sv r s, updI x.lv r l, x.M⟩, F', q0, .inr (.inr ⟨a, b, q1, rfl, rfl⟩), q2, q3⟩
theorem lw_drop (h : Lw F w B n m x T) (hT : T + 1 ≤ 200) (v : Int) (hb : B64 v) :
    Calls Tryz.prog 9 #[.pointer (some ⟨B, 0, none⟩), .int .i64 v] w fun e w' => ∃ er y F', e = .returned (.int .i64 er) ∧ DrR x v er y ∧ Lw F' w' B n m y (T + 1) ∧ Step F F' w w' := by
  refine (lg_drop h hT v hb).mono fun e w' H => ?_
  rcases H with ⟨a, b, c⟩ | ⟨a, b, c, F', q1, q2⟩ | ⟨a, b, c, F', q1, q2⟩
  · exact ⟨4, x, F, b, .inl ⟨a, rfl, rfl⟩, (h.below c).later hT, Step.of_below c⟩
  · exact ⟨13, x, F', c, .inr (.inl ⟨a, b, rfl, rfl⟩), q1, q2⟩
  · exact ⟨0, ⟨x.V.filter fun u => decide (u ≠ v), x.sv, x.lv, x.M⟩, F', c, .inr (.inr ⟨a, b, rfl, rfl⟩), q1, q2⟩
theorem lw_insert (h : Lw F w B n m x T) (hT : T + 1 ≤ 200) (a b : Int) (ha : B64 a) (hb : B64 b) :
    Calls Tryz.prog 10 #[.pointer (some ⟨B, 0, none⟩), .int .i64 a, .int .i64 b] w fun e w' => ∃ r er y F', e = .returned (.tuple #[.int .i64 r, .int .i64 er]) ∧ InR x a b r er y ∧ Lw F' w' B n m y (T + 1) ∧ Step F F' w w' := by
  by_cases hV : a ∈ x.V ∧ b ∈ x.V
  · by_cases hab : a = b
    · refine (lg_insert_no h ha hb (.inr (.inr hab))).mono fun e w' H => ?_
      exact ⟨0, 1, x, F, H.1.1 hV, .inr (.inl ⟨hV, hab, rfl, rfl, rfl⟩), (h.below H.2).later hT, Step.of_below H.2⟩
    · refine (lg_insert h hT hV.1 hV.2 hab).mono fun e w' H => ?_
      obtain ⟨r, q0, q1, F', q2, q3⟩ := H
      exact ⟨r, 0, ⟨x.V, x.sv, x.lv, x.M ++ [(r, a, b)]⟩, F', q0, .inr (.inr ⟨hV, hab, q1, rfl, rfl⟩), q2, q3⟩
  · refine (lg_insert_no h ha hb (Classical.or_iff_not_imp_left.2 fun k => .inl fun k2 => hV ⟨Classical.not_not.1 k, k2⟩)).mono fun e w' H => ?_
    exact ⟨0, 4, x, F, H.1.2 hV, .inl ⟨hV, rfl, rfl, rfl⟩, (h.below H.2).later hT, Step.of_below H.2⟩
theorem lw_delete (h : Lw F w B n m x T) (hT : T + 1 ≤ 200) (e : Int) (he : B64 e) :
    Calls Tryz.prog 11 #[.pointer (some ⟨B, 0, none⟩), .int .i64 e] w fun r w' => ∃ er y F', r = .returned (.int .i64 er) ∧ DeR x e er y ∧ Lw F' w' B n m y (T + 1) ∧ Step F F' w w' := by
  by_cases hx : ∃ a b, (e, a, b) ∈ x.M
  · obtain ⟨a, b, hx⟩ := hx
    refine (lg_delete h hT hx).mono fun r w' H => ?_
    obtain ⟨q0, F', q1, q2⟩ := H
    exact ⟨0, ⟨x.V, x.sv, x.lv, x.M.filter fun z => decide (z.1 ≠ e)⟩, F', q0, .inr ⟨⟨a, b, hx⟩, rfl, rfl⟩, q1, q2⟩
  · have hx' : ∀ a b, (e, a, b) ∉ x.M := fun a b k => hx ⟨a, b, k⟩
    refine (lg_delete_no h he hx').mono fun r w' H => ?_
    exact ⟨4, x, F, H.1, .inl ⟨hx', rfl, rfl⟩, (h.below H.2).later hT, Step.of_below H.2⟩
end
/-- Two graphs apart, made since w0. -/
structure Dl (w0 W : World) (F1 : Nat → Prop) (B1 : Nat) (x1 : Gv) (T1 : Nat) (F2 : Nat → Prop) (B2 : Nat) (x2 : Gv) (T2 : Nat) (n : Int) (m : Nat) : Prop where
  a : Lw F1 W B1 n m x1 T1
  b : Lw F2 W B2 n m x2 T2
  dis : ∀ k, F1 k → ¬ F2 k
  la : ∀ k, F1 k → w0.heap.size ≤ k
  lb : ∀ k, F2 k → w0.heap.size ≤ k
  bl : Below w0.heap.size w0 W
section
variable {w0 W W' : World} {F1 F2 F' : Nat → Prop} {B1 B2 : Nat} {x1 x2 y : Gv} {T1 T2 T' : Nat} {n : Int} {m : Nat}
theorem Dl.below (h : Dl w0 W F1 B1 x1 T1 F2 B2 x2 T2 n m) (hb : Below W.heap.size W W') : Dl w0 W' F1 B1 x1 T1 F2 B2 x2 T2 n m := ⟨h.a.below hb, h.b.below hb, h.dis, h.la, h.lb, below_step h.bl hb (Nat.le_refl _)⟩
theorem Dl.stepA (h : Dl w0 W F1 B1 x1 T1 F2 B2 x2 T2 n m) (hl : Lw F' W' B1 n m y T') (hs : Step F1 F' W W') : Dl w0 W' F' B1 y T' F2 B2 x2 T2 n m :=
  ⟨hl, Lg.step h.b hs (fun k h2 h1 => h.dis k h1 h2), fun k k1 k2 => (hs.ext k k1).elim (fun k3 => h.dis k k3 k2) (fun k3 => by have := Lg.lt h.b k k2; omega), hs.from h.bl.size h.la, h.lb, hs.start h.bl (Nat.le_refl _) h.la⟩
theorem Dl.stepB (h : Dl w0 W F1 B1 x1 T1 F2 B2 x2 T2 n m) (hl : Lw F' W' B2 n m y T') (hs : Step F2 F' W W') : Dl w0 W' F1 B1 x1 T1 F' B2 y T' n m :=
  ⟨Lg.step h.a hs h.dis, hl, fun k k1 k2 => (hs.ext k k2).elim (fun k3 => h.dis k k1 k3) (fun k3 => by have := Lg.lt h.a k k1; omega), h.la, hs.from h.bl.size h.lb, hs.start h.bl (Nat.le_refl _) h.lb⟩
end
end Go.Proofs.YtcbgeahcnjamdabGreat
