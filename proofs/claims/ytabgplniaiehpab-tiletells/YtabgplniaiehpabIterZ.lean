/- Over whatever program: the caller's law of IterLaw, where what the iterator keeps while its rounds run lies in blocks that it made before the first of them: the rounds leave these alone, whatever their type (they may append to rows of the same type). -/
import Derived.Test.YtabgplniaiehpabBag
namespace Go.Proofs.Ytabgplniaiehpab
open Go.RowKit
set_option linter.unusedVariables false

/-- The blocks from X to Z lie as they lay; none is gone. -/
structure BK (X Z : Nat) (W W' : World) : Prop where
  size : W.heap.size ≤ W'.heap.size
  same : ∀ k, X ≤ k → k < Z → W'.heap[k]? = W.heap[k]?
theorem BK.refl (X Z : Nat) (W : World) : BK X Z W W := ⟨Nat.le_refl _, fun _ _ _ => rfl⟩
theorem BK.trans {X Z : Nat} {A B C : World} (h : BK X Z A B) (k : BK X Z B C) : BK X Z A C := ⟨Nat.le_trans h.size k.size, fun i h1 h2 => (k.same i h1 h2).trans (h.same i h1 h2)⟩
theorem BK.mono {X X' Z Z' : Nat} {A B : World} (h : BK X Z A B) (hX : X ≤ X') (hZ : Z' ≤ Z) : BK X' Z' A B := ⟨h.size, fun i h1 h2 => h.same i (by omega) (by omega)⟩
theorem BK.putObj {X Z l : Nat} {W : World} (o : Obj) (hl : l < X ∨ Z ≤ l) : BK X Z W (W.putObj l o) := ⟨by simp, fun i h1 h2 => World.putObj_heap_other (by omega)⟩
theorem BK.of_below {X Z : Nat} {W W' : World} (h : Below W.heap.size W W') (hZ : Z ≤ W.heap.size) : BK X Z W W' := ⟨h.size, fun i h1 h2 => h.block i (by omega)⟩
theorem BK.of_only {X Z : Nat} {F : Nat → Prop} {W W' : World} (h : Only F W W') (hZ : Z ≤ W.heap.size) (hF : ∀ k, F k → k < X ∨ Z ≤ k) : BK X Z W W' := ⟨h.size, fun i h1 h2 => h.block i (by omega) (fun hf => by have := hF i hf; omega)⟩
/-- What a round of a loop's body leaves, by the way it ends. -/
def postZ {α : Type} (X Z : Nat) (I : List α → World → Prop) (Ix : Code → List α → World → Prop) (xs : List α) (W : World) : Exit → Act → World → Prop
  | .normal, _, W' => BK X Z W W' ∧ I xs W'
  | .ret, _, W' => BK X Z W W' ∧ Ix .ret xs W'
  | .exit id, _, W' => BK X Z W W' ∧ Ix (.exit id) xs W'
  | .goto t, _, W' => BK X Z W W' ∧ Ix (.goto t) xs W'
  | .panic _, _, _ => False
  | .outgrown, _, _ => False
/-- An iterator's contract: it tells xs with S xs, or is left behind pre with Sp pre. R: what the caller's rounds must leave of what the iterator reads. Z: how great the memory is when the first round begins. -/
def SeqZ {α : Type} (F : Fence) (n : Nat) (P : Program) (g : Nat) (lb : Array Value) (encs : α → Array Value) (R : World → Prop) (S Sp : List α → Prop) (N : Nat) (w : World) : Prop :=
  ∀ (l : Nat) (J Jx : Nat → List α → World → Prop) (X : World), (∀ Z pre W, J Z pre W → R W) → Below w.heap.size w X → (∀ Z, OwnFrom X.heap.size (J Z)) → (∀ Z, OwnFrom X.heap.size (Jx Z)) → w.heap.size ≤ l → l < X.heap.size →
    (∀ Z pre x W1, X.heap.size ≤ Z → Z ≤ W1.heap.size → J Z pre W1 → pre.length < N ∧ Sp (pre ++ [x]) → YieldAt F (n - 1) P l (encs x) W1 fun e W' =>
      (e = .returned (.bool true) ∧ J Z (pre ++ [x]) W' ∧ BK X.heap.size Z W1 W') ∨ (e = .returned (.bool false) ∧ Jx Z (pre ++ [x]) W' ∧ BK X.heap.size Z W1 W')) →
    (∀ Z, J Z [] X) →
    CallsIn F n P g (#[.func (.yield l) #[] #[]] ++ lb) X fun e W' => (∃ v, e = .returned v) ∧ ((∃ Z xs, S xs ∧ J Z xs W') ∨ (∃ Z pre, Sp pre ∧ Jx Z pre W'))
/-- A round goes into a round as it is, whatever the depth. -/
theorem yieldAt_in {m m' : Nat} {P : Program} {l l' : Nat} {args : Array Value} {W : World} {R : Ending → World → Prop} (h : YieldAt Fence.wide m P l args W R) : YieldAt (Fence.wide.inRound l') m' P l args W R := by
  obtain ⟨fn, tmps, assign, body, hy, h1, h2⟩ := h
  exact ⟨fn, tmps, assign, body, hy, h1, fun c cs _ => h2 c cs (room_wide _)⟩
theorem yieldAt_mono {F : Fence} {m : Nat} {P : Program} {l : Nat} {args : Array Value} {W : World} {R R' : Ending → World → Prop} (h : YieldAt F m P l args W R) (hm : ∀ e w, R e w → R' e w) : YieldAt F m P l args W R' := by
  obtain ⟨fn, tmps, assign, body, hy, h1⟩ := h
  exact ⟨fn, tmps, assign, body, hy, h1.mono hm⟩
theorem OwnFrom.up {β : Type} {B B' : Nat} {I : β → World → Prop} (h : OwnFrom B I) (hB : B ≤ B') : OwnFrom B' I := fun s W W' row hs hg hr => h s W W' row hs hg (fun r e => ⟨Nat.le_trans hB (hr r e).1, (hr r e).2⟩)
theorem OwnFrom.below {β : Type} {B : Nat} {I : β → World → Prop} (h : OwnFrom B I) {s : β} {W W' : World} (hs : I s W) (hb : Below W.heap.size W W') : I s W' := h s W W' none hs (below_grown hb) (fun r e => by cases e)
section
variable {F : Fence} {n : Nat} {P : Program}
theorem range_ownZ {α : Type} {g : Operand} {ps : Array Tmp} {assign body : Code} {Q : Exit → Act → World → Prop} {a : Act} {w : World} (hro : F.round = none) (h1 : 1 ≤ n) {gf : Nat} {lb : Array Value} (hg : a.eval g = .func (.func gf) #[] lb) (hFg : F.fn gf)
    (eg : ∀ args w, (callFunc gf args).run P w = .ok (.enter gf args) w) {encs : α → Array Value} {R' : World → Prop} {S Sp : List α → Prop} {N : Nat} {w0 : World} (hseq : SeqZ F (n - 1) P gf lb encs R' S Sp N w0) (hb0 : Below w0.heap.size w0 w) (hps : ∀ x, (encs x).size = ps.size)
    (I : Nat → List α → World → Prop) (Ix : Nat → Code → List α → World → Prop) (hI : ∀ Z, OwnFrom w.heap.size (I Z)) (hIx : ∀ Z c, OwnFrom w.heap.size (Ix Z c)) (h0 : ∀ Z, I Z [] w) (hR' : ∀ Z pre W, I Z pre W → R' W) (a₁ : α → Act)
    (hassign : ∀ (l : Nat) (x : α) (W : World) (K : Act → World → Prop), K (a₁ x) W → assign.wpIn (F.inRound l) (n - 1 - 1) P (Exit.then K (fun _ _ _ => False)) { tmps := (ps.zip (encs x)).foldl (fun t (p, v) => t.setIfInBounds p v) a.tmps, defers := [] } W)
    (hbody : ∀ (l Z : Nat) (pre : List α) (x : α) (W : World), w.heap.size + 2 ≤ Z → Z ≤ W.heap.size → I Z pre W → pre.length < N ∧ Sp (pre ++ [x]) → body.wpIn (F.inRound l) (n - 1 - 1) P (postZ w.heap.size Z (I Z) (Ix Z) (pre ++ [x]) W) (a₁ x) W)
    (hdone : ∀ (D Z : Nat) (xs : List α) (W : World), w.heap.size ≤ D → S xs → I Z xs W → W.heap[D]? = some (.deferred (some [])) → Q .normal { a with defers := { target := .collected D, args := #[] } :: a.defers } W)
    (hstop : ∀ (D Z : Nat) (c : Code) (pre : List α) (W : World), w.heap.size ≤ D → Sp pre → Ix Z c pre W → W.heap[D]? = some (.deferred (some [])) → c.wpIn F n P Q { a with defers := { target := .collected D, args := #[] } :: a.defers } W) :
    (Code.rangeFunc g ps assign body).wpIn F n P Q a w := by
  refine wpIn_rangeFunc fun fn hfn => ?_
  rw [hro]
  -- the two blocks that the loop lays: what its rounds put off, and its record
  have hl0 : w.heap.size + 1 ≠ w.heap.size := by omega
  obtain ⟨R, hR⟩ : ∃ R : LoopState → Option Code → Obj, R = recOf fn a.tmps ps assign body w.heap.size := ⟨_, rfl⟩
  obtain ⟨X, hX⟩ : ∃ X, X = (w.alloc (.deferred (some []))).alloc (R .ready none) := ⟨_, rfl⟩
  have sX : X.heap.size = w.heap.size + 2 := by rw [hX]; simp
  have rX : X.heap[w.heap.size + 1]? = some (R .ready none) := by
    have := World.alloc_heap_new (w.alloc (.deferred (some []))) (R .ready none)
    rw [World.size_alloc] at this; rw [hX]; exact this
  have dX : X.heap[w.heap.size]? = some (.deferred (some [])) := by
    rw [hX]; exact (Below.heap_alloc _ _ _ (by simp)).trans (World.alloc_heap_new w _)
  have iX : ∀ Z, I Z [] X := fun Z => by rw [hX]; exact (hI Z).alloc _ ((hI Z).alloc _ (h0 Z))
  have bX : Below w0.heap.size w0 X := by
    rw [hX]; exact hb0.trans (((Below.refl _ w).alloc (Nat.le_refl _) _ |>.alloc (by simp) _).mono hb0.size)
  have Rc : ∀ s p, (R s p).isCells = false := fun s p => by rw [hR]; rfl
  -- what the iterator may do to the caller's book
  have abide : ∀ {A B : World} {row : Option Nat}, A.grownBy B row → (∀ r, row = some r → X.heap.size ≤ r ∧ ∃ o : Obj, A.heap[r]? = some o ∧ o.isCells = false) →
      (∀ r, row = some r → w.heap.size ≤ r ∧ ∃ o : Obj, A.heap[r]? = some o ∧ o.isCells = false) ∧ ∀ (k : Nat) (o : Obj), k < X.heap.size → A.heap[k]? = some o → B.heap[k]? = some o := fun hg' hr =>
    ⟨fun r e => by obtain ⟨q1, q2⟩ := hr r e; exact ⟨by omega, q2⟩, fun k o hx hk => (hg'.block k (Array.getElem?_eq_some_iff.1 hk).1 (fun e => by have := (hr k e.symm).1; omega)).trans hk⟩
  refine ⟨w.heap.size + 1, [{ target := .collected w.heap.size, args := #[] }], X, { target := .fn (.func gf) lb, args := #[.func (.yield (w.heap.size + 1)) #[] #[]] }, X, gf, #[.func (.yield (w.heap.size + 1)) #[] #[]] ++ lb, X, ?e1, ?e2, ?e3, ?e4, fun _ => h1, ?e5⟩
  case e1 => rw [hX, hR]; exact run_enterLoop_outer _ _ _ _ _
  case e2 => simp only [resolve, hg]; simp [go_sem]
  case e3 => intro f' hf'; simp [Target.leads] at hf'; subst hf'; exact hFg
  case e4 => simp [invoke, go_sem, eg]
  case e5 =>
    refine (hseq (w.heap.size + 1) (fun Z pre A => I Z pre A ∧ A.heap[w.heap.size + 1]? = some (R .ready none) ∧ A.heap[w.heap.size]? = some (.deferred (some [])))
      (fun Z pre A => ∃ c, Ix Z c pre A ∧ A.heap[w.heap.size + 1]? = some (R .done (some c)) ∧ A.heap[w.heap.size]? = some (.deferred (some []))) X (fun Z pre A h => hR' Z pre A h.1) bX ?j ?jx (by have := hb0.size; omega) (by omega) ?y (fun Z => ⟨iX Z, rX, dX⟩)).mono ?fin
    case j =>
      rintro Z s A B row ⟨q1, q2, q3⟩ hg' hr
      obtain ⟨k1, k2⟩ := abide hg' hr
      exact ⟨hI Z s A B row q1 hg' k1, k2 _ _ (by omega) q2, k2 _ _ (by omega) q3⟩
    case jx =>
      rintro Z s A B row ⟨c, q1, q2, q3⟩ hg' hr
      obtain ⟨k1, k2⟩ := abide hg' hr
      exact ⟨c, hIx Z c s A B row q1 hg' k1, k2 _ _ (by omega) q2, k2 _ _ (by omega) q3⟩
    case fin =>
      rintro e A ⟨⟨v, rfl⟩, ⟨Z, xs, hS, q1, q2, q3⟩ | ⟨Z, pre, hSp, c, q1, q2, q3⟩⟩
      · have q2' := q2
        rw [hR] at q2'
        exact ⟨none, _, run_endLoop q2' (by simp), hdone _ Z xs _ (Nat.le_refl _) hS ((hI Z).putObj _ q1 (by omega) q2 (Rc _ _)) ((World.putObj_heap_other (Ne.symm hl0)).trans q3)⟩
      · have q2' := q2
        rw [hR] at q2'
        exact ⟨some c, _, run_endLoop q2' (by simp), hstop _ Z c pre _ (Nat.le_refl _) hSp ((hIx Z c).putObj _ q1 (by omega) q2 (Rc _ _)) ((World.putObj_heap_other (Ne.symm hl0)).trans q3)⟩
    case y =>
      rintro Z pre x A hZ0 hZ1 ⟨q1, q2, q3⟩ hlen
      rw [sX] at hZ0
      have q2' := q2
      rw [hR] at q2'
      have hin := (Array.getElem?_eq_some_iff.1 q2).1
      have yl := run_yield (P := P) (args := encs x) q2' (hps x)
      refine ⟨fn, _, assign, body, yl, roundIn_of_wpIn hfn (hassign _ x A _ ⟨_, run_beginRound q2' rfl, ?_⟩)⟩
      -- the round has begun
      obtain ⟨A1, hA1⟩ : ∃ A1, A1 = A.putObj (w.heap.size + 1) (R .busy none) := ⟨_, rfl⟩
      have e1 : A1.heap[w.heap.size + 1]? = some (R .busy none) := by rw [hA1]; exact World.putObj_heap_same hin
      have e2 : A1.heap[w.heap.size]? = some (.deferred (some [])) := by rw [hA1]; exact (World.putObj_heap_other (Ne.symm hl0)).trans q3
      have e3 : BK X.heap.size Z A A1 := by rw [hA1]; exact BK.putObj _ (.inl (by omega))
      have e4 : I Z pre A1 := by rw [hA1]; exact (hI Z).putObj _ q1 (by omega) q2 (Rc _ _)
      have back : A.putObj (w.heap.size + 1) (R .busy none) = A1 := hA1.symm
      rw [hR] at back
      simp only [recOf] at back
      rw [back]
      refine wpIn_mono (hbody _ Z pre x A1 hZ0 (by rw [hA1]; simpa using hZ1) e4 hlen) ?_
      -- the round's end, whichever
      have close : ∀ (j : Option Code) (A2 : World), BK w.heap.size Z A1 A2 → (Instr.endRound (w.heap.size + 1) j).run P A2 = .ok (.bool j.isNone) (A2.putObj (w.heap.size + 1) (R (if j.isNone then .ready else .done) j)) ∧
          A2.heap[w.heap.size + 1]? = some (R .busy none) ∧ (A2.putObj (w.heap.size + 1) (R (if j.isNone then .ready else .done) j)).heap[w.heap.size + 1]? = some (R (if j.isNone then .ready else .done) j) ∧
          (A2.putObj (w.heap.size + 1) (R (if j.isNone then .ready else .done) j)).heap[w.heap.size]? = some (.deferred (some [])) := fun j A2 hk => by
        have f1 := (hk.same (w.heap.size + 1) (by omega) (by omega)).trans e1
        have f1' := f1
        rw [hR] at f1'
        have f2 := run_endRound (P := P) j f1'
        exact ⟨by rw [hR]; exact f2, f1, World.putObj_heap_same (Array.getElem?_eq_some_iff.1 f1).1, (World.putObj_heap_other (Ne.symm hl0)).trans ((hk.same w.heap.size (by omega) (by omega)).trans e2)⟩
      have leave : ∀ (c : Code) (A2 : World), BK w.heap.size Z A1 A2 → Ix Z c (pre ++ [x]) A2 → ∃ v A3, (Instr.endRound (w.heap.size + 1) (some c)).run P A2 = .ok v A3 ∧
          ((Ending.returned v = .returned (.bool true) ∧ (I Z (pre ++ [x]) A3 ∧ A3.heap[w.heap.size + 1]? = some (R .ready none) ∧ A3.heap[w.heap.size]? = some (.deferred (some []))) ∧ BK X.heap.size Z A A3) ∨
            (Ending.returned v = .returned (.bool false) ∧ (∃ c, Ix Z c (pre ++ [x]) A3 ∧ A3.heap[w.heap.size + 1]? = some (R .done (some c)) ∧ A3.heap[w.heap.size]? = some (.deferred (some []))) ∧ BK X.heap.size Z A A3)) := fun c A2 hk hi => by
        obtain ⟨f1, f2, f3, f4⟩ := close (some c) A2 hk
        exact ⟨_, _, f1, .inr ⟨rfl, ⟨c, (hIx Z c).putObj _ hi (by omega) f2 (Rc _ _), f3, f4⟩, (e3.trans (hk.mono (by omega) (Nat.le_refl _))).trans (BK.putObj _ (.inl (by omega)))⟩⟩
      rintro e a3 A2 hp
      cases e with
      | normal =>
        obtain ⟨hk, hi⟩ := hp
        obtain ⟨f1, f2, f3, f4⟩ := close none A2 hk
        exact ⟨_, _, f1, .inl ⟨rfl, ⟨(hI Z).putObj _ hi (by omega) f2 (Rc _ _), f3, f4⟩, (e3.trans (hk.mono (by omega) (Nat.le_refl _))).trans (BK.putObj _ (.inl (by omega)))⟩⟩
      | ret => exact leave _ A2 hp.1 hp.2
      | exit id => exact leave _ A2 hp.1 hp.2
      | goto t => exact leave _ A2 hp.1 hp.2
      | panic ch => exact hp.elim
      | outgrown => exact hp.elim
end
end Go.Proofs.Ytabgplniaiehpab
