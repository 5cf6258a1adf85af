/- Over whatever program: a range over a function that keeps book of its own (a list that it made, a loop of its own that is over) while its rounds run. What a round leaves is told of every block but the loop's own record: all that is no cells, and all cells of the types that T names. -/
import Derived.Test.YtabgplniaiehpabKit
import Derived.RangeFuncFrom
import Derived.Test.YtabgplniaiehpabArenaWorld
namespace Go.Proofs.Ytabgplniaiehpab
open Go.RowKit
set_option linter.unusedVariables false

/-- Cells in a block k of a type t with T k t lie as they lay. -/
def TagKept (T : Nat → TypeId → Prop) (W W' : World) : Prop := ∀ k cs t fz, W.heap[k]? = some (.cells cs t fz) → T k t → W'.heap[k]? = W.heap[k]?
/-- What a round leaves, whose record is block l. -/
structure KeptBy (l : Nat) (T : Nat → TypeId → Prop) (W W' : World) : Prop where
  size : W.heap.size ≤ W'.heap.size
  others : ∀ (k : Nat) (o : Obj), k ≠ l → W.heap[k]? = some o → o.isCells = false → W'.heap[k]? = some o
  tag : TagKept T W W'
theorem TagKept.refl (T : Nat → TypeId → Prop) (W : World) : TagKept T W W := fun _ _ _ _ _ _ => rfl
theorem TagKept.trans {T : Nat → TypeId → Prop} {A B C : World} (h : TagKept T A B) (k : TagKept T B C) : TagKept T A C := fun i cs t fz hi ht => (k i cs t fz ((h i cs t fz hi ht).trans hi) ht).trans (h i cs t fz hi ht)
theorem TagKept.putObj {T : Nat → TypeId → Prop} {W : World} {l : Nat} {o : Obj} (o' : Obj) (h : W.heap[l]? = some o) (ho : o.isCells = false) : TagKept T W (W.putObj l o') := fun k cs t fz hk _ =>
  World.putObj_heap_other (fun e => by subst e; rw [h] at hk; cases hk; cases ho)
theorem KeptBy.trans {l : Nat} {T : Nat → TypeId → Prop} {A B C : World} (h : KeptBy l T A B) (k : KeptBy l T B C) : KeptBy l T A C :=
  ⟨Nat.le_trans h.size k.size, fun i o hi ha ho => k.others i o hi (h.others i o hi ha ho) ho, h.tag.trans k.tag⟩
theorem KeptBy.putObj {l : Nat} {T : Nat → TypeId → Prop} {W : World} {o : Obj} (o' : Obj) (h : W.heap[l]? = some o) (ho : o.isCells = false) : KeptBy l T W (W.putObj l o') :=
  ⟨by simp, fun k x hk hx _ => (World.putObj_heap_other hk).trans hx, TagKept.putObj o' h ho⟩
theorem KeptBy.body {l : Nat} {T : Nat → TypeId → Prop} {W W' : World} (h : KeepsOthers W W') (k : TagKept T W W') : KeptBy l T W W' := ⟨h.size, fun i o _ hi ho => h.same i o hi ho, k⟩
theorem KeptBy.none {l : Nat} {W W' : World} (h : KeepsOthers W W') : KeptBy l (fun _ _ => False) W W' := .body h (fun _ _ _ _ _ f => f.elim)

/-- An iterator's contract: it tells xs with S xs, or is left behind pre with Sp pre. -/
def SeqL {α : Type} (F : Fence) (n : Nat) (P : Program) (g : Nat) (lb : Array Value) (encs : α → Array Value) (T : Nat → TypeId → Prop) (S Sp : List α → Prop) (N : Nat) (w : World) : Prop :=
  ∀ (l : Nat) (J Jx : List α → World → Prop) (W : World), Below w.heap.size w W → OwnFrom W.heap.size J → OwnFrom W.heap.size Jx → w.heap.size ≤ l → l < W.heap.size →
    (∀ pre x W1, J pre W1 → pre.length < N ∧ Sp (pre ++ [x]) → YieldAt F (n - 1) P l (encs x) W1 fun e W' =>
      (e = .returned (.bool true) ∧ J (pre ++ [x]) W' ∧ KeptBy l T W1 W') ∨ (e = .returned (.bool false) ∧ Jx (pre ++ [x]) W' ∧ KeptBy l (fun _ _ => False) W1 W')) →
    J [] W →
    CallsIn F n P g (#[.func (.yield l) #[] #[]] ++ lb) W fun e W' => (∃ v, e = .returned v) ∧ ((∃ xs, S xs ∧ J xs W') ∨ (∃ pre, Sp pre ∧ Jx pre W'))

theorem KeptBy.old {l : Nat} {T : Nat → TypeId → Prop} {W W' : World} (h : KeptBy l T W W') {k : Nat} (hk : k < W.heap.size) (hl : k ≠ l) (hT : ∀ t, T k t) : W'.heap[k]? = W.heap[k]? := by
  have e := Array.getElem?_eq_getElem hk
  cases ho : W.heap[k] with
  | cells cs t fz => rw [ho] at e; exact h.tag k cs t fz e (hT t)
  | _ => rw [ho] at e; exact (h.others k _ hl e rfl).trans e.symm
section
variable {F : Fence} {n : Nat} {P : Program}
/-- The record of a loop in its three states. -/
def recOf (fn : FuncId) (tmps : Array Value) (ps : Array Tmp) (assign body : Code) (D : Nat) (s : LoopState) (p : Option Code) : Obj := .loop { state := s, pending := p, fn, tmps, params := ps, assign, body, defers := D }
theorem range_own {α : Type} {g : Operand} {ps : Array Tmp} {assign body : Code} {Q : Exit → Act → World → Prop} {a : Act} {w : World} (hro : F.round = none) (h1 : 1 ≤ n) {gf : Nat} {lb : Array Value} (hg : a.eval g = .func (.func gf) #[] lb) (hFg : F.fn gf)
    (eg : ∀ args w, (callFunc gf args).run P w = .ok (.enter gf args) w) {encs : α → Array Value} {T : Nat → TypeId → Prop} {S Sp : List α → Prop} {N : Nat} {w0 : World} (hseq : SeqL F (n - 1) P gf lb encs T S Sp N w0) (hb0 : Below w0.heap.size w0 w) (hps : ∀ x, (encs x).size = ps.size)
    (I : List α → World → Prop) (Ix : Code → List α → World → Prop) (hI : OwnFrom w.heap.size I) (hIx : ∀ c, OwnFrom w.heap.size (Ix c)) (h0 : I [] w) (a₁ : α → Act)
    (hassign : ∀ (l : Nat) (x : α) (W : World) (K : Act → World → Prop), K (a₁ x) W → assign.wpIn (F.inRound l) (n - 1 - 1) P (Exit.then K (fun _ _ _ => False)) { tmps := (ps.zip (encs x)).foldl (fun t (p, v) => t.setIfInBounds p v) a.tmps, defers := [] } W)
    (hbody : ∀ (l : Nat) (pre : List α) (x : α) (W : World), I pre W → pre.length < N ∧ Sp (pre ++ [x]) → body.wpIn (F.inRound l) (n - 1 - 1) P (ownPostK (TagKept T) I Ix (pre ++ [x]) W) (a₁ x) W)
    (hdone : ∀ (D : Nat) (xs : List α) (W : World), w.heap.size ≤ D → S xs → I xs W → W.heap[D]? = some (.deferred (some [])) → Q .normal { a with defers := { target := .collected D, args := #[] } :: a.defers } W)
    (hstop : ∀ (D : Nat) (c : Code) (pre : List α) (W : World), w.heap.size ≤ D → Sp pre → Ix c pre W → W.heap[D]? = some (.deferred (some [])) → c.wpIn F n P Q { a with defers := { target := .collected D, args := #[] } :: a.defers } W) :
    (Code.rangeFunc g ps assign body).wpIn F n P Q a w := by
  refine wpIn_rangeFunc fun fn hfn => ?_
  rw [hro]
  -- the two blocks that the loop lays: what its rounds put off, and its record
  have hl0 : w.heap.size + 1 ≠ w.heap.size := by omega
  obtain ⟨R, hR⟩ : ∃ R : LoopState → Option Code → Obj, R = recOf fn a.tmps ps assign body w.heap.size := ⟨_, rfl⟩
  obtain ⟨X, hX⟩ : ∃ X, X = (w.alloc (.deferred (some []))).alloc (R .ready none) := ⟨_, rfl⟩
  have sX : X.heap.size = w.heap.size + 2 := by rw [hX]; simp
  have rX : X.heap[w.heap.size + 1]? = some (R .ready none) := by
    have := World.alloc_heap_new (w.alloc (.deferred (some []))) (R .ready none)
    rw [World.size_alloc] at this; rw [hX]; exact this
  have dX : X.heap[w.heap.size]? = some (.deferred (some [])) := by
    rw [hX]; exact (Below.heap_alloc _ _ _ (by simp)).trans (World.alloc_heap_new w _)
  have iX : I [] X := by rw [hX]; exact hI.alloc _ (hI.alloc _ h0)
  have bX : Below w0.heap.size w0 X := by
    rw [hX]; exact hb0.trans (((Below.refl _ w).alloc (Nat.le_refl _) _ |>.alloc (by simp) _).mono hb0.size)
  have Rc : ∀ s p, (R s p).isCells = false := fun s p => by rw [hR]; rfl
  -- what the iterator may do to the caller's book
  have abide : ∀ {A B : World} {row : Option Nat}, A.grownBy B row → (∀ r, row = some r → X.heap.size ≤ r ∧ ∃ o : Obj, A.heap[r]? = some o ∧ o.isCells = false) →
      (∀ r, row = some r → w.heap.size ≤ r ∧ ∃ o : Obj, A.heap[r]? = some o ∧ o.isCells = false) ∧ ∀ (k : Nat) (o : Obj), k < X.heap.size → A.heap[k]? = some o → B.heap[k]? = some o := fun hg' hr =>
    ⟨fun r e => by obtain ⟨q1, q2⟩ := hr r e; exact ⟨by omega, q2⟩, fun k o hx hk => (hg'.block k (Array.getElem?_eq_some_iff.1 hk).1 (fun e => by have := (hr k e.symm).1; omega)).trans hk⟩
  refine ⟨w.heap.size + 1, [{ target := .collected w.heap.size, args := #[] }], X, { target := .fn (.func gf) lb, args := #[.func (.yield (w.heap.size + 1)) #[] #[]] }, X, gf, #[.func (.yield (w.heap.size + 1)) #[] #[]] ++ lb, X, ?e1, ?e2, ?e3, ?e4, fun _ => h1, ?e5⟩
  case e1 => rw [hX, hR]; exact run_enterLoop_outer _ _ _ _ _
  case e2 => simp only [resolve, hg]; simp [go_sem]
  case e3 => intro f' hf'; simp [Target.leads] at hf'; subst hf'; exact hFg
  case e4 => simp [invoke, go_sem, eg]
  case e5 =>
    refine (hseq (w.heap.size + 1) (fun pre A => I pre A ∧ A.heap[w.heap.size + 1]? = some (R .ready none) ∧ A.heap[w.heap.size]? = some (.deferred (some [])))
      (fun pre A => ∃ c, Ix c pre A ∧ A.heap[w.heap.size + 1]? = some (R .done (some c)) ∧ A.heap[w.heap.size]? = some (.deferred (some []))) X bX ?j ?jx (by have := hb0.size; omega) (by omega) ?y ⟨iX, rX, dX⟩).mono ?fin
    case j =>
      rintro s A B row ⟨q1, q2, q3⟩ hg' hr
      obtain ⟨k1, k2⟩ := abide hg' hr
      exact ⟨hI s A B row q1 hg' k1, k2 _ _ (by omega) q2, k2 _ _ (by omega) q3⟩
    case jx =>
      rintro s A B row ⟨c, q1, q2, q3⟩ hg' hr
      obtain ⟨k1, k2⟩ := abide hg' hr
      exact ⟨c, hIx c s A B row q1 hg' k1, k2 _ _ (by omega) q2, k2 _ _ (by omega) q3⟩
    case fin =>
      rintro e A ⟨⟨v, rfl⟩, ⟨xs, hS, q1, q2, q3⟩ | ⟨pre, hSp, c, q1, q2, q3⟩⟩
      · have q2' := q2
        rw [hR] at q2'
        exact ⟨none, _, run_endLoop q2' (by simp), hdone _ xs _ (Nat.le_refl _) hS (hI.putObj _ q1 (by omega) q2 (Rc _ _)) ((World.putObj_heap_other (Ne.symm hl0)).trans q3)⟩
      · have q2' := q2
        rw [hR] at q2'
        exact ⟨some c, _, run_endLoop q2' (by simp), hstop _ c pre _ (Nat.le_refl _) hSp ((hIx c).putObj _ q1 (by omega) q2 (Rc _ _)) ((World.putObj_heap_other (Ne.symm hl0)).trans q3)⟩
    case y =>
      rintro pre x A ⟨q1, q2, q3⟩ hlen
      have q2' := q2
      rw [hR] at q2'
      have hin := (Array.getElem?_eq_some_iff.1 q2).1
      have yl := run_yield (P := P) (args := encs x) q2' (hps x)
      refine ⟨fn, _, assign, body, yl, roundIn_of_wpIn hfn (hassign _ x A _ ⟨_, run_beginRound q2' rfl, ?_⟩)⟩
      -- the round has begun
      obtain ⟨A1, hA1⟩ : ∃ A1, A1 = A.putObj (w.heap.size + 1) (R .busy none) := ⟨_, rfl⟩
      have e1 : A1.heap[w.heap.size + 1]? = some (R .busy none) := by rw [hA1]; exact World.putObj_heap_same hin
      have e2 : A1.heap[w.heap.size]? = some (.deferred (some [])) := by rw [hA1]; exact (World.putObj_heap_other (Ne.symm hl0)).trans q3
      have e3 : ∀ T', KeptBy (w.heap.size + 1) T' A A1 := fun T' => by rw [hA1]; exact KeptBy.putObj _ q2 (Rc _ _)
      have e4 : I pre A1 := by rw [hA1]; exact hI.putObj _ q1 (by omega) q2 (Rc _ _)
      have back : A.putObj (w.heap.size + 1) (R .busy none) = A1 := hA1.symm
      rw [hR] at back
      simp only [recOf] at back
      rw [back]
      refine wpIn_mono (hbody _ pre x A1 e4 hlen) ?_
      -- the round's end, whichever
      have close : ∀ (j : Option Code) (A2 : World), KeepsOthers A1 A2 → (Instr.endRound (w.heap.size + 1) j).run P A2 = .ok (.bool j.isNone) (A2.putObj (w.heap.size + 1) (R (if j.isNone then .ready else .done) j)) ∧
          A2.heap[w.heap.size + 1]? = some (R .busy none) ∧ (A2.putObj (w.heap.size + 1) (R (if j.isNone then .ready else .done) j)).heap[w.heap.size + 1]? = some (R (if j.isNone then .ready else .done) j) ∧
          (A2.putObj (w.heap.size + 1) (R (if j.isNone then .ready else .done) j)).heap[w.heap.size]? = some (.deferred (some [])) := fun j A2 hk => by
        have f1 := hk.same _ _ e1 (Rc _ _)
        have f1' := f1
        rw [hR] at f1'
        have f2 := run_endRound (P := P) j f1'
        exact ⟨by rw [hR]; exact f2, f1, World.putObj_heap_same (Array.getElem?_eq_some_iff.1 f1).1, (World.putObj_heap_other (Ne.symm hl0)).trans (hk.same _ _ e2 rfl)⟩
      have leave : ∀ (c : Code) (A2 : World), KeepsOthers A1 A2 → Ix c (pre ++ [x]) A2 → ∃ v A3, (Instr.endRound (w.heap.size + 1) (some c)).run P A2 = .ok v A3 ∧
          ((Ending.returned v = .returned (.bool true) ∧ (I (pre ++ [x]) A3 ∧ A3.heap[w.heap.size + 1]? = some (R .ready none) ∧ A3.heap[w.heap.size]? = some (.deferred (some []))) ∧ KeptBy (w.heap.size + 1) T A A3) ∨
            (Ending.returned v = .returned (.bool false) ∧ (∃ c, Ix c (pre ++ [x]) A3 ∧ A3.heap[w.heap.size + 1]? = some (R .done (some c)) ∧ A3.heap[w.heap.size]? = some (.deferred (some []))) ∧ KeptBy (w.heap.size + 1) (fun _ _ => False) A A3)) := fun c A2 hk hi => by
        obtain ⟨f1, f2, f3, f4⟩ := close (some c) A2 hk
        exact ⟨_, _, f1, .inr ⟨rfl, ⟨c, (hIx c).putObj _ hi (by omega) f2 (Rc _ _), f3, f4⟩, ((e3 _).trans (.none hk)).trans (KeptBy.putObj _ f2 (Rc _ _))⟩⟩
      rintro e a3 A2 hp
      cases e with
      | normal =>
        obtain ⟨hk, ht, hi⟩ := hp
        obtain ⟨f1, f2, f3, f4⟩ := close none A2 hk
        exact ⟨_, _, f1, .inl ⟨rfl, ⟨hI.putObj _ hi (by omega) f2 (Rc _ _), f3, f4⟩, ((e3 T).trans (.body hk ht)).trans (KeptBy.putObj _ f2 (Rc _ _))⟩⟩
      | ret => exact leave _ A2 hp.1 hp.2
      | exit id => exact leave _ A2 hp.1 hp.2
      | goto t => exact leave _ A2 hp.1 hp.2
      | panic ch => exact hp.elim
      | outgrown => exact hp.elim
end
end Go.Proofs.Ytabgplniaiehpab

/- Over whatever program: a list that grows in a box, round by round. -/
namespace Go.Proofs.Ytabgplniaiehpab
open Go.RowKit
set_option linter.unusedVariables false

/-- The box bx (its type ts) has a slice whose elements (of type te, a cell each) are xs; its row lies in a block with ok. -/
def Bag (bx : Nat) (ts te : TypeId) (ok : Nat → Prop) (xs : List Value) (A : World) : Prop := ∃ v, Blk A bx ts #[v] ∧ RowW A te 1 v xs.length xs ∧ ∀ k, v.ownBlock = some k → ok k ∧ k ≠ bx
section
variable {bx : Nat} {ts te : TypeId} {ok : Nat → Prop} {xs : List Value} {A A' : World}
theorem RowW.grown {e : TypeId} {size n : Nat} {v : Value} (h : RowW A e size v n xs) {row : Option Nat} (hg : A.grownBy A' row) (hr : ∀ r, row = some r → ∃ o : Obj, A.heap[r]? = some o ∧ o.isCells = false) : RowW A' e size v n xs := by
  refine h.kept fun k hk => hg.block k (h.lt hk) (fun e' => ?_)
  obtain ⟨o, ho, hc⟩ := hr k e'.symm
  rcases h.2 with ⟨e0, _⟩ | ⟨g, cap, cur, e0, hb, _⟩
  · rw [e0] at hk; cases hk
  · rw [e0] at hk; cases hk
    rw [show A.heap[g]? = _ from hb] at ho; cases ho; cases hc
theorem Bag.grown (h : Bag bx ts te ok xs A) {row : Option Nat} (hg : A.grownBy A' row) (hr : ∀ r, row = some r → ∃ o : Obj, A.heap[r]? = some o ∧ o.isCells = false) : Bag bx ts te ok xs A' := by
  obtain ⟨v, h1, h2, h3⟩ := h
  exact ⟨v, blk_grown h1 hg hr, h2.grown hg hr, h3⟩
theorem Bag.own (f : List Int → List Value) : Own (fun s W => Bag bx ts te ok (f s) W) := fun s X Y row hs hg hr => hs.grown hg hr
/-- One more was appended, and the box written. -/
theorem Bag.push {w2 : World} {v u : Value} {n g cap : Nat} {o : Obj} (h1 : Blk A bx ts #[v]) (h2 : RowW A te 1 v n xs) (h3 : v.ownBlock ≠ some bx) (k2 : RowW w2 te 1 (.slice (some ⟨g, 0, none⟩) (n + 1) cap) (n + 1) (xs ++ [u])) (hg : (A.alloc o).grownBy w2 v.ownBlock) (hat : v.ownBlock = some g ∨ g = A.heap.size + 1) :
    Blk (w2.setCell ⟨bx, 0, none⟩ (.slice (some ⟨g, 0, none⟩) (n + 1) cap)) bx ts #[.slice (some ⟨g, 0, none⟩) (n + 1) cap] ∧ RowW (w2.setCell ⟨bx, 0, none⟩ (.slice (some ⟨g, 0, none⟩) (n + 1) cap)) te 1 (.slice (some ⟨g, 0, none⟩) (n + 1) cap) (n + 1) (xs ++ [u]) ∧ g ≠ bx ∧
      KeepsOthers A (w2.setCell ⟨bx, 0, none⟩ (.slice (some ⟨g, 0, none⟩) (n + 1) cap)) ∧ (∀ k, k < A.heap.size → k ≠ bx → v.ownBlock ≠ some k → (w2.setCell ⟨bx, 0, none⟩ (.slice (some ⟨g, 0, none⟩) (n + 1) cap)).heap[k]? = A.heap[k]?) ∧ Blk w2 bx ts #[v] := by
  have hbl := h1.lt
  have hs2 := hg.size
  simp at hs2
  have hgb : g ≠ bx := by
    rcases hat with e | e
    · intro e0; subst e0; exact h3 e
    · omega
  have hb2 : Blk w2 bx ts #[v] := (h1.alloc o).kept hg (Ne.symm h3)
  have keep : ∀ k, k < A.heap.size → k ≠ bx → v.ownBlock ≠ some k → (w2.setCell ⟨bx, 0, none⟩ (.slice (some ⟨g, 0, none⟩) (n + 1) cap)).heap[k]? = A.heap[k]? := fun k hk hne hnv =>
    (Below.heap_setCell w2 ⟨bx, 0, none⟩ _ k hne).trans ((hg.block k (by simp; omega) (Ne.symm hnv)).trans (heap_alloc_old A o k hk))
  refine ⟨hb2.set1 _, k2.kept fun k hk => Below.heap_setCell w2 ⟨bx, 0, none⟩ _ k (fun e => by cases hk; exact hgb e), hgb, ⟨by rw [show (w2.setCell ⟨bx, 0, none⟩ (.slice (some ⟨g, 0, none⟩) (n + 1) cap)).heap.size = w2.heap.size by show (w2.heap.modify _ _).size = _; rw [Array.size_modify]]; omega, fun k ob hk hc => ?_⟩, keep, hb2⟩
  have hkl := (Array.getElem?_eq_some_iff.1 hk).1
  refine (keep k hkl (fun e => ?_) (fun e => ?_)).trans hk
  · subst e; rw [show A.heap[k]? = _ from h1] at hk; cases hk; cases hc
  · rcases h2.2 with ⟨e0, _⟩ | ⟨g', cap', cur, e0, hb', _⟩
    · rw [e0] at e; cases e
    · rw [e0] at e; cases e
      rw [show A.heap[g']? = _ from hb'] at hk; cases hk; cases hc
end
end Go.Proofs.Ytabgplniaiehpab
