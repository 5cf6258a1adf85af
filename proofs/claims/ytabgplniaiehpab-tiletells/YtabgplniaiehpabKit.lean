/- A small kit of our own, over whatever program: blocks of cells, what is kept while memory grows. -/
import Derived.RangeFuncNested
import Derived.RangeFuncBound
import Derived.RangeFuncCalls
import Derived.RangeFuncLeaves
import Derived.Shelf.Abstract
import Derived.Shelf.RegionOpen
import Derived.WalkKit
import Derived.WalkSpells
import Derived.WalkLawsBesides
import Derived.OwnWalkIn
import Derived.TacticsInMore
import Derived.LoopNIn
import Derived.LoopIn
import Derived.Below
import Derived.Deep.QuietTactic
import Derived.BigQuiet
import Derived.Outline
import Derived.ProofKit
namespace Go.Proofs.Ytabgplniaiehpab
open Go.RowKit

theorem ret_of {a b : Value} (h : a = b) : Ending.returned a = .returned b := by rw [h]

/-- What lay below a world that grew, in the walk's own form. -/
theorem bcell {W w1 : World} (hb : Below W.heap.size W w1) : (∀ b o, b < W.heap.size → w1.cell? ⟨b, o, none⟩ = W.cell? ⟨b, o, none⟩) ∧ (∀ b o, b < W.heap.size → w1.frozen? ⟨b, o, none⟩ = W.frozen? ⟨b, o, none⟩) :=
  ⟨fun b o h => hb.cell (p := ⟨b, o, none⟩) h, fun b o h => hb.frozen (p := ⟨b, o, none⟩) h⟩

theorem below_grown {W W' : World} (h : Below W.heap.size W W') : W.grownBy W' none := ⟨h.os, h.tape, h.output, h.size, fun k hk _ => h.block k hk⟩
theorem below_others {W W' : World} (h : Below W.heap.size W W') : KeepsOthers W W' :=
  ⟨h.size, fun k _ hk _ => (h.block k (Array.getElem?_eq_some_iff.1 hk).1).trans hk⟩
theorem abides_below {β : Type} {B : Nat} {J : β → World → Prop} (hJ : AbidesFrom B J) {s : β} {W W' : World} (h : Below W.heap.size W W') (hs : J s W) : J s W' :=
  hJ s W W' none hs (below_grown h) (fun r e => by cases e)
theorem below_step {n : Nat} {a b c : World} (h : Below n a b) (k : Below b.heap.size b c) (hn : n ≤ a.heap.size) : Below n a c := h.trans (k.mono (Nat.le_trans hn h.size))
theorem below_new {n : Nat} {a b : World} (h : Below n a b) (hn : n ≤ a.heap.size) (o : Obj) : Below n a (b.alloc o) := h.alloc (Nat.le_trans hn h.size) o

/-- A block of cells. -/
def Blk (W : World) (B : Nat) (t : TypeId) (cs : Array Value) : Prop := W.heap[B]? = some (.cells cs t (0, 0))
theorem Blk.lt {W : World} {B : Nat} {t : TypeId} {cs : Array Value} (h : Blk W B t cs) : B < W.heap.size := (Array.getElem?_eq_some_iff.1 h).1
theorem Blk.new (W : World) (t : TypeId) (cs : Array Value) : Blk (W.alloc (.cells cs t)) W.heap.size t cs := World.alloc_heap_new W _
theorem Blk.kept {W W' : World} {row : Option Nat} {B : Nat} {t : TypeId} {cs : Array Value} (h : Blk W B t cs) (hg : W.grownBy W' row) (hne : some B ≠ row) : Blk W' B t cs := (hg.block B h.lt hne).trans h
theorem Blk.below {W W' : World} {B : Nat} {t : TypeId} {cs : Array Value} (h : Blk W B t cs) (hb : Below W.heap.size W W') : Blk W' B t cs := (hb.block B h.lt).trans h
theorem Blk.alloc {W : World} {B : Nat} {t : TypeId} {cs : Array Value} (h : Blk W B t cs) (o : Obj) : Blk (W.alloc o) B t cs := h.kept (World.grownBy_alloc W o none) (by simp)
theorem Blk.other {W : World} {B B' : Nat} {t : TypeId} {cs : Array Value} (h : Blk W B t cs) (hne : B ≠ B') (u : Value) : Blk (W.setCell ⟨B', 0, none⟩ u) B t cs := h.kept (grownBy_setCell' W B' u) (fun e => hne (by cases e; rfl))
theorem Blk.putObj {W : World} {B l : Nat} {t : TypeId} {cs : Array Value} (h : Blk W B t cs) (hne : B ≠ l) (o : Obj) : Blk (W.putObj l o) B t cs := (World.putObj_heap_other hne).trans h
theorem blk_own {β : Type} (B : Nat) (t : TypeId) (f : β → Array Value) : Own (fun s W => Blk W B t (f s)) := fun s X Y row hs hg hrow =>
  hs.kept hg (fun e' => by obtain ⟨o, ho, hc⟩ := hrow B e'.symm; rw [show X.heap[B]? = _ from hs] at ho; cases ho; cases hc)
theorem blk_grown {X Y : World} {row : Option Nat} {B : Nat} {t : TypeId} {cs : Array Value} (hs : Blk X B t cs) (hg : X.grownBy Y row) (hrow : ∀ r, row = some r → ∃ o : Obj, X.heap[r]? = some o ∧ o.isCells = false) : Blk Y B t cs :=
  blk_own B t (fun _ : Unit => cs) () X Y row hs hg hrow
theorem Blk.cell1 {W : World} {B : Nat} {t : TypeId} {a : Value} (h : Blk W B t #[a]) : W.cell? ⟨B, 0, none⟩ = some a := by simp [World.cell?, show W.heap[B]? = _ from h]
theorem Blk.cells2 {W : World} {B : Nat} {t : TypeId} {a b : Value} (h : Blk W B t #[a, b]) : W.cell? ⟨B, 0, none⟩ = some a ∧ W.cell? ⟨B, 1, none⟩ = some b := by
  constructor <;> simp [World.cell?, show W.heap[B]? = _ from h]
theorem Blk.frozen {W : World} {B : Nat} {t : TypeId} {cs : Array Value} (h : Blk W B t cs) (o : Nat) : W.frozen? ⟨B, o, none⟩ = false := by simp [World.frozen?, show W.heap[B]? = _ from h]
theorem Blk.set1 {W : World} {B : Nat} {t : TypeId} {v : Value} (v' : Value) (h : Blk W B t #[v]) : Blk (W.setCell ⟨B, 0, none⟩ v') B t #[v'] := Boxed.set v' h

theorem cell_lt {W : World} {b o : Nat} {v : Value} (h : W.cell? ⟨b, o, none⟩ = some v) : b < W.heap.size := by
  rcases Nat.lt_or_ge b W.heap.size with h1 | h1
  · exact h1
  · simp [World.cell?, Array.getElem?_eq_none h1] at h
theorem cell_other {W : World} {b o b' o' : Nat} {v : Value} (h : b ≠ b') : (W.setCell ⟨b', o', none⟩ v).cell? ⟨b, o, none⟩ = W.cell? ⟨b, o, none⟩ :=
  World.cell?_of_block (w := W) (Below.heap_setCell _ _ _ b h)
theorem Blk.at {W : World} {B : Nat} {t : TypeId} {cs : Array Value} (h : Blk W B t cs) {j : Nat} {v : Value} (hj : cs[j]? = some v) : W.cell? ⟨B, j, none⟩ = some v := by
  simp [World.cell?, show W.heap[B]? = _ from h, hj]
theorem Blk.setAt {W : World} {B : Nat} {t : TypeId} {cs : Array Value} (h : Blk W B t cs) (j : Nat) (v : Value) : Blk (W.setCell ⟨B, j, none⟩ v) B t (cs.setIfInBounds j v) := by
  obtain ⟨hlt, hk⟩ := Array.getElem?_eq_some_iff.1 h
  show (W.heap.modify B _)[B]? = _
  rw [Array.getElem?_eq_getElem (by rw [Array.size_modify]; exact hlt), Array.getElem_modify_self, hk]
  rfl
theorem add_eq (b o j : Nat) : (⟨b, o, none⟩ : Addr).add j = ⟨b, o + j, none⟩ := by unfold Addr.add; split <;> simp_all

/-- A world that grew out of X: whatever lay in X lies as it lay. -/
structure Grow (X : World) where
  w : World
  h : Below X.heap.size X w
theorem Grow.ne (X : World) : Nonempty (Grow X) := ⟨⟨X, Below.refl _ _⟩⟩
theorem Grow.cell {X : World} {B : Nat} {o : Nat} {v : Value} (hB : B < X.heap.size) (hc : X.cell? ⟨B, o, none⟩ = some v) (g : Grow X) : g.w.cell? ⟨B, o, none⟩ = some v := (g.h.cell (p := ⟨B, o, none⟩) hB).trans hc
/-- **A region that draws its order, whose operations read what lay in X and whose callees make new memory at most: one walk of the text's order serves every order.** -/
theorem wp_region_grow {P : Program} {id : Nat} {Q : Exit → Act → World → Prop} {a : Act} {X : World} {l : List Oper} (hm : P.follows .mixedOrders = true) (hB : Region.lexB .any l.toArray = true)
    (h : wpQuiet P l.toArray (fun w' => ∃ g : Grow X, w' = g.w) (fun a' => ∀ w', (∃ g : Grow X, w' = g.w) → Q .normal a' w') l a) : (Code.region id l.toArray true).wp P Q a X :=
  wp_region_quiet (C := fun w' => ∃ g : Grow X, w' = g.w) hm hB ⟨⟨X.drew, (Below.refl _ _).drew⟩, rfl⟩ (by simpa using h)
/-- A callee's contract, met in a world that grew. -/
theorem grow_call {P : Program} {f : FuncId} {args : Array Value} {X : World} {g : Grow X} {v : Value} (h : Calls P f args g.w fun e w' => e = .returned v ∧ Below g.w.heap.size g.w w') :
    Calls P f args g.w fun e w'' => e = .returned v ∧ ∃ g' : Grow X, w'' = g'.w :=
  h.mono fun _ w' ⟨he, hb⟩ => ⟨he, ⟨w', below_step g.h hb (Nat.le_refl _)⟩, rfl⟩

/-- All has come; a part has. -/
def AllOf (l xs : List Int) : Prop := xs = l
def PartOf (l pre : List Int) : Prop := pre <+: l
theorem hid_mk {p : Prop} (h : p) : Hid p := h
end Go.Proofs.Ytabgplniaiehpab

/- Over whatever program: a region that draws its order, all of whose operations read or call what makes new memory at most, but for the last one (a store), which waits for all others: one walk of the text's order, then that operation. -/
namespace Go.Proofs.Ytabgplniaiehpab
open Go.RowKit
set_option linter.unusedVariables false

/-- Each edge leads back; each operation but the last is waited for by a later one; the last yields nothing. -/
def tailB (l : List Oper) (n : Nat) : Bool :=
  decide (l.length = n + 1) && (List.range (n + 1)).all (fun i => match l[i]? with | some o => o.after.all (fun e => decide (e.on < i)) | none => false) &&
    (match l[n]? with | some o => o.dst.isNone | none => false) &&
    (List.range n).all (fun i => (List.range (n + 1)).any (fun j => decide (i < j) && (match l[j]? with | some x => x.after.any (fun e => Region.binds .any e && e.on == i) | none => false)))

/-- The last operation, its deed struck. -/
def stillOp (o : Oper) : Oper := { dst := none, op := .move (.const (.bool false)), type := o.type, pos := o.pos, after := o.after, guard := none }
def stillAt (l : List Oper) (n : Nat) : List Oper := l.set n (stillOp ((l[n]?).getD default))

theorem ready_some {ops : Array Oper} {listed : Array Bool} (hs : listed.size = ops.size) (hback : ∀ (i : Nat) (o : Oper), ops[i]? = some o → ∀ e ∈ o.after, e.on < i) :
    ∀ m, m < ops.size → listed.getD m true = false → ∃ j, j ∈ Region.ready .any ops listed := by
  intro m
  induction m using Nat.strongRecOn with
  | _ m ih =>
    intro hm hl
    obtain ⟨o, ho⟩ : ∃ o, ops[m]? = some o := ⟨ops[m], Array.getElem?_eq_getElem hm⟩
    by_cases hall : ∀ e ∈ o.after, Region.binds .any e = true → listed.getD e.on false = true
    · exact ⟨m, mem_ready.2 ⟨hl, o, ho, hall⟩⟩
    · obtain ⟨e, he⟩ := Classical.not_forall.1 hall
      obtain ⟨he1, he2⟩ := Classical.not_imp.1 he
      obtain ⟨_, he3⟩ := Classical.not_imp.1 he2
      have hlt := hback m o ho e he1
      refine ih e.on hlt (by omega) ?_
      have hin : e.on < listed.size := by omega
      simp [hin] at he3 ⊢
      exact he3

theorem getD_up {listed : Array Bool} {i j : Nat} (h : listed.getD j false = true) : (listed.setIfInBounds i true).getD j false = true := by
  by_cases hji : j = i
  · subst hji
    have : j < listed.size := by
      rcases Nat.lt_or_ge j listed.size with h1 | h1
      · exact h1
      · simp [Array.getD, Nat.not_lt.2 h1] at h
    simp [this]
  · rw [getD_set_ne false (Ne.symm hji)]; exact h
theorem down_set {ops : Array Oper} {listed : Array Bool} {n i : Nat} (hs : listed.size = n + 1) (hdn : ∀ (j : Nat) (x : Oper), listed.getD j false = true → ops[j]? = some x → ∀ e ∈ x.after, Region.binds .any e = true → listed.getD e.on false = true)
    (hi : i ∈ Region.ready .any ops listed) : ∀ (j : Nat) (x : Oper), (listed.setIfInBounds i true).getD j false = true → ops[j]? = some x → ∀ e ∈ x.after, Region.binds .any e = true → (listed.setIfInBounds i true).getD e.on false = true := by
  intro j x hj hx e he hb
  by_cases hji : j = i
  · subst hji
    obtain ⟨_, y, hy, hw⟩ := mem_ready.1 hi
    obtain rfl : y = x := Option.some.inj (hy.symm.trans hx)
    exact getD_up (hw e he hb)
  · rw [getD_set_ne false (Ne.symm hji)] at hj
    exact getD_up (hdn j x hj hx e he hb)
theorem wpAny_tail {P : Program} {ops ops' : Array Oper} {C : World → Prop} {Q : Exit → Act → World → Prop} {Q' : Act → Prop} {n : Nat} {o o' : Oper}
    (hsz : ops.size = n + 1) (ho : ops[n]? = some o) (ho' : ops'[n]? = some o') (hsame : ∀ i, i ≠ n → ops'[i]? = ops[i]?) (haft : o'.after = o.after) (hd : o.dst = none) (hd' : o'.dst = none) (hg' : o'.guard = none)
    (hback : ∀ (i : Nat) (x : Oper), ops[i]? = some x → ∀ e ∈ x.after, e.on < i) (hall : ∀ i, i < n → ∃ j x, i < j ∧ j ≤ n ∧ ops[j]? = some x ∧ ∃ e ∈ x.after, Region.binds .any e = true ∧ e.on = i)
    (hQ : ∀ a w, C w → Q' a → wpOp P ops Q n (Q .normal) a w) :
    ∀ (fuel : Nat) (listed : Array Bool) (a : Act) (w : World), listed.size = n + 1 → listed.getD n true = false → (∀ (j : Nat) (x : Oper), listed.getD j false = true → ops[j]? = some x → ∀ e ∈ x.after, Region.binds .any e = true → listed.getD e.on false = true) → C w → wpAnyQ P .any ops' C Q' fuel listed a → wpAny P .any ops Q fuel listed a w := by
  have hy : ∀ t, yielded ops' t = yielded ops t := fun t => by
    funext j
    unfold yielded
    by_cases hj : j = n
    · subst hj; rw [ho, ho']; simp [hd, hd']
    · rw [hsame j hj]
  have hready : ∀ listed, Region.ready .any ops' listed = Region.ready .any ops listed := fun listed => by
    have hsz' : ops'.size = ops.size := by
      have h1 : n < ops'.size := (Array.getElem?_eq_some_iff.1 ho').1
      have h2 := hsame (n + 1) (by omega)
      rw [Array.getElem?_eq_none (by omega : ops.size ≤ n + 1)] at h2
      have := Array.getElem?_eq_none_iff.1 h2
      omega
    unfold Region.ready
    rw [hsz']
    refine List.filter_congr fun i _ => ?_
    by_cases hi : i = n
    · subst hi; rw [ho, ho']; simp [haft]
    · rw [hsame i hi]
  intro fuel
  induction fuel with
  | zero =>
    intro listed a w hs hn hdn hC h
    obtain ⟨j, hj⟩ := ready_some (ops := ops) (by omega) hback n (by omega) hn
    have h1 := h.1
    rw [hready] at h1
    rw [h1] at hj
    cases hj
  | succ fuel ih =>
    intro listed a w hs hn hdn hC h
    refine ⟨fun h0 => ?_, fun i hi => ?_⟩
    · obtain ⟨j, hj⟩ := ready_some (ops := ops) (by omega) hback n (by omega) hn
      rw [h0] at hj
      cases hj
    · have h1 := h.2 i (by rw [hready]; exact hi)
      by_cases hin : i = n
      · subst hin
        -- all others are through
        obtain ⟨_, x, hx, hw⟩ := mem_ready.1 hi
        obtain rfl : x = o := Option.some.inj (hx.symm.trans ho)
        have hall3 : ∀ d j, j < i → i - j ≤ d → listed.getD j false = true := by
          intro d
          induction d with
          | zero => intro j hj hd; omega
          | succ d ihd =>
            intro j hj hd
            obtain ⟨j', y, h1, h2, h3, e, he, hb, rfl⟩ := hall j hj
            by_cases hji : j' = i
            · subst hji
              obtain rfl : y = x := Option.some.inj (h3.symm.trans ho)
              exact hw e he hb
            · exact hdn j' y (ihd j' (by omega) (by omega)) h3 e he hb
        have hall2 : ∀ j, j < i → listed.getD j false = true := fun j hj => hall3 (i - j) j hj (Nat.le_refl _)
        have hnone : Region.ready .any ops (listed.setIfInBounds i true) = [] := by
          refine List.eq_nil_iff_forall_not_mem.2 fun j hj => ?_
          obtain ⟨hj1, y, hy1, _⟩ := mem_ready.1 hj
          have hjl : j < ops.size := (Array.getElem?_eq_some_iff.1 hy1).1
          by_cases hji : j = i
          · subst hji
            simp [hs] at hj1
          · rw [getD_set_ne true (Ne.symm hji)] at hj1
            have h2 := hall2 j (by omega)
            have hjs : j < listed.size := by omega
            simp [hjs] at hj1 h2
            rw [hj1] at h2
            cases h2
        have hQ2 : Q' a := by
          unfold qOp at h1
          rw [ho'] at h1
          simp only [Region.wanted, hg'] at h1
          obtain ⟨v, _, hK⟩ := h1
          rw [hd'] at hK
          have hK' : wpAnyQ P .any ops' C Q' fuel (listed.setIfInBounds i true) a := hK
          cases fuel with
          | zero => exact hK'.2
          | succ f => exact hK'.1 (by rw [hready]; exact hnone)
        refine wpOp_mono (fun a' w' hq => ?_) (hQ a w hC hQ2)
        cases fuel with
        | zero => exact ⟨hnone, hq⟩
        | succ f => exact ⟨fun _ => hq, fun j hj => by rw [hnone] at hj; cases hj⟩
      · have h2 : wpOp P ops' Q i (wpAny P .any ops Q fuel (listed.setIfInBounds i true)) a w :=
          wpOp_of_qOp hC (fun a' w' hC' hK => ih (listed.setIfInBounds i true) a' w' (by simpa using hs) (by rw [getD_set_ne true hin]; exact hn) (down_set hs hdn hi) hC' hK) h1
        unfold wpOp at h2 ⊢
        rw [hsame i hin, hy] at h2
        exact h2

theorem tailB_spec {l : List Oper} {n : Nat} (h : tailB l n = true) : l.length = n + 1 ∧ (∀ (i : Nat) (x : Oper), l.toArray[i]? = some x → ∀ e ∈ x.after, e.on < i) ∧
    (∃ o, l[n]? = some o ∧ o.dst = none) ∧ ∀ i, i < n → ∃ j x, i < j ∧ j ≤ n ∧ l.toArray[j]? = some x ∧ ∃ e ∈ x.after, Region.binds .any e = true ∧ e.on = i := by
  unfold tailB at h
  simp only [Bool.and_eq_true, decide_eq_true_eq] at h
  obtain ⟨⟨⟨h1, h2⟩, h3⟩, h4⟩ := h
  refine ⟨h1, fun i x hx e he => ?_, ?_, fun i hi => ?_⟩
  · have hx' : l[i]? = some x := by simpa using hx
    have hi : i < n + 1 := by have := (List.getElem?_eq_some_iff.1 hx').1; omega
    have := List.all_eq_true.1 h2 i (List.mem_range.2 hi)
    rw [hx'] at this
    simp only at this
    have k := Array.all_eq_true'.1 this e he
    simpa using k
  · cases ho : l[n]? with
    | none => rw [ho] at h3; cases h3
    | some o =>
      rw [ho] at h3
      simp only [Option.isNone_iff_eq_none] at h3
      exact ⟨o, rfl, h3⟩
  · have := List.all_eq_true.1 h4 i (List.mem_range.2 hi)
    obtain ⟨j, hj, hb⟩ := List.any_eq_true.1 this
    simp only [Bool.and_eq_true, decide_eq_true_eq] at hb
    obtain ⟨hb1, hb2⟩ := hb
    cases hx : l[j]? with
    | none => rw [hx] at hb2; cases hb2
    | some x =>
      rw [hx] at hb2
      simp only at hb2
      obtain ⟨e, he, hb⟩ := Array.any_eq_true'.1 hb2
      simp only [Bool.and_eq_true, beq_iff_eq] at hb
      exact ⟨j, x, hb1, by have := List.mem_range.1 hj; omega, by simpa using hx, e, he, hb.1, hb.2⟩

/-- **A region that draws its order: all reads and calls that make new memory at most, then one store.** -/
theorem wp_region_tail {P : Program} {id : Nat} {Q : Exit → Act → World → Prop} {a : Act} {X : World} {l : List Oper} (n : Nat) (hm : P.follows .mixedOrders = true) (hT : tailB l n = true) (hB : Region.lexB .any (stillAt l n).toArray = true)
    (h : wpQuiet P (stillAt l n).toArray (fun w' => ∃ g : Grow X, w' = g.w) (fun a' => ∀ w', (∃ g : Grow X, w' = g.w) → wpList P l.toArray Q (l.drop n) a' w') (stillAt l n) a) : (Code.region id l.toArray true).wp P Q a X := by
  obtain ⟨hlen, hback, ⟨o, ho, hd⟩, hall⟩ := tailB_spec hT
  simp only [Region.lexB, Bool.and_eq_true] at hB
  have hdrop : l.drop n = [o] := by
    rw [List.drop_eq_getElem_cons (by omega), (List.getElem?_eq_some_iff.1 ho).2, List.drop_eq_nil_of_le (by omega)]
  rw [hdrop] at h
  have hsl : (stillAt l n).length = n + 1 := by unfold stillAt; simp [hlen]
  have hq := wpAnyQ_lex (P := P) (C := fun w' => ∃ g : Grow X, w' = g.w) (md := .any) hB.1 (stillAt l n) 0 (Array.replicate (stillAt l n).toArray.size false) a (by simp) (by simpa using hB.2) h
  refine wp_region_any hm ?_
  have hrun := wpAny_tail (P := P) (ops := l.toArray) (ops' := (stillAt l n).toArray) (C := fun w' => ∃ g : Grow X, w' = g.w) (Q := Q) (n := n) (o := o) (o' := stillOp o) (by simp [hlen]) (by simpa using ho)
    (by unfold stillAt; rw [ho]; simp [hlen]) (fun i hi => by unfold stillAt; simp [List.getElem?_set_ne (Ne.symm hi)]) rfl hd rfl rfl hback hall
    (fun a w hC hq => by
      have := hq w hC
      unfold wpOp
      rw [show l.toArray[n]? = some o from by simpa using ho]
      exact this)
    (stillAt l n).length (Array.replicate (stillAt l n).toArray.size false) a X.drew (by simp [hsl]) (by simp [hsl]) (fun j x hj => by exfalso; revert hj; simp [Array.getD]) ⟨⟨X.drew, (Below.refl _ _).drew⟩, rfl⟩ hq
  rw [hsl] at hrun
  simpa [hlen, hsl] using hrun
end Go.Proofs.Ytabgplniaiehpab

/- Over whatever program: all blocks below n but one are as they were. -/
namespace Go.Proofs.Ytabgplniaiehpab
open Go.RowKit
set_option linter.unusedVariables false

/-- All blocks below n but K are as they were. -/
structure But (n K : Nat) (w w' : World) : Prop where
  os : w'.os = w.os
  tape : w'.tape = w.tape
  output : w'.output = w.output
  size : w.heap.size ≤ w'.heap.size
  block : ∀ k, k < n → k ≠ K → w'.heap[k]? = w.heap[k]?
theorem But.refl (n K : Nat) (w : World) : But n K w w := ⟨rfl, rfl, rfl, Nat.le_refl _, fun _ _ _ => rfl⟩
theorem Below.but {n : Nat} (K : Nat) {w w' : World} (h : Below n w w') : But n K w w' := ⟨h.os, h.tape, h.output, h.size, fun k hk _ => h.block k hk⟩
theorem But.trans {n K : Nat} {a b c : World} (h : But n K a b) (k : But n K b c) : But n K a c :=
  ⟨k.os.trans h.os, k.tape.trans h.tape, k.output.trans h.output, Nat.le_trans h.size k.size, fun i hi hn => (k.block i hi hn).trans (h.block i hi hn)⟩
theorem But.mono {n m K : Nat} {w w' : World} (h : But n K w w') (hm : m ≤ n) : But m K w w' := ⟨h.os, h.tape, h.output, h.size, fun k hk hn => h.block k (Nat.lt_of_lt_of_le hk hm) hn⟩
theorem But.step {n K : Nat} {a b c : World} (h : But n K a b) (k : But b.heap.size K b c) (hn : n ≤ a.heap.size) : But n K a c := h.trans (k.mono (Nat.le_trans hn h.size))
theorem But.below {n K : Nat} {w w' : World} (h : But n K w w') (hK : n ≤ K) : Below n w w' := ⟨h.os, h.tape, h.output, h.size, fun k hk => h.block k hk (by omega)⟩
theorem But.alloc {n K : Nat} {a b : World} (h : But n K a b) (hn : n ≤ a.heap.size) (o : Obj) : But n K a (b.alloc o) :=
  h.trans (Below.but K (((Below.refl _ _).alloc (Nat.le_refl _) o).mono (Nat.le_trans hn h.size)))
theorem But.set {n K : Nat} {a b : World} (h : But n K a b) (o : Nat) (u : Value) : But n K a (b.setCell ⟨K, o, none⟩ u) :=
  ⟨h.os, h.tape, h.output, by show _ ≤ (b.heap.modify _ _).size; rw [Array.size_modify]; exact h.size, fun k hk hn => (Below.heap_setCell b ⟨K, o, none⟩ u k hn).trans (h.block k hk hn)⟩
theorem But.drew {n K : Nat} {a b : World} (h : But n K a b) : But n K a b.drew := ⟨h.os, h.tape, h.output, h.size, h.block⟩
theorem But.grown {K : Nat} {w w' : World} (h : But w.heap.size K w w') : w.grownBy w' (some K) := ⟨h.os, h.tape, h.output, h.size, fun k hk hn => h.block k hk (fun e => hn (by rw [e]))⟩
theorem But.cell {n K b o : Nat} {w w' : World} (h : But n K w w') (hb : b < n) (hn : b ≠ K) : w'.cell? ⟨b, o, none⟩ = w.cell? ⟨b, o, none⟩ := World.cell?_of_block (w := w) (h.block b hb hn)
theorem Blk.but {n K B : Nat} {w w' : World} {t : TypeId} {cs : Array Value} (h : Blk w B t cs) (hb : But n K w w') (hB : B < n) (hn : B ≠ K) : Blk w' B t cs := (hb.block B hB hn).trans h
/-- Grown out of K's world by an append onto a row of one's own. -/
theorem But.append {n K base : Nat} {a w w1 : World} {ty size k : Nat} {v : Value} {xs : List Value} (hB : But n K a w) (hn : n ≤ w.heap.size) (hb : n ≤ base) (hown : w.ownsRow base ty size v k xs) (hg : w.grownBy w1 v.ownBlock) : But n K a w1 :=
  ⟨hg.os.trans hB.os, hg.tape.trans hB.tape, hg.output.trans hB.output, Nat.le_trans hB.size hg.size, fun j hj hjk => (hg.block j (by omega) (fun e => by have := (hown.lt j e.symm).1; omega)).trans (hB.block j hj hjk)⟩
theorem Blk.append {base B : Nat} {w w1 : World} {ty size k : Nat} {v : Value} {xs : List Value} {t : TypeId} {cs : Array Value} (h : Blk w B t cs) (hB : B < base) (hown : w.ownsRow base ty size v k xs) (hg : w.grownBy w1 v.ownBlock) : Blk w1 B t cs :=
  h.kept hg (fun ej => by have := (hown.lt B ej.symm).1; omega)
theorem grownBy_set (W : World) (K o : Nat) (u : Value) : W.grownBy (W.setCell ⟨K, o, none⟩ u) (some K) := ((But.refl W.heap.size K W).set o u).grown
end Go.Proofs.Ytabgplniaiehpab

/- Lists of integers, by place. -/
namespace Go.Proofs.Ytabgplniaiehpab
set_option linter.unusedVariables false

def lAt (L : List Int) (i : Nat) : Int := L.getD i 0
theorem lAt_eq {L : List Int} {i : Nat} (h : i < L.length) : lAt L i = L[i] := by
  unfold lAt; rw [List.getD_eq_getElem?_getD, List.getElem?_eq_getElem h]; rfl
theorem lAt_mem {L : List Int} {i : Nat} (h : i < L.length) : lAt L i ∈ L := by rw [lAt_eq h]; exact List.getElem_mem h
theorem lAt_some {L : List Int} {i : Nat} (h : i < L.length) : L[i]? = some (lAt L i) := by rw [lAt_eq h]; exact List.getElem?_eq_getElem h
theorem lAt_out {L : List Int} {i : Nat} (h : L.length ≤ i) : lAt L i = 0 := by
  unfold lAt; rw [List.getD_eq_getElem?_getD, List.getElem?_eq_none h]; rfl
theorem ltake_snoc {L : List Int} {i : Nat} (h : i < L.length) : L.take (i + 1) = L.take i ++ [lAt L i] := by
  rw [lAt_eq h, List.take_add_one, List.getElem?_eq_getElem h]; rfl
theorem list_ext {L M : List Int} (hl : L.length = M.length) (h : ∀ i, i < L.length → lAt L i = lAt M i) : L = M := by
  apply List.ext_getElem hl
  intro i h1 h2
  have := h i h1
  rwa [lAt_eq h1, lAt_eq h2] at this
end Go.Proofs.Ytabgplniaiehpab
