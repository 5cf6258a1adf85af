/- Lemmas. -/
import Derived.RangeFuncNested
import Derived.RangeFuncBound
import Derived.RangeFuncCalls
import Derived.RangeFuncLeaves
import Derived.Shelf.Abstract
import Derived.Shelf.RegionOpen
import Derived.WalkKit
import Derived.WalkSpells
import Derived.WalkLawsBesides
import Derived.OwnWalkIn
import Derived.TacticsInMore
import Derived.LoopNIn
import Derived.LoopIn
import Derived.Below
import Derived.Deep.QuietTactic
import Derived.BigQuiet
import Derived.Outline
import Derived.ProofKit
import Derived.Maps.AppendAt
import Derived.Laws.Rows
import Derived.RangeFuncFrom
import Derived.Maps.OwnSet
import Derived.Maps.Views
import Derived.Maps.Keyed
import Derived.WideKeyPair
set_option maxRecDepth 100000
set_option maxHeartbeats 64000000
namespace Go.Proofs.YtlmdjghcmofdlaaGreat
open Go.RowKit
theorem ret_of {a b : Value} (h : a = b) : Ending.returned a = .returned b := by rw [h]
theorem bcell {W w1 : World} (hb : Below W.heap.size W w1) : (∀ b o, b < W.heap.size → w1.cell? ⟨b, o, none⟩ = W.cell? ⟨b, o, none⟩) ∧ (∀ b o, b < W.heap.size → w1.frozen? ⟨b, o, none⟩ = W.frozen? ⟨b, o, none⟩) :=
  ⟨fun b o h => hb.cell (p := ⟨b, o, none⟩) h, fun b o h => hb.frozen (p := ⟨b, o, none⟩) h⟩
theorem below_grown {W W' : World} (h : Below W.heap.size W W') : W.grownBy W' none := ⟨h.os, h.tape, h.output, h.size, fun k hk _ => h.block k hk⟩
theorem below_step {n : Nat} {a b c : World} (h : Below n a b) (k : Below b.heap.size b c) (hn : n ≤ a.heap.size) : Below n a c := h.trans (k.mono (Nat.le_trans hn h.size))
theorem below_new {n : Nat} {a b : World} (h : Below n a b) (hn : n ≤ a.heap.size) (o : Obj) : Below n a (b.alloc o) := h.alloc (Nat.le_trans hn h.size) o
def Blk (W : World) (B : Nat) (t : TypeId) (cs : Array Value) : Prop := W.heap[B]? = some (.cells cs t (0, 0))
theorem Blk.lt {W : World} {B : Nat} {t : TypeId} {cs : Array Value} (h : Blk W B t cs) : B < W.heap.size := (Array.getElem?_eq_some_iff.1 h).1
theorem Blk.new (W : World) (t : TypeId) (cs : Array Value) : Blk (W.alloc (.cells cs t)) W.heap.size t cs := World.alloc_heap_new W _
theorem Blk.kept {W W' : World} {row : Option Nat} {B : Nat} {t : TypeId} {cs : Array Value} (h : Blk W B t cs) (hg : W.grownBy W' row) (hne : some B ≠ row) : Blk W' B t cs := (hg.block B h.lt hne).trans h
theorem Blk.below {W W' : World} {B : Nat} {t : TypeId} {cs : Array Value} (h : Blk W B t cs) (hb : Below W.heap.size W W') : Blk W' B t cs := (hb.block B h.lt).trans h
theorem Blk.alloc {W : World} {B : Nat} {t : TypeId} {cs : Array Value} (h : Blk W B t cs) (o : Obj) : Blk (W.alloc o) B t cs := h.kept (World.grownBy_alloc W o none) (by simp)
theorem blk_own {β : Type} (B : Nat) (t : TypeId) (f : β → Array Value) : Own (fun s W => Blk W B t (f s)) := fun s X Y row hs hg hrow =>
  hs.kept hg (fun e' => by obtain ⟨o, ho, hc⟩ := hrow B e'.symm; rw [show X.heap[B]? = _ from hs] at ho; cases ho; cases hc)
theorem Blk.cell1 {W : World} {B : Nat} {t : TypeId} {a : Value} (h : Blk W B t #[a]) : W.cell? ⟨B, 0, none⟩ = some a := by simp [World.cell?, show W.heap[B]? = _ from h]
theorem Blk.cells2 {W : World} {B : Nat} {t : TypeId} {a b : Value} (h : Blk W B t #[a, b]) : W.cell? ⟨B, 0, none⟩ = some a ∧ W.cell? ⟨B, 1, none⟩ = some b := by
  constructor <;> simp [World.cell?, show W.heap[B]? = _ from h]
theorem Blk.frozen {W : World} {B : Nat} {t : TypeId} {cs : Array Value} (h : Blk W B t cs) (o : Nat) : W.frozen? ⟨B, o, none⟩ = false := by simp [World.frozen?, show W.heap[B]? = _ from h]
theorem cell_lt {W : World} {b o : Nat} {v : Value} (h : W.cell? ⟨b, o, none⟩ = some v) : b < W.heap.size := by
  rcases Nat.lt_or_ge b W.heap.size with h1 | h1
  · exact h1
  · simp [World.cell?, Array.getElem?_eq_none h1] at h
theorem cell_other {W : World} {b o b' o' : Nat} {v : Value} (h : b ≠ b') : (W.setCell ⟨b', o', none⟩ v).cell? ⟨b, o, none⟩ = W.cell? ⟨b, o, none⟩ :=
  World.cell?_of_block (w := W) (Below.heap_setCell _ _ _ b h)
theorem Blk.at {W : World} {B : Nat} {t : TypeId} {cs : Array Value} (h : Blk W B t cs) {j : Nat} {v : Value} (hj : cs[j]? = some v) : W.cell? ⟨B, j, none⟩ = some v := by
  simp [World.cell?, show W.heap[B]? = _ from h, hj]
theorem Blk.setAt {W : World} {B : Nat} {t : TypeId} {cs : Array Value} (h : Blk W B t cs) (j : Nat) (v : Value) : Blk (W.setCell ⟨B, j, none⟩ v) B t (cs.setIfInBounds j v) := by
  obtain ⟨hlt, hk⟩ := Array.getElem?_eq_some_iff.1 h
  show (W.heap.modify B _)[B]? = _
  rw [Array.getElem?_eq_getElem (by rw [Array.size_modify]; exact hlt), Array.getElem_modify_self, hk]
  rfl
theorem add_eq (b o j : Nat) : (⟨b, o, none⟩ : Addr).add j = ⟨b, o + j, none⟩ := by unfold Addr.add; split <;> simp_all
structure Grow (X : World) where
  w : World
  h : Below X.heap.size X w
theorem Grow.ne (X : World) : Nonempty (Grow X) := ⟨⟨X, Below.refl _ _⟩⟩
theorem Grow.cell {X : World} {B : Nat} {o : Nat} {v : Value} (hB : B < X.heap.size) (hc : X.cell? ⟨B, o, none⟩ = some v) (g : Grow X) : g.w.cell? ⟨B, o, none⟩ = some v := (g.h.cell (p := ⟨B, o, none⟩) hB).trans hc
theorem wp_region_grow {P : Program} {id : Nat} {Q : Exit → Act → World → Prop} {a : Act} {X : World} {l : List Oper} (hm : P.follows .mixedOrders = true) (hB : Region.lexB .any l.toArray = true)
    (h : wpQuiet P l.toArray (fun w' => ∃ g : Grow X, w' = g.w) (fun a' => ∀ w', (∃ g : Grow X, w' = g.w) → Q .normal a' w') l a) : (Code.region id l.toArray true).wp P Q a X :=
  wp_region_quiet (C := fun w' => ∃ g : Grow X, w' = g.w) hm hB ⟨⟨X.drew, (Below.refl _ _).drew⟩, rfl⟩ (by simpa using h)
theorem grow_call {P : Program} {f : FuncId} {args : Array Value} {X : World} {g : Grow X} {v : Value} (h : Calls P f args g.w fun e w' => e = .returned v ∧ Below g.w.heap.size g.w w') :
    Calls P f args g.w fun e w'' => e = .returned v ∧ ∃ g' : Grow X, w'' = g'.w :=
  h.mono fun _ w' ⟨he, hb⟩ => ⟨he, ⟨w', below_step g.h hb (Nat.le_refl _)⟩, rfl⟩
def AllOf (l xs : List Int) : Prop := xs = l
def PartOf (l pre : List Int) : Prop := pre <+: l
theorem mkH {p : Prop} (h : p) : Hid p := h
end Go.Proofs.YtlmdjghcmofdlaaGreat
/- Over whatever program: a region that draws its order, all of whose operations read or call what makes new memory at most, but for the last one (a store), which waits for all others: one walk of the text's order, then that operation. -/
namespace Go.Proofs.YtlmdjghcmofdlaaGreat
open Go.RowKit
set_option linter.unusedVariables false
def tailB (l : List Oper) (n : Nat) : Bool :=
  decide (l.length = n + 1) && (List.range (n + 1)).all (fun i => match l[i]? with | some o => o.after.all (fun e => decide (e.on < i)) | none => false) &&
    (match l[n]? with | some o => o.dst.isNone | none => false) &&
    (List.range n).all (fun i => (List.range (n + 1)).any (fun j => decide (i < j) && (match l[j]? with | some x => x.after.any (fun e => Region.binds .any e && e.on == i) | none => false)))
def stillOp (o : Oper) : Oper := { dst := none, op := .move (.const (.bool false)), type := o.type, pos := o.pos, after := o.after, guard := none }
def stillAt (l : List Oper) (n : Nat) : List Oper := l.set n (stillOp ((l[n]?).getD default))
theorem ready_some {ops : Array Oper} {listed : Array Bool} (hs : listed.size = ops.size) (hback : ∀ (i : Nat) (o : Oper), ops[i]? = some o → ∀ e ∈ o.after, e.on < i) :
    ∀ m, m < ops.size → listed.getD m true = false → ∃ j, j ∈ Region.ready .any ops listed := by
  intro m
  induction m using Nat.strongRecOn with
  | _ m ih =>
    intro hm hl
    obtain ⟨o, ho⟩ : ∃ o, ops[m]? = some o := ⟨ops[m], Array.getElem?_eq_getElem hm⟩
    by_cases hall : ∀ e ∈ o.after, Region.binds .any e = true → listed.getD e.on false = true
    · exact ⟨m, mem_ready.2 ⟨hl, o, ho, hall⟩⟩
    · obtain ⟨e, he⟩ := Classical.not_forall.1 hall
      obtain ⟨he1, he2⟩ := Classical.not_imp.1 he
      obtain ⟨_, he3⟩ := Classical.not_imp.1 he2
      have hlt := hback m o ho e he1
      refine ih e.on hlt (by omega) ?_
      have hin : e.on < listed.size := by omega
      simp [hin] at he3 ⊢
      exact he3
theorem getD_up {listed : Array Bool} {i j : Nat} (h : listed.getD j false = true) : (listed.setIfInBounds i true).getD j false = true := by
  by_cases hji : j = i
  · subst hji
    have : j < listed.size := by
      rcases Nat.lt_or_ge j listed.size with h1 | h1
      · exact h1
      · simp [Array.getD, Nat.not_lt.2 h1] at h
    simp [this]
  · rw [getD_set_ne false (Ne.symm hji)]; exact h
theorem down_set {ops : Array Oper} {listed : Array Bool} {n i : Nat} (hs : listed.size = n + 1) (hdn : ∀ (j : Nat) (x : Oper), listed.getD j false = true → ops[j]? = some x → ∀ e ∈ x.after, Region.binds .any e = true → listed.getD e.on false = true)
    (hi : i ∈ Region.ready .any ops listed) : ∀ (j : Nat) (x : Oper), (listed.setIfInBounds i true).getD j false = true → ops[j]? = some x → ∀ e ∈ x.after, Region.binds .any e = true → (listed.setIfInBounds i true).getD e.on false = true := by
  intro j x hj hx e he hb
  by_cases hji : j = i
  · subst hji
    obtain ⟨_, y, hy, hw⟩ := mem_ready.1 hi
    obtain rfl : y = x := Option.some.inj (hy.symm.trans hx)
    exact getD_up (hw e he hb)
  · rw [getD_set_ne false (Ne.symm hji)] at hj
    exact getD_up (hdn j x hj hx e he hb)
theorem wpAny_tail {P : Program} {ops ops' : Array Oper} {C : World → Prop} {Q : Exit → Act → World → Prop} {Q' : Act → Prop} {n : Nat} {o o' : Oper}
    (hsz : ops.size = n + 1) (ho : ops[n]? = some o) (ho' : ops'[n]? = some o') (hsame : ∀ i, i ≠ n → ops'[i]? = ops[i]?) (haft : o'.after = o.after) (hd : o.dst = none) (hd' : o'.dst = none) (hg' : o'.guard = none)
    (hback : ∀ (i : Nat) (x : Oper), ops[i]? = some x → ∀ e ∈ x.after, e.on < i) (hall : ∀ i, i < n → ∃ j x, i < j ∧ j ≤ n ∧ ops[j]? = some x ∧ ∃ e ∈ x.after, Region.binds .any e = true ∧ e.on = i)
    (hQ : ∀ a w, C w → Q' a → wpOp P ops Q n (Q .normal) a w) :
    ∀ (fuel : Nat) (listed : Array Bool) (a : Act) (w : World), listed.size = n + 1 → listed.getD n true = false → (∀ (j : Nat) (x : Oper), listed.getD j false = true → ops[j]? = some x → ∀ e ∈ x.after, Region.binds .any e = true → listed.getD e.on false = true) → C w → wpAnyQ P .any ops' C Q' fuel listed a → wpAny P .any ops Q fuel listed a w := by
  have hy : ∀ t, yielded ops' t = yielded ops t := fun t => by
    funext j
    unfold yielded
    by_cases hj : j = n
    · subst hj; rw [ho, ho']; simp [hd, hd']
    · rw [hsame j hj]
  have hready : ∀ listed, Region.ready .any ops' listed = Region.ready .any ops listed := fun listed => by
    have hsz' : ops'.size = ops.size := by
      have h1 : n < ops'.size := (Array.getElem?_eq_some_iff.1 ho').1
      have h2 := hsame (n + 1) (by omega)
      rw [Array.getElem?_eq_none (by omega : ops.size ≤ n + 1)] at h2
      have := Array.getElem?_eq_none_iff.1 h2
      omega
    unfold Region.ready
    rw [hsz']
    refine List.filter_congr fun i _ => ?_
    by_cases hi : i = n
    · subst hi; rw [ho, ho']; simp [haft]
    · rw [hsame i hi]
  intro fuel
  induction fuel with
  | zero =>
    intro listed a w hs hn hdn hC h
    obtain ⟨j, hj⟩ := ready_some (ops := ops) (by omega) hback n (by omega) hn
    have h1 := h.1
    rw [hready] at h1
    rw [h1] at hj
    cases hj
  | succ fuel ih =>
    intro listed a w hs hn hdn hC h
    refine ⟨fun h0 => ?_, fun i hi => ?_⟩
    · obtain ⟨j, hj⟩ := ready_some (ops := ops) (by omega) hback n (by omega) hn
      rw [h0] at hj
      cases hj
    · have h1 := h.2 i (by rw [hready]; exact hi)
      by_cases hin : i = n
      · subst hin
        obtain ⟨_, x, hx, hw⟩ := mem_ready.1 hi
        obtain rfl : x = o := Option.some.inj (hx.symm.trans ho)
        have hall3 : ∀ d j, j < i → i - j ≤ d → listed.getD j false = true := by
          intro d
          induction d with
          | zero => intro j hj hd; omega
          | succ d ihd =>
            intro j hj hd
            obtain ⟨j', y, h1, h2, h3, e, he, hb, rfl⟩ := hall j hj
            by_cases hji : j' = i
            · subst hji
              obtain rfl : y = x := Option.some.inj (h3.symm.trans ho)
              exact hw e he hb
            · exact hdn j' y (ihd j' (by omega) (by omega)) h3 e he hb
        have hall2 : ∀ j, j < i → listed.getD j false = true := fun j hj => hall3 (i - j) j hj (Nat.le_refl _)
        have hnone : Region.ready .any ops (listed.setIfInBounds i true) = [] := by
          refine List.eq_nil_iff_forall_not_mem.2 fun j hj => ?_
          obtain ⟨hj1, y, hy1, _⟩ := mem_ready.1 hj
          have hjl : j < ops.size := (Array.getElem?_eq_some_iff.1 hy1).1
          by_cases hji : j = i
          · subst hji
            simp [hs] at hj1
          · rw [getD_set_ne true (Ne.symm hji)] at hj1
            have h2 := hall2 j (by omega)
            have hjs : j < listed.size := by omega
            simp [hjs] at hj1 h2
            rw [hj1] at h2
            cases h2
        have hQ2 : Q' a := by
          unfold qOp at h1
          rw [ho'] at h1
          simp only [Region.wanted, hg'] at h1
          obtain ⟨v, _, hK⟩ := h1
          rw [hd'] at hK
          have hK' : wpAnyQ P .any ops' C Q' fuel (listed.setIfInBounds i true) a := hK
          cases fuel with
          | zero => exact hK'.2
          | succ f => exact hK'.1 (by rw [hready]; exact hnone)
        refine wpOp_mono (fun a' w' hq => ?_) (hQ a w hC hQ2)
        cases fuel with
        | zero => exact ⟨hnone, hq⟩
        | succ f => exact ⟨fun _ => hq, fun j hj => by rw [hnone] at hj; cases hj⟩
      · have h2 : wpOp P ops' Q i (wpAny P .any ops Q fuel (listed.setIfInBounds i true)) a w :=
          wpOp_of_qOp hC (fun a' w' hC' hK => ih (listed.setIfInBounds i true) a' w' (by simpa using hs) (by rw [getD_set_ne true hin]; exact hn) (down_set hs hdn hi) hC' hK) h1
        unfold wpOp at h2 ⊢
        rw [hsame i hin, hy] at h2
        exact h2
theorem tailB_spec {l : List Oper} {n : Nat} (h : tailB l n = true) : l.length = n + 1 ∧ (∀ (i : Nat) (x : Oper), l.toArray[i]? = some x → ∀ e ∈ x.after, e.on < i) ∧
    (∃ o, l[n]? = some o ∧ o.dst = none) ∧ ∀ i, i < n → ∃ j x, i < j ∧ j ≤ n ∧ l.toArray[j]? = some x ∧ ∃ e ∈ x.after, Region.binds .any e = true ∧ e.on = i := by
  unfold tailB at h
  simp only [Bool.and_eq_true, decide_eq_true_eq] at h
  obtain ⟨⟨⟨h1, h2⟩, h3⟩, h4⟩ := h
  refine ⟨h1, fun i x hx e he => ?_, ?_, fun i hi => ?_⟩
  · have hx' : l[i]? = some x := by simpa using hx
    have hi : i < n + 1 := by have := (List.getElem?_eq_some_iff.1 hx').1; omega
    have := List.all_eq_true.1 h2 i (List.mem_range.2 hi)
    rw [hx'] at this
    simp only at this
    have k := Array.all_eq_true'.1 this e he
    simpa using k
  · cases ho : l[n]? with
    | none => rw [ho] at h3; cases h3
    | some o =>
      rw [ho] at h3
      simp only [Option.isNone_iff_eq_none] at h3
      exact ⟨o, rfl, h3⟩
  · have := List.all_eq_true.1 h4 i (List.mem_range.2 hi)
    obtain ⟨j, hj, hb⟩ := List.any_eq_true.1 this
    simp only [Bool.and_eq_true, decide_eq_true_eq] at hb
    obtain ⟨hb1, hb2⟩ := hb
    cases hx : l[j]? with
    | none => rw [hx] at hb2; cases hb2
    | some x =>
      rw [hx] at hb2
      simp only at hb2
      obtain ⟨e, he, hb⟩ := Array.any_eq_true'.1 hb2
      simp only [Bool.and_eq_true, beq_iff_eq] at hb
      exact ⟨j, x, hb1, by have := List.mem_range.1 hj; omega, by simpa using hx, e, he, hb.1, hb.2⟩
theorem wp_region_tail {P : Program} {id : Nat} {Q : Exit → Act → World → Prop} {a : Act} {X : World} {l : List Oper} (n : Nat) (hm : P.follows .mixedOrders = true) (hT : tailB l n = true) (hB : Region.lexB .any (stillAt l n).toArray = true)
    (h : wpQuiet P (stillAt l n).toArray (fun w' => ∃ g : Grow X, w' = g.w) (fun a' => ∀ w', (∃ g : Grow X, w' = g.w) → wpList P l.toArray Q (l.drop n) a' w') (stillAt l n) a) : (Code.region id l.toArray true).wp P Q a X := by
  obtain ⟨hlen, hback, ⟨o, ho, hd⟩, hall⟩ := tailB_spec hT
  simp only [Region.lexB, Bool.and_eq_true] at hB
  have hdrop : l.drop n = [o] := by
    rw [List.drop_eq_getElem_cons (by omega), (List.getElem?_eq_some_iff.1 ho).2, List.drop_eq_nil_of_le (by omega)]
  rw [hdrop] at h
  have hsl : (stillAt l n).length = n + 1 := by unfold stillAt; simp [hlen]
  have hq := wpAnyQ_lex (P := P) (C := fun w' => ∃ g : Grow X, w' = g.w) (md := .any) hB.1 (stillAt l n) 0 (Array.replicate (stillAt l n).toArray.size false) a (by simp) (by simpa using hB.2) h
  refine wp_region_any hm ?_
  have hrun := wpAny_tail (P := P) (ops := l.toArray) (ops' := (stillAt l n).toArray) (C := fun w' => ∃ g : Grow X, w' = g.w) (Q := Q) (n := n) (o := o) (o' := stillOp o) (by simp [hlen]) (by simpa using ho)
    (by unfold stillAt; rw [ho]; simp [hlen]) (fun i hi => by unfold stillAt; simp [List.getElem?_set_ne (Ne.symm hi)]) rfl hd rfl rfl hback hall
    (fun a w hC hq => by
      have := hq w hC
      unfold wpOp
      rw [show l.toArray[n]? = some o from by simpa using ho]
      exact this)
    (stillAt l n).length (Array.replicate (stillAt l n).toArray.size false) a X.drew (by simp [hsl]) (by simp [hsl]) (fun j x hj => by exfalso; revert hj; simp [Array.getD]) ⟨⟨X.drew, (Below.refl _ _).drew⟩, rfl⟩ hq
  rw [hsl] at hrun
  simpa [hlen, hsl] using hrun
end Go.Proofs.YtlmdjghcmofdlaaGreat
/- Over whatever program: all blocks below n but one are as they were. -/
namespace Go.Proofs.YtlmdjghcmofdlaaGreat
open Go.RowKit
set_option linter.unusedVariables false
structure But (n K : Nat) (w w' : World) : Prop where
  os : w'.os = w.os
  tape : w'.tape = w.tape
  output : w'.output = w.output
  size : w.heap.size ≤ w'.heap.size
  block : ∀ k, k < n → k ≠ K → w'.heap[k]? = w.heap[k]?
theorem But.refl (n K : Nat) (w : World) : But n K w w := ⟨rfl, rfl, rfl, Nat.le_refl _, fun _ _ _ => rfl⟩
theorem But.set {n K : Nat} {a b : World} (h : But n K a b) (o : Nat) (u : Value) : But n K a (b.setCell ⟨K, o, none⟩ u) :=
  ⟨h.os, h.tape, h.output, by show _ ≤ (b.heap.modify _ _).size; rw [Array.size_modify]; exact h.size, fun k hk hn => (Below.heap_setCell b ⟨K, o, none⟩ u k hn).trans (h.block k hk hn)⟩
theorem But.cell {n K b o : Nat} {w w' : World} (h : But n K w w') (hb : b < n) (hn : b ≠ K) : w'.cell? ⟨b, o, none⟩ = w.cell? ⟨b, o, none⟩ := World.cell?_of_block (w := w) (h.block b hb hn)
end Go.Proofs.YtlmdjghcmofdlaaGreat
/- Lists of integers, by place. -/
namespace Go.Proofs.YtlmdjghcmofdlaaGreat
set_option linter.unusedVariables false
def lAt (L : List Int) (i : Nat) : Int := L.getD i 0
theorem lAt_eq {L : List Int} {i : Nat} (h : i < L.length) : lAt L i = L[i] := by
  unfold lAt; rw [List.getD_eq_getElem?_getD, List.getElem?_eq_getElem h]; rfl
theorem lAt_mem {L : List Int} {i : Nat} (h : i < L.length) : lAt L i ∈ L := by rw [lAt_eq h]; exact List.getElem_mem h
theorem lAt_some {L : List Int} {i : Nat} (h : i < L.length) : L[i]? = some (lAt L i) := by rw [lAt_eq h]; exact List.getElem?_eq_getElem h
theorem lAt_out {L : List Int} {i : Nat} (h : L.length ≤ i) : lAt L i = 0 := by
  unfold lAt; rw [List.getD_eq_getElem?_getD, List.getElem?_eq_none h]; rfl
theorem ltake_snoc {L : List Int} {i : Nat} (h : i < L.length) : L.take (i + 1) = L.take i ++ [lAt L i] := by
  rw [lAt_eq h, List.take_add_one, List.getElem?_eq_getElem h]; rfl
end Go.Proofs.YtlmdjghcmofdlaaGreat
namespace Go.Proofs.YtlmdjghcmofdlaaGreat
open Go.RowKit
set_option linter.unusedVariables false
def RowW (w : World) (e : TypeId) (size : Nat) (v : Value) (n : Nat) (xs : List Value) : Prop :=
  xs.length = n * size ∧ ((v = .slice none 0 0 ∧ n = 0) ∨ ∃ g cap cur, v = .slice (some ⟨g, 0, none⟩) n cap ∧ Blk w g e cur ∧ n ≤ cap ∧ cap ≤ maxLen ∧ cap * size ≤ cur.size ∧ cur.toList.take (n * size) = xs)
section
variable {w w' : World} {e : TypeId} {size : Nat} {v : Value} {n : Nat} {xs : List Value}
theorem RowW.empty (w : World) (e : TypeId) (size : Nat) : RowW w e size (.slice none 0 0) 0 [] := ⟨by simp, .inl ⟨rfl, rfl⟩⟩
theorem RowW.form (h : RowW w e size v n xs) : ∃ ao cap, v = .slice ao n cap := by
  rcases h.2 with ⟨rfl, rfl⟩ | ⟨g, cap, cur, rfl, _⟩
  · exact ⟨_, _, rfl⟩
  · exact ⟨_, _, rfl⟩
theorem RowW.led (h : RowW w e size v n xs) (hn : 0 < n) : ∃ g cap, v = .slice (some ⟨g, 0, none⟩) n cap := by
  rcases h.2 with ⟨rfl, rfl⟩ | ⟨g, cap, cur, rfl, _⟩
  · omega
  · exact ⟨_, _, rfl⟩
theorem RowW.lt (h : RowW w e size v n xs) {k : Nat} (hk : v.ownBlock = some k) : k < w.heap.size := by
  rcases h.2 with ⟨rfl, _⟩ | ⟨g, cap, cur, rfl, hb, _⟩
  · cases hk
  · cases hk; exact hb.lt
theorem RowW.kept (h : RowW w e size v n xs) (hb : ∀ k, v.ownBlock = some k → w'.heap[k]? = w.heap[k]?) : RowW w' e size v n xs := by
  refine ⟨h.1, ?_⟩
  rcases h.2 with h1 | ⟨g, cap, cur, rfl, hg, rest⟩
  · exact .inl h1
  · exact .inr ⟨g, cap, cur, rfl, (hb g rfl).trans hg, rest⟩
theorem RowW.cell {g cap : Nat} (h : RowW w e size (.slice (some ⟨g, 0, none⟩) n cap) n xs) {j : Nat} {u : Value} (hj : xs[j]? = some u) : w.cell? ⟨g, j, none⟩ = some u := by
  rcases h.2 with ⟨h1, _⟩ | ⟨g', cap', cur, hv, hg, _, _, _, ht⟩
  · cases h1
  · cases hv
    refine hg.at ?_
    rw [← ht, List.getElem?_take] at hj
    split at hj
    · simpa using hj
    · cases hj
theorem RowW.frozen {g cap : Nat} (h : RowW w e size (.slice (some ⟨g, 0, none⟩) n cap) n xs) (j : Nat) : w.frozen? ⟨g, j, none⟩ = false := by
  rcases h.2 with ⟨h1, _⟩ | ⟨g', cap', cur, hv, hg, _⟩
  · cases h1
  · cases hv; exact hg.frozen j
theorem RowW.set {g cap : Nat} (h : RowW w e size (.slice (some ⟨g, 0, none⟩) n cap) n xs) {j : Nat} (hj : j < n * size) (u : Value) : RowW (w.setCell ⟨g, j, none⟩ u) e size (.slice (some ⟨g, 0, none⟩) n cap) n (xs.set j u) := by
  refine ⟨by rw [List.length_set]; exact h.1, ?_⟩
  rcases h.2 with ⟨h1, _⟩ | ⟨g', cap', cur, hv, hg, hn, hc, hs, ht⟩
  · cases h1
  · cases hv
    refine .inr ⟨g, cap, _, rfl, hg.setAt j u, hn, hc, by simpa using hs, ?_⟩
    rw [Array.toList_setIfInBounds, List.take_set, ht]
theorem RowW.cut {g cap : Nat} (h : RowW w e size (.slice (some ⟨g, 0, none⟩) n cap) n xs) {k : Nat} (hk : k ≤ n) : RowW w e size (.slice (some ⟨g, 0, none⟩) k cap) k (xs.take (k * size)) := by
  have hm : k * size ≤ n * size := Nat.mul_le_mul_right _ hk
  refine ⟨by rw [List.length_take, h.1]; omega, ?_⟩
  rcases h.2 with ⟨h1, _⟩ | ⟨g', cap', cur, hv, hg, hn, hc, hs, ht⟩
  · cases h1
  · cases hv
    exact .inr ⟨g, cap, cur, rfl, hg, by omega, hc, hs, by rw [← ht, List.take_take, Nat.min_eq_left hm]⟩
end
section
variable {P : Program} (w : World)
theorem run_append_row (t ty e : TypeId) (i : TypeInfo) (z : Value) (size bytes : Nat) (ht : P.underlying t = some (.slice e)) (hi : P.info? e = some i) (hz : i.zero = some z) (hsize : i.size = size) (hby : i.bytes = bytes) (hzs : z.cells.size = size)
    (v : Value) (n : Nat) (xs : List Value) (hown : RowW w e size v n xs) (ad : Addr) (m c : Nat) (news : List Value) (hl : news.length = m * size) (hnews : ∀ j u, news[j]? = some u → w.cell? (ad.add j) = some u) (h1 : ∀ u ∈ news, u.oneCell' = true)
    (hm : 0 < m) (h63 : n + m ≤ maxLen) (hbytes : (n + m) * bytes ≤ 140737488355328) :
    ∃ g cap w', (Builtin.append_ #[t, t] ty #[v, .slice (some ad) m c]).run P w = .ok (.slice (some ⟨g, 0, none⟩) (n + m) cap) w' ∧ RowW w' e size (.slice (some ⟨g, 0, none⟩) (n + m) cap) (n + m) (xs ++ news) ∧
      w.grownBy w' v.ownBlock ∧ (v.ownBlock = some g ∨ g = w.heap.size) ∧ g < w'.heap.size := by
  subst hsize hby
  have h63' : ((n + m : Nat) : Int) ≤ 9223372036854775807 := by simp only [maxLen] at h63; omega
  have hlen : (xs ++ news).length = (n + m) * i.size := by rw [List.length_append, hown.1, hl, Nat.add_mul]
  have made : ∀ old, RowW (w.drew.alloc (.cells (xs.toArray ++ news.toArray ++ Builtin.zeroCells z.cells (grownCap w (n + m) old e - (n + m))) e)) e i.size (.slice (some ⟨w.heap.size, 0, none⟩) (n + m) (grownCap w (n + m) old e)) (n + m) (xs ++ news) := by
    intro old
    have hge := grownCap_ge w (n + m) old e
    refine ⟨hlen, .inr ⟨_, _, _, rfl, Blk.new w.drew _ _, hge, grownCap_le_maxLen w (n + m) old e h63, ?_, ?_⟩⟩
    · simp only [Array.size_append, List.size_toArray, size_zeroCells, hzs, hown.1, hl, ← Nat.add_mul]
      exact Nat.mul_le_mul_right _ (by omega)
    · rw [← hlen]
      simp only [Array.toList_append]
      exact List.take_left
  have grows : ∀ (old : Nat) (row : Option Nat), w.grownBy (w.drew.alloc (.cells (xs.toArray ++ news.toArray ++ Builtin.zeroCells z.cells (grownCap w (n + m) old e - (n + m))) e)) row := fun old row => ⟨rfl, rfl, rfl, by simp, fun k hk _ => heap_alloc_old w.drew _ k hk⟩
  have lts : ∀ (old : Nat), w.heap.size < (w.drew.alloc (.cells (xs.toArray ++ news.toArray ++ Builtin.zeroCells z.cells (grownCap w (n + m) old e - (n + m))) e)).heap.size := fun old => by simp
  rcases hown.2 with ⟨rfl, rfl⟩ | ⟨g, cap, cur, rfl, hg, hnc, hcm, hcs, htake⟩
  · have hx : xs = [] := List.eq_nil_of_length_eq_zero (by simpa using hown.1)
    subst hx
    have hr := run_append_nil (P := P) w t ty e i z ht hi hz ad m c news hl hnews hm (by omega) (by simp at hbytes; omega)
    have h2 := made 0
    have h3 := grows 0
    have h4 := lts 0
    simp only [Nat.zero_add, List.nil_append, Array.empty_append] at h2 h3 h4 ⊢
    exact ⟨_, _, _, hr, h2, h3 _, .inr rfl, h4⟩
  · by_cases hroom : n + m ≤ cap
    · have hmul : (n + m) * i.size ≤ cap * i.size := Nat.mul_le_mul_right _ hroom
      have hfit : n * i.size + news.length ≤ cur.size := by rw [hl, ← Nat.add_mul]; omega
      have hr := run_append_room (P := P) w t ty e i ht hi g n cap cur hg ad m c news hl hnews h1 hroom hfit
      have hlt : g < w.heap.size := Blk.lt hg
      refine ⟨_, _, _, hr, ⟨hlen, .inr ⟨g, cap, _, rfl, setRow_heap w g cur _ e _ hg, hroom, hcm, ?_, ?_⟩⟩, ⟨rfl, rfl, rfl, by simp, fun k _ hk => setRow_other w g k _ (fun e => hk (by simp [Value.ownBlock, e]))⟩, .inl rfl, by simpa using hlt⟩
      · simp only [List.size_toArray, List.length_append, List.length_take, List.length_drop, Array.length_toList]
        omega
      · rw [htake, ← hlen]
        exact List.take_left
    · have hr := run_append_grow (P := P) w t ty e i z ht hi hz ⟨g, 0, none⟩ n cap xs hown.1 (fun j u hj => by rw [add_eq, Nat.zero_add]; exact RowW.cell hown hj) ad m c news hl hnews (by omega) h63' (growslice_fits (by omega) hbytes)
      exact ⟨_, _, _, hr, made cap, grows cap _, .inr rfl, lts cap⟩
theorem wpList_append_row {ops : Array Oper} {rest : List Oper} {o : Oper} {a : Act} {Q : Exit → Act → World → Prop} (hgd : o.guard = none) (s x : Operand) (t : TypeId) (ho : o.op = .call { callee := .builtin .append, args := #[s, x], argTypes := #[t, t] })
    (e : TypeId) (i : TypeInfo) (z : Value) (size bytes : Nat) (ht : P.underlying t = some (.slice e)) (hi : P.info? e = some i) (hz : i.zero = some z) (hsize : i.size = size) (hby : i.bytes = bytes) (hzs : z.cells.size = size)
    (v : Value) (n : Nat) (xs : List Value) (hs : a.eval s = v) (hown : RowW w e size v n xs) (ad : Addr) (m c : Nat) (news : List Value) (hx : a.eval x = .slice (some ad) m c) (hl : news.length = m * size) (hnews : ∀ j u, news[j]? = some u → w.cell? (ad.add j) = some u) (h1 : ∀ u ∈ news, u.oneCell' = true)
    (hm : 0 < m) (h63 : n + m ≤ maxLen) (hbytes : (n + m) * bytes ≤ 140737488355328)
    (h : ∀ g cap w', RowW w' e size (.slice (some ⟨g, 0, none⟩) (n + m) cap) (n + m) (xs ++ news) → w.grownBy w' v.ownBlock → (v.ownBlock = some g ∨ g = w.heap.size) → g < w'.heap.size → wpList P ops Q rest (a.put o.dst (.slice (some ⟨g, 0, none⟩) (n + m) cap)) w') : wpList P ops Q (o :: rest) a w :=
  wpList_plain hgd fun _ hK => by
    obtain ⟨g, cap, w', hr, h2, h3, h4, h5⟩ := run_append_row (P := P) w t o.type e i z size bytes ht hi hz hsize hby hzs v n xs hown ad m c news hl hnews h1 hm h63 hbytes
    unfold Oper.wp execOp
    simp only [ho, resolve, invoke, builtin, Sem.run_bind, Sem.run_pure, Result.andThen_ok, List.map_toArray, List.map_cons, List.map_nil, hs, hx, hr]
    exact hK _ _ (h g cap w' h2 h3 h4 h5)
theorem step_append_row {ops : Array Oper} {o : Oper} {a : Act} {K : Act → World → Prop} {Q : Exit → Act → World → Prop} {E : Prop} (hgd : o.guard = none) (s x : Operand) (t : TypeId) (ho : o.op = .call { callee := .builtin .append, args := #[s, x], argTypes := #[t, t] })
    (e : TypeId) (i : TypeInfo) (z : Value) (size bytes : Nat) (ht : P.underlying t = some (.slice e)) (hi : P.info? e = some i) (hz : i.zero = some z) (hsize : i.size = size) (hby : i.bytes = bytes) (hzs : z.cells.size = size)
    (v : Value) (n : Nat) (xs : List Value) (hs : a.eval s = v) (hown : RowW w e size v n xs) (ad : Addr) (m c : Nat) (news : List Value) (hx : a.eval x = .slice (some ad) m c) (hl : news.length = m * size) (hnews : ∀ j u, news[j]? = some u → w.cell? (ad.add j) = some u) (h1 : ∀ u ∈ news, u.oneCell' = true)
    (hm : 0 < m) (h63 : n + m ≤ maxLen) (hbytes : (n + m) * bytes ≤ 140737488355328)
    (h : ∀ g cap w', RowW w' e size (.slice (some ⟨g, 0, none⟩) (n + m) cap) (n + m) (xs ++ news) → w.grownBy w' v.ownBlock → (v.ownBlock = some g ∨ g = w.heap.size) → g < w'.heap.size → K (a.put o.dst (.slice (some ⟨g, 0, none⟩) (n + m) cap)) w') :
    if Region.wanted o (yielded ops a.tmps) = true then Oper.wp P o a w K Q else E := by
  have hw : Region.wanted o (yielded ops a.tmps) = true := by simp [Region.wanted, hgd]
  rw [if_pos hw]
  obtain ⟨g, cap, w', hr, h2, h3, h4, h5⟩ := run_append_row (P := P) w t o.type e i z size bytes ht hi hz hsize hby hzs v n xs hown ad m c news hl hnews h1 hm h63 hbytes
  unfold Oper.wp execOp
  simp only [ho, resolve, invoke, builtin, Sem.run_bind, Sem.run_pure, Result.andThen_ok, List.map_toArray, List.map_cons, List.map_nil, hs, hx, hr]
  exact h g cap w' h2 h3 h4 h5
end
structure Only (F : Nat → Prop) (w w' : World) : Prop where
  os : w'.os = w.os
  tape : w'.tape = w.tape
  output : w'.output = w.output
  size : w.heap.size ≤ w'.heap.size
  block : ∀ k, k < w.heap.size → ¬ F k → w'.heap[k]? = w.heap[k]?
structure Step (F F' : Nat → Prop) (w w' : World) : Prop where
  only : Only F w w'
  ext : ∀ k, F' k → F k ∨ w.heap.size ≤ k
theorem Only.refl (F : Nat → Prop) (w : World) : Only F w w := ⟨rfl, rfl, rfl, Nat.le_refl _, fun _ _ _ => rfl⟩
theorem Step.refl (F : Nat → Prop) (w : World) : Step F F w w := ⟨Only.refl F w, fun k h => .inl h⟩
theorem Step.trans {F F1 F2 : Nat → Prop} {w w1 w2 : World} (h : Step F F1 w w1) (k : Step F1 F2 w1 w2) : Step F F2 w w2 :=
  ⟨⟨k.only.os.trans h.only.os, k.only.tape.trans h.only.tape, k.only.output.trans h.only.output, Nat.le_trans h.only.size k.only.size, fun i hi hn =>
    (k.only.block i (Nat.lt_of_lt_of_le hi h.only.size) (fun h1 => (h.ext i h1).elim hn (by omega))).trans (h.only.block i hi hn)⟩,
   fun i hi => (k.ext i hi).elim (h.ext i) (fun h1 => .inr (Nat.le_trans h.only.size h1))⟩
theorem Step.size {F F' : Nat → Prop} {w w' : World} (h : Step F F' w w') : w.heap.size ≤ w'.heap.size := h.only.size
theorem Step.of_below {F : Nat → Prop} {w w' : World} (h : Below w.heap.size w w') : Step F F w w' := ⟨⟨h.os, h.tape, h.output, h.size, fun k hk _ => h.block k hk⟩, fun k hk => .inl hk⟩
theorem Step.below {F F' : Nat → Prop} {w w' : World} {n : Nat} (h : Step F F' w w') (hn : n ≤ w.heap.size) (hF : ∀ k, F k → n ≤ k) : Below n w w' :=
  ⟨h.only.os, h.only.tape, h.only.output, h.only.size, fun k hk => h.only.block k (by omega) (fun hf => by have := hF k hf; omega)⟩
theorem Step.start {F F' : Nat → Prop} {a w w' : World} {n : Nat} (hb : Below n a w) (hn : n ≤ a.heap.size) (h : Step F F' w w') (hF : ∀ k, F k → n ≤ k) : Below n a w' := hb.trans (h.below (Nat.le_trans hn hb.size) hF)
theorem Step.from {F F' : Nat → Prop} {w w' : World} {n : Nat} (h : Step F F' w w') (hn : n ≤ w.heap.size) (hF : ∀ k, F k → n ≤ k) : ∀ k, F' k → n ≤ k := fun k hk => (h.ext k hk).elim (hF k) (Nat.le_trans hn)
theorem Step.cell {F F' : Nat → Prop} {w w' : World} {b o : Nat} (h : Step F F' w w') (hb : b < w.heap.size) (hn : ¬ F b) : w'.cell? ⟨b, o, none⟩ = w.cell? ⟨b, o, none⟩ := World.cell?_of_block (w := w) (h.only.block b hb hn)
theorem Only.set {F : Nat → Prop} {a b : World} (h : Only F a b) {K : Nat} (hK : F K ∨ a.heap.size ≤ K) (o : Nat) (u : Value) : Only F a (b.setCell ⟨K, o, none⟩ u) :=
  ⟨h.os, h.tape, h.output, by show _ ≤ (b.heap.modify _ _).size; rw [Array.size_modify]; exact h.size, fun k hk hn => (Below.heap_setCell b ⟨K, o, none⟩ u k (fun e => by subst e; rcases hK with h1 | h1; exact hn h1; exact absurd hk (by omega))).trans (h.block k hk hn)⟩
theorem Only.alloc {F : Nat → Prop} {a b : World} (h : Only F a b) (o : Obj) : Only F a (b.alloc o) :=
  ⟨h.os, h.tape, h.output, by simp; have := h.size; omega, fun k hk hn => (heap_alloc_old b o k (Nat.lt_of_lt_of_le hk h.size)).trans (h.block k hk hn)⟩
theorem Only.grown {F : Nat → Prop} {a b c : World} (h : Only F a b) {row : Option Nat} (hg : b.grownBy c row) (hr : ∀ k, row = some k → F k ∨ a.heap.size ≤ k) : Only F a c :=
  ⟨hg.os.trans h.os, hg.tape.trans h.tape, hg.output.trans h.output, Nat.le_trans h.size hg.size, fun k hk hn => (hg.block k (Nat.lt_of_lt_of_le hk h.size) (fun e => by rcases hr k e.symm with h1 | h1; exact hn h1; exact absurd hk (by omega))).trans (h.block k hk hn)⟩
end Go.Proofs.YtlmdjghcmofdlaaGreat
/- Over whatever program: a struct in a block of its own, some of whose fields are rows of its own. -/
namespace Go.Proofs.YtlmdjghcmofdlaaGreat
open Go.RowKit
set_option linter.unusedVariables false
def Apart (v u : Value) : Prop := ∀ k, v.ownBlock = some k → u.ownBlock ≠ some k
inductive Fld where
  | row (e : TypeId) (size n : Nat) (xs : List Value)
  | other
section
variable {W W' : World} {F F' : Nat → Prop} {B : Nat} {T : TypeId} {vs : List Value} {rs : List Fld}
theorem size_setCell (W : World) (a : Addr) (u : Value) : (W.setCell a u).heap.size = W.heap.size := by show (W.heap.modify _ _).size = _; rw [Array.size_modify]
end
end Go.Proofs.YtlmdjghcmofdlaaGreat
/- Layer 5 (arena) in memory: slots in a row, free numbers in another one. -/
namespace Go.Proofs.YtlmdjghcmofdlaaGreat
open Go.RowKit
set_option linter.unusedVariables false
abbrev Slt := List Value × Bool
def slc (s : Slt) : List Value := s.1 ++ [.bool s.2]
def slcs (L : List Slt) : List Value := L.flatMap slc
def WSl (m : Nat) (L : List Slt) : Prop := ∀ s ∈ L, s.1.length = m
theorem slc_len {m : Nat} {s : Slt} (h : s.1.length = m) : (slc s).length = m + 1 := by simp [slc, h]
theorem slcs_snoc (L : List Slt) (s : Slt) : slcs (L ++ [s]) = slcs L ++ slc s := by simp [slcs]
theorem slcs_at {m : Nat} {L : List Slt} (h : WSl m L) {i j : Nat} {s : Slt} (hi : L[i]? = some s) (hj : j < m + 1) : (slcs L)[i * (m + 1) + j]? = (slc s)[j]? := by
  induction L generalizing i with
  | nil => simp at hi
  | cons x L ih =>
    have hx := slc_len (h x (by simp))
    unfold slcs at ih ⊢
    rw [List.flatMap_cons]
    cases i with
    | zero =>
      simp at hi
      subst hi
      rw [Nat.zero_mul, Nat.zero_add, List.getElem?_append_left (by omega)]
    | succ i =>
      simp at hi
      rw [Nat.add_mul, Nat.one_mul, List.getElem?_append_right (by omega), hx, show i * (m + 1) + (m + 1) + j - (m + 1) = i * (m + 1) + j by omega]
      exact ih (fun y hy => h y (by simp [hy])) hi
theorem slcs_set {m : Nat} {L : List Slt} (h : WSl m L) {i j : Nat} {s s' : Slt} {u : Value} (hi : L[i]? = some s) (hj : j < m + 1) (hs : slc s' = (slc s).set j u) : (slcs L).set (i * (m + 1) + j) u = slcs (L.set i s') := by
  induction L generalizing i with
  | nil => simp at hi
  | cons x L ih =>
    have hx := slc_len (h x (by simp))
    unfold slcs at ih ⊢
    rw [List.flatMap_cons]
    cases i with
    | zero =>
      simp at hi
      subst hi
      rw [Nat.zero_mul, Nat.zero_add, List.set_append_left _ _ (by omega), List.set_cons_zero, List.flatMap_cons, hs]
    | succ i =>
      simp at hi
      rw [Nat.add_mul, Nat.one_mul, List.set_append_right _ _ (by omega), hx, show i * (m + 1) + (m + 1) + j - (m + 1) = i * (m + 1) + j by omega, ih (fun y hy => h y (by simp [hy])) hi, List.set_cons_succ, List.flatMap_cons]
theorem WSl.set {m : Nat} {L : List Slt} (h : WSl m L) {i : Nat} {s : Slt} (hs : s.1.length = m) : WSl m (L.set i s) := fun x hx => by
  rcases List.mem_or_eq_of_mem_set hx with h1 | h1
  · exact h x h1
  · rw [h1]; exact hs
theorem WSl.snoc {m : Nat} {L : List Slt} (h : WSl m L) {s : Slt} (hs : s.1.length = m) : WSl m (L ++ [s]) := fun x hx => by
  rcases List.mem_append.1 hx with h1 | h1
  · exact h x h1
  · simp at h1; rw [h1]; exact hs
def isT (L : List Slt) (i : Int) : Bool := decide (1 ≤ i) && (match L[(i - 1).toNat]? with | some s => s.2 | none => false)
theorem isT_low {L : List Slt} {i : Int} (h : ¬ 1 ≤ i) : isT L i = false := by simp [isT, h]
theorem isT_high {L : List Slt} {i : Int} (h : (L.length : Int) < i) : isT L i = false := by
  unfold isT
  rw [List.getElem?_eq_none (by omega)]
  simp
theorem isT_at {L : List Slt} {k : Nat} {s : Slt} (h : L[k]? = some s) : isT L ((k : Int) + 1) = s.2 := by
  unfold isT
  rw [show ((k : Int) + 1 - 1).toNat = k by omega, h]
  simp
  omega
theorem isT_iff {L : List Slt} {i : Int} : isT L i = true ↔ ∃ (k : Nat) (x : List Value), i = k + 1 ∧ L[k]? = some (x, true) := by
  constructor
  · intro h
    unfold isT at h
    simp only [Bool.and_eq_true, decide_eq_true_eq] at h
    obtain ⟨h1, h2⟩ := h
    cases hq : L[(i - 1).toNat]? with
    | none => rw [hq] at h2; cases h2
    | some s =>
      rw [hq] at h2
      obtain ⟨x, b⟩ := s
      simp at h2
      subst h2
      exact ⟨(i - 1).toNat, x, by omega, hq⟩
  · rintro ⟨k, x, rfl, h⟩
    rw [isT_at h]
def takeI (L : List Slt) (fr : List Int) : Int := match fr.getLast? with | none => (L.length : Int) + 1 | some f => f
def takeL (L : List Slt) (fr : List Int) (s : Slt) : List Slt := match fr.getLast? with | none => L ++ [s] | some f => L.set (f - 1).toNat s
theorem takeI_snoc (L : List Slt) (fr : List Int) (f : Int) : takeI L (fr ++ [f]) = f := by unfold takeI; rw [List.getLast?_concat]
theorem takeL_snoc (L : List Slt) (fr : List Int) (f : Int) (s : Slt) : takeL L (fr ++ [f]) s = L.set (f - 1).toNat s := by unfold takeL; rw [List.getLast?_concat]
def i32s (xs : List Int) : List Value := xs.map (Value.int .i32)
theorem i32s_len (xs : List Int) : (i32s xs).length = xs.length := by simp [i32s]
theorem i32s_snoc (xs : List Int) (x : Int) : i32s (xs ++ [x]) = i32s xs ++ [.int .i32 x] := by simp [i32s]
structure Hole (f : Value → Value → List Value) (o o1 : Nat) : Prop where
  a : ∀ v u, (f v u)[o]? = some v
  b : ∀ v u, (f v u)[o1]? = some u
  sa : ∀ v u x, (f v u).set o x = f x u
  sb : ∀ v u x, (f v u).set o1 x = f v x
theorem hole2 (ex : List Value) : Hole (fun v u => v :: u :: ex) 0 1 := ⟨fun _ _ => rfl, fun _ _ => rfl, fun _ _ _ => rfl, fun _ _ _ => rfl⟩
section
variable {f : Value → Value → List Value} {o o1 : Nat} {W : World} {B : Nat} {t : TypeId} {a b : Value}
theorem Hole.cells (k : Hole f o o1) (h : Blk W B t (f a b).toArray) : W.cell? ⟨B, o, none⟩ = some a ∧ W.cell? ⟨B, o1, none⟩ = some b := ⟨h.at (by simpa using k.a a b), h.at (by simpa using k.b a b)⟩
theorem Hole.set0 (k : Hole f o o1) (h : Blk W B t (f a b).toArray) (x : Value) : Blk (W.setCell ⟨B, o, none⟩ x) B t (f x b).toArray := by have := h.setAt o x; rw [← k.sa a b x]; simpa using this
theorem Hole.set1 (k : Hole f o o1) (h : Blk W B t (f a b).toArray) (x : Value) : Blk (W.setCell ⟨B, o1, none⟩ x) B t (f a x).toArray := by have := h.setAt o1 x; rw [← k.sb a b x]; simpa using this
end
structure ArnX (φ : Value → Value → List Value) (o0 o1 : Nat) (T S m : Nat) (W : World) (F : Nat → Prop) (B G : Nat) (L : List Slt) (fr : List Int) : Prop where
  ex : ∃ v u, Blk W B T (φ v u).toArray ∧ RowW W S (m + 1) v L.length (slcs L) ∧ RowW W 21 1 u fr.length (i32s fr) ∧ Apart v u ∧ (∀ k, v.ownBlock = some k → k = G ∧ F k ∧ k ≠ B) ∧ (∀ k, u.ownBlock = some k → F k ∧ k ≠ B)
  b : F B
  lt : ∀ k, F k → k < W.heap.size
  wsl : WSl m L
  fr : ∀ f ∈ fr, 1 ≤ f ∧ f ≤ L.length
  ok : Hole φ o0 o1
section
variable {φ : Value → Value → List Value} {o0 o1 : Nat} {T S m : Nat} {W W' : World} {F F' : Nat → Prop} {B G : Nat} {L : List Slt} {fr : List Int}
theorem ArnX.kept (h : ArnX φ o0 o1 T S m W F B G L fr) (hb : ∀ k, F k → W'.heap[k]? = W.heap[k]?) (hs : W.heap.size ≤ W'.heap.size) : ArnX φ o0 o1 T S m W' F B G L fr := by
  obtain ⟨v, u, h1, h2, h3, h4, h5, h6⟩ := h.ex
  exact ⟨⟨v, u, (hb B h.b).trans h1, h2.kept fun k hk => hb k (h5 k hk).2.1, h3.kept fun k hk => hb k (h6 k hk).1, h4, h5, h6⟩, h.b, fun k hk => Nat.lt_of_lt_of_le (h.lt k hk) hs, h.wsl, h.fr, h.ok⟩
theorem ArnX.below (h : ArnX φ o0 o1 T S m W F B G L fr) (hb : Below W.heap.size W W') : ArnX φ o0 o1 T S m W' F B G L fr := h.kept (fun k hk => hb.block k (h.lt k hk)) hb.size
theorem ArnX.blt (h : ArnX φ o0 o1 T S m W F B G L fr) : B < W.heap.size := h.lt B h.b
theorem ArnX.head (h : ArnX φ o0 o1 T S m W F B G L fr) : ∃ ao cap, W.cell? ⟨B, o0, none⟩ = some (.slice ao L.length cap) := by
  obtain ⟨v, u, h1, h2, h3, h4, h5, h6⟩ := h.ex
  obtain ⟨ao, cap, rfl⟩ := h2.form
  exact ⟨ao, cap, (h.ok.cells h1).1⟩
theorem ArnX.row (h : ArnX φ o0 o1 T S m W F B G L fr) (hn : 0 < L.length) : ∃ cap, W.cell? ⟨B, o0, none⟩ = some (.slice (some ⟨G, 0, none⟩) L.length cap) := by
  obtain ⟨v, u, h1, h2, h3, h4, h5, h6⟩ := h.ex
  obtain ⟨g, cap, rfl⟩ := h2.led hn
  obtain ⟨rfl, _⟩ := h5 g rfl
  exact ⟨cap, (h.ok.cells h1).1⟩
theorem ArnX.froz (h : ArnX φ o0 o1 T S m W F B G L fr) (j : Nat) : W.frozen? ⟨B, j, none⟩ = false := by
  obtain ⟨v, u, h1, _⟩ := h.ex
  exact h1.frozen j
theorem ArnX.slot (h : ArnX φ o0 o1 T S m W F B G L fr) {k : Nat} {s : Slt} (hk : L[k]? = some s) : F G ∧ G ≠ B ∧ (∀ j u, (slc s)[j]? = some u → W.cell? ⟨G, k * (m + 1) + j, none⟩ = some u) ∧ (∀ j, W.frozen? ⟨G, j, none⟩ = false) := by
  obtain ⟨v, u, h1, h2, h3, h4, h5, h6⟩ := h.ex
  have hlt := (List.getElem?_eq_some_iff.1 hk).1
  obtain ⟨g, cap, rfl⟩ := h2.led (by omega)
  obtain ⟨rfl, hF, hB⟩ := h5 g rfl
  have hs := slc_len (h.wsl s (List.mem_of_getElem? hk))
  refine ⟨hF, hB, fun j u hj => ?_, h2.frozen⟩
  have hjl := (List.getElem?_eq_some_iff.1 hj).1
  exact h2.cell ((slcs_at h.wsl hk (by omega)).trans hj)
theorem ArnX.slotAt (h : ArnX φ o0 o1 T S m W F B G L fr) {k j : Nat} (hk : k < L.length) (hj : j < m + 1) : ∃ u, W.cell? ⟨G, k * (m + 1) + j, none⟩ = some u := by
  have hs := h.wsl _ (List.getElem_mem hk)
  have hl := slc_len hs
  exact ⟨_, (h.slot (List.getElem?_eq_getElem hk)).2.2.1 j _ (List.getElem?_eq_getElem (by omega))⟩
theorem ArnX.slotFz (h : ArnX φ o0 o1 T S m W F B G L fr) (hk : 0 < L.length) (j : Nat) : W.frozen? ⟨G, j, none⟩ = false := (h.slot (List.getElem?_eq_getElem hk)).2.2.2 j
theorem ArnX.slotF (h : ArnX φ o0 o1 T S m W F B G L fr) (hk : 0 < L.length) : F G ∧ G ≠ B := ⟨(h.slot (List.getElem?_eq_getElem hk)).1, (h.slot (List.getElem?_eq_getElem hk)).2.1⟩
theorem ArnX.put (h : ArnX φ o0 o1 T S m W F B G L fr) {k j : Nat} {s s' : Slt} {u : Value} (hk : L[k]? = some s) (hj : j < m + 1) (hs : slc s' = (slc s).set j u) (hl : s'.1.length = m) : ArnX φ o0 o1 T S m (W.setCell ⟨G, k * (m + 1) + j, none⟩ u) F B G (L.set k s') fr := by
  obtain ⟨v, y, h1, h2, h3, h4, h5, h6⟩ := h.ex
  have hlt := (List.getElem?_eq_some_iff.1 hk).1
  obtain ⟨g, cap, rfl⟩ := h2.led (by omega)
  obtain ⟨rfl, hF, hB⟩ := h5 g rfl
  have hsz : (W.setCell ⟨g, k * (m + 1) + j, none⟩ u).heap.size = W.heap.size := by show (W.heap.modify _ _).size = _; rw [Array.size_modify]
  have hin : k * (m + 1) + j < L.length * (m + 1) := by
    have h1 : (k + 1) * (m + 1) ≤ L.length * (m + 1) := Nat.mul_le_mul_right _ (by omega)
    rw [Nat.add_mul] at h1; omega
  have hset := h2.set hin u
  rw [slcs_set h.wsl hk hj hs] at hset
  refine ⟨⟨_, y, (Below.heap_setCell W ⟨g, _, none⟩ u B (Ne.symm hB)).trans h1, by rw [List.length_set]; exact hset, h3.kept fun q hq => Below.heap_setCell W ⟨g, _, none⟩ u q (fun e => by rw [e] at hq; exact h4 g rfl hq), h4, h5, h6⟩, h.b, fun q hq => by rw [hsz]; exact h.lt q hq, h.wsl.set hl, by rw [List.length_set]; exact h.fr, h.ok⟩
theorem ArnX.step_set (h : ArnX φ o0 o1 T S m W F B G L fr) (hG : F G) (j : Nat) (u : Value) : Step F F W (W.setCell ⟨G, j, none⟩ u) := ⟨(Only.refl F W).set (.inl hG) j u, fun k hk => .inl hk⟩
theorem ArnX.regrow {v u : Value} {w2 : World} {o : Obj} {g cap : Nat} {s : Slt} (h : ArnX φ o0 o1 T S m W F B G L fr) (h1 : Blk W B T (φ v u).toArray) (h3 : RowW W 21 1 u fr.length (i32s fr)) (h4 : Apart v u) (h5 : ∀ k, v.ownBlock = some k → k = G ∧ F k ∧ k ≠ B) (h6 : ∀ k, u.ownBlock = some k → F k ∧ k ≠ B)
    (hown : RowW w2 S (m + 1) (.slice (some ⟨g, 0, none⟩) (L.length + 1) cap) (L.length + 1) (slcs L ++ slc s)) (hg : (W.alloc o).grownBy w2 v.ownBlock) (hat : v.ownBlock = some g ∨ g = W.heap.size + 1) (hl : s.1.length = m) :
    Blk w2 B T (φ v u).toArray ∧ ArnX φ o0 o1 T S m (w2.setCell ⟨B, o0, none⟩ (.slice (some ⟨g, 0, none⟩) (L.length + 1) cap)) (fun k => F k ∨ k = g) B g (L ++ [s]) fr ∧ Step F (fun k => F k ∨ k = g) W (w2.setCell ⟨B, o0, none⟩ (.slice (some ⟨g, 0, none⟩) (L.length + 1) cap)) := by
  have hB := h.blt
  have hnB : v.ownBlock ≠ some B := fun e => (h5 B e).2.2 rfl
  have hs2 := hg.size
  simp at hs2
  have hgB : g ≠ B := by
    rcases hat with h' | h'
    · exact (h5 g h').2.2
    · omega
  have hb2 : Blk w2 B T (φ v u).toArray := (h1.alloc o).kept hg (Ne.symm hnB)
  have hug : u.ownBlock ≠ some g := by
    rcases hat with h' | h'
    · exact h4 g h'
    · intro e; have := h3.lt e; omega
  have hsz : (w2.setCell ⟨B, o0, none⟩ (.slice (some ⟨g, 0, none⟩) (L.length + 1) cap)).heap.size = w2.heap.size := by show (w2.heap.modify _ _).size = _; rw [Array.size_modify]
  refine ⟨hb2, ⟨⟨_, u, h.ok.set0 hb2 _, ?_, ?_, fun k hk hk' => ?_, fun k hk => ?_, fun k hk => ⟨.inl (h6 k hk).1, (h6 k hk).2⟩⟩, .inl h.b, fun k hk => ?_, h.wsl.snoc hl, fun f hf => ?_, h.ok⟩, ⟨?_, fun k hk => ?_⟩⟩
  · rw [slcs_snoc, List.length_append]
    exact hown.kept fun k hk => Below.heap_setCell w2 ⟨B, o0, none⟩ _ k (fun e => by cases hk; exact hgB e)
  · refine h3.kept fun k hk => ?_
    have hkl := h3.lt hk
    exact (Below.heap_setCell w2 ⟨B, o0, none⟩ _ k (h6 k hk).2).trans ((hg.block k (by simp; omega) (fun e => h4 k e.symm hk)).trans (heap_alloc_old W o k hkl))
  · cases hk; exact hug hk'
  · cases hk; exact ⟨rfl, .inr rfl, hgB⟩
  · rw [hsz]
    rcases hk with hk | rfl
    · have := h.lt k hk; omega
    · exact hown.lt rfl
  · have := h.fr f hf
    simp; omega
  · exact (((Only.refl F W).alloc o).grown hg (fun k hk => .inl (h5 k hk).2.1)).set (.inl h.b) o0 _
  · rcases hk with hk | rfl
    · exact .inl hk
    · rcases hat with h' | h'
      · exact .inl (h5 k h').2.1
      · right; omega
theorem ArnX.refree {v u : Value} {w2 : World} {o : Obj} {g cap : Nat} {f : Int} (h : ArnX φ o0 o1 T S m W F B G L fr) (h1 : Blk W B T (φ v u).toArray) (h2 : RowW W S (m + 1) v L.length (slcs L)) (h3 : RowW W 21 1 u fr.length (i32s fr)) (h4 : Apart v u) (h5 : ∀ k, v.ownBlock = some k → k = G ∧ F k ∧ k ≠ B) (h6 : ∀ k, u.ownBlock = some k → F k ∧ k ≠ B)
    (hown : RowW w2 21 1 (.slice (some ⟨g, 0, none⟩) (fr.length + 1) cap) (fr.length + 1) (i32s fr ++ [.int .i32 f])) (hg : (W.alloc o).grownBy w2 u.ownBlock) (hat : u.ownBlock = some g ∨ g = W.heap.size + 1) (hf : 1 ≤ f ∧ f ≤ L.length) :
    Blk w2 B T (φ v u).toArray ∧ ArnX φ o0 o1 T S m (w2.setCell ⟨B, o1, none⟩ (.slice (some ⟨g, 0, none⟩) (fr.length + 1) cap)) (fun k => F k ∨ k = g) B G L (fr ++ [f]) ∧ Step F (fun k => F k ∨ k = g) W (w2.setCell ⟨B, o1, none⟩ (.slice (some ⟨g, 0, none⟩) (fr.length + 1) cap)) := by
  have hB := h.blt
  have hnB : u.ownBlock ≠ some B := fun e => (h6 B e).2 rfl
  have hs2 := hg.size
  simp at hs2
  have hgB : g ≠ B := by
    rcases hat with h' | h'
    · exact (h6 g h').2
    · omega
  have hb2 : Blk w2 B T (φ v u).toArray := (h1.alloc o).kept hg (Ne.symm hnB)
  have hvg : v.ownBlock ≠ some g := by
    rcases hat with h' | h'
    · exact fun e => h4 g e h'
    · intro e; have := h2.lt e; omega
  have hsz : (w2.setCell ⟨B, o1, none⟩ (.slice (some ⟨g, 0, none⟩) (fr.length + 1) cap)).heap.size = w2.heap.size := by show (w2.heap.modify _ _).size = _; rw [Array.size_modify]
  refine ⟨hb2, ⟨⟨v, _, h.ok.set1 hb2 _, ?_, ?_, fun k hk hk' => ?_, fun k hk => ?_, fun k hk => ?_⟩, .inl h.b, fun k hk => ?_, h.wsl, fun x hx => ?_, h.ok⟩, ⟨?_, fun k hk => ?_⟩⟩
  · refine h2.kept fun k hk => ?_
    have hkl := h2.lt hk
    exact (Below.heap_setCell w2 ⟨B, o1, none⟩ _ k (h5 k hk).2.2).trans ((hg.block k (by simp; omega) (fun e => h4 k hk e.symm)).trans (heap_alloc_old W o k hkl))
  · rw [i32s_snoc, List.length_append]
    exact hown.kept fun k hk => Below.heap_setCell w2 ⟨B, o1, none⟩ _ k (fun e => by cases hk; exact hgB e)
  · cases hk'; exact hvg hk
  · exact ⟨(h5 k hk).1, .inl (h5 k hk).2.1, (h5 k hk).2.2⟩
  · cases hk; exact ⟨.inr rfl, hgB⟩
  · rw [hsz]
    rcases hk with hk | rfl
    · have := h.lt k hk; omega
    · exact hown.lt rfl
  · rcases List.mem_append.1 hx with hx | hx
    · exact h.fr x hx
    · simp at hx; rw [hx]; exact hf
  · exact (((Only.refl F W).alloc o).grown hg (fun k hk => .inl (h6 k hk).1)).set (.inl h.b) o1 _
  · rcases hk with hk | rfl
    · exact .inl hk
    · rcases hat with h' | h'
      · exact .inl (h6 k h').1
      · right; omega
theorem ArnX.unfree {f : Int} (h : ArnX φ o0 o1 T S m W F B G L (fr ++ [f])) : ∃ H cap, W.cell? ⟨B, o1, none⟩ = some (.slice (some ⟨H, 0, none⟩) (fr.length + 1) cap) ∧ W.cell? ⟨H, fr.length, none⟩ = some (.int .i32 f) ∧ fr.length + 1 ≤ cap ∧ cap ≤ maxLen ∧
    ArnX φ o0 o1 T S m (W.setCell ⟨B, o1, none⟩ (.slice (some ⟨H, 0, none⟩) fr.length cap)) F B G L fr ∧ Step F F W (W.setCell ⟨B, o1, none⟩ (.slice (some ⟨H, 0, none⟩) fr.length cap)) := by
  obtain ⟨v, u, h1, h2, h3, h4, h5, h6⟩ := h.ex
  rw [List.length_append] at h3
  obtain ⟨H, cap, rfl⟩ := h3.led (by simp)
  have hcap : fr.length + 1 ≤ cap ∧ cap ≤ maxLen := by
    rcases h3.2 with ⟨e, _⟩ | ⟨g', cap', cur, e, _, e1, e2, _⟩
    · cases e
    · cases e; exact ⟨e1, e2⟩
  have hsz : (W.setCell ⟨B, o1, none⟩ (.slice (some ⟨H, 0, none⟩) fr.length cap)).heap.size = W.heap.size := by show (W.heap.modify _ _).size = _; rw [Array.size_modify]
  have hcut := h3.cut (k := fr.length) (by simp)
  rw [i32s_snoc, Nat.mul_one, ← i32s_len, List.take_left] at hcut
  refine ⟨H, cap, (h.ok.cells h1).2, h3.cell (by rw [i32s_snoc, List.getElem?_append_right (by rw [i32s_len]; exact Nat.le_refl _), i32s_len, Nat.sub_self]; rfl), hcap.1, hcap.2, ⟨⟨v, _, h.ok.set1 h1 _, ?_, ?_, fun k hk hk' => h4 k hk hk', h5, fun k hk => h6 k hk⟩, h.b, fun k hk => by rw [hsz]; exact h.lt k hk, h.wsl, fun x hx => h.fr x (by simp [hx]), h.ok⟩, ⟨(Only.refl F W).set (.inl h.b) o1 _, fun k hk => .inl hk⟩⟩
  · exact h2.kept fun k hk => Below.heap_setCell W ⟨B, o1, none⟩ _ k (h5 k hk).2.2
  · rw [← i32s_len]
    exact hcut.kept fun k hk => Below.heap_setCell W ⟨B, o1, none⟩ _ k (h6 k hk).2
def putAll (W : World) (G o : Nat) : List Value → World
  | [] => W
  | u :: us => putAll (W.setCell ⟨G, o, none⟩ u) G (o + 1) us
theorem putAll_snoc (W : World) (G o : Nat) (us : List Value) (u : Value) : putAll W G o (us ++ [u]) = (putAll W G o us).setCell ⟨G, o + us.length, none⟩ u := by
  induction us generalizing W o with
  | nil => rfl
  | cons x us ih =>
    show putAll _ G (o + 1) (us ++ [u]) = _
    rw [ih, List.length_cons, show o + 1 + us.length = o + (us.length + 1) by omega]
    rfl
theorem step_putAll {G : Nat} (hG : F G) (W : World) (o : Nat) (us : List Value) : Step F F W (putAll W G o us) := by
  induction us generalizing W o with
  | nil => exact Step.refl F W
  | cons x us ih => exact Step.trans ⟨(Only.refl F W).set (.inl hG) o x, fun k hk => .inl hk⟩ (ih _ _)
theorem ArnX.putAll (h : ArnX φ o0 o1 T S m W F B G L fr) {k : Nat} {s s' : Slt} (hk : L[k]? = some s) (hl : s'.1.length = m) : ArnX φ o0 o1 T S m (putAll W G (k * (m + 1)) (slc s')) F B G (L.set k s') fr := by
  have hs := h.wsl s (List.mem_of_getElem? hk)
  have hlt := (List.getElem?_eq_some_iff.1 hk).1
  have part : ∀ j, j ≤ m → ArnX φ o0 o1 T S m (Go.Proofs.YtlmdjghcmofdlaaGreat.putAll W G (k * (m + 1)) (s'.1.take j)) F B G (L.set k (s'.1.take j ++ s.1.drop j, s.2)) fr := by
    intro j
    induction j with
    | zero =>
      intro _
      rw [List.take_zero, List.drop_zero, List.nil_append, show L.set k (s.1, s.2) = L from by rw [← (List.getElem?_eq_some_iff.1 hk).2]; exact List.set_getElem_self hlt]
      exact h
    | succ j ih =>
      intro hj
      have h1 := ih (by omega)
      have hx : s'.1[j]? = some (s'.1[j]) := List.getElem?_eq_getElem (by omega)
      rw [List.take_add_one, hx, Option.toList_some, putAll_snoc, List.length_take, Nat.min_eq_left (by omega)]
      have h2 := h1.put (k := k) (j := j) (s := (s'.1.take j ++ s.1.drop j, s.2)) (s' := (s'.1.take j ++ [s'.1[j]] ++ s.1.drop (j + 1), s.2)) (u := s'.1[j]) (by simp [hlt]) (by omega) ?_ (by simp; omega)
      · rwa [List.set_set] at h2
      · unfold slc
        have e : s.1.drop j = s.1[j] :: s.1.drop (j + 1) := List.drop_eq_getElem_cons (by omega)
        simp only [e, List.append_assoc, List.cons_append, List.nil_append]
        rw [List.set_append_right _ _ (by simp; omega), List.length_take, Nat.min_eq_left (by omega), Nat.sub_self]
        rfl
  have h1 := part m (Nat.le_refl _)
  rw [List.take_of_length_le (by omega), List.drop_of_length_le (by omega), List.append_nil] at h1
  have h2 := h1.put (k := k) (j := m) (s := (s'.1, s.2)) (s' := s') (u := .bool s'.2) (by simp [hlt]) (by omega) ?_ hl
  · rw [List.set_set] at h2
    unfold slc
    rw [putAll_snoc, hl]
    exact h2
  · unfold slc
    rw [List.set_append_right _ _ (by simp [hl]), hl, Nat.sub_self]
    rfl
end
section
variable {T1 S1 m1 T2 S2 m2 : Nat} {w wr w' : World} {Fa Fa' : Nat → Prop} {Ba Ga Ga' : Nat} {La La' : List Slt} {fa fa' : List Int} {Fb Fb' : Nat → Prop} {Bb Gb Gb' : Nat} {Lb Lb' : List Slt} {fb fb' : List Int}
end
end Go.Proofs.YtlmdjghcmofdlaaGreat
namespace Go.Proofs.YtlmdjghcmofdlaaGreat
open Go.RowKit
set_option linter.unusedVariables false
section
variable {F : Fence} {n : Nat} {P : Program}
def recOf (fn : FuncId) (tmps : Array Value) (ps : Array Tmp) (assign body : Code) (D : Nat) (s : LoopState) (p : Option Code) : Obj := .loop { state := s, pending := p, fn, tmps, params := ps, assign, body, defers := D }
end
end Go.Proofs.YtlmdjghcmofdlaaGreat
/- Over whatever program: a list that grows in a box, round by round. -/
namespace Go.Proofs.YtlmdjghcmofdlaaGreat
open Go.RowKit
set_option linter.unusedVariables false
section
variable {bx : Nat} {ts te : TypeId} {ok : Nat → Prop} {xs : List Value} {A A' : World}
theorem RowW.grown {e : TypeId} {size n : Nat} {v : Value} (h : RowW A e size v n xs) {row : Option Nat} (hg : A.grownBy A' row) (hr : ∀ r, row = some r → ∃ o : Obj, A.heap[r]? = some o ∧ o.isCells = false) : RowW A' e size v n xs := by
  refine h.kept fun k hk => hg.block k (h.lt hk) (fun e' => ?_)
  obtain ⟨o, ho, hc⟩ := hr k e'.symm
  rcases h.2 with ⟨e0, _⟩ | ⟨g, cap, cur, e0, hb, _⟩
  · rw [e0] at hk; cases hk
  · rw [e0] at hk; cases hk
    rw [show A.heap[g]? = _ from hb] at ho; cases ho; cases hc
end
end Go.Proofs.YtlmdjghcmofdlaaGreat
namespace Go.Proofs.YtlmdjghcmofdlaaGreat
open Go.RowKit
open Go.Maps (Keyed)
set_option linter.unusedVariables false
def valR (v : Value) : Option (DataW Value × List MemPlace) := some (.held v, [])
structure KeyT {α : Type} (P : Program) (t k e : TypeId) (z : Value) (f : α → Value) (ok : α → Prop) : Prop where
  K : Keyed P k
  u : P.underlying t = some (.map k e)
  zero : ∀ w, (zeroValue e).run P w = .ok z w
  key : ∀ a, ok a → ∃ l, keyOf P k (f a) = some l
  inj : ∀ a b, ok a → ok b → f a = f b → a = b
def MapV {α : Type} (P : Program) (k : TypeId) (z : Value) (f : α → Value) (ok : α → Prop) (W : World) (b : Nat) (q : α → Option Value) (cnt : Nat) : Prop :=
  ∃ D, W.ownsMap P k valR b cnt D ∧ Maps.size D = cnt ∧ ∀ a, ok a → ∀ l, keyOf P k (f a) = some l → D.atKey l (.held z) = .held ((q a).getD z) ∧ Maps.has D l = (q a).isSome
def updQ {α β : Type} [DecidableEq α] (q : α → β) (a : α) (o : β) : α → β := fun x => if x = a then o else q x
theorem updQ_at {α β : Type} [DecidableEq α] (q : α → β) (a : α) (o : β) : updQ q a o a = o := if_pos rfl
theorem updQ_ne {α β : Type} [DecidableEq α] {q : α → β} {a x : α} {o : β} (h : x ≠ a) : updQ q a o x = q x := if_neg h
theorem ownsMap_tight {P : Program} {k : TypeId} {R : Value → Option (DataW Value × List MemPlace)} {W : World} {b n : Nat} {D : DataW Value} (h : W.ownsMap P k R b n D) : W.ownsMap P k R b (Maps.size D) D := by
  obtain ⟨es, c, h1, h2, h3, rfl⟩ := h
  refine ⟨es, c, h1, h2, ?_, rfl⟩
  simp [Maps.size, length_sorted]
section
variable {α : Type} {P : Program} {t k e : TypeId} {z : Value} {f : α → Value} {ok : α → Prop} {W W' : World} {b cnt : Nat} {q : α → Option Value}
theorem MapV.made (T : KeyT P t k e z f ok) (W : World) : MapV P k z f ok (W.alloc (.map #[] 0)) W.heap.size (fun _ => none) 0 :=
  ⟨.map [], World.ownsMap_made W _ _ _, rfl, fun a ha l hl => ⟨rfl, rfl⟩⟩
theorem MapV.lt (h : MapV P k z f ok W b q cnt) : b < W.heap.size := by obtain ⟨D, h1, _⟩ := h; exact h1.lt
theorem MapV.kept (h : MapV P k z f ok W b q cnt) (hb : W'.heap[b]? = W.heap[b]?) : MapV P k z f ok W' b q cnt := by
  obtain ⟨D, ⟨es, c, h1, h2⟩, h3⟩ := h
  exact ⟨D, ⟨es, c, hb.trans h1, h2⟩, h3⟩
theorem MapV.noCells (h : MapV P k z f ok W b q cnt) : ∃ o : Obj, W.heap[b]? = some o ∧ o.isCells = false := by
  obtain ⟨D, ⟨es, c, h1, h2⟩, h3⟩ := h
  exact ⟨_, h1, rfl⟩
theorem MapV.congr {q' : α → Option Value} (h : MapV P k z f ok W b q cnt) (hq : ∀ a, ok a → q' a = q a) : MapV P k z f ok W b q' cnt := by
  obtain ⟨D, h1, h2, h3⟩ := h
  exact ⟨D, h1, h2, fun a ha l hl => by rw [hq a ha]; exact h3 a ha l hl⟩
theorem MapV.look (T : KeyT P t k e z f ok) (h : MapV P k z f ok W b q cnt) {a : α} (ha : ok a) : (Instr.lookup t (.map (some b)) (f a) false).run P W = .ok ((q a).getD z) W := by
  obtain ⟨D, h1, _, h3⟩ := h
  obtain ⟨l, hl⟩ := T.key a ha
  obtain ⟨v, ps, hr, hv⟩ := h1.lookup T.K T.u (T.zero W) (zd := .held z) (zp := []) rfl hl
  rw [hr]
  rw [(h3 a ha l hl).1] at hv
  simp [valR] at hv
  rw [hv.1]
theorem MapV.look_ok (T : KeyT P t k e z f ok) (h : MapV P k z f ok W b q cnt) {a : α} (ha : ok a) : (Instr.lookup t (.map (some b)) (f a) true).run P W = .ok (.tuple #[(q a).getD z, .bool (q a).isSome]) W := by
  obtain ⟨D, h1, _, h3⟩ := h
  obtain ⟨l, hl⟩ := T.key a ha
  obtain ⟨v, ps, hr, hv⟩ := h1.look_ok T.K T.u (T.zero W) (zd := .held z) (zp := []) rfl hl
  rw [hr, (h3 a ha l hl).2]
  rw [(h3 a ha l hl).1] at hv
  simp [valR] at hv
  rw [hv.1]
theorem MapV.len (T : KeyT P t k e z f ok) (h : MapV P k z f ok W b q cnt) (ty : TypeId) : (Builtin.len_ #[t] ty #[.map (some b)]).run P W = .ok (.int .i64 cnt) W := by
  obtain ⟨D, h1, h2, _⟩ := h
  rw [h1.len T.u ty, h2]
theorem MapV.look_nil (T : KeyT P t k e z f ok) (W : World) {a : α} (ha : ok a) (c : Bool) : (Instr.lookup t (.map none) (f a) c).run P W = .ok (if c then .tuple #[z, .bool false] else z) W := by
  obtain ⟨l, hl⟩ := T.key a ha
  exact Go.Maps.look_nil c T.K T.u (T.zero W) hl
theorem MapV.len_nil (T : KeyT P t k e z f ok) (W : World) (ty : TypeId) : (Builtin.len_ #[t] ty #[.map none]).run P W = .ok (.int .i64 0) W := Go.Maps.len_nil T.u ty
variable [DecidableEq α]
theorem MapV.store (T : KeyT P t k e z f ok) (h : MapV P k z f ok W b q cnt) (hn : cnt < maxLen) {a : α} (ha : ok a) (v : Value) :
    ∃ W', (Instr.mapUpdate t (.map (some b)) (f a) v).run P W = .ok () W' ∧ MapV P k z f ok W' b (updQ q a (some v)) (if (q a).isSome then cnt else cnt + 1) ∧ W.grownBy W' (some b) := by
  obtain ⟨D, h1, h2, h3⟩ := h
  obtain ⟨l, hl⟩ := T.key a ha
  have hk := T.K.key hl
  obtain ⟨W', hr, g1, g2⟩ := h1.update T.K T.u hn hl (val := v) (d := .held v) (ps := []) rfl
  have hs : Maps.size (D.put l (.held v)) = if (q a).isSome then cnt else cnt + 1 := by
    rw [Go.Maps.size_put (h1.tidy T.K), (h3 a ha l hl).2, h2]
  refine ⟨W', hr, ⟨_, by have := ownsMap_tight g1; rwa [hs] at this, hs, fun x hx m hm => ?_⟩, g2⟩
  unfold updQ
  split
  · rename_i e1; subst e1
    rw [hl] at hm; cases hm
    exact ⟨Go.Maps.atKey_put_same h1.isMap hk _ _, Go.Maps.has_put_same h1.isMap hk _⟩
  · rename_i e1
    have hne : m ≠ l := fun e2 => e1 (T.inj x a hx ha (T.K.inj hm (e2 ▸ hl)))
    rw [Go.Maps.atKey_put_other hne, Go.Maps.has_put_other hne]
    exact h3 x hx m hm
theorem MapV.drop (T : KeyT P t k e z f ok) (h : MapV P k z f ok W b q cnt) {a : α} (ha : ok a) (ty : TypeId) :
    ∃ W', (Builtin.delete_ #[t, k] ty #[.map (some b), f a]).run P W = .ok (.tuple #[]) W' ∧ MapV P k z f ok W' b (updQ q a none) (if (q a).isSome then cnt - 1 else cnt) ∧ W.grownBy W' (some b) := by
  obtain ⟨D, h1, h2, h3⟩ := h
  obtain ⟨l, hl⟩ := T.key a ha
  have hk := T.K.key hl
  obtain ⟨W', hr, g1, g2⟩ := h1.drop T.K T.u hl ty
  have hs : Maps.size (D.del l) = if (q a).isSome then cnt - 1 else cnt := by
    have hd := Go.Maps.size_del (k := l) (h1.tidy T.K)
    rw [(h3 a ha l hl).2, h2] at hd
    cases hq : (q a).isSome <;> rw [hq] at hd <;> simp at hd ⊢ <;> omega
  refine ⟨W', hr, ⟨_, by have := ownsMap_tight g1; rwa [hs] at this, hs, fun x hx m hm => ?_⟩, g2.grown⟩
  unfold updQ
  split
  · rename_i e1; subst e1
    rw [hl] at hm; cases hm
    exact ⟨Go.Maps.atKey_del_same _, Go.Maps.has_del_same⟩
  · rename_i e1
    have hne : m ≠ l := fun e2 => e1 (T.inj x a hx ha (T.K.inj hm (e2 ▸ hl)))
    rw [Go.Maps.atKey_del_other hne, Go.Maps.has_del_other hne]
    exact h3 x hx m hm
theorem wpList_val_store {ops : Array Oper} {rest : List Oper} {o : Oper} {A : Act} {Q : Exit → Act → World → Prop} (hg : o.guard = none) (m x v : Operand) (hop : o.op = Op.mapUpdate t m x v)
    (T : KeyT P t k e z f ok) (hm : A.eval m = .map (some b)) (h : MapV P k z f ok W b q cnt) (hn : cnt < maxLen) (a : α) (hx : A.eval x = f a) (ha : ok a) (u : Value) (hv : A.eval v = u)
    (hK : ∀ W', MapV P k z f ok W' b (updQ q a (some u)) (if (q a).isSome then cnt else cnt + 1) → W.grownBy W' (some b) → wpList P ops Q rest (A.put o.dst undef) W') : wpList P ops Q (o :: rest) A W := by
  refine wpList_plain hg fun K' hK' => ?_
  obtain ⟨W', hrun, r1, r2⟩ := h.store T hn ha u
  unfold Oper.wp
  simp [execOp, hop, hm, hx, hv, hrun, Result.andThen]
  exact hK' _ _ (hK W' r1 r2)
theorem wpList_val_drop {ops : Array Oper} {rest : List Oper} {o : Oper} {A : Act} {Q : Exit → Act → World → Prop} (hg : o.guard = none) (m x : Operand) (hop : o.op = Op.call { callee := Callee.builtin Builtin.delete, args := #[m, x], argTypes := #[t, k] })
    (T : KeyT P t k e z f ok) (hm : A.eval m = .map (some b)) (h : MapV P k z f ok W b q cnt) (a : α) (hx : A.eval x = f a) (ha : ok a)
    (hK : ∀ W', MapV P k z f ok W' b (updQ q a none) (if (q a).isSome then cnt - 1 else cnt) → W.grownBy W' (some b) → wpList P ops Q rest (A.put o.dst (.tuple #[])) W') : wpList P ops Q (o :: rest) A W := by
  refine wpList_plain hg fun K' hK' => ?_
  obtain ⟨W', hrun, r1, r2⟩ := h.drop T ha o.type
  unfold Oper.wp
  simp [execOp, hop, resolve, invoke, builtin, hm, hx, hrun, Result.andThen]
  exact hK' _ _ (hK W' r1 r2)
end
/-! Keys that are arrays of numbers. -/
theorem keyOf_triple {P : Program} {k e : TypeId} {q : IntKind} (A : WideMaps.ArrKey P k e 3) (he : P.underlying e = some (.int q)) (hsz : ∃ m, P.types.size = m + 1) {a b c : Int} (wa : (Lit.int q a).wf = true) (wb : (Lit.int q b).wf = true) (wc : (Lit.int q c).wf = true) :
    ∃ l, keyOf P k (.agg #[.int q a, .int q b, .int q c]) = some l := by
  refine ⟨.string (Go.keyBytes [.int q a, .int q b, .int q c]), ?_⟩
  have hkt := A.keyType hsz
  obtain ⟨m, hm⟩ := hsz
  unfold keyOf
  simp only [A.hu]
  rw [if_pos (by simp [hkt, Value.formed, A.hu, A.size]), hm]
  unfold Program.keyLits
  simp only [A.hu, Value.cells]
  rw [if_pos (by rw [A.size]; rfl), show List.range 3 = [0, 1, 2] from rfl, List.mapM_cons, List.mapM_cons, List.mapM_cons, List.mapM_nil]
  simp [A.one, Program.keyLits, he, wa, wb, wc]
def pairK (a : Int × Int) : Value := .agg #[.int .i64 a.1, .int .i64 a.2]
def okP (a : Int × Int) : Prop := (-9223372036854775808 ≤ a.1 ∧ a.1 ≤ 9223372036854775807) ∧ (-9223372036854775808 ≤ a.2 ∧ a.2 ≤ 9223372036854775807)
theorem pairK_inj (a b : Int × Int) (_ : okP a) (_ : okP b) (h : pairK a = pairK b) : a = b := by
  obtain ⟨a1, a2⟩ := a; obtain ⟨b1, b2⟩ := b
  simpa [pairK] using h
def tripK (a : Int × Int × Int) : Value := .agg #[.int .i64 a.1, .int .i64 a.2.1, .int .i64 a.2.2]
def okT (a : Int × Int × Int) : Prop := (-9223372036854775808 ≤ a.1 ∧ a.1 ≤ 9223372036854775807) ∧ (-9223372036854775808 ≤ a.2.1 ∧ a.2.1 ≤ 9223372036854775807) ∧ (-9223372036854775808 ≤ a.2.2 ∧ a.2.2 ≤ 9223372036854775807)
theorem tripK_inj (a b : Int × Int × Int) (_ : okT a) (_ : okT b) (h : tripK a = tripK b) : a = b := by
  obtain ⟨a1, a2, a3⟩ := a; obtain ⟨b1, b2, b3⟩ := b
  simpa [tripK] using h
theorem key_pairs {P : Program} {t k e te : TypeId} {z : Value} (A : WideMaps.ArrKey P k e 2) (he : P.underlying e = some (.int .i64)) (hsz : ∃ m, P.types.size = m + 1) (hu : P.underlying t = some (.map k te)) (hz : ∀ w, (zeroValue te).run P w = .ok z w) : KeyT P t k te z pairK okP :=
  ⟨Keyed.of_law A.law, hu, hz, fun a ha => ⟨_, WideMaps.keyOf_pair A he hsz (WalkArith.wf_i64 ha.1) (WalkArith.wf_i64 ha.2)⟩, pairK_inj⟩
theorem key_triples {P : Program} {t k e te : TypeId} {z : Value} (A : WideMaps.ArrKey P k e 3) (he : P.underlying e = some (.int .i64)) (hsz : ∃ m, P.types.size = m + 1) (hu : P.underlying t = some (.map k te)) (hz : ∀ w, (zeroValue te).run P w = .ok z w) : KeyT P t k te z tripK okT :=
  ⟨Keyed.of_law A.law, hu, hz, fun a ha => keyOf_triple A he hsz (WalkArith.wf_i64 ha.1) (WalkArith.wf_i64 ha.2.1) (WalkArith.wf_i64 ha.2.2), tripK_inj⟩
end Go.Proofs.YtlmdjghcmofdlaaGreat
namespace Go.Proofs.YtlmdjghcmofdlaaGreat
open Go.RowKit
set_option linter.unusedVariables false
def posL (l : List Int) (e : Int) : Option Value := if e ∈ l then some (.int .i64 (l.idxOf e)) else none
def delL (l : List Int) (e : Int) : List Int := (l.set (l.idxOf e) (lAt l (l.length - 1))).take (l.length - 1)
theorem posL_nil (e : Int) : posL [] e = none := by simp [posL]
theorem posL_some {l : List Int} {e : Int} : (posL l e).isSome = true ↔ e ∈ l := by unfold posL; split <;> simp_all
theorem posL_isSome (l : List Int) (e : Int) : (posL l e).isSome = decide (e ∈ l) := by unfold posL; split <;> simp_all
theorem posL_snoc {l : List Int} {e : Int} (h : e ∉ l) : posL (l ++ [e]) = updQ (posL l) e (some (.int .i64 l.length)) := by
  funext x
  unfold updQ
  split
  · rename_i hx; subst hx
    simp [posL, List.idxOf_append, h]
  · rename_i hx
    unfold posL
    by_cases hl : x ∈ l
    · simp [hl, List.idxOf_append]
    · simp [hl, hx]
theorem mem_cut {l : List Int} {e : Int} (h : e ∈ l) (hn : l.Nodup) : (∃ P, l = P ++ [e] ∧ e ∉ P) ∨ ∃ P M y, l = P ++ e :: (M ++ [y]) ∧ e ∉ P ∧ e ∉ M ∧ e ≠ y ∧ y ∉ P ∧ y ∉ M := by
  obtain ⟨P, R, rfl⟩ := List.append_of_mem h
  rw [List.nodup_append] at hn
  obtain ⟨h1, h2, h3⟩ := hn
  rcases List.eq_nil_or_concat R with rfl | ⟨M, y, rfl⟩
  · exact .inl ⟨P, rfl, fun hp => h3 e hp e (by simp) rfl⟩
  · simp only [List.concat_eq_append] at *
    rw [List.nodup_cons, List.nodup_append] at h2
    obtain ⟨g1, g2, g3, g4⟩ := h2
    refine .inr ⟨P, M, y, rfl, fun hp => h3 e hp e (by simp) rfl, fun hm => g1 (by simp [hm]), fun hy => g1 (by simp [hy]), fun hp => h3 y hp y (by simp) rfl, fun hm => g4 y hm y (by simp) rfl⟩
theorem idx_mid {P R : List Int} {e : Int} (h : e ∉ P) : (P ++ e :: R).idxOf e = P.length := by
  rw [List.idxOf_append, if_neg h]; simp
theorem delL_end {P : List Int} {e : Int} (h : e ∉ P) : delL (P ++ [e]) e = P := by
  unfold delL
  rw [idx_mid h]
  have e1 : (P ++ [e]).length - 1 = P.length := by simp
  rw [e1, List.set_append_right _ _ (Nat.le_refl _)]
  simp
theorem delL_mid {P M : List Int} {e y : Int} (h : e ∉ P) : delL (P ++ e :: (M ++ [y])) e = P ++ y :: M := by
  unfold delL
  rw [idx_mid h]
  have e1 : (P ++ e :: (M ++ [y])).length - 1 = P.length + (M.length + 1) := by simp
  have e2 : lAt (P ++ e :: (M ++ [y])) (P.length + (M.length + 1)) = y := by
    unfold lAt
    rw [List.getD_eq_getElem?_getD, List.getElem?_append_right (by omega)]
    simp
  rw [e1, e2, List.set_append_right _ _ (Nat.le_refl _)]
  simp [List.take_append]
  exact List.take_of_length_le (by omega)
theorem idx_lt {l : List Int} {e : Int} (h : e ∈ l) : l.idxOf e < l.length := List.idxOf_lt_length_of_mem h
theorem lAt_last_end (P : List Int) (e : Int) : lAt (P ++ [e]) P.length = e := by simp [lAt]
theorem posL_del {l : List Int} {e : Int} (h : e ∈ l) (hn : l.Nodup) : posL (delL l e) = updQ (updQ (posL l) (lAt l (l.length - 1)) (some (.int .i64 (l.idxOf e)))) e none := by
  rcases mem_cut h hn with ⟨P, rfl, h1⟩ | ⟨P, M, y, rfl, h1, h2, h3, h4, h5⟩
  · rw [delL_end h1, idx_mid h1]
    have e1 : (P ++ [e]).length - 1 = P.length := by simp
    rw [e1, lAt_last_end]
    funext x
    unfold updQ
    split
    · rename_i hx; subst hx; simp [posL, h1]
    · rename_i hx
      by_cases hl : x ∈ P
      · simp [posL, hl, List.idxOf_append]
      · simp [posL, hl, hx]
  · rw [delL_mid h1, idx_mid h1]
    have e1 : (P ++ e :: (M ++ [y])).length - 1 = P.length + (M.length + 1) := by simp
    have e2 : lAt (P ++ e :: (M ++ [y])) (P.length + (M.length + 1)) = y := by
      unfold lAt
      rw [List.getD_eq_getElem?_getD, List.getElem?_append_right (by omega)]
      simp
    rw [e1, e2]
    funext x
    unfold updQ
    split
    · rename_i hx; subst hx; simp [posL, h1, h2, h3]
    · rename_i hx
      split
      · rename_i hy; subst hy
        simp [posL, idx_mid h4]
      · rename_i hy
        by_cases hl : x ∈ P
        · simp [posL, hl, List.idxOf_append]
        · by_cases hm : x ∈ M
          · simp [posL, hl, hm, hx, hy, List.idxOf_append, List.idxOf_cons, beq_eq_false_iff_ne.2 (Ne.symm hx), beq_eq_false_iff_ne.2 (Ne.symm hy)]
          · simp [posL, hl, hm, hx, hy]
theorem delL_mem {l : List Int} {e x : Int} (h : e ∈ l) (hn : l.Nodup) : x ∈ delL l e ↔ x ∈ l ∧ x ≠ e := by
  rcases mem_cut h hn with ⟨P, rfl, h1⟩ | ⟨P, M, y, rfl, h1, h2, h3, h4, h5⟩
  · rw [delL_end h1]
    constructor
    · intro hx; exact ⟨by simp [hx], fun e1 => h1 (e1 ▸ hx)⟩
    · rintro ⟨hx, hne⟩; simpa [hne] using hx
  · rw [delL_mid h1]
    constructor
    · intro hx
      refine ⟨by simp at hx ⊢; rcases hx with h | h | h <;> simp [h], fun e1 => ?_⟩
      subst e1
      simp [h1, h2, h3] at hx
    · rintro ⟨hx, hne⟩
      simp [hne] at hx ⊢
      rcases hx with h | h | h <;> simp [h]
theorem delL_nodup {l : List Int} {e : Int} (h : e ∈ l) (hn : l.Nodup) : (delL l e).Nodup := by
  rcases mem_cut h hn with ⟨P, rfl, h1⟩ | ⟨P, M, y, rfl, h1, h2, h3, h4, h5⟩
  · rw [delL_end h1]; rw [List.nodup_append] at hn; exact hn.1
  · rw [delL_mid h1]
    rw [List.nodup_append, List.nodup_cons, List.nodup_append] at hn
    obtain ⟨a1, ⟨a2, a3, a4, a5⟩, a6⟩ := hn
    rw [List.nodup_append, List.nodup_cons]
    refine ⟨a1, ⟨h5, a3⟩, fun u hu v hv => ?_⟩
    simp at hv
    rcases hv with rfl | hv
    · rintro rfl; exact h4 hu
    · exact a6 u hu v (by simp [hv])
theorem delL_len {l : List Int} {e : Int} (h : e ∈ l) : (delL l e).length = l.length - 1 := by
  unfold delL; rw [List.length_take, List.length_set]; omega
structure Bg where
  L : Int × Int → List Int
  n : Nat
def bg0 : Bg := ⟨fun _ => [], 0⟩
def Bg.put (s : Bg) (a : Int × Int) (e : Int) : Bg := ⟨updQ s.L a (s.L a ++ [e]), s.n + 1⟩
def Bg.take (s : Bg) (a : Int × Int) (e : Int) : Bg := ⟨updQ s.L a (delL (s.L a) e), s.n - 1⟩
def Bg.pos (s : Bg) (x : Int × Int × Int) : Option Value := posL (s.L (x.1, x.2.1)) x.2.2
structure Bg.Ok (s : Bg) (k : Nat) : Prop where
  key : ∀ a, s.L a ≠ [] → okP a ∧ 0 ≤ a.2 ∧ a.2 ≤ 63
  nodup : ∀ a, (s.L a).Nodup
  num : ∀ a e, e ∈ s.L a → 1 ≤ e ∧ e ≤ 9223372036854775807
  len : ∀ a, (s.L a).length ≤ k
  le : s.n ≤ k
theorem bg0_ok (k : Nat) : bg0.Ok k := ⟨fun a h => absurd rfl h, fun a => by simp [bg0], fun a e h => by simp [bg0] at h, fun a => by simp [bg0], by simp [bg0]⟩
theorem Bg.Ok.mono {s : Bg} {k k' : Nat} (h : s.Ok k) (hk : k ≤ k') : s.Ok k' := ⟨h.key, h.nodup, h.num, fun a => Nat.le_trans (h.len a) hk, Nat.le_trans h.le hk⟩
theorem Bg.Ok.put {s : Bg} {k : Nat} (h : s.Ok k) {a : Int × Int} {e : Int} (ha : okP a) (h0 : 0 ≤ a.2) (h1 : a.2 ≤ 63) (he : 1 ≤ e) (he1 : e ≤ 9223372036854775807) (hn : e ∉ s.L a) : (s.put a e).Ok (k + 1) := by
  refine ⟨fun x hx => ?_, fun x => ?_, fun x u hu => ?_, fun x => ?_, ?_⟩
  · by_cases hxa : x = a
    · subst hxa; exact ⟨ha, h0, h1⟩
    · exact h.key x (by simpa [Bg.put, updQ_ne hxa] using hx)
  · by_cases hxa : x = a
    · subst hxa
      simp only [Bg.put, updQ_at]
      rw [List.nodup_append]
      exact ⟨h.nodup x, by simp, fun u hu v hv => by simp at hv; subst hv; rintro rfl; exact hn hu⟩
    · simp only [Bg.put, updQ_ne hxa]; exact h.nodup x
  · by_cases hxa : x = a
    · subst hxa
      simp [Bg.put, updQ_at] at hu
      rcases hu with hu | rfl
      · exact h.num x u hu
      · exact ⟨he, he1⟩
    · simp only [Bg.put, updQ_ne hxa] at hu; exact h.num x u hu
  · by_cases hxa : x = a
    · subst hxa; simp only [Bg.put, updQ_at, List.length_append, List.length_singleton]; have := h.len x; omega
    · simp only [Bg.put, updQ_ne hxa]; have := h.len x; omega
  · have := h.le; simp only [Bg.put]; omega
theorem Bg.Ok.take {s : Bg} {k : Nat} (h : s.Ok k) {a : Int × Int} {e : Int} (hm : e ∈ s.L a) : (s.take a e).Ok k := by
  have hl := delL_len hm
  refine ⟨fun x hx => ?_, fun x => ?_, fun x u hu => ?_, fun x => ?_, ?_⟩
  · by_cases hxa : x = a
    · subst hxa; exact h.key x (fun e0 => by rw [e0] at hm; simp at hm)
    · exact h.key x (by simpa [Bg.take, updQ_ne hxa] using hx)
  · by_cases hxa : x = a
    · subst hxa; simp only [Bg.take, updQ_at]; exact delL_nodup hm (h.nodup x)
    · simp only [Bg.take, updQ_ne hxa]; exact h.nodup x
  · by_cases hxa : x = a
    · subst hxa
      simp only [Bg.take, updQ_at] at hu
      exact h.num x u ((delL_mem hm (h.nodup x)).1 hu).1
    · simp only [Bg.take, updQ_ne hxa] at hu; exact h.num x u hu
  · by_cases hxa : x = a
    · subst hxa; simp only [Bg.take, updQ_at]; have := h.len x; omega
    · simp only [Bg.take, updQ_ne hxa]; exact h.len x
  · have := h.le; simp only [Bg.take]; omega
theorem Bg.pos_put {s : Bg} {a : Int × Int} {e : Int} (h : e ∉ s.L a) : (s.put a e).pos = updQ s.pos (a.1, a.2, e) (some (.int .i64 (s.L a).length)) := by
  funext x
  obtain ⟨v, l, u⟩ := x
  obtain ⟨v', l'⟩ := a
  by_cases hx : (v, l) = (v', l')
  · cases hx
    have h1 := congrFun (posL_snoc h) u
    simp only [Bg.pos, Bg.put, updQ_at]
    rw [h1]
    by_cases hu : u = e
    · subst hu; rw [updQ_at, updQ_at]
    · rw [updQ_ne hu, updQ_ne (by simpa using hu)]; rfl
  · rw [updQ_ne (by intro h1; cases h1; exact hx rfl)]
    simp only [Bg.pos, Bg.put]
    rw [updQ_ne hx]
theorem Bg.pos_take {s : Bg} {a : Int × Int} {e : Int} (h : e ∈ s.L a) (hn : (s.L a).Nodup) : (s.take a e).pos = updQ (updQ s.pos (a.1, a.2, lAt (s.L a) ((s.L a).length - 1)) (some (.int .i64 ((s.L a).idxOf e)))) (a.1, a.2, e) none := by
  funext x
  obtain ⟨v, l, u⟩ := x
  obtain ⟨v', l'⟩ := a
  by_cases hx : (v, l) = (v', l')
  · cases hx
    have h1 := congrFun (posL_del h hn) u
    simp only [Bg.pos, Bg.take, updQ_at]
    rw [h1]
    by_cases hu : u = e
    · subst hu; rw [updQ_at, updQ_at]
    · have hne : ((v, l, u) : Int × Int × Int) ≠ (v, l, e) := by intro h1; apply hu; simpa using h1
      rw [updQ_ne hu, updQ_ne hne]
      generalize lAt (s.L (v, l)) ((s.L (v, l)).length - 1) = y
      by_cases hy : u = y
      · subst hy; rw [updQ_at, updQ_at]
      · rw [updQ_ne hy, updQ_ne (by intro h1; apply hy; simpa using h1)]; rfl
  · rw [updQ_ne (by intro h1; cases h1; exact hx rfl), updQ_ne (by intro h1; cases h1; exact hx rfl)]
    simp only [Bg.pos, Bg.take]
    rw [updQ_ne hx]
structure BK (X Z : Nat) (W W' : World) : Prop where
  size : W.heap.size ≤ W'.heap.size
  same : ∀ k, X ≤ k → k < Z → W'.heap[k]? = W.heap[k]?
theorem BK.trans {X Z : Nat} {A B C : World} (h : BK X Z A B) (k : BK X Z B C) : BK X Z A C := ⟨Nat.le_trans h.size k.size, fun i h1 h2 => (k.same i h1 h2).trans (h.same i h1 h2)⟩
theorem BK.mono {X X' Z Z' : Nat} {A B : World} (h : BK X Z A B) (hX : X ≤ X') (hZ : Z' ≤ Z) : BK X' Z' A B := ⟨h.size, fun i h1 h2 => h.same i (by omega) (by omega)⟩
theorem BK.putObj {X Z l : Nat} {W : World} (o : Obj) (hl : l < X ∨ Z ≤ l) : BK X Z W (W.putObj l o) := ⟨by simp, fun i h1 h2 => World.putObj_heap_other (by omega)⟩
def postZ {α : Type} (X Z : Nat) (I : List α → World → Prop) (Ix : Code → List α → World → Prop) (xs : List α) (W : World) : Exit → Act → World → Prop
  | .normal, _, W' => BK X Z W W' ∧ I xs W'
  | .ret, _, W' => BK X Z W W' ∧ Ix .ret xs W'
  | .exit id, _, W' => BK X Z W W' ∧ Ix (.exit id) xs W'
  | .goto t, _, W' => BK X Z W W' ∧ Ix (.goto t) xs W'
  | .panic _, _, _ => False
  | .outgrown, _, _ => False
theorem yieldAt_in {m m' : Nat} {P : Program} {l l' : Nat} {args : Array Value} {W : World} {R : Ending → World → Prop} (h : YieldAt Fence.wide m P l args W R) : YieldAt (Fence.wide.inRound l') m' P l args W R := by
  obtain ⟨fn, tmps, assign, body, hy, h1, h2⟩ := h
  exact ⟨fn, tmps, assign, body, hy, h1, fun c cs _ => h2 c cs (room_wide _)⟩
section
variable {F : Fence} {n : Nat} {P : Program}
end
def OwnIn {β : Type} (X Z : Nat) (I : β → World → Prop) : Prop := ∀ s W W' row, I s W → W.grownBy W' row → (∀ r, row = some r → X ≤ r ∧ r < Z ∧ ∃ o : Obj, W.heap[r]? = some o ∧ o.isCells = false) → I s W'
theorem OwnIn.putObj {β : Type} {X Z : Nat} {I : β → World → Prop} (h : OwnIn X Z I) {s : β} {W : World} (o : Obj) (hs : I s W) {r : Nat} (h1 : X ≤ r) (h2 : r < Z) {o' : Obj} (ho : W.heap[r]? = some o') (hc : o'.isCells = false) : I s (W.putObj r o) :=
  h s W _ (some r) hs ⟨rfl, rfl, rfl, by simp, fun k _ hk => World.putObj_heap_other (fun e => hk (by rw [e]))⟩ (fun q e => by cases e; exact ⟨h1, h2, o', ho, hc⟩)
theorem OwnIn.alloc {β : Type} {X Z : Nat} {I : β → World → Prop} (h : OwnIn X Z I) {s : β} {W : World} (o : Obj) (hs : I s W) : I s (W.alloc o) := h s W _ none hs (World.grownBy_alloc W o none) (fun q e => by cases e)
theorem OwnIn.below {β : Type} {X Z : Nat} {I : β → World → Prop} (h : OwnIn X Z I) {s : β} {W W' : World} (hs : I s W) (hb : Below W.heap.size W W') : I s W' := h s W W' none hs (below_grown hb) (fun r e => by cases e)
theorem OwnIn.mono {β : Type} {X X' Z Z' : Nat} {I : β → World → Prop} (h : OwnIn X Z I) (hX : X ≤ X') (hZ : Z' ≤ Z) : OwnIn X' Z' I := fun s W W' row hs hg hr => h s W W' row hs hg (fun r e => by obtain ⟨a, b, c⟩ := hr r e; exact ⟨by omega, by omega, c⟩)
theorem OwnIn.of {β : Type} {X Z : Nat} {I : β → World → Prop} (h : OwnFrom X I) : OwnIn X Z I := fun s W W' row hs hg hr => h s W W' row hs hg (fun r e => ⟨(hr r e).1, (hr r e).2.2⟩)
theorem OwnIn.and {β : Type} {X Z : Nat} {I I' : β → World → Prop} (h : OwnIn X Z I) (k : OwnIn X Z I') : OwnIn X Z (fun s W => I s W ∧ I' s W) := fun s W W' row hs hg hr => ⟨h s W W' row hs.1 hg hr, k s W W' row hs.2 hg hr⟩
def SeqY {α : Type} (F : Fence) (n : Nat) (P : Program) (g : Nat) (lb : Array Value) (encs : α → Array Value) (R : World → Prop) (S Sp : List α → Prop) (N : Nat) (w : World) : Prop :=
  ∀ (l : Nat) (J Jx : Nat → List α → World → Prop) (X : World), (∀ Z pre W, J Z pre W → R W) → Below w.heap.size w X → (∀ Z, OwnIn X.heap.size Z (J Z)) → (∀ Z, OwnIn X.heap.size Z (Jx Z)) → w.heap.size ≤ l → l < X.heap.size →
    (∀ Z pre x W1, X.heap.size ≤ Z → Z ≤ W1.heap.size → J Z pre W1 → pre.length < N ∧ Sp (pre ++ [x]) → YieldAt F (n - 1) P l (encs x) W1 fun e W' =>
      (e = .returned (.bool true) ∧ J Z (pre ++ [x]) W' ∧ BK X.heap.size Z W1 W') ∨ (e = .returned (.bool false) ∧ Jx Z (pre ++ [x]) W' ∧ BK X.heap.size Z W1 W')) →
    (∀ Z, J Z [] X) →
    CallsIn F n P g (#[.func (.yield l) #[] #[]] ++ lb) X fun e W' => (∃ v, e = .returned v) ∧ ((∃ Z xs, X.heap.size ≤ Z ∧ S xs ∧ J Z xs W') ∨ (∃ Z pre, X.heap.size ≤ Z ∧ Sp pre ∧ Jx Z pre W'))
section
variable {F : Fence} {n : Nat} {P : Program}
theorem range_ownY {α : Type} {g : Operand} {ps : Array Tmp} {assign body : Code} {Q : Exit → Act → World → Prop} {a : Act} {w : World} (hro : F.round = none) (h1 : 1 ≤ n) {gf : Nat} {lb : Array Value} (hg : a.eval g = .func (.func gf) #[] lb) (hFg : F.fn gf)
    (eg : ∀ args w, (callFunc gf args).run P w = .ok (.enter gf args) w) {encs : α → Array Value} {R' : World → Prop} {S Sp : List α → Prop} {N : Nat} {w0 : World} (hseq : SeqY F (n - 1) P gf lb encs R' S Sp N w0) (hb0 : Below w0.heap.size w0 w) (hps : ∀ x, (encs x).size = ps.size)
    (I : Nat → List α → World → Prop) (Ix : Nat → Code → List α → World → Prop) (hI : ∀ Z, OwnIn w.heap.size Z (I Z)) (hIx : ∀ Z c, OwnIn w.heap.size Z (Ix Z c)) (h0 : ∀ Z, I Z [] w) (hR' : ∀ Z pre W, I Z pre W → R' W) (a₁ : α → Act)
    (hassign : ∀ (l : Nat) (x : α) (W : World) (K : Act → World → Prop), K (a₁ x) W → assign.wpIn (F.inRound l) (n - 1 - 1) P (Exit.then K (fun _ _ _ => False)) { tmps := (ps.zip (encs x)).foldl (fun t (p, v) => t.setIfInBounds p v) a.tmps, defers := [] } W)
    (hbody : ∀ (l Z : Nat) (pre : List α) (x : α) (W : World), w.heap.size + 2 ≤ Z → Z ≤ W.heap.size → I Z pre W → pre.length < N ∧ Sp (pre ++ [x]) → body.wpIn (F.inRound l) (n - 1 - 1) P (postZ w.heap.size Z (I Z) (Ix Z) (pre ++ [x]) W) (a₁ x) W)
    (hdone : ∀ (D Z : Nat) (xs : List α) (W : World), w.heap.size ≤ D → D < Z → S xs → I Z xs W → W.heap[D]? = some (.deferred (some [])) → Q .normal { a with defers := { target := .collected D, args := #[] } :: a.defers } W)
    (hstop : ∀ (D Z : Nat) (c : Code) (pre : List α) (W : World), w.heap.size ≤ D → D < Z → Sp pre → Ix Z c pre W → W.heap[D]? = some (.deferred (some [])) → c.wpIn F n P Q { a with defers := { target := .collected D, args := #[] } :: a.defers } W) :
    (Code.rangeFunc g ps assign body).wpIn F n P Q a w := by
  refine wpIn_rangeFunc fun fn hfn => ?_
  rw [hro]
  have hl0 : w.heap.size + 1 ≠ w.heap.size := by omega
  obtain ⟨R, hR⟩ : ∃ R : LoopState → Option Code → Obj, R = recOf fn a.tmps ps assign body w.heap.size := ⟨_, rfl⟩
  obtain ⟨X, hX⟩ : ∃ X, X = (w.alloc (.deferred (some []))).alloc (R .ready none) := ⟨_, rfl⟩
  have sX : X.heap.size = w.heap.size + 2 := by rw [hX]; simp
  have rX : X.heap[w.heap.size + 1]? = some (R .ready none) := by
    have := World.alloc_heap_new (w.alloc (.deferred (some []))) (R .ready none)
    rw [World.size_alloc] at this; rw [hX]; exact this
  have dX : X.heap[w.heap.size]? = some (.deferred (some [])) := by
    rw [hX]; exact (Below.heap_alloc _ _ _ (by simp)).trans (World.alloc_heap_new w _)
  have iX : ∀ Z, I Z [] X := fun Z => by rw [hX]; exact (hI Z).alloc _ ((hI Z).alloc _ (h0 Z))
  have bX : Below w0.heap.size w0 X := by
    rw [hX]; exact hb0.trans (((Below.refl _ w).alloc (Nat.le_refl _) _ |>.alloc (by simp) _).mono hb0.size)
  have Rc : ∀ s p, (R s p).isCells = false := fun s p => by rw [hR]; rfl
  have abide : ∀ {A B : World} {row : Option Nat} {Z : Nat}, A.grownBy B row → (∀ r, row = some r → X.heap.size ≤ r ∧ r < Z ∧ ∃ o : Obj, A.heap[r]? = some o ∧ o.isCells = false) →
      (∀ r, row = some r → w.heap.size ≤ r ∧ r < Z ∧ ∃ o : Obj, A.heap[r]? = some o ∧ o.isCells = false) ∧ ∀ (k : Nat) (o : Obj), k < X.heap.size → A.heap[k]? = some o → B.heap[k]? = some o := fun hg' hr =>
    ⟨fun r e => by obtain ⟨q1, q2⟩ := hr r e; exact ⟨by omega, q2⟩, fun k o hx hk => (hg'.block k (Array.getElem?_eq_some_iff.1 hk).1 (fun e => by have := (hr k e.symm).1; omega)).trans hk⟩
  refine ⟨w.heap.size + 1, [{ target := .collected w.heap.size, args := #[] }], X, { target := .fn (.func gf) lb, args := #[.func (.yield (w.heap.size + 1)) #[] #[]] }, X, gf, #[.func (.yield (w.heap.size + 1)) #[] #[]] ++ lb, X, ?e1, ?e2, ?e3, ?e4, fun _ => h1, ?e5⟩
  case e1 => rw [hX, hR]; exact run_enterLoop_outer _ _ _ _ _
  case e2 => simp only [resolve, hg]; simp [go_sem]
  case e3 => intro f' hf'; simp [Target.leads] at hf'; subst hf'; exact hFg
  case e4 => simp [invoke, go_sem, eg]
  case e5 =>
    refine (hseq (w.heap.size + 1) (fun Z pre A => I Z pre A ∧ A.heap[w.heap.size + 1]? = some (R .ready none) ∧ A.heap[w.heap.size]? = some (.deferred (some [])))
      (fun Z pre A => ∃ c, Ix Z c pre A ∧ A.heap[w.heap.size + 1]? = some (R .done (some c)) ∧ A.heap[w.heap.size]? = some (.deferred (some []))) X (fun Z pre A h => hR' Z pre A h.1) bX ?j ?jx (by have := hb0.size; omega) (by omega) ?y (fun Z => ⟨iX Z, rX, dX⟩)).mono ?fin
    case j =>
      rintro Z s A B row ⟨q1, q2, q3⟩ hg' hr
      obtain ⟨k1, k2⟩ := abide hg' hr
      exact ⟨hI Z s A B row q1 hg' k1, k2 _ _ (by omega) q2, k2 _ _ (by omega) q3⟩
    case jx =>
      rintro Z s A B row ⟨c, q1, q2, q3⟩ hg' hr
      obtain ⟨k1, k2⟩ := abide hg' hr
      exact ⟨c, hIx Z c s A B row q1 hg' k1, k2 _ _ (by omega) q2, k2 _ _ (by omega) q3⟩
    case fin =>
      rintro e A ⟨⟨v, rfl⟩, ⟨Z, xs, hZ, hS, q1, q2, q3⟩ | ⟨Z, pre, hZ, hSp, c, q1, q2, q3⟩⟩
      · have q2' := q2
        rw [hR] at q2'
        exact ⟨none, _, run_endLoop q2' (by simp), hdone _ Z xs _ (Nat.le_refl _) (by omega) hS ((hI Z).putObj _ q1 (by omega) (by omega) q2 (Rc _ _)) ((World.putObj_heap_other (Ne.symm hl0)).trans q3)⟩
      · have q2' := q2
        rw [hR] at q2'
        exact ⟨some c, _, run_endLoop q2' (by simp), hstop _ Z c pre _ (Nat.le_refl _) (by omega) hSp ((hIx Z c).putObj _ q1 (by omega) (by omega) q2 (Rc _ _)) ((World.putObj_heap_other (Ne.symm hl0)).trans q3)⟩
    case y =>
      rintro Z pre x A hZ0 hZ1 ⟨q1, q2, q3⟩ hlen
      rw [sX] at hZ0
      have q2' := q2
      rw [hR] at q2'
      have hin := (Array.getElem?_eq_some_iff.1 q2).1
      have yl := run_yield (P := P) (args := encs x) q2' (hps x)
      refine ⟨fn, _, assign, body, yl, roundIn_of_wpIn hfn (hassign _ x A _ ⟨_, run_beginRound q2' rfl, ?_⟩)⟩
      obtain ⟨A1, hA1⟩ : ∃ A1, A1 = A.putObj (w.heap.size + 1) (R .busy none) := ⟨_, rfl⟩
      have e1 : A1.heap[w.heap.size + 1]? = some (R .busy none) := by rw [hA1]; exact World.putObj_heap_same hin
      have e2 : A1.heap[w.heap.size]? = some (.deferred (some [])) := by rw [hA1]; exact (World.putObj_heap_other (Ne.symm hl0)).trans q3
      have e3 : BK X.heap.size Z A A1 := by rw [hA1]; exact BK.putObj _ (.inl (by omega))
      have e4 : I Z pre A1 := by rw [hA1]; exact (hI Z).putObj _ q1 (by omega) (by omega) q2 (Rc _ _)
      have back : A.putObj (w.heap.size + 1) (R .busy none) = A1 := hA1.symm
      rw [hR] at back
      simp only [recOf] at back
      rw [back]
      refine wpIn_mono (hbody _ Z pre x A1 hZ0 (by rw [hA1]; simpa using hZ1) e4 hlen) ?_
      have close : ∀ (j : Option Code) (A2 : World), BK w.heap.size Z A1 A2 → (Instr.endRound (w.heap.size + 1) j).run P A2 = .ok (.bool j.isNone) (A2.putObj (w.heap.size + 1) (R (if j.isNone then .ready else .done) j)) ∧
          A2.heap[w.heap.size + 1]? = some (R .busy none) ∧ (A2.putObj (w.heap.size + 1) (R (if j.isNone then .ready else .done) j)).heap[w.heap.size + 1]? = some (R (if j.isNone then .ready else .done) j) ∧
          (A2.putObj (w.heap.size + 1) (R (if j.isNone then .ready else .done) j)).heap[w.heap.size]? = some (.deferred (some [])) := fun j A2 hk => by
        have f1 := (hk.same (w.heap.size + 1) (by omega) (by omega)).trans e1
        have f1' := f1
        rw [hR] at f1'
        have f2 := run_endRound (P := P) j f1'
        exact ⟨by rw [hR]; exact f2, f1, World.putObj_heap_same (Array.getElem?_eq_some_iff.1 f1).1, (World.putObj_heap_other (Ne.symm hl0)).trans ((hk.same w.heap.size (by omega) (by omega)).trans e2)⟩
      have leave : ∀ (c : Code) (A2 : World), BK w.heap.size Z A1 A2 → Ix Z c (pre ++ [x]) A2 → ∃ v A3, (Instr.endRound (w.heap.size + 1) (some c)).run P A2 = .ok v A3 ∧
          ((Ending.returned v = .returned (.bool true) ∧ (I Z (pre ++ [x]) A3 ∧ A3.heap[w.heap.size + 1]? = some (R .ready none) ∧ A3.heap[w.heap.size]? = some (.deferred (some []))) ∧ BK X.heap.size Z A A3) ∨
            (Ending.returned v = .returned (.bool false) ∧ (∃ c, Ix Z c (pre ++ [x]) A3 ∧ A3.heap[w.heap.size + 1]? = some (R .done (some c)) ∧ A3.heap[w.heap.size]? = some (.deferred (some []))) ∧ BK X.heap.size Z A A3)) := fun c A2 hk hi => by
        obtain ⟨f1, f2, f3, f4⟩ := close (some c) A2 hk
        exact ⟨_, _, f1, .inr ⟨rfl, ⟨c, (hIx Z c).putObj _ hi (by omega) (by omega) f2 (Rc _ _), f3, f4⟩, (e3.trans (hk.mono (by omega) (Nat.le_refl _))).trans (BK.putObj _ (.inl (by omega)))⟩⟩
      rintro e a3 A2 hp
      cases e with
      | normal =>
        obtain ⟨hk, hi⟩ := hp
        obtain ⟨f1, f2, f3, f4⟩ := close none A2 hk
        exact ⟨_, _, f1, .inl ⟨rfl, ⟨(hI Z).putObj _ hi (by omega) (by omega) f2 (Rc _ _), f3, f4⟩, (e3.trans (hk.mono (by omega) (Nat.le_refl _))).trans (BK.putObj _ (.inl (by omega)))⟩⟩
      | ret => exact leave _ A2 hp.1 hp.2
      | exit id => exact leave _ A2 hp.1 hp.2
      | goto t => exact leave _ A2 hp.1 hp.2
      | panic ch => exact hp.elim
      | outgrown => exact hp.elim
end
end Go.Proofs.YtlmdjghcmofdlaaGreat
