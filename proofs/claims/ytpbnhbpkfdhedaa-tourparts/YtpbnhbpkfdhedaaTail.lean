/- Over whatever program: a region that draws its order, all of whose operations read or call what makes new memory at most, but for the last one (a store), which waits for all others: one walk of the text's order, then that operation. -/
import Derived.Test.YtpbnhbpkfdhedaaKit
namespace Go.Proofs.Ytpbnhbpkfdhedaa
open Go.RowKit
set_option linter.unusedVariables false

/-- Each edge leads back; each operation but the last is waited for by a later one; the last yields nothing. -/
def tailB (l : List Oper) (n : Nat) : Bool :=
  decide (l.length = n + 1) && (List.range (n + 1)).all (fun i => match l[i]? with | some o => o.after.all (fun e => decide (e.on < i)) | none => false) &&
    (match l[n]? with | some o => o.dst.isNone | none => false) &&
    (List.range n).all (fun i => (List.range (n + 1)).any (fun j => decide (i < j) && (match l[j]? with | some x => x.after.any (fun e => Region.binds .any e && e.on == i) | none => false)))

/-- The last operation, its deed struck. -/
def stillOp (o : Oper) : Oper := { dst := none, op := .move (.const (.bool false)), type := o.type, pos := o.pos, after := o.after, guard := none }
def stillAt (l : List Oper) (n : Nat) : List Oper := l.set n (stillOp ((l[n]?).getD default))

theorem ready_some {ops : Array Oper} {listed : Array Bool} (hs : listed.size = ops.size) (hback : ∀ (i : Nat) (o : Oper), ops[i]? = some o → ∀ e ∈ o.after, e.on < i) :
    ∀ m, m < ops.size → listed.getD m true = false → ∃ j, j ∈ Region.ready .any ops listed := by
  intro m
  induction m using Nat.strongRecOn with
  | _ m ih =>
    intro hm hl
    obtain ⟨o, ho⟩ : ∃ o, ops[m]? = some o := ⟨ops[m], Array.getElem?_eq_getElem hm⟩
    by_cases hall : ∀ e ∈ o.after, Region.binds .any e = true → listed.getD e.on false = true
    · exact ⟨m, mem_ready.2 ⟨hl, o, ho, hall⟩⟩
    · obtain ⟨e, he⟩ := Classical.not_forall.1 hall
      obtain ⟨he1, he2⟩ := Classical.not_imp.1 he
      obtain ⟨_, he3⟩ := Classical.not_imp.1 he2
      have hlt := hback m o ho e he1
      refine ih e.on hlt (by omega) ?_
      have hin : e.on < listed.size := by omega
      simp [hin] at he3 ⊢
      exact he3

theorem getD_up {listed : Array Bool} {i j : Nat} (h : listed.getD j false = true) : (listed.setIfInBounds i true).getD j false = true := by
  by_cases hji : j = i
  · subst hji
    have : j < listed.size := by
      rcases Nat.lt_or_ge j listed.size with h1 | h1
      · exact h1
      · simp [Array.getD, Nat.not_lt.2 h1] at h
    simp [this]
  · rw [getD_set_ne false (Ne.symm hji)]; exact h
theorem down_set {ops : Array Oper} {listed : Array Bool} {n i : Nat} (hs : listed.size = n + 1) (hdn : ∀ (j : Nat) (x : Oper), listed.getD j false = true → ops[j]? = some x → ∀ e ∈ x.after, Region.binds .any e = true → listed.getD e.on false = true)
    (hi : i ∈ Region.ready .any ops listed) : ∀ (j : Nat) (x : Oper), (listed.setIfInBounds i true).getD j false = true → ops[j]? = some x → ∀ e ∈ x.after, Region.binds .any e = true → (listed.setIfInBounds i true).getD e.on false = true := by
  intro j x hj hx e he hb
  by_cases hji : j = i
  · subst hji
    obtain ⟨_, y, hy, hw⟩ := mem_ready.1 hi
    obtain rfl : y = x := Option.some.inj (hy.symm.trans hx)
    exact getD_up (hw e he hb)
  · rw [getD_set_ne false (Ne.symm hji)] at hj
    exact getD_up (hdn j x hj hx e he hb)
theorem wpAny_tail {P : Program} {ops ops' : Array Oper} {C : World → Prop} {Q : Exit → Act → World → Prop} {Q' : Act → Prop} {n : Nat} {o o' : Oper}
    (hsz : ops.size = n + 1) (ho : ops[n]? = some o) (ho' : ops'[n]? = some o') (hsame : ∀ i, i ≠ n → ops'[i]? = ops[i]?) (haft : o'.after = o.after) (hd : o.dst = none) (hd' : o'.dst = none) (hg' : o'.guard = none)
    (hback : ∀ (i : Nat) (x : Oper), ops[i]? = some x → ∀ e ∈ x.after, e.on < i) (hall : ∀ i, i < n → ∃ j x, i < j ∧ j ≤ n ∧ ops[j]? = some x ∧ ∃ e ∈ x.after, Region.binds .any e = true ∧ e.on = i)
    (hQ : ∀ a w, C w → Q' a → wpOp P ops Q n (Q .normal) a w) :
    ∀ (fuel : Nat) (listed : Array Bool) (a : Act) (w : World), listed.size = n + 1 → listed.getD n true = false → (∀ (j : Nat) (x : Oper), listed.getD j false = true → ops[j]? = some x → ∀ e ∈ x.after, Region.binds .any e = true → listed.getD e.on false = true) → C w → wpAnyQ P .any ops' C Q' fuel listed a → wpAny P .any ops Q fuel listed a w := by
  have hy : ∀ t, yielded ops' t = yielded ops t := fun t => by
    funext j
    unfold yielded
    by_cases hj : j = n
    · subst hj; rw [ho, ho']; simp [hd, hd']
    · rw [hsame j hj]
  have hready : ∀ listed, Region.ready .any ops' listed = Region.ready .any ops listed := fun listed => by
    have hsz' : ops'.size = ops.size := by
      have h1 : n < ops'.size := (Array.getElem?_eq_some_iff.1 ho').1
      have h2 := hsame (n + 1) (by omega)
      rw [Array.getElem?_eq_none (by omega : ops.size ≤ n + 1)] at h2
      have := Array.getElem?_eq_none_iff.1 h2
      omega
    unfold Region.ready
    rw [hsz']
    refine List.filter_congr fun i _ => ?_
    by_cases hi : i = n
    · subst hi; rw [ho, ho']; simp [haft]
    · rw [hsame i hi]
  intro fuel
  induction fuel with
  | zero =>
    intro listed a w hs hn hdn hC h
    obtain ⟨j, hj⟩ := ready_some (ops := ops) (by omega) hback n (by omega) hn
    have h1 := h.1
    rw [hready] at h1
    rw [h1] at hj
    cases hj
  | succ fuel ih =>
    intro listed a w hs hn hdn hC h
    refine ⟨fun h0 => ?_, fun i hi => ?_⟩
    · obtain ⟨j, hj⟩ := ready_some (ops := ops) (by omega) hback n (by omega) hn
      rw [h0] at hj
      cases hj
    · have h1 := h.2 i (by rw [hready]; exact hi)
      by_cases hin : i = n
      · subst hin
        -- all others are through
        obtain ⟨_, x, hx, hw⟩ := mem_ready.1 hi
        obtain rfl : x = o := Option.some.inj (hx.symm.trans ho)
        have hall3 : ∀ d j, j < i → i - j ≤ d → listed.getD j false = true := by
          intro d
          induction d with
          | zero => intro j hj hd; omega
          | succ d ihd =>
            intro j hj hd
            obtain ⟨j', y, h1, h2, h3, e, he, hb, rfl⟩ := hall j hj
            by_cases hji : j' = i
            · subst hji
              obtain rfl : y = x := Option.some.inj (h3.symm.trans ho)
              exact hw e he hb
            · exact hdn j' y (ihd j' (by omega) (by omega)) h3 e he hb
        have hall2 : ∀ j, j < i → listed.getD j false = true := fun j hj => hall3 (i - j) j hj (Nat.le_refl _)
        have hnone : Region.ready .any ops (listed.setIfInBounds i true) = [] := by
          refine List.eq_nil_iff_forall_not_mem.2 fun j hj => ?_
          obtain ⟨hj1, y, hy1, _⟩ := mem_ready.1 hj
          have hjl : j < ops.size := (Array.getElem?_eq_some_iff.1 hy1).1
          by_cases hji : j = i
          · subst hji
            simp [hs] at hj1
          · rw [getD_set_ne true (Ne.symm hji)] at hj1
            have h2 := hall2 j (by omega)
            have hjs : j < listed.size := by omega
            simp [hjs] at hj1 h2
            rw [hj1] at h2
            cases h2
        have hQ2 : Q' a := by
          unfold qOp at h1
          rw [ho'] at h1
          simp only [Region.wanted, hg'] at h1
          obtain ⟨v, _, hK⟩ := h1
          rw [hd'] at hK
          have hK' : wpAnyQ P .any ops' C Q' fuel (listed.setIfInBounds i true) a := hK
          cases fuel with
          | zero => exact hK'.2
          | succ f => exact hK'.1 (by rw [hready]; exact hnone)
        refine wpOp_mono (fun a' w' hq => ?_) (hQ a w hC hQ2)
        cases fuel with
        | zero => exact ⟨hnone, hq⟩
        | succ f => exact ⟨fun _ => hq, fun j hj => by rw [hnone] at hj; cases hj⟩
      · have h2 : wpOp P ops' Q i (wpAny P .any ops Q fuel (listed.setIfInBounds i true)) a w :=
          wpOp_of_qOp hC (fun a' w' hC' hK => ih (listed.setIfInBounds i true) a' w' (by simpa using hs) (by rw [getD_set_ne true hin]; exact hn) (down_set hs hdn hi) hC' hK) h1
        unfold wpOp at h2 ⊢
        rw [hsame i hin, hy] at h2
        exact h2

theorem tailB_spec {l : List Oper} {n : Nat} (h : tailB l n = true) : l.length = n + 1 ∧ (∀ (i : Nat) (x : Oper), l.toArray[i]? = some x → ∀ e ∈ x.after, e.on < i) ∧
    (∃ o, l[n]? = some o ∧ o.dst = none) ∧ ∀ i, i < n → ∃ j x, i < j ∧ j ≤ n ∧ l.toArray[j]? = some x ∧ ∃ e ∈ x.after, Region.binds .any e = true ∧ e.on = i := by
  unfold tailB at h
  simp only [Bool.and_eq_true, decide_eq_true_eq] at h
  obtain ⟨⟨⟨h1, h2⟩, h3⟩, h4⟩ := h
  refine ⟨h1, fun i x hx e he => ?_, ?_, fun i hi => ?_⟩
  · have hx' : l[i]? = some x := by simpa using hx
    have hi : i < n + 1 := by have := (List.getElem?_eq_some_iff.1 hx').1; omega
    have := List.all_eq_true.1 h2 i (List.mem_range.2 hi)
    rw [hx'] at this
    simp only at this
    have k := Array.all_eq_true'.1 this e he
    simpa using k
  · cases ho : l[n]? with
    | none => rw [ho] at h3; cases h3
    | some o =>
      rw [ho] at h3
      simp only [Option.isNone_iff_eq_none] at h3
      exact ⟨o, rfl, h3⟩
  · have := List.all_eq_true.1 h4 i (List.mem_range.2 hi)
    obtain ⟨j, hj, hb⟩ := List.any_eq_true.1 this
    simp only [Bool.and_eq_true, decide_eq_true_eq] at hb
    obtain ⟨hb1, hb2⟩ := hb
    cases hx : l[j]? with
    | none => rw [hx] at hb2; cases hb2
    | some x =>
      rw [hx] at hb2
      simp only at hb2
      obtain ⟨e, he, hb⟩ := Array.any_eq_true'.1 hb2
      simp only [Bool.and_eq_true, beq_iff_eq] at hb
      exact ⟨j, x, hb1, by have := List.mem_range.1 hj; omega, by simpa using hx, e, he, hb.1, hb.2⟩

/-- **A region that draws its order: all reads and calls that make new memory at most, then one store.** -/
theorem wp_region_tail {P : Program} {id : Nat} {Q : Exit → Act → World → Prop} {a : Act} {X : World} {l : List Oper} (n : Nat) (hm : P.follows .mixedOrders = true) (hT : tailB l n = true) (hB : Region.lexB .any (stillAt l n).toArray = true)
    (h : wpQuiet P (stillAt l n).toArray (fun w' => ∃ g : Grow X, w' = g.w) (fun a' => ∀ w', (∃ g : Grow X, w' = g.w) → wpList P l.toArray Q (l.drop n) a' w') (stillAt l n) a) : (Code.region id l.toArray true).wp P Q a X := by
  obtain ⟨hlen, hback, ⟨o, ho, hd⟩, hall⟩ := tailB_spec hT
  simp only [Region.lexB, Bool.and_eq_true] at hB
  have hdrop : l.drop n = [o] := by
    rw [List.drop_eq_getElem_cons (by omega), (List.getElem?_eq_some_iff.1 ho).2, List.drop_eq_nil_of_le (by omega)]
  rw [hdrop] at h
  have hsl : (stillAt l n).length = n + 1 := by unfold stillAt; simp [hlen]
  have hq := wpAnyQ_lex (P := P) (C := fun w' => ∃ g : Grow X, w' = g.w) (md := .any) hB.1 (stillAt l n) 0 (Array.replicate (stillAt l n).toArray.size false) a (by simp) (by simpa using hB.2) h
  refine wp_region_any hm ?_
  have hrun := wpAny_tail (P := P) (ops := l.toArray) (ops' := (stillAt l n).toArray) (C := fun w' => ∃ g : Grow X, w' = g.w) (Q := Q) (n := n) (o := o) (o' := stillOp o) (by simp [hlen]) (by simpa using ho)
    (by unfold stillAt; rw [ho]; simp [hlen]) (fun i hi => by unfold stillAt; simp [List.getElem?_set_ne (Ne.symm hi)]) rfl hd rfl rfl hback hall
    (fun a w hC hq => by
      have := hq w hC
      unfold wpOp
      rw [show l.toArray[n]? = some o from by simpa using ho]
      exact this)
    (stillAt l n).length (Array.replicate (stillAt l n).toArray.size false) a X.drew (by simp [hsl]) (by simp [hsl]) (fun j x hj => by exfalso; revert hj; simp [Array.getD]) ⟨⟨X.drew, (Below.refl _ _).drew⟩, rfl⟩ hq
  rw [hsl] at hrun
  simpa [hlen, hsl] using hrun
end Go.Proofs.Ytpbnhbpkfdhedaa
