/- Over whatever program: maps of numbers by keys of whatever type, of which all keys are known; ranging over one. -/
import Derived.Test.YthdmmjboaoonbaaMapVal
import Derived.Maps.RangeWalk
namespace Go.Proofs.Ythdmmjboaoonbaa
open Go.RowKit
open Go.Maps (Keyed)
set_option linter.unusedVariables false

/-- D tells q of the keys, and has no others. -/
structure NumD {α : Type} (P : Program) (k : TypeId) (f : α → Value) (ok : α → Prop) (D : DataW Unit) (q : α → Option Int) : Prop where
  at_ : ∀ a, ok a → ∀ l, keyOf P k (f a) = some l → D.atKey l (.lit (.int .i64 0)) = .lit (.int .i64 ((q a).getD 0)) ∧ Maps.has D l = (q a).isSome
  only : ∀ l, Maps.has D l = true → ∃ a, ok a ∧ keyOf P k (f a) = some l
def MapN {α : Type} (P : Program) (k e : TypeId) (f : α → Value) (ok : α → Prop) (W : World) (b : Nat) (q : α → Option Int) (cnt : Nat) : Prop :=
  ∃ D : DataW Unit, W.ownsMap P k (plainElem P e) b cnt D ∧ Maps.size D = cnt ∧ NumD P k f ok D q
section
variable {α : Type} {P : Program} {t k e : TypeId} {f : α → Value} {ok : α → Prop} {W W' : World} {b cnt : Nat} {q : α → Option Int}
theorem MapN.made (T : KeyT P t k e (.int .i64 0) f ok) (W : World) : MapN P k e f ok (W.alloc (.map #[] 0)) W.heap.size (fun _ => none) 0 :=
  ⟨.map [], World.ownsMap_made W _ _ _, rfl, fun a ha l hl => ⟨rfl, rfl⟩, fun l h => by cases h⟩
theorem MapN.lt (h : MapN P k e f ok W b q cnt) : b < W.heap.size := by obtain ⟨D, h1, _⟩ := h; exact h1.lt
theorem MapN.kept (h : MapN P k e f ok W b q cnt) (hb : W'.heap[b]? = W.heap[b]?) : MapN P k e f ok W' b q cnt := by
  obtain ⟨D, ⟨es, c, h1, h2⟩, h3⟩ := h
  exact ⟨D, ⟨es, c, hb.trans h1, h2⟩, h3⟩
variable [DecidableEq α]
theorem MapN.store (T : KeyT P t k e (.int .i64 0) f ok) (he : P.underlying e = some (.int .i64)) (h : MapN P k e f ok W b q cnt) (hn : cnt < maxLen) {a : α} (ha : ok a) (v : Int) (hv : -9223372036854775808 ≤ v ∧ v ≤ 9223372036854775807) :
    ∃ W', (Instr.mapUpdate t (.map (some b)) (f a) (.int .i64 v)).run P W = .ok () W' ∧ MapN P k e f ok W' b (updQ q a (some v)) (if (q a).isSome then cnt else cnt + 1) ∧ W.grownBy W' (some b) := by
  obtain ⟨D, h1, h2, h3, h4⟩ := h
  obtain ⟨l, hl⟩ := T.key a ha
  have hk := T.K.key hl
  obtain ⟨W', hr, g1, g2⟩ := h1.update T.K T.u hn hl (plainElem_int he (WalkArith.wf_i64 hv))
  have hs : Maps.size (D.put l (.lit (.int .i64 v))) = if (q a).isSome then cnt else cnt + 1 := by
    rw [Go.Maps.size_put (h1.tidy T.K), (h3 a ha l hl).2, h2]
  have tight : W'.ownsMap P k (plainElem P e) b (Maps.size (D.put l (.lit (.int .i64 v)))) (D.put l (.lit (.int .i64 v))) := by
    obtain ⟨es, c, k1, k2, k3, k4⟩ := g1
    refine ⟨es, c, k1, k2, ?_, k4⟩
    rw [k4]; simp [Maps.size, length_sorted]
  rw [hs] at tight
  refine ⟨W', hr, ⟨_, tight, hs, fun x hx m hm => ?_, fun m hm => ?_⟩, g2⟩
  · unfold updQ
    split
    · rename_i e1; subst e1
      rw [hl] at hm; cases hm
      exact ⟨Go.Maps.atKey_put_same h1.isMap hk _ _, Go.Maps.has_put_same h1.isMap hk _⟩
    · rename_i e1
      have hne : m ≠ l := fun e2 => e1 (T.inj x a hx ha (T.K.inj hm (e2 ▸ hl)))
      rw [Go.Maps.atKey_put_other hne, Go.Maps.has_put_other hne]
      exact h3 x hx m hm
  · by_cases hne : m = l
    · exact ⟨a, ha, hne ▸ hl⟩
    · rw [Go.Maps.has_put_other hne] at hm
      exact h4 m hm
theorem wpList_num_in {ops : Array Oper} {rest : List Oper} {o : Oper} {A : Act} {Q : Exit → Act → World → Prop} (hg : o.guard = none) (m x v : Operand) (hop : o.op = Op.mapUpdate t m x v)
    (T : KeyT P t k e (.int .i64 0) f ok) (he : P.underlying e = some (.int .i64)) (hm : A.eval m = .map (some b)) (h : MapN P k e f ok W b q cnt) (hn : cnt < maxLen) (a : α) (hx : A.eval x = f a) (ha : ok a) (u : Int) (hu : -9223372036854775808 ≤ u ∧ u ≤ 9223372036854775807) (hv : A.eval v = .int .i64 u)
    (hK : ∀ W', MapN P k e f ok W' b (updQ q a (some u)) (if (q a).isSome then cnt else cnt + 1) → W.grownBy W' (some b) → wpList P ops Q rest (A.put o.dst undef) W') : wpList P ops Q (o :: rest) A W := by
  refine wpList_plain hg fun K' hK' => ?_
  obtain ⟨W', hrun, r1, r2⟩ := h.store T he hn ha u hu
  unfold Oper.wp
  simp [execOp, hop, hm, hx, hv, hrun, Result.andThen]
  exact hK' _ _ (hK W' r1 r2)
end
/-- How many of a list are so. -/
theorem count_one {α : Type} [DecidableEq α] {K : List α} {p p' : α → Bool} {x : α} (hn : K.Nodup) (hx : x ∈ K) (h0 : p x = false) (h1 : p' x = true) (hs : ∀ y, y ≠ x → p' y = p y) : (K.filter p').length = (K.filter p).length + 1 := by
  induction K with
  | nil => cases hx
  | cons y K ih =>
    rw [List.nodup_cons] at hn
    rcases List.mem_cons.1 hx with rfl | hx
    · have : K.filter p' = K.filter p := List.filter_congr fun z hz => hs z (fun e => hn.1 (e ▸ hz))
      simp [h0, h1, this]
    · have hne : y ≠ x := fun e => hn.1 (e ▸ hx)
      have := ih hn.2 hx
      simp only [List.filter_cons, hs y hne]
      cases p y <;> simp [this]
theorem count_same {α : Type} {K : List α} {p p' : α → Bool} (hs : ∀ y ∈ K, p' y = p y) : (K.filter p').length = (K.filter p).length := by rw [List.filter_congr hs]
end Go.Proofs.Ythdmmjboaoonbaa
