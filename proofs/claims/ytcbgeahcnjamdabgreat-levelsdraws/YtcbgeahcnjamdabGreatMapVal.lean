/- Over whatever program: maps whose elements are told as they stand (their values), by keys of whatever type; how many entries they have. -/
import Derived.Test.YtcbgeahcnjamdabGreatKit
import Derived.Maps.OwnSet
import Derived.Maps.Views
import Derived.Maps.Keyed
import Derived.WideKeyPair
namespace Go.Proofs.YtcbgeahcnjamdabGreat
open Go.RowKit
open Go.Maps (Keyed)
set_option linter.unusedVariables false

/-- An element reads as itself. -/
def valR (v : Value) : Option (DataW Value × List MemPlace) := some (.held v, [])
/-- A map's type t, its keys k, its elements e (z: the zero one); f: the keys by things of a type of ours, of which ok says which may be. -/
structure KeyT {α : Type} (P : Program) (t k e : TypeId) (z : Value) (f : α → Value) (ok : α → Prop) : Prop where
  K : Keyed P k
  u : P.underlying t = some (.map k e)
  zero : ∀ w, (zeroValue e).run P w = .ok z w
  key : ∀ a, ok a → ∃ l, keyOf P k (f a) = some l
  inj : ∀ a b, ok a → ok b → f a = f b → a = b
/-- The map in block b has cnt entries; q tells what stands where. -/
def MapV {α : Type} (P : Program) (k : TypeId) (z : Value) (f : α → Value) (ok : α → Prop) (W : World) (b : Nat) (q : α → Option Value) (cnt : Nat) : Prop :=
  ∃ D, W.ownsMap P k valR b cnt D ∧ Maps.size D = cnt ∧ ∀ a, ok a → ∀ l, keyOf P k (f a) = some l → D.atKey l (.held z) = .held ((q a).getD z) ∧ Maps.has D l = (q a).isSome
/-- One place is told anew. -/
def updQ {α β : Type} [DecidableEq α] (q : α → β) (a : α) (o : β) : α → β := fun x => if x = a then o else q x
theorem updQ_at {α β : Type} [DecidableEq α] (q : α → β) (a : α) (o : β) : updQ q a o a = o := if_pos rfl
theorem updQ_ne {α β : Type} [DecidableEq α] {q : α → β} {a x : α} {o : β} (h : x ≠ a) : updQ q a o x = q x := if_neg h
theorem ownsMap_tight {P : Program} {k : TypeId} {R : Value → Option (DataW Value × List MemPlace)} {W : World} {b n : Nat} {D : DataW Value} (h : W.ownsMap P k R b n D) : W.ownsMap P k R b (Maps.size D) D := by
  obtain ⟨es, c, h1, h2, h3, rfl⟩ := h
  refine ⟨es, c, h1, h2, ?_, rfl⟩
  simp [Maps.size, length_sorted]
section
variable {α : Type} {P : Program} {t k e : TypeId} {z : Value} {f : α → Value} {ok : α → Prop} {W W' : World} {b cnt : Nat} {q : α → Option Value}
theorem MapV.made (T : KeyT P t k e z f ok) (W : World) : MapV P k z f ok (W.alloc (.map #[] 0)) W.heap.size (fun _ => none) 0 :=
  ⟨.map [], World.ownsMap_made W _ _ _, rfl, fun a ha l hl => ⟨rfl, rfl⟩⟩
theorem MapV.lt (h : MapV P k z f ok W b q cnt) : b < W.heap.size := by obtain ⟨D, h1, _⟩ := h; exact h1.lt
theorem MapV.kept (h : MapV P k z f ok W b q cnt) (hb : W'.heap[b]? = W.heap[b]?) : MapV P k z f ok W' b q cnt := by
  obtain ⟨D, ⟨es, c, h1, h2⟩, h3⟩ := h
  exact ⟨D, ⟨es, c, hb.trans h1, h2⟩, h3⟩
theorem MapV.noCells (h : MapV P k z f ok W b q cnt) : ∃ o : Obj, W.heap[b]? = some o ∧ o.isCells = false := by
  obtain ⟨D, ⟨es, c, h1, h2⟩, h3⟩ := h
  exact ⟨_, h1, rfl⟩
theorem MapV.congr {q' : α → Option Value} (h : MapV P k z f ok W b q cnt) (hq : ∀ a, ok a → q' a = q a) : MapV P k z f ok W b q' cnt := by
  obtain ⟨D, h1, h2, h3⟩ := h
  exact ⟨D, h1, h2, fun a ha l hl => by rw [hq a ha]; exact h3 a ha l hl⟩
theorem MapV.look (T : KeyT P t k e z f ok) (h : MapV P k z f ok W b q cnt) {a : α} (ha : ok a) : (Instr.lookup t (.map (some b)) (f a) false).run P W = .ok ((q a).getD z) W := by
  obtain ⟨D, h1, _, h3⟩ := h
  obtain ⟨l, hl⟩ := T.key a ha
  obtain ⟨v, ps, hr, hv⟩ := h1.lookup T.K T.u (T.zero W) (zd := .held z) (zp := []) rfl hl
  rw [hr]
  rw [(h3 a ha l hl).1] at hv
  simp [valR] at hv
  rw [hv.1]
theorem MapV.look_ok (T : KeyT P t k e z f ok) (h : MapV P k z f ok W b q cnt) {a : α} (ha : ok a) : (Instr.lookup t (.map (some b)) (f a) true).run P W = .ok (.tuple #[(q a).getD z, .bool (q a).isSome]) W := by
  obtain ⟨D, h1, _, h3⟩ := h
  obtain ⟨l, hl⟩ := T.key a ha
  obtain ⟨v, ps, hr, hv⟩ := h1.look_ok T.K T.u (T.zero W) (zd := .held z) (zp := []) rfl hl
  rw [hr, (h3 a ha l hl).2]
  rw [(h3 a ha l hl).1] at hv
  simp [valR] at hv
  rw [hv.1]
theorem MapV.len (T : KeyT P t k e z f ok) (h : MapV P k z f ok W b q cnt) (ty : TypeId) : (Builtin.len_ #[t] ty #[.map (some b)]).run P W = .ok (.int .i64 cnt) W := by
  obtain ⟨D, h1, h2, _⟩ := h
  rw [h1.len T.u ty, h2]
theorem MapV.look_nil (T : KeyT P t k e z f ok) (W : World) {a : α} (ha : ok a) (c : Bool) : (Instr.lookup t (.map none) (f a) c).run P W = .ok (if c then .tuple #[z, .bool false] else z) W := by
  obtain ⟨l, hl⟩ := T.key a ha
  exact Go.Maps.look_nil c T.K T.u (T.zero W) hl
theorem MapV.len_nil (T : KeyT P t k e z f ok) (W : World) (ty : TypeId) : (Builtin.len_ #[t] ty #[.map none]).run P W = .ok (.int .i64 0) W := Go.Maps.len_nil T.u ty
variable [DecidableEq α]
theorem MapV.store (T : KeyT P t k e z f ok) (h : MapV P k z f ok W b q cnt) (hn : cnt < maxLen) {a : α} (ha : ok a) (v : Value) :
    ∃ W', (Instr.mapUpdate t (.map (some b)) (f a) v).run P W = .ok () W' ∧ MapV P k z f ok W' b (updQ q a (some v)) (if (q a).isSome then cnt else cnt + 1) ∧ W.grownBy W' (some b) := by
  obtain ⟨D, h1, h2, h3⟩ := h
  obtain ⟨l, hl⟩ := T.key a ha
  have hk := T.K.key hl
  obtain ⟨W', hr, g1, g2⟩ := h1.update T.K T.u hn hl (val := v) (d := .held v) (ps := []) rfl
  have hs : Maps.size (D.put l (.held v)) = if (q a).isSome then cnt else cnt + 1 := by
    rw [Go.Maps.size_put (h1.tidy T.K), (h3 a ha l hl).2, h2]
  refine ⟨W', hr, ⟨_, by have := ownsMap_tight g1; rwa [hs] at this, hs, fun x hx m hm => ?_⟩, g2⟩
  unfold updQ
  split
  · rename_i e1; subst e1
    rw [hl] at hm; cases hm
    exact ⟨Go.Maps.atKey_put_same h1.isMap hk _ _, Go.Maps.has_put_same h1.isMap hk _⟩
  · rename_i e1
    have hne : m ≠ l := fun e2 => e1 (T.inj x a hx ha (T.K.inj hm (e2 ▸ hl)))
    rw [Go.Maps.atKey_put_other hne, Go.Maps.has_put_other hne]
    exact h3 x hx m hm
theorem MapV.drop (T : KeyT P t k e z f ok) (h : MapV P k z f ok W b q cnt) {a : α} (ha : ok a) (ty : TypeId) :
    ∃ W', (Builtin.delete_ #[t, k] ty #[.map (some b), f a]).run P W = .ok (.tuple #[]) W' ∧ MapV P k z f ok W' b (updQ q a none) (if (q a).isSome then cnt - 1 else cnt) ∧ W.grownBy W' (some b) := by
  obtain ⟨D, h1, h2, h3⟩ := h
  obtain ⟨l, hl⟩ := T.key a ha
  have hk := T.K.key hl
  obtain ⟨W', hr, g1, g2⟩ := h1.drop T.K T.u hl ty
  have hs : Maps.size (D.del l) = if (q a).isSome then cnt - 1 else cnt := by
    have hd := Go.Maps.size_del (k := l) (h1.tidy T.K)
    rw [(h3 a ha l hl).2, h2] at hd
    cases hq : (q a).isSome <;> rw [hq] at hd <;> simp at hd ⊢ <;> omega
  refine ⟨W', hr, ⟨_, by have := ownsMap_tight g1; rwa [hs] at this, hs, fun x hx m hm => ?_⟩, g2.grown⟩
  unfold updQ
  split
  · rename_i e1; subst e1
    rw [hl] at hm; cases hm
    exact ⟨Go.Maps.atKey_del_same _, Go.Maps.has_del_same⟩
  · rename_i e1
    have hne : m ≠ l := fun e2 => e1 (T.inj x a hx ha (T.K.inj hm (e2 ▸ hl)))
    rw [Go.Maps.atKey_del_other hne, Go.Maps.has_del_other hne]
    exact h3 x hx m hm
theorem wpList_val_store {ops : Array Oper} {rest : List Oper} {o : Oper} {A : Act} {Q : Exit → Act → World → Prop} (hg : o.guard = none) (m x v : Operand) (hop : o.op = Op.mapUpdate t m x v)
    (T : KeyT P t k e z f ok) (hm : A.eval m = .map (some b)) (h : MapV P k z f ok W b q cnt) (hn : cnt < maxLen) (a : α) (hx : A.eval x = f a) (ha : ok a) (u : Value) (hv : A.eval v = u)
    (hK : ∀ W', MapV P k z f ok W' b (updQ q a (some u)) (if (q a).isSome then cnt else cnt + 1) → W.grownBy W' (some b) → wpList P ops Q rest (A.put o.dst undef) W') : wpList P ops Q (o :: rest) A W := by
  refine wpList_plain hg fun K' hK' => ?_
  obtain ⟨W', hrun, r1, r2⟩ := h.store T hn ha u
  unfold Oper.wp
  simp [execOp, hop, hm, hx, hv, hrun, Result.andThen]
  exact hK' _ _ (hK W' r1 r2)
/-- At a step of a region that draws its order. -/
theorem step_val_store {ops : Array Oper} {o : Oper} {A : Act} {K : Act → World → Prop} {Q : Exit → Act → World → Prop} {E : Prop} (hg : o.guard = none) (m x v : Operand) (hop : o.op = Op.mapUpdate t m x v)
    (T : KeyT P t k e z f ok) (hm : A.eval m = .map (some b)) (h : MapV P k z f ok W b q cnt) (hn : cnt < maxLen) (a : α) (hx : A.eval x = f a) (ha : ok a) (u : Value) (hv : A.eval v = u)
    (hK : ∀ W', MapV P k z f ok W' b (updQ q a (some u)) (if (q a).isSome then cnt else cnt + 1) → W.grownBy W' (some b) → K (A.put o.dst undef) W') : if Region.wanted o (yielded ops A.tmps) = true then Oper.wp P o A W K Q else E := by
  have hw : Region.wanted o (yielded ops A.tmps) = true := by simp [Region.wanted, hg]
  rw [if_pos hw]
  obtain ⟨W', hrun, r1, r2⟩ := h.store T hn ha u
  unfold Oper.wp
  simp [execOp, hop, hm, hx, hv, hrun, Result.andThen]
  exact hK W' r1 r2
theorem wpList_val_drop {ops : Array Oper} {rest : List Oper} {o : Oper} {A : Act} {Q : Exit → Act → World → Prop} (hg : o.guard = none) (m x : Operand) (hop : o.op = Op.call { callee := Callee.builtin Builtin.delete, args := #[m, x], argTypes := #[t, k] })
    (T : KeyT P t k e z f ok) (hm : A.eval m = .map (some b)) (h : MapV P k z f ok W b q cnt) (a : α) (hx : A.eval x = f a) (ha : ok a)
    (hK : ∀ W', MapV P k z f ok W' b (updQ q a none) (if (q a).isSome then cnt - 1 else cnt) → W.grownBy W' (some b) → wpList P ops Q rest (A.put o.dst (.tuple #[])) W') : wpList P ops Q (o :: rest) A W := by
  refine wpList_plain hg fun K' hK' => ?_
  obtain ⟨W', hrun, r1, r2⟩ := h.drop T ha o.type
  unfold Oper.wp
  simp [execOp, hop, resolve, invoke, builtin, hm, hx, hrun, Result.andThen]
  exact hK' _ _ (hK W' r1 r2)
end

/-! Keys that are arrays of numbers. -/
theorem keyOf_triple {P : Program} {k e : TypeId} {q : IntKind} (A : WideMaps.ArrKey P k e 3) (he : P.underlying e = some (.int q)) (hsz : ∃ m, P.types.size = m + 1) {a b c : Int} (wa : (Lit.int q a).wf = true) (wb : (Lit.int q b).wf = true) (wc : (Lit.int q c).wf = true) :
    ∃ l, keyOf P k (.agg #[.int q a, .int q b, .int q c]) = some l := by
  refine ⟨.string (Go.keyBytes [.int q a, .int q b, .int q c]), ?_⟩
  have hkt := A.keyType hsz
  obtain ⟨m, hm⟩ := hsz
  unfold keyOf
  simp only [A.hu]
  rw [if_pos (by simp [hkt, Value.formed, A.hu, A.size]), hm]
  unfold Program.keyLits
  simp only [A.hu, Value.cells]
  rw [if_pos (by rw [A.size]; rfl), show List.range 3 = [0, 1, 2] from rfl, List.mapM_cons, List.mapM_cons, List.mapM_cons, List.mapM_nil]
  simp [A.one, Program.keyLits, he, wa, wb, wc]
def pairK (a : Int × Int) : Value := .agg #[.int .i64 a.1, .int .i64 a.2]
def okP (a : Int × Int) : Prop := (-9223372036854775808 ≤ a.1 ∧ a.1 ≤ 9223372036854775807) ∧ (-9223372036854775808 ≤ a.2 ∧ a.2 ≤ 9223372036854775807)
theorem pairK_inj (a b : Int × Int) (_ : okP a) (_ : okP b) (h : pairK a = pairK b) : a = b := by
  obtain ⟨a1, a2⟩ := a; obtain ⟨b1, b2⟩ := b
  simpa [pairK] using h
def tripK (a : Int × Int × Int) : Value := .agg #[.int .i64 a.1, .int .i64 a.2.1, .int .i64 a.2.2]
def okT (a : Int × Int × Int) : Prop := (-9223372036854775808 ≤ a.1 ∧ a.1 ≤ 9223372036854775807) ∧ (-9223372036854775808 ≤ a.2.1 ∧ a.2.1 ≤ 9223372036854775807) ∧ (-9223372036854775808 ≤ a.2.2 ∧ a.2.2 ≤ 9223372036854775807)
theorem tripK_inj (a b : Int × Int × Int) (_ : okT a) (_ : okT b) (h : tripK a = tripK b) : a = b := by
  obtain ⟨a1, a2, a3⟩ := a; obtain ⟨b1, b2, b3⟩ := b
  simpa [tripK] using h
theorem key_pairs {P : Program} {t k e te : TypeId} {z : Value} (A : WideMaps.ArrKey P k e 2) (he : P.underlying e = some (.int .i64)) (hsz : ∃ m, P.types.size = m + 1) (hu : P.underlying t = some (.map k te)) (hz : ∀ w, (zeroValue te).run P w = .ok z w) : KeyT P t k te z pairK okP :=
  ⟨Keyed.of_law A.law, hu, hz, fun a ha => ⟨_, WideMaps.keyOf_pair A he hsz (WalkArith.wf_i64 ha.1) (WalkArith.wf_i64 ha.2)⟩, pairK_inj⟩
theorem key_triples {P : Program} {t k e te : TypeId} {z : Value} (A : WideMaps.ArrKey P k e 3) (he : P.underlying e = some (.int .i64)) (hsz : ∃ m, P.types.size = m + 1) (hu : P.underlying t = some (.map k te)) (hz : ∀ w, (zeroValue te).run P w = .ok z w) : KeyT P t k te z tripK okT :=
  ⟨Keyed.of_law A.law, hu, hz, fun a ha => keyOf_triple A he hsz (WalkArith.wf_i64 ha.1) (WalkArith.wf_i64 ha.2.1) (WalkArith.wf_i64 ha.2.2), tripK_inj⟩
end Go.Proofs.YtcbgeahcnjamdabGreat
