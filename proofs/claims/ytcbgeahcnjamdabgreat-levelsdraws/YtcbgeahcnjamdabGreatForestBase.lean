/- Layer 8 (forest): its maps, its state, its memory, and what its parts do, told of the whole forest. -/
import Derived.Test.YtcbgeahcnjamdabGreatProg
import Derived.Test.YtcbgeahcnjamdabGreatTourIter
import Derived.Test.YtcbgeahcnjamdabGreatTourMade
namespace Go.Proofs.YtcbgeahcnjamdabGreat
open Go.RowKit
open Go.Maps (Keyed)
set_option linter.unusedVariables false

def nD (a : Int) : DataW Unit := .lit (.int .i64 a)
def numElem (v : Value) : Option (DataW Unit × List MemPlace) :=
  match v with
  | .int .i64 a => some (nD a, [])
  | _ => none
theorem numElem_mk (a : Int) : numElem (.int .i64 a) = some (nD a, []) := rfl
theorem numElem_inv {v : Value} {z : DataW Unit × List MemPlace} (h : numElem v = some z) : ∃ a, v = .int .i64 a ∧ z = (nD a, []) := by
  unfold numElem at h
  split at h
  · rename_i a
    cases h
    exact ⟨a, rfl, rfl⟩
  · cases h
theorem nD_inj {a b : Int} (h : nD a = nD b) : a = b := by unfold nD at h; simpa using h
/-- Numbers of 64 bits. -/
def B64 (i : Int) : Prop := -9223372036854775808 ≤ i ∧ i ≤ 9223372036854775807
theorem keyI : Keyed Tryz.prog 3 := Go.Maps.int_keyed (q := .i64) (by kernel_rfl)
theorem keyI_mk {i : Int} (hb : B64 i) : keyOf Tryz.prog 3 (.int .i64 i) = some (.int .i64 i) := Go.Maps.keyOf_int_mk (by kernel_rfl) (WalkArith.wf_i64 hb)
theorem mapI : Tryz.prog.underlying 98 = some (.map 3 3) := by kernel_rfl
theorem zeroI (w : World) : (zeroValue 3).run Tryz.prog w = .ok (.int .i64 0) w := by kernel_rfl
def n0 : Int → Int := fun _ => 0
def updI (p : Int → Int) (i q : Int) : Int → Int := fun j => if j = i then q else p j
theorem updI_at (p : Int → Int) (i q : Int) : updI p i q i = q := if_pos rfl
theorem updI_ne {p : Int → Int} {i q j : Int} (h : j ≠ i) : updI p i q j = p j := if_neg h
/-- The map in block b, of at most n entries, tells p. -/
def IM (W : World) (b n : Nat) (p : Int → Int) : Prop := ∃ D, W.ownsMap Tryz.prog 3 numElem b n D ∧ ∀ i : Int, D.atKey (.int .i64 i) (nD 0) = nD (p i)
theorem IM.lt {W : World} {b n : Nat} {p : Int → Int} (h : IM W b n p) : b < W.heap.size := by obtain ⟨D, h1, _⟩ := h; exact h1.lt
theorem IM.kept {W W' : World} {b n : Nat} {p : Int → Int} (h : IM W b n p) (hb : W'.heap[b]? = W.heap[b]?) : IM W' b n p := by
  obtain ⟨D, ⟨es, c, h1, h2⟩, h3⟩ := h
  exact ⟨D, ⟨es, c, hb.trans h1, h2⟩, h3⟩
theorem IM.made (W : World) : IM (W.alloc (.map #[] 0)) W.heap.size 0 n0 := ⟨.map [], World.ownsMap_made W _ _ _, fun i => rfl⟩
theorem IM.mono {W : World} {b n n' : Nat} {p : Int → Int} (h : IM W b n p) (hn : n ≤ n') : IM W b n' p := by
  obtain ⟨D, d1, d2⟩ := h
  exact ⟨D, d1.mono hn, d2⟩
theorem IM.look {W : World} {b n : Nat} {p : Int → Int} (h : IM W b n p) {i : Int} (hb : B64 i) : (Instr.lookup 98 (.map (some b)) (.int .i64 i) false).run Tryz.prog W = .ok (.int .i64 (p i)) W := by
  obtain ⟨D, h1, h2⟩ := h
  obtain ⟨v, ps, hr, hv⟩ := h1.lookup keyI mapI (zeroI W) (numElem_mk _) (keyI_mk hb)
  obtain ⟨q, rfl, hq⟩ := numElem_inv hv
  rw [hr]
  have := congrArg Prod.fst hq
  simp only at this
  rw [h2 i] at this
  rw [nD_inj this]
theorem IM.look_nil (W : World) {i : Int} (hb : B64 i) : (Instr.lookup 98 (.map none) (.int .i64 i) false).run Tryz.prog W = .ok (.int .i64 0) W := by
  have := Go.Maps.look_nil (P := Tryz.prog) (w := W) false keyI mapI (zeroI W) (keyI_mk hb)
  simpa using this
theorem IM.store {W : World} {b n : Nat} {p : Int → Int} (h : IM W b n p) (hn : n ≤ 100000) {i : Int} (hb : B64 i) (q : Int) : ∃ W', (Instr.mapUpdate 98 (.map (some b)) (.int .i64 i) (.int .i64 q)).run Tryz.prog W = .ok () W' ∧ IM W' b (n + 1) (updI p i q) ∧ W.grownBy W' (some b) := by
  obtain ⟨D, h1, h2⟩ := h
  obtain ⟨W', hr, a, g⟩ := h1.update keyI mapI (by unfold maxLen; omega) (keyI_mk hb) (numElem_mk q)
  refine ⟨W', hr, ⟨_, a, fun j => ?_⟩, g⟩
  unfold updI
  split
  · rename_i e; subst e; exact Go.Maps.atKey_put_same h1.isMap (by simp [WideAt.IsKeyLit]) _ _
  · rename_i e
    rw [Go.Maps.atKey_put_other (by simp; exact e)]
    exact h2 j
theorem IM.drop {W : World} {b n : Nat} {p : Int → Int} (h : IM W b n p) {i : Int} (hb : B64 i) (ty : TypeId) : ∃ W', (Builtin.delete_ #[98, 3] ty #[.map (some b), .int .i64 i]).run Tryz.prog W = .ok (.tuple #[]) W' ∧ IM W' b n (updI p i 0) ∧ W.grownBy W' (some b) := by
  obtain ⟨D, h1, h2⟩ := h
  obtain ⟨W', hr, a, g⟩ := h1.drop keyI mapI (keyI_mk hb) ty
  refine ⟨W', hr, ⟨_, a, fun j => ?_⟩, g.grown⟩
  unfold updI
  split
  · rename_i e; subst e; exact Go.Maps.atKey_del_same _
  · rename_i e
    rw [Go.Maps.atKey_del_other (by simp; exact e)]
    exact h2 j
theorem wpList_num_store {W : World} {ops : Array Oper} {rest : List Oper} {o : Oper} {a : Act} {Q : Exit → Act → World → Prop} (hg : o.guard = none) (m x v : Operand) (hop : o.op = Op.mapUpdate 98 m x v)
    {b n : Nat} {p : Int → Int} (hm : a.eval m = .map (some b)) (h : IM W b n p) (hn : n ≤ 100000) {i : Int} (hx : a.eval x = .int .i64 i) (hb : B64 i) (q : Int) (hv : a.eval v = .int .i64 q)
    (hK : ∀ W', IM W' b (n + 1) (updI p i q) → W.grownBy W' (some b) → wpList Tryz.prog ops Q rest (a.put o.dst undef) W') : wpList Tryz.prog ops Q (o :: rest) a W := by
  refine wpList_plain hg fun K' hK' => ?_
  obtain ⟨W', hrun, r1, r2⟩ := h.store hn hb q
  unfold Oper.wp
  simp [execOp, hop, hm, hx, hv, hrun, Result.andThen]
  exact hK' _ _ (hK W' r1 r2)
theorem wpList_num_drop {W : World} {ops : Array Oper} {rest : List Oper} {o : Oper} {a : Act} {Q : Exit → Act → World → Prop} (hg : o.guard = none) (m x : Operand) (hop : o.op = Op.call { callee := Callee.builtin Builtin.delete, args := #[m, x], argTypes := #[98, 3] })
    {b n : Nat} {p : Int → Int} (hm : a.eval m = .map (some b)) (h : IM W b n p) {i : Int} (hx : a.eval x = .int .i64 i) (hb : B64 i)
    (hK : ∀ W', IM W' b n (updI p i 0) → W.grownBy W' (some b) → wpList Tryz.prog ops Q rest (a.put o.dst (.tuple #[])) W') : wpList Tryz.prog ops Q (o :: rest) a W := by
  refine wpList_plain hg fun K' hK' => ?_
  obtain ⟨W', hrun, r1, r2⟩ := h.drop hb o.type
  unfold Oper.wp
  simp [execOp, hop, resolve, invoke, builtin, hm, hx, hrun, Result.andThen]
  exact hK' _ _ (hK W' r1 r2)

/-- Names: none yet (two nil maps), or two maps in blocks of their own. -/
def NmOk (W : World) (x y : Value) (p q : Int → Int) (n : Nat) : Prop := (x = .map none ∧ y = .map none ∧ p = n0 ∧ q = n0 ∧ n = 0) ∨ ∃ b c, x = .map (some b) ∧ y = .map (some c) ∧ b ≠ c ∧ IM W b n p ∧ IM W c n q
def NmB (x y : Value) (k : Nat) : Prop := x = .map (some k) ∨ y = .map (some k)
theorem NmOk.kept {W W' : World} {x y : Value} {p q : Int → Int} {n : Nat} (h : NmOk W x y p q n) (hb : ∀ k, NmB x y k → W'.heap[k]? = W.heap[k]?) : NmOk W' x y p q n := by
  rcases h with h | ⟨b, c, rfl, rfl, h1, h2, h3⟩
  · exact .inl h
  · exact .inr ⟨b, c, rfl, rfl, h1, h2.kept (hb b (.inl rfl)), h3.kept (hb c (.inr rfl))⟩
theorem NmOk.lt {W : World} {x y : Value} {p q : Int → Int} {n : Nat} (h : NmOk W x y p q n) : ∀ k, NmB x y k → k < W.heap.size := by
  intro k hk
  rcases h with ⟨rfl, rfl, _⟩ | ⟨b, c, rfl, rfl, h1, h2, h3⟩
  · rcases hk with h | h <;> cases h
  · rcases hk with h | h <;> cases h
    · exact h2.lt
    · exact h3.lt
theorem NmOk.mono {W : World} {x y : Value} {p q : Int → Int} {n n' : Nat} (h : NmOk W x y p q n) (hn : n ≤ n') (h0 : n = 0 → n' = 0 ∨ x ≠ .map none) : NmOk W x y p q n' := by
  rcases h with ⟨h1, h2, h3, h4, h5⟩ | ⟨b, c, e1, e2, h1, h2, h3⟩
  · rcases h0 h5 with h | h
    · exact .inl ⟨h1, h2, h3, h4, h⟩
    · exact absurd h1 h
  · exact .inr ⟨b, c, e1, e2, h1, h2.mono hn, h3.mono hn⟩
/-- What a lookup in either map answers. -/
theorem NmOk.look {W : World} {x y : Value} {p q : Int → Int} {n : Nat} (h : NmOk W x y p q n) {i : Int} (hb : B64 i) : (Instr.lookup 98 x (.int .i64 i) false).run Tryz.prog W = .ok (.int .i64 (p i)) W ∧ (Instr.lookup 98 y (.int .i64 i) false).run Tryz.prog W = .ok (.int .i64 (q i)) W := by
  rcases h with ⟨rfl, rfl, rfl, rfl, _⟩ | ⟨b, c, rfl, rfl, h1, h2, h3⟩
  · exact ⟨IM.look_nil W hb, IM.look_nil W hb⟩
  · exact ⟨h2.look hb, h3.look hb⟩
theorem mapI_some (bm : Nat) (w : World) : (binOp BinOp.eql 98 (.map (some bm)) (.map none)).run Tryz.prog w = .ok (.bool false) w := by kernel_rfl
theorem mapI_none (w : World) : (binOp BinOp.eql 98 (.map none) (.map none)).run Tryz.prog w = .ok (.bool true) w := by kernel_rfl
end Go.Proofs.YtcbgeahcnjamdabGreat

namespace Go.Proofs.YtcbgeahcnjamdabGreat
open Go.RowKit
set_option linter.unusedVariables false

/-- A forest's state: its trees, the vertices' and the edges' names, both ways. -/
structure Fo where
  t : To
  vi : Int → Int
  vo : Int → Int
  nv : Nat
  ei : Int → Int
  eo : Int → Int
  ne : Nat
  /-- The draws that it shares with others. -/
  dr : Option (Nat × Nat × List Int)
def fo0 : Fo := ⟨to0, n0, n0, 0, n0, n0, 0, none⟩
def Fo.wt (f : Fo) (t : To) : Fo := ⟨t, f.vi, f.vo, f.nv, f.ei, f.eo, f.ne, f.dr⟩
def Fo.wv (f : Fo) (p q : Int → Int) (n : Nat) : Fo := ⟨f.t, p, q, n, f.ei, f.eo, f.ne, f.dr⟩
def Fo.we (f : Fo) (p q : Int → Int) (n : Nat) : Fo := ⟨f.t, f.vi, f.vo, f.nv, p, q, n, f.dr⟩
def Fo.wd (f : Fo) (dr : Option (Nat × Nat × List Int)) : Fo := ⟨f.t, f.vi, f.vo, f.nv, f.ei, f.eo, f.ne, dr⟩
/-- A forest in block B, within the blocks of F; its trees' edges in block G; x y u v: its four maps. -/
structure FdX (x y u v : Value) (W : World) (F : Nat → Prop) (B G : Nat) (f : Fo) : Prop where
  ex : ∃ Ft, Tf ⟨102, [x, y, u, v], f.dr⟩ W Ft B G f.t ∧ NmOk W x y f.vi f.vo f.nv ∧ NmOk W u v f.ei f.eo f.ne ∧ (∀ k, Ft k → F k) ∧ (∀ k, NmB x y k → F k ∧ ¬ Ft k ∧ ¬ NmB u v k) ∧ (∀ k, NmB u v k → F k ∧ ¬ Ft k)
  lt : ∀ k, F k → k < W.heap.size
def Fd (W : World) (F : Nat → Prop) (B G : Nat) (f : Fo) : Prop := ∃ x y u v, FdX x y u v W F B G f

/-- The block that a tour's forest lies in. -/
theorem Tf.blk {Yh : Hx} {W : World} {F : Nat → Prop} {B G : Nat} {t : To} (h : Tf Yh W F B G t) : ∃ a b d v u e g mp, Blk W B Yh.T (a :: b :: d :: v :: u :: e :: g :: mp :: Yh.ex).toArray := by
  obtain ⟨a, b, d, v, u, e, g, mp, Ft, Fv, Fe, GV, h1, _⟩ := h.ex
  exact ⟨a, b, d, v, u, e, g, mp, h1⟩
/-- The cells behind it are told anew. -/
theorem Tf.reh {T0 : TypeId} {ex0 : List Value} {dr : Option (Nat × Nat × List Int)} {W W' : World} {F : Nat → Prop} {B G : Nat} {t : To} {a b d v u e g mp : Value} {ex : List Value} (h : Tf ⟨T0, ex0, dr⟩ W F B G t) (hb : Blk W B T0 (a :: b :: d :: v :: u :: e :: g :: mp :: ex0).toArray) (hb' : Blk W' B T0 (a :: b :: d :: v :: u :: e :: g :: mp :: ex).toArray)
    (hk : ∀ k, F k → k ≠ B → W'.heap[k]? = W.heap[k]?) (hs : W.heap.size ≤ W'.heap.size) : Tf ⟨T0, ex, dr⟩ W' F B G t := by
  obtain ⟨a', b', d', v', u', e', g', mp', Ft, Fv, Fe, GV, h1, h2, h3, h4, h5, f1, f2, f3, d1, d2, d3, d4⟩ := h.ex
  have e := h1.inj hb
  simp at e
  obtain ⟨rfl, rfl, rfl, rfl, rfl, rfl, rfl, rfl⟩ := e
  exact ⟨⟨_, _, _, _, _, _, _, _, Ft, Fv, Fe, GV, hb', Tp.reh h2 h1 hb' (fun k hk' hne => hk k (f1 k hk') hne) hs, h3.kept (fun k hk' hne => hk k (f2 k hk') hne) hs, h4.kept (fun k hk' hne => hk k (f3 k hk') hne) hs, h5.kept (fun bm e => hk bm (d4 bm e).1 (fun e' => (d4 bm e).2.2.1 (e' ▸ h3.b))), f1, f2, f3, d1, d2, d3, d4⟩, fun k hk' => Nat.lt_of_lt_of_le (h.lt k hk') hs, h.bd⟩
section
variable {W W' : World} {F : Nat → Prop} {B G : Nat} {f : Fo} {x y u v : Value}
theorem FdX.kept (h : FdX x y u v W F B G f) (hb : ∀ k, F k → W'.heap[k]? = W.heap[k]?) (hs : W.heap.size ≤ W'.heap.size) : FdX x y u v W' F B G f := by
  obtain ⟨Ft, h1, h2, h3, f1, f2, f3⟩ := h.ex
  exact ⟨⟨Ft, h1.kept (fun k hk => hb k (f1 k hk)) hs, h2.kept (fun k hk => hb k (f2 k hk).1), h3.kept (fun k hk => hb k (f3 k hk).1), f1, f2, f3⟩, fun k hk => Nat.lt_of_lt_of_le (h.lt k hk) hs⟩
theorem Fd.shared (h : Fd W F B G f) {D Dg : Nat} {xs : List Int} (hd : f.dr = some (D, Dg, xs)) : F D ∧ F Dg ∧ D ≠ B ∧ Dg ≠ B ∧ ∃ n, n ≤ f.t.s.n ∧ Drw W D Dg xs n := by
  obtain ⟨x, y, u, v, h⟩ := h
  obtain ⟨Ft, h1, h2, h3, f1, f2, f3⟩ := h.ex
  obtain ⟨k1, k2, k3⟩ := Tf.shared h1 hd
  exact ⟨f1 D k1, f1 Dg k2, k3⟩
/-- Another one drew from the draws that it shares. -/
theorem Fd.drawn (h : Fd W F B G f) {D Dg m n : Nat} {xs : List Int} (hd : f.dr = some (D, Dg, xs)) (hb : ∀ k, F k → k ≠ D → k ≠ Dg → W'.heap[k]? = W.heap[k]?) (hs : W.heap.size ≤ W'.heap.size) (hD : Drw W' D Dg xs n) (hn : n ≤ m) : Fd W' F B G (f.wt (f.t.up m)) := by
  obtain ⟨x, y, u, v, h⟩ := h
  obtain ⟨Ft, h1, h2, h3, f1, f2, f3⟩ := h.ex
  obtain ⟨k1, k2, _⟩ := Tf.shared h1 hd
  have nn : ∀ (P : Nat → Prop), (∀ k, P k → ¬ Ft k) → ∀ k, P k → k ≠ D ∧ k ≠ Dg := fun P hP k hk => ⟨fun e => hP k hk (e ▸ k1), fun e => hP k hk (e ▸ k2)⟩
  exact ⟨x, y, u, v, ⟨Ft, Tf.drawn h1 hd (fun k hk => hb k (f1 k hk)) hs hD hn, h2.kept (fun k hk => hb k (f2 k hk).1 (nn _ (fun k hk => (f2 k hk).2.1) k hk).1 (nn _ (fun k hk => (f2 k hk).2.1) k hk).2), h3.kept (fun k hk => hb k (f3 k hk).1 (nn _ (fun k hk => (f3 k hk).2) k hk).1 (nn _ (fun k hk => (f3 k hk).2) k hk).2), f1, f2, f3⟩, fun k hk => Nat.lt_of_lt_of_le (h.lt k hk) hs⟩
theorem FdX.below (h : FdX x y u v W F B G f) (hb : Below W.heap.size W W') : FdX x y u v W' F B G f := h.kept (fun k hk => hb.block k (h.lt k hk)) hb.size
theorem FdX.drew (h : FdX x y u v W F B G f) : FdX x y u v W.drew F B G f := h.kept (fun _ _ => rfl) (Nat.le_refl _)
theorem Fd.lt (h : Fd W F B G f) : ∀ k, F k → k < W.heap.size := let ⟨_, _, _, _, h⟩ := h; h.lt
theorem Fd.kept (h : Fd W F B G f) (hb : ∀ k, F k → W'.heap[k]? = W.heap[k]?) (hs : W.heap.size ≤ W'.heap.size) : Fd W' F B G f := let ⟨x, y, u, v, h⟩ := h; ⟨x, y, u, v, h.kept hb hs⟩
theorem Fd.below (h : Fd W F B G f) (hb : Below W.heap.size W W') : Fd W' F B G f := h.kept (fun k hk => hb.block k (h.lt k hk)) hb.size
theorem Fd.step {F' F1 : Nat → Prop} (h : Fd W F B G f) (hb : Step F' F1 W W') (hd : ∀ k, F k → ¬ F' k) : Fd W' F B G f := h.kept (fun k hk => hb.only.block k (h.lt k hk) (hd k hk)) hb.size
theorem Fd.drew (h : Fd W F B G f) : Fd W.drew F B G f := h.kept (fun _ _ => rfl) (Nat.le_refl _)
theorem Fd.fb (h : Fd W F B G f) : F B := by
  obtain ⟨x, y, u, v, h⟩ := h
  obtain ⟨Ft, h1, h2, h3, f1, f2, f3⟩ := h.ex
  exact f1 B h1.fb
/-- Its trees, and what becomes of the forest when they are written. -/
theorem FdX.trees (h : FdX x y u v W F B G f) : ∃ Ft, Tf ⟨102, [x, y, u, v], f.dr⟩ W Ft B G f.t ∧ ∀ W' Ft' G' t', Tf ⟨102, [x, y, u, v], f.dr⟩ W' Ft' B G' t' → Step Ft Ft' W W' → ∃ F', FdX x y u v W' F' B G' (f.wt t') ∧ Step F F' W W' := by
  obtain ⟨Ft, h1, h2, h3, f1, f2, f3⟩ := h.ex
  refine ⟨Ft, h1, fun W' Ft' G' t' k1 k2 => ⟨fun k => F k ∨ Ft' k, ?_, ?_⟩⟩
  · have lF := h.lt
    refine ⟨⟨Ft', k1, h2.kept (fun k hk => k2.only.block k (lF k (f2 k hk).1) (f2 k hk).2.1), h3.kept (fun k hk => k2.only.block k (lF k (f3 k hk).1) (f3 k hk).2), fun k hk => .inr hk, fun k hk => ⟨.inl (f2 k hk).1, fun hf => ?_, (f2 k hk).2.2⟩, fun k hk => ⟨.inl (f3 k hk).1, fun hf => ?_⟩⟩, fun k hk => ?_⟩
    · rcases k2.ext k hf with h' | h'
      · exact (f2 k hk).2.1 h'
      · have := lF k (f2 k hk).1; omega
    · rcases k2.ext k hf with h' | h'
      · exact (f3 k hk).2 h'
      · have := lF k (f3 k hk).1; omega
    · rcases hk with hk | hk
      · exact Nat.lt_of_lt_of_le (lF k hk) k2.size
      · exact k1.lt k hk
  · refine ⟨⟨k2.only.os, k2.only.tape, k2.only.output, k2.only.size, fun k hk hn => k2.only.block k hk (fun hf => hn (f1 k hf))⟩, fun k hk => ?_⟩
    rcases hk with hk | hk
    · exact .inl hk
    · exact (k2.ext k hk).imp (f1 k) id
/-- The names of its vertices, and what becomes of the forest when they are written. -/
theorem FdX.vnames (h : FdX x y u v W F B G f) : ∃ φ, Hole φ 8 9 ∧ Blk W B 102 (φ x y).toArray ∧ NmOk W x y f.vi f.vo f.nv ∧ (∀ k, NmB x y k → k ≠ B) ∧ ∀ W' x' y' p q n, Blk W' B 102 (φ x' y').toArray → NmOk W' x' y' p q n → (∀ k, NmB x' y' k → NmB x y k ∨ W.heap.size ≤ k) → Only (fun k => k = B ∨ NmB x y k) W W' → ∃ F', Fd W' F' B G (f.wv p q n) ∧ Step F F' W W' := by
  obtain ⟨Ft, h1, h2, h3, f1, f2, f3⟩ := h.ex
  obtain ⟨a, b, d, v', u', e, g, mp, hb⟩ := h1.blk
  have lF := h.lt
  refine ⟨fun x y => [a, b, d, v', u', e, g, mp, x, y, u, v], ⟨fun _ _ => rfl, fun _ _ => rfl, fun _ _ _ => rfl, fun _ _ _ => rfl⟩, hb, h2, fun k hk e => (f2 k hk).2.1 (e ▸ h1.fb), fun W' x' y' p q n k1 k2 k3 k4 => ⟨fun k => F k ∨ NmB x' y' k, ⟨x', y', u, v, ?_⟩, ?_⟩⟩
  · refine ⟨⟨Ft, h1.reh (ex := [x', y', u, v]) hb k1 (fun k hk hne => k4.block k (h1.lt k hk) (fun hf => hf.elim hne (fun hf => (f2 k hf).2.1 hk))) k4.size, k2, h3.kept (fun k hk => k4.block k (lF k (f3 k hk).1) (fun hf => hf.elim (fun e => (f3 k hk).2 (e ▸ h1.fb)) (fun hf => (f2 k hf).2.2 hk))), fun k hk => .inl (f1 k hk), fun k hk => ⟨.inr hk, fun hf => ?_, fun hf => ?_⟩, fun k hk => ⟨.inl (f3 k hk).1, (f3 k hk).2⟩⟩, fun k hk => ?_⟩
    · rcases k3 k hk with h' | h'
      · exact (f2 k h').2.1 hf
      · have := h1.lt k hf; omega
    · rcases k3 k hk with h' | h'
      · exact (f2 k h').2.2 hf
      · have := lF k (f3 k hf).1; omega
    · rcases hk with hk | hk
      · exact Nat.lt_of_lt_of_le (lF k hk) k4.size
      · exact k2.lt k hk
  · refine ⟨⟨k4.os, k4.tape, k4.output, k4.size, fun k hk hn => k4.block k hk (fun hf => hn (hf.elim (fun e => e ▸ f1 B h1.fb) (fun hf => (f2 k hf).1)))⟩, fun k hk => ?_⟩
    rcases hk with hk | hk
    · exact .inl hk
    · exact (k3 k hk).imp (fun h' => (f2 k h').1) id
/-- The names of its edges. -/
theorem FdX.enames (h : FdX u v x y W F B G f) : ∃ φ, Hole φ 10 11 ∧ Blk W B 102 (φ x y).toArray ∧ NmOk W x y f.ei f.eo f.ne ∧ (∀ k, NmB x y k → k ≠ B) ∧ ∀ W' x' y' p q n, Blk W' B 102 (φ x' y').toArray → NmOk W' x' y' p q n → (∀ k, NmB x' y' k → NmB x y k ∨ W.heap.size ≤ k) → Only (fun k => k = B ∨ NmB x y k) W W' → ∃ F', Fd W' F' B G (f.we p q n) ∧ Step F F' W W' := by
  obtain ⟨Ft, h1, h3, h2, f1, f3, f2⟩ := h.ex
  obtain ⟨a, b, d, v', u', e, g, mp, hb⟩ := h1.blk
  have lF := h.lt
  refine ⟨fun x y => [a, b, d, v', u', e, g, mp, u, v, x, y], ⟨fun _ _ => rfl, fun _ _ => rfl, fun _ _ _ => rfl, fun _ _ _ => rfl⟩, hb, h2, fun k hk e => (f2 k hk).2 (e ▸ h1.fb), fun W' x' y' p q n k1 k2 k3 k4 => ⟨fun k => F k ∨ NmB x' y' k, ⟨u, v, x', y', ?_⟩, ?_⟩⟩
  · refine ⟨⟨Ft, h1.reh (ex := [u, v, x', y']) hb k1 (fun k hk hne => k4.block k (h1.lt k hk) (fun hf => hf.elim hne (fun hf => (f2 k hf).2 hk))) k4.size, h3.kept (fun k hk => k4.block k (lF k (f3 k hk).1) (fun hf => hf.elim (fun e => (f3 k hk).2.1 (e ▸ h1.fb)) (fun hf => (f3 k hk).2.2 hf))), k2, fun k hk => .inl (f1 k hk), fun k hk => ⟨.inl (f3 k hk).1, (f3 k hk).2.1, fun hf => ?_⟩, fun k hk => ⟨.inr hk, fun hf => ?_⟩⟩, fun k hk => ?_⟩
    · rcases k3 k hf with h' | h'
      · exact (f3 k hk).2.2 h'
      · have := lF k (f3 k hk).1; omega
    · rcases k3 k hk with h' | h'
      · exact (f2 k h').2 hf
      · have := h1.lt k hf; omega
    · rcases hk with hk | hk
      · exact Nat.lt_of_lt_of_le (lF k hk) k4.size
      · exact k2.lt k hk
  · refine ⟨⟨k4.os, k4.tape, k4.output, k4.size, fun k hk hn => k4.block k hk (fun hf => hn (hf.elim (fun e => e ▸ f1 B h1.fb) (fun hf => (f2 k hf).1)))⟩, fun k hk => ?_⟩
    rcases hk with hk | hk
    · exact .inl hk
    · exact (k3 k hk).imp (fun h' => (f2 k h').1) id
/-- The cells of its maps. -/
theorem FdX.cells (h : FdX x y u v W F B G f) : W.cell? ⟨B, 8, none⟩ = some x ∧ W.cell? ⟨B, 9, none⟩ = some y ∧ W.cell? ⟨B, 10, none⟩ = some u ∧ W.cell? ⟨B, 11, none⟩ = some v := by
  obtain ⟨Ft, h1, _⟩ := h.ex
  obtain ⟨a, b, d, v', u', e, g, mp, hb⟩ := h1.blk
  exact ⟨hb.at rfl, hb.at rfl, hb.at rfl, hb.at rfl⟩
/-- What a lookup in them answers. -/
theorem FdX.vlook (h : FdX x y u v W F B G f) {i : Int} (hb : B64 i) : (Instr.lookup 98 x (.int .i64 i) false).run Tryz.prog W = .ok (.int .i64 (f.vi i)) W ∧ (Instr.lookup 98 y (.int .i64 i) false).run Tryz.prog W = .ok (.int .i64 (f.vo i)) W := by
  obtain ⟨Ft, _, h2, _⟩ := h.ex
  exact h2.look hb
theorem FdX.elook (h : FdX x y u v W F B G f) {i : Int} (hb : B64 i) : (Instr.lookup 98 u (.int .i64 i) false).run Tryz.prog W = .ok (.int .i64 (f.ei i)) W ∧ (Instr.lookup 98 v (.int .i64 i) false).run Tryz.prog W = .ok (.int .i64 (f.eo i)) W := by
  obtain ⟨Ft, _, _, h3, _⟩ := h.ex
  exact h3.look hb
/-- A new one. -/
theorem Fd.fresh {d : Option Addr} (hb : Blk W B 102 #[.slice none 0 0, .slice none 0 0, .pointer d, .slice none 0 0, .slice none 0 0, .slice none 0 0, .slice none 0 0, .map none, .map none, .map none, .map none, .map none]) (hF : F B) (hlt : ∀ k, F k → k < W.heap.size) (hd : Dok none W F (fun k => k = B) d 0) : Fd W F B G fo0 :=
  ⟨.map none, .map none, .map none, .map none, ⟨F, Tf.fresh (Yh := ⟨102, [.map none, .map none, .map none, .map none], none⟩) (mx := 0) hb hF hlt hd, .inl ⟨rfl, rfl, rfl, rfl, rfl⟩, .inl ⟨rfl, rfl, rfl, rfl, rfl⟩, fun k hk => hk, fun k hk => (by rcases hk with h | h <;> cases h), fun k hk => (by rcases hk with h | h <;> cases h)⟩, hlt⟩
/-- A new one, by draws that it shares. -/
theorem Fd.freshD {d : Option Addr} {dr : Option (Nat × Nat × List Int)} (hb : Blk W B 102 #[.slice none 0 0, .slice none 0 0, .pointer d, .slice none 0 0, .slice none 0 0, .slice none 0 0, .slice none 0 0, .map none, .map none, .map none, .map none, .map none]) (hF : F B) (hlt : ∀ k, F k → k < W.heap.size) (hd : Dok dr W F (fun k => k = B) d 0) : Fd W F B G (fo0.wd dr) :=
  ⟨.map none, .map none, .map none, .map none, ⟨F, Tf.fresh (Yh := ⟨102, [.map none, .map none, .map none, .map none], dr⟩) (mx := 0) hb hF hlt hd, .inl ⟨rfl, rfl, rfl, rfl, rfl⟩, .inl ⟨rfl, rfl, rfl, rfl, rfl⟩, fun k hk => hk, fun k hk => (by rcases hk with h | h <;> cases h), fun k hk => (by rcases hk with h | h <;> cases h)⟩, hlt⟩
end
end Go.Proofs.YtcbgeahcnjamdabGreat
