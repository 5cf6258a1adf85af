/- Lemmas. -/
import Derived.Test.YtlmdjghcmofdlaaGreatS02
import Derived.Test.YtlmdjghcmofdlaaGreatS10
import Derived.Laws.MakeOwn
import Derived.Test.YtlmdjghcmofdlaaGreatProg
import Derived.Deep.Slices
import Derived.ProofKit
import Derived.OpenShut
import Derived.Test.YtlmdjghcmofdlaaGreatS12
import Derived.Test.YtlmdjghcmofdlaaGreatS05
import Derived.Maps.OwnSet
import Derived.Maps.OwnOps
import Derived.Test.YtlmdjghcmofdlaaGreatS06
set_option maxRecDepth 100000
set_option maxHeartbeats 64000000
namespace Go.Proofs.YtlmdjghcmofdlaaGreat
open Go.RowKit
set_option linter.unusedVariables false
variable {Xh : Hx}
def S0 : Int → List Int := fun _ => []
def V0 : Int → Vl := fun _ => zeV
theorem Tp.fresh {w : World} {d : Option Addr} {B : Nat} {F : Nat → Prop} {mx : Nat} (hb : Blk w B Xh.T (.slice none 0 0 :: .slice none 0 0 :: .pointer d :: Xh.ex).toArray) (hF : F B) (hlt : ∀ k, F k → k < w.heap.size) (hd : Dok Xh.dr w F (fun k => k = B) d mx) : Tp Xh w F B [] [] S0 V0 mx := by
  refine ⟨⟨B, [], d, fun k => k = B, ⟨⟨.slice none 0 0, .slice none 0 0, hb, RowW.empty _ _ _, RowW.empty _ _ _, fun k h => (by cases h), fun k h => (by cases h), fun k h => (by cases h)⟩, rfl, fun k hk => by rw [hk]; exact hb.lt, fun s hs => (by cases hs), fun f hf => (by cases hf), hole2 _⟩, ⟨fun i hi => ?_, fun i hi => ?_, fun i j hj => ?_, fun i _ => rfl⟩, rfl, fun i => ?_, fun k hk => by rw [hk]; exact hF, hd⟩, hlt, ⟨by simp, fun f hf => (by cases hf)⟩, by simp⟩
  · have := (tk_iff.1 hi).2.2; simp at this
  · have := (tk_iff.1 hi).2.2; simp at this
  · cases hj
  · unfold nd V0; split
    · simp [zeN]
    · rfl
theorem tnew_any (d : Option Addr) (w : World) : Calls Tryz.prog 94 #[.pointer d] w fun e w' => e = .returned (.pointer (some ⟨w.heap.size, 0, none⟩)) ∧ w' = w.alloc (.cells #[.slice none 0 0, .slice none 0 0, .pointer d] 85) := by
  go_enter Tryz.func94, Tryz.ntmps94
  go_wp2
  go_ret
  exact ⟨rfl, rfl⟩
end Go.Proofs.YtlmdjghcmofdlaaGreat
namespace Go.Proofs.YtlmdjghcmofdlaaGreat
open Go.RowKit
set_option linter.unusedVariables false
structure Sq where
  K : List Bool
  fr : List Int
  S : Int → List Int
  V : Int → Vl
  n : Nat
def TsX (X : Hx) (W : World) (F : Nat → Prop) (B : Nat) (s : Sq) : Prop := Tp X W F B s.K s.fr s.S s.V s.n
def sq0 : Sq := ⟨[], [], S0, V0, 0⟩
def Sq.make (s : Sq) (x : Vl) : Sq := ⟨newK s.K s.fr, s.fr.dropLast, makeS s.S (newI s.K s.fr), updV s.V (newI s.K s.fr) x, s.n + 1⟩
def Sq.join (s : Sq) (i j : Int) : Sq := ⟨s.K, s.fr, joinS s.S i j, s.V, s.n⟩
def Sq.cut (s : Sq) (i : Int) : Sq := ⟨s.K, s.fr, cutS s.S i, s.V, s.n⟩
def Sq.set (s : Sq) (i : Int) (x : Vl) : Sq := ⟨s.K, s.fr, s.S, if isK s.K i = true then updV s.V i x else s.V, s.n⟩
def Sq.lone (s : Sq) (i : Int) : Bool := decide ((s.S i).length = 1)
def Sq.free (s : Sq) (i : Int) : Sq := if s.lone i = true then ⟨s.K.set (i - 1).toNat false, s.fr ++ [i], freeS s.S i, updV s.V i zeV, s.n⟩ else s
def Sq.le (s : Sq) (m : Nat) : Prop := s.K.length ≤ m ∧ s.n ≤ m
theorem Sq.le_make {s : Sq} {m : Nat} (h : s.le m) (x : Vl) : (s.make x).le (m + 1) := ⟨by have := (newK_le s.K s.fr).1; have := h.1; show (newK s.K s.fr).length ≤ _; omega, by have := h.2; show s.n + 1 ≤ _; omega⟩
theorem Sq.le_mono {s : Sq} {m m' : Nat} (h : s.le m) (hm : m ≤ m') : s.le m' := ⟨Nat.le_trans h.1 hm, Nat.le_trans h.2 hm⟩
section
variable {X : Hx} {w : World} {F : Nat → Prop} {B : Nat} {s : Sq}
theorem smake_any (h : TsX X w F B s) (x : Vl) {m : Nat} (hm : s.le m) (hm' : m ≤ 100000) : Calls Tryz.prog 73 #[.pointer (some ⟨B, 0, none⟩), vlc x] w fun e w' => ∃ F', e = .returned (.int .i32 (newI s.K s.fr)) ∧ TsX X w' F' B (s.make x) ∧ Step F F' w w' := tmake_any h x (by have := hm.1; omega) (by have := hm.2; omega)
theorem sjoin_any (h : TsX X w F B s) (i j : Int) (hb : -2147483648 ≤ i ∧ i ≤ 2147483647) (hc : -2147483648 ≤ j ∧ j ≤ 2147483647) : Calls Tryz.prog 139 #[.pointer (some ⟨B, 0, none⟩), .int .i32 i, .int .i32 j] w fun e w' => ∃ F', e = .returned (.bool (joinB s.S i j)) ∧ TsX X w' F' B (s.join i j) ∧ Step F F' w w' :=
  (tjoin_any h i j hb hc).mono fun e w' ⟨h1, h2, h3⟩ => ⟨F, h1, h2, h3⟩
theorem scut_any (h : TsX X w F B s) (i : Int) (hb : -2147483648 ≤ i ∧ i ≤ 2147483647) : Calls Tryz.prog 131 #[.pointer (some ⟨B, 0, none⟩), .int .i32 i] w fun e w' => ∃ F', e = .returned (.bool (isK s.K i)) ∧ TsX X w' F' B (s.cut i) ∧ Step F F' w w' :=
  (tcut_any h i hb).mono fun e w' ⟨h1, h2, h3⟩ => ⟨F, h1, h2, h3⟩
theorem sset_any (h : TsX X w F B s) (i : Int) (x : Vl) (hb : -2147483648 ≤ i ∧ i ≤ 2147483647) : Calls Tryz.prog 136 #[.pointer (some ⟨B, 0, none⟩), .int .i32 i, vlc x] w fun e w' => ∃ F', e = .returned (.bool (isK s.K i)) ∧ TsX X w' F' B (s.set i x) ∧ Step F F' w w' :=
  (tset_any h i x hb).mono fun e w' ⟨h1, h2, h3⟩ => ⟨F, h1, h2, h3⟩
theorem sfree_any (h : TsX X w F B s) (i : Int) (hb : -2147483648 ≤ i ∧ i ≤ 2147483647) : Calls Tryz.prog 79 #[.pointer (some ⟨B, 0, none⟩), .int .i32 i] w fun e w' => ∃ F', e = .returned (.bool (s.lone i)) ∧ TsX X w' F' B (s.free i) ∧ Step F F' w w' := by
  by_cases hl : (s.S i).length = 1
  · have e1 : s.lone i = true := decide_eq_true hl
    rw [e1, show s.free i = ⟨s.K.set (i - 1).toNat false, s.fr ++ [i], freeS s.S i, updV s.V i zeV, s.n⟩ from if_pos e1]
    exact tfree_yes h i hb hl
  · have e1 : s.lone i = false := decide_eq_false hl
    rw [e1, show s.free i = s from if_neg (by rw [e1]; simp)]
    exact (tfree_no h i hb hl).mono fun e w' ⟨h1, h2⟩ => ⟨F, h1, by rw [h2]; exact h, by rw [h2]; exact Step.refl _ _⟩
end
end Go.Proofs.YtlmdjghcmofdlaaGreat
namespace Go.Proofs.YtlmdjghcmofdlaaGreat
open Go.RowKit
open Go.Maps (Keyed)
set_option linter.unusedVariables false
abbrev Part := Int × Int
def ptc (p : Part) : Value := .agg #[.int .i32 p.1, .int .i32 p.2]
def ptD (p : Part) : DataW Unit := .agg [.lit (.int .i32 p.1), .lit (.int .i32 p.2)]
def partElem (v : Value) : Option (DataW Unit × List MemPlace) :=
  match v with
  | .agg cs => (match cs.toList with
    | [.int .i32 a, .int .i32 b] => some (ptD (a, b), [])
    | _ => none)
  | _ => none
theorem partElem_mk (p : Part) : partElem (ptc p) = some (ptD p, []) := rfl
theorem partElem_inv {v : Value} {z : DataW Unit × List MemPlace} (h : partElem v = some z) : ∃ p, v = ptc p ∧ z = (ptD p, []) := by
  unfold partElem at h
  split at h
  · rename_i cs
    split at h
    · rename_i a b hcs
      cases h
      refine ⟨(a, b), ?_, rfl⟩
      unfold ptc
      rw [← Array.toList_inj.1 (show cs.toList = (#[Value.int .i32 a, Value.int .i32 b]).toList from hcs)]
    · cases h
  · cases h
theorem ptD_inj {p q : Part} (h : ptD p = ptD q) : p = q := by
  unfold ptD at h
  simp at h
  exact Prod.ext h.1 h.2
theorem keyP : Keyed Tryz.prog 21 := Go.Maps.int_keyed (q := .i32) (by kernel_rfl)
theorem keyP_mk {i : Int} (hb : -2147483648 ≤ i ∧ i ≤ 2147483647) : keyOf Tryz.prog 21 (.int .i32 i) = some (.int .i32 i) := Go.Maps.keyOf_int_mk (by kernel_rfl) (WalkArith.wf_i32 hb)
theorem mapP : Tryz.prog.underlying 92 = some (.map 21 132) := by kernel_rfl
theorem zeroP (w : World) : (zeroValue 132).run Tryz.prog w = .ok (ptc (0, 0)) w := by kernel_rfl
def p0 : Int → Part := fun _ => (0, 0)
def updP (p : Int → Part) (i : Int) (q : Part) : Int → Part := fun j => if j = i then q else p j
def PM (W : World) (b n : Nat) (p : Int → Part) : Prop := ∃ D, W.ownsMap Tryz.prog 21 partElem b n D ∧ ∀ i : Int, D.atKey (.int .i32 i) (ptD (0, 0)) = ptD (p i)
theorem PM.lt {W : World} {b n : Nat} {p : Int → Part} (h : PM W b n p) : b < W.heap.size := by obtain ⟨D, h1, _⟩ := h; exact h1.lt
theorem PM.kept {W W' : World} {b n : Nat} {p : Int → Part} (h : PM W b n p) (hb : W'.heap[b]? = W.heap[b]?) : PM W' b n p := by
  obtain ⟨D, ⟨es, c, h1, h2⟩, h3⟩ := h
  exact ⟨D, ⟨es, c, hb.trans h1, h2⟩, h3⟩
theorem PM.made (W : World) : PM (W.alloc (.map #[] 0)) W.heap.size 0 p0 := ⟨.map [], World.ownsMap_made W _ _ _, fun i => rfl⟩
theorem PM.look {W : World} {b n : Nat} {p : Int → Part} (h : PM W b n p) {i : Int} (hb : -2147483648 ≤ i ∧ i ≤ 2147483647) : (Instr.lookup 92 (.map (some b)) (.int .i32 i) false).run Tryz.prog W = .ok (ptc (p i)) W := by
  obtain ⟨D, h1, h2⟩ := h
  obtain ⟨v, ps, hr, hv⟩ := h1.lookup keyP mapP (zeroP W) (partElem_mk _) (keyP_mk hb)
  obtain ⟨q, rfl, hq⟩ := partElem_inv hv
  rw [hr]
  have := congrArg Prod.fst hq
  simp only at this
  rw [h2 i] at this
  rw [ptD_inj this]
theorem PM.look_nil (W : World) {i : Int} (hb : -2147483648 ≤ i ∧ i ≤ 2147483647) : (Instr.lookup 92 (.map none) (.int .i32 i) false).run Tryz.prog W = .ok (ptc (0, 0)) W := by
  have := Go.Maps.look_nil (P := Tryz.prog) (w := W) false keyP mapP (zeroP W) (keyP_mk hb)
  simpa using this
theorem PM.store {W : World} {b n : Nat} {p : Int → Part} (h : PM W b n p) (hn : n ≤ 100000) {i : Int} (hb : -2147483648 ≤ i ∧ i ≤ 2147483647) (q : Part) : ∃ W', (Instr.mapUpdate 92 (.map (some b)) (.int .i32 i) (ptc q)).run Tryz.prog W = .ok () W' ∧ PM W' b (n + 1) (updP p i q) ∧ W.grownBy W' (some b) := by
  obtain ⟨D, h1, h2⟩ := h
  obtain ⟨W', hr, a, g⟩ := h1.update keyP mapP (by unfold maxLen; omega) (keyP_mk hb) (partElem_mk q)
  refine ⟨W', hr, ⟨_, a, fun j => ?_⟩, g⟩
  unfold updP
  split
  · rename_i e; subst e; exact Go.Maps.atKey_put_same h1.isMap (by simp [WideAt.IsKeyLit]) _ _
  · rename_i e
    rw [Go.Maps.atKey_put_other (by simp; exact e)]
    exact h2 j
theorem PM.drop {W : World} {b n : Nat} {p : Int → Part} (h : PM W b n p) {i : Int} (hb : -2147483648 ≤ i ∧ i ≤ 2147483647) (ty : TypeId) : ∃ W', (Builtin.delete_ #[92, 21] ty #[.map (some b), .int .i32 i]).run Tryz.prog W = .ok (.tuple #[]) W' ∧ PM W' b n (updP p i (0, 0)) ∧ W.grownBy W' (some b) := by
  obtain ⟨D, h1, h2⟩ := h
  obtain ⟨W', hr, a, g⟩ := h1.drop keyP mapP (keyP_mk hb) ty
  refine ⟨W', hr, ⟨_, a, fun j => ?_⟩, g.grown⟩
  unfold updP
  split
  · rename_i e; subst e; exact Go.Maps.atKey_del_same _
  · rename_i e
    rw [Go.Maps.atKey_del_other (by simp; exact e)]
    exact h2 j
theorem wpList_part_store {W : World} {ops : Array Oper} {rest : List Oper} {o : Oper} {a : Act} {Q : Exit → Act → World → Prop} (hg : o.guard = none) (m x v : Operand) (hop : o.op = Op.mapUpdate 92 m x v)
    {b n : Nat} {p : Int → Part} (hm : a.eval m = .map (some b)) (h : PM W b n p) (hn : n ≤ 100000) {i : Int} (hx : a.eval x = .int .i32 i) (hb : -2147483648 ≤ i ∧ i ≤ 2147483647) (q : Part) (hv : a.eval v = ptc q)
    (hK : ∀ W', PM W' b (n + 1) (updP p i q) → W.grownBy W' (some b) → wpList Tryz.prog ops Q rest (a.put o.dst undef) W') : wpList Tryz.prog ops Q (o :: rest) a W := by
  refine wpList_plain hg fun K' hK' => ?_
  obtain ⟨W', hrun, r1, r2⟩ := h.store hn hb q
  unfold Oper.wp
  simp [execOp, hop, hm, hx, hv, hrun, Result.andThen]
  exact hK' _ _ (hK W' r1 r2)
theorem wpList_part_drop {W : World} {ops : Array Oper} {rest : List Oper} {o : Oper} {a : Act} {Q : Exit → Act → World → Prop} (hg : o.guard = none) (m x : Operand) (hop : o.op = Op.call { callee := Callee.builtin Builtin.delete, args := #[m, x], argTypes := #[92, 21] })
    {b n : Nat} {p : Int → Part} (hm : a.eval m = .map (some b)) (h : PM W b n p) {i : Int} (hx : a.eval x = .int .i32 i) (hb : -2147483648 ≤ i ∧ i ≤ 2147483647)
    (hK : ∀ W', PM W' b n (updP p i (0, 0)) → W.grownBy W' (some b) → wpList Tryz.prog ops Q rest (a.put o.dst (.tuple #[])) W') : wpList Tryz.prog ops Q (o :: rest) a W := by
  refine wpList_plain hg fun K' hK' => ?_
  obtain ⟨W', hrun, r1, r2⟩ := h.drop hb o.type
  unfold Oper.wp
  simp [execOp, hop, resolve, invoke, builtin, hm, hx, hrun, Result.andThen]
  exact hK' _ _ (hK W' r1 r2)
end Go.Proofs.YtlmdjghcmofdlaaGreat
namespace Go.Proofs.YtlmdjghcmofdlaaGreat
open Go.RowKit
set_option linter.unusedVariables false
structure Edg where
  a : Int
  b : Int
  x : Int
  y : Int
def zeE : Edg := ⟨0, 0, 0, 0⟩
structure To where
  s : Sq
  v : List (Int × Bool)
  fv : List Int
  e : List (Edg × Bool)
  fe : List Int
  p : Int → Part
  m : Nat
def to0 : To := ⟨sq0, [], [], [], [], p0, 0⟩
def isA {α : Type} (L : List (α × Bool)) (i : Int) : Bool := decide (1 ≤ i) && (match L[(i - 1).toNat]? with | some q => q.2 | none => false)
def atA {α : Type} (z : α) (L : List (α × Bool)) (i : Int) : α := match L[(i - 1).toNat]? with | some q => q.1 | none => z
def tkI {α : Type} (L : List (α × Bool)) (fr : List Int) : Int := match fr.getLast? with | none => (L.length : Int) + 1 | some f => f
def tkL {α : Type} (L : List (α × Bool)) (fr : List Int) (x : α) : List (α × Bool) := match fr.getLast? with | none => L ++ [(x, true)] | some f => L.set (f - 1).toNat (x, true)
def frL {α : Type} (z : α) (L : List (α × Bool)) (i : Int) : List (α × Bool) := L.set (i - 1).toNat (z, false)
theorem isA_iff {α : Type} {L : List (α × Bool)} {i : Int} : isA L i = true ↔ ∃ (k : Nat) (x : α), i = k + 1 ∧ L[k]? = some (x, true) := by
  constructor
  · intro h
    unfold isA at h
    simp only [Bool.and_eq_true, decide_eq_true_eq] at h
    obtain ⟨h1, h2⟩ := h
    cases hq : L[(i - 1).toNat]? with
    | none => rw [hq] at h2; cases h2
    | some s =>
      rw [hq] at h2
      obtain ⟨x, b⟩ := s
      simp at h2
      subst h2
      exact ⟨(i - 1).toNat, x, by omega, hq⟩
  · rintro ⟨k, x, rfl, h⟩
    unfold isA
    rw [show ((k : Int) + 1 - 1).toNat = k by omega, h]
    simp; omega
theorem isA_bd {α : Type} {L : List (α × Bool)} {i : Int} (h : isA L i = true) : 1 ≤ i ∧ i ≤ L.length := by
  obtain ⟨k, x, rfl, h'⟩ := isA_iff.1 h
  have := (List.getElem?_eq_some_iff.1 h').1
  omega
theorem isA_get {α : Type} (z : α) {L : List (α × Bool)} {i : Int} (h : isA L i = true) : L[(i - 1).toNat]? = some (atA z L i, true) := by
  obtain ⟨k, x, rfl, h'⟩ := isA_iff.1 h
  unfold atA
  rw [show ((k : Int) + 1 - 1).toNat = k by omega, h']
def slV (L : List (Int × Bool)) : List Slt := L.map fun q => ([.int .i32 q.1], q.2)
def edc (x : Edg) : List Value := [.int .i64 x.a, .int .i64 x.b, .int .i32 x.x, .int .i32 x.y]
def slE (L : List (Edg × Bool)) : List Slt := L.map fun q => (edc q.1, q.2)
theorem slV_len (L : List (Int × Bool)) : (slV L).length = L.length := by simp [slV]
theorem slE_len (L : List (Edg × Bool)) : (slE L).length = L.length := by simp [slE]
theorem slV_isT (L : List (Int × Bool)) (i : Int) : isT (slV L) i = isA L i := by
  unfold isT isA slV; rw [List.getElem?_map]; cases L[(i - 1).toNat]? <;> rfl
theorem slE_isT (L : List (Edg × Bool)) (i : Int) : isT (slE L) i = isA L i := by
  unfold isT isA slE; rw [List.getElem?_map]; cases L[(i - 1).toNat]? <;> rfl
theorem slV_take (L : List (Int × Bool)) (fr : List Int) (x : Int) : takeI (slV L) fr = tkI L fr ∧ takeL (slV L) fr ([.int .i32 x], true) = slV (tkL L fr x) := by
  unfold takeI takeL tkI tkL
  cases fr.getLast? <;> simp [slV, List.map_set]
theorem slE_take (L : List (Edg × Bool)) (fr : List Int) (x : Edg) : takeI (slE L) fr = tkI L fr ∧ takeL (slE L) fr (edc x, true) = slE (tkL L fr x) := by
  unfold takeI takeL tkI tkL
  cases fr.getLast? <;> simp [slE, List.map_set]
theorem slV_free (L : List (Int × Bool)) (i : Int) : (slV L).set (i - 1).toNat ([.int .i32 0], false) = slV (frL 0 L i) := by simp [slV, frL, List.map_set]
theorem slE_free (L : List (Edg × Bool)) (i : Int) : (slE L).set (i - 1).toNat (edc zeE, false) = slE (frL zeE L i) := by simp [slE, frL, List.map_set]
theorem tkL_len {α : Type} (L : List (α × Bool)) (fr : List Int) (x : α) : (tkL L fr x).length ≤ L.length + 1 := by
  unfold tkL; cases fr.getLast? <;> simp
theorem frL_len {α : Type} (z : α) (L : List (α × Bool)) (i : Int) : (frL z L i).length = L.length := by simp [frL]
def To.ws (t : To) (s : Sq) : To := ⟨s, t.v, t.fv, t.e, t.fe, t.p, t.m⟩
def To.wv (t : To) (v : List (Int × Bool)) (fv : List Int) : To := ⟨t.s, v, fv, t.e, t.fe, t.p, t.m⟩
def To.we (t : To) (e : List (Edg × Bool)) (fe : List Int) : To := ⟨t.s, t.v, t.fv, e, fe, t.p, t.m⟩
def To.wp (t : To) (p : Int → Part) (m : Nat) : To := ⟨t.s, t.v, t.fv, t.e, t.fe, p, m⟩
def To.item (t : To) (v : Int) : Int := if isA t.v v = true then atA 0 t.v v else 0
def To.edge (t : To) (n : Int) : Edg := atA zeE t.e n
def noneV : Vl := ⟨0, 0, 4611686018427387904, 0⟩
def To.addV (t : To) (sum least : Int) : To :=
  let i := newI t.s.K t.s.fr
  ⟨t.s.make ⟨1, sum, least, 0⟩, tkL t.v t.fv i, t.fv.dropLast, t.e, t.fe, updP t.p i (tkI t.v t.fv, 0), t.m + 1 + 1⟩
def To.dropV (t : To) (v : Int) : To := ⟨t.s.free (t.item v), frL 0 t.v v, t.fv ++ [v], t.e, t.fe, updP t.p (t.item v) (0, 0), t.m⟩
def Sq.turn (s : Sq) (i : Int) : Sq := (s.cut i).join i ((s.S i).headD 0)
def Sq.splice (s : Sq) (i j x y : Int) : Sq := ((((s.turn i).turn j).join i x).join i j).join i y
def Sq.uns2 (s : Sq) (x y : Int) : Sq := (s.turn x).cut y
def Sq.uns3 (s : Sq) (x y : Int) : Sq := (s.uns2 x y).cut (nxS ((s.uns2 x y).S x) x)
def Sq.unsplice (s : Sq) (x y : Int) : Sq := (s.uns3 x y).cut (nxS ((s.uns3 x y).S y) y)
def To.newX (t : To) : Int := newI t.s.K t.s.fr
def To.newY (t : To) : Int := newI (t.s.make noneV).K (t.s.make noneV).fr
def To.newE (t : To) : Int := tkI t.e t.fe
def To.addE (t : To) (a b : Int) : To :=
  ⟨(t.s.make noneV).make noneV, t.v, t.fv, tkL t.e t.fe ⟨a, b, t.newX, t.newY⟩, t.fe.dropLast, updP (updP t.p t.newX (0, t.newE)) t.newY (0, t.newE), t.m + 1 + 1⟩
def To.link (t : To) (a b : Int) : To := (t.addE a b).ws ((t.addE a b).s.splice (t.item a) (t.item b) t.newX t.newY)
def To.dropI (t : To) (i : Int) : To := (t.wp (updP t.p i (0, 0)) t.m).ws (t.s.free i)
def To.cutE (t : To) (n : Int) : To := (((t.ws (t.s.unsplice (t.edge n).x (t.edge n).y)).dropI (t.edge n).x).dropI (t.edge n).y).we (frL zeE t.e n) (t.fe ++ [n])
def To.val (t : To) (i : Int) : Vl := if isK t.s.K i = true then t.s.V i else zeV
def To.markI (t : To) (i m : Int) : To := t.ws (t.s.set i ⟨(t.val i).c, (t.val i).s, (t.val i).l, m⟩)
def To.total (t : To) (v : Int) : Vl := if t.item v = 0 then zeV else sumV ((t.s.S (t.item v)).map t.s.V)
def To.same (t : To) (a b : Int) : Bool := decide (t.item b ∈ t.s.S (t.item a))
def To.find (t : To) (v m : Int) : Part := if t.item v = 0 then (0, 0) else t.p (fdS t.s.V (t.s.S (t.item v)) m)
theorem tkI_nil {α : Type} (L : List (α × Bool)) : tkI L [] = (L.length : Int) + 1 := rfl
theorem tkI_snoc {α : Type} (L : List (α × Bool)) (fr : List Int) (f : Int) : tkI L (fr ++ [f]) = f := by unfold tkI; rw [List.getLast?_concat]
theorem tkL_nil {α : Type} (L : List (α × Bool)) (x : α) : tkL L [] x = L ++ [(x, true)] := rfl
theorem tkL_snoc {α : Type} (L : List (α × Bool)) (fr : List Int) (f : Int) (x : α) : tkL L (fr ++ [f]) x = L.set (f - 1).toNat (x, true) := by unfold tkL; rw [List.getLast?_concat]
theorem tkI_bd {α : Type} {L : List (α × Bool)} {fr : List Int} (hf : ∀ f ∈ fr, 1 ≤ f ∧ f ≤ L.length) : 1 ≤ tkI L fr ∧ tkI L fr ≤ (L.length : Int) + 1 := by
  rcases List.eq_nil_or_concat fr with rfl | ⟨fr', f, rfl⟩
  · rw [tkI_nil]; omega
  · rw [List.concat_eq_append] at hf ⊢
    have := hf f (by simp)
    rw [tkI_snoc]; omega
theorem tk_get {α : Type} {L : List (α × Bool)} {fr : List Int} (hf : ∀ f ∈ fr, 1 ≤ f ∧ f ≤ L.length) (x : α) {j : Int} (hj : 1 ≤ j) : (tkL L fr x)[(j - 1).toNat]? = if j = tkI L fr then some (x, true) else L[(j - 1).toNat]? := by
  rcases List.eq_nil_or_concat fr with rfl | ⟨fr', f, rfl⟩
  · rw [tkI_nil, tkL_nil]
    by_cases e : j = (L.length : Int) + 1
    · rw [if_pos e, show (j - 1).toNat = L.length by omega, List.getElem?_concat_length]
    · rw [if_neg e]
      rcases Nat.lt_or_ge (j - 1).toNat L.length with h | h
      · rw [List.getElem?_append_left h]
      · rw [List.getElem?_eq_none (by simp; omega), List.getElem?_eq_none h]
  · rw [List.concat_eq_append] at hf ⊢
    have := hf f (by simp)
    rw [tkI_snoc, tkL_snoc]
    rw [List.getElem?_set]
    by_cases e : j = f
    · subst e; rw [if_pos rfl, if_pos rfl, if_pos (by omega)]
    · rw [if_neg (by omega), if_neg e]
theorem isA_tkL {α : Type} {L : List (α × Bool)} {fr : List Int} (hf : ∀ f ∈ fr, 1 ≤ f ∧ f ≤ L.length) (x : α) (j : Int) : isA (tkL L fr x) j = if j = tkI L fr then true else isA L j := by
  have hb := tkI_bd hf
  unfold isA
  by_cases hj : 1 ≤ j
  · rw [tk_get hf x hj]
    by_cases e : j = tkI L fr
    · rw [if_pos e, if_pos e]; simp [hj]
    · rw [if_neg e, if_neg e]
  · rw [if_neg (by omega)]; simp [hj]
theorem atA_tkL {α : Type} {L : List (α × Bool)} {fr : List Int} (hf : ∀ f ∈ fr, 1 ≤ f ∧ f ≤ L.length) (z x : α) {j : Int} (hj : 1 ≤ j) : atA z (tkL L fr x) j = if j = tkI L fr then x else atA z L j := by
  unfold atA
  rw [tk_get hf x hj]
  by_cases e : j = tkI L fr
  · rw [if_pos e, if_pos e]
  · rw [if_neg e, if_neg e]
theorem frL_get {α : Type} {L : List (α × Bool)} (z : α) {i : Int} (hi : isA L i = true) {j : Int} (hj : 1 ≤ j) : (frL z L i)[(j - 1).toNat]? = if j = i then some (z, false) else L[(j - 1).toNat]? := by
  have hb := isA_bd hi
  unfold frL
  rw [List.getElem?_set]
  by_cases e : j = i
  · subst e; rw [if_pos rfl, if_pos rfl, if_pos (by omega)]
  · rw [if_neg (by omega), if_neg e]
theorem isA_frL {α : Type} {L : List (α × Bool)} (z : α) {i : Int} (hi : isA L i = true) (j : Int) : isA (frL z L i) j = if j = i then false else isA L j := by
  have hb := isA_bd hi
  unfold isA
  by_cases hj : 1 ≤ j
  · rw [frL_get z hi hj]
    by_cases e : j = i
    · rw [if_pos e, if_pos e]; simp
    · rw [if_neg e, if_neg e]
  · rw [if_neg (by omega)]; simp [hj]
theorem atA_frL {α : Type} {L : List (α × Bool)} (z : α) {i : Int} (hi : isA L i = true) {j : Int} (hj : 1 ≤ j) : atA z (frL z L i) j = if j = i then z else atA z L j := by
  unfold atA
  rw [frL_get z hi hj]
  by_cases e : j = i
  · rw [if_pos e, if_pos e]
  · rw [if_neg e, if_neg e]
def Bd (i : Int) : Prop := 1 ≤ i ∧ i ≤ 2147483647
structure To.Bd (t : To) : Prop where
  v : ∀ v, isA t.v v = true → Go.Proofs.YtlmdjghcmofdlaaGreat.Bd (atA 0 t.v v)
  x : ∀ n, isA t.e n = true → Go.Proofs.YtlmdjghcmofdlaaGreat.Bd (t.edge n).x ∧ Go.Proofs.YtlmdjghcmofdlaaGreat.Bd (t.edge n).y
theorem To.item_yes {t : To} {v : Int} (h : isA t.v v = true) : t.item v = atA 0 t.v v := if_pos h
theorem To.item_no {t : To} {v : Int} (h : isA t.v v = false) : t.item v = 0 := by unfold To.item; rw [if_neg (by rw [h]; simp)]
theorem To.Bd.item {t : To} (h : t.Bd) (v : Int) : (isA t.v v = true ∧ Go.Proofs.YtlmdjghcmofdlaaGreat.Bd (t.item v)) ∨ (isA t.v v = false ∧ t.item v = 0) := by
  cases hv : isA t.v v with
  | true => exact .inl ⟨rfl, by rw [To.item_yes hv]; exact h.v v hv⟩
  | false => exact .inr ⟨rfl, To.item_no hv⟩
structure To.le (t : To) (k : Nat) : Prop where
  s : t.s.le (3 * k)
  v : t.v.length ≤ k
  fv : t.fv.length ≤ k
  e : t.e.length ≤ k
  fe : t.fe.length ≤ k
  m : t.m ≤ 3 * k
theorem To.le.mono {t : To} {k k' : Nat} (h : t.le k) (hk : k ≤ k') : t.le k' := ⟨Sq.le_mono h.s (by omega), by have := h.v; omega, by have := h.fv; omega, by have := h.e; omega, by have := h.fe; omega, by have := h.m; omega⟩
end Go.Proofs.YtlmdjghcmofdlaaGreat
namespace Go.Proofs.YtlmdjghcmofdlaaGreat
open Go.RowKit
set_option linter.unusedVariables false
structure ARw (S m : Nat) (W : World) (F : Nat → Prop) (B G : Nat) (v u : Value) (L : List Slt) (fr : List Int) : Prop where
  r1 : RowW W S (m + 1) v L.length (slcs L)
  r2 : RowW W 21 1 u fr.length (i32s fr)
  ap : Apart v u
  f1 : ∀ k, v.ownBlock = some k → k = G ∧ F k ∧ k ≠ B
  f2 : ∀ k, u.ownBlock = some k → F k ∧ k ≠ B
  b : F B
  lt : ∀ k, F k → k < W.heap.size
  wsl : WSl m L
  fr : ∀ f ∈ fr, 1 ≤ f ∧ f ≤ L.length
theorem ARw.up {φ : Value → Value → List Value} {o0 o1 T S m : Nat} {W : World} {F : Nat → Prop} {B G : Nat} {v u : Value} {L : List Slt} {fr : List Int} (h : ARw S m W F B G v u L fr) (hb : Blk W B T (φ v u).toArray) (ok : Hole φ o0 o1) : ArnX φ o0 o1 T S m W F B G L fr :=
  ⟨⟨v, u, hb, h.r1, h.r2, h.ap, h.f1, h.f2⟩, h.b, h.lt, h.wsl, h.fr, ok⟩
theorem ARw.down {φ : Value → Value → List Value} {o0 o1 T S m : Nat} {W : World} {F : Nat → Prop} {B G : Nat} {L : List Slt} {fr : List Int} (h : ArnX φ o0 o1 T S m W F B G L fr) : ∃ v u, Blk W B T (φ v u).toArray ∧ ARw S m W F B G v u L fr := by
  obtain ⟨v, u, h1, h2, h3, h4, h5, h6⟩ := h.ex
  exact ⟨v, u, h1, h2, h3, h4, h5, h6, h.b, h.lt, h.wsl, h.fr⟩
theorem ARw.kept {S m : Nat} {W W' : World} {F : Nat → Prop} {B G : Nat} {v u : Value} {L : List Slt} {fr : List Int} (h : ARw S m W F B G v u L fr) (hb : ∀ k, F k → k ≠ B → W'.heap[k]? = W.heap[k]?) (hs : W.heap.size ≤ W'.heap.size) : ARw S m W' F B G v u L fr :=
  ⟨h.r1.kept fun k hk => hb k (h.f1 k hk).2.1 (h.f1 k hk).2.2, h.r2.kept fun k hk => hb k (h.f2 k hk).1 (h.f2 k hk).2, h.ap, h.f1, h.f2, h.b, fun k hk => Nat.lt_of_lt_of_le (h.lt k hk) hs, h.wsl, h.fr⟩
theorem Blk.inj {W : World} {B : Nat} {t t' : TypeId} {cs cs' : Array Value} (h : Blk W B t cs) (h' : Blk W B t' cs') : cs = cs' := by
  have := h.symm.trans h'
  simp at this
  exact this.1
theorem Tp.blk {X : Hx} {W : World} {F : Nat → Prop} {B : Nat} {K : List Bool} {fr : List Int} {S : Int → List Int} {V : Int → Vl} {mx : Nat} (h : Tp X W F B K fr S V mx) : F B ∧ ∃ a b d, Blk W B X.T (a :: b :: d :: X.ex).toArray := by
  obtain ⟨G, N, d, Fa, h1, h2, h3, h4, h5, h6⟩ := h.ex
  obtain ⟨v, u, a1, _⟩ := h1.ex
  exact ⟨h5 _ h1.b, v, u, _, a1⟩
theorem Tp.reh {T0 : TypeId} {ex0 : List Value} {dr : Option (Nat × Nat × List Int)} {W W' : World} {F : Nat → Prop} {B : Nat} {K : List Bool} {fr : List Int} {S : Int → List Int} {V : Int → Vl} {mx : Nat} {a b d : Value} {T : TypeId} {ex : List Value} (h : Tp ⟨T0, ex0, dr⟩ W F B K fr S V mx) (hb : Blk W B T0 (a :: b :: d :: ex0).toArray) (hb' : Blk W' B T (a :: b :: d :: ex).toArray)
    (hk : ∀ k, F k → k ≠ B → W'.heap[k]? = W.heap[k]?) (hs : W.heap.size ≤ W'.heap.size) : Tp ⟨T, ex, dr⟩ W' F B K fr S V mx := by
  obtain ⟨G, N, d', Fa, h1, h2, h3, h4, h5, h6⟩ := h.ex
  have hB := h1.b
  obtain ⟨v, u, a1, a2, a3, a4, a5, a6⟩ := h1.ex
  have e := a1.inj hb
  simp at e
  obtain ⟨rfl, rfl, rfl⟩ := e
  refine ⟨⟨G, N, d', Fa, ⟨⟨v, u, hb', a2.kept fun k hk' => hk k (h5 k (a5 k hk').2.1) (a5 k hk').2.2, a3.kept fun k hk' => hk k (h5 k (a6 k hk').1) (a6 k hk').2, a4, a5, a6⟩, hB, fun k hk' => Nat.lt_of_lt_of_le (h1.lt k hk') hs, h1.wsl, h1.fr, hole2 _⟩, h2, h3, h4, h5, h6.imp id ?_⟩, fun k hk' => Nat.lt_of_lt_of_le (h.lt k hk') hs, h.fk, h.klen⟩
  rintro ⟨D, Dg, xs, n, c1, c2, c3, c4, c5, c6, c7, c8⟩
  exact ⟨D, Dg, xs, n, c1, c2.kept (hk D c4 (fun e => c6 (e ▸ hB))) (hk Dg c5 (fun e => c7 (e ▸ hB))) hs, c3, c4, c5, c6, c7, c8⟩
def MpOk (W : World) (mp : Value) (p : Int → Part) (m : Nat) : Prop := (mp = .map none ∧ p = p0 ∧ m = 0) ∨ ∃ bm, mp = .map (some bm) ∧ PM W bm m p
structure Tf (Yh : Hx) (W : World) (F : Nat → Prop) (B G : Nat) (t : To) : Prop where
  ex : ∃ a b d v u e g mp Ft Fv Fe GV, Blk W B Yh.T (a :: b :: d :: v :: u :: e :: g :: mp :: Yh.ex).toArray ∧ TsX ⟨Yh.T, v :: u :: e :: g :: mp :: Yh.ex, Yh.dr⟩ W Ft B t.s ∧ ARw 154 1 W Fv B GV v u (slV t.v) t.fv ∧ ARw 180 4 W Fe B G e g (slE t.e) t.fe ∧ MpOk W mp t.p t.m ∧
    (∀ k, Ft k → F k) ∧ (∀ k, Fv k → F k) ∧ (∀ k, Fe k → F k) ∧ (∀ k, Ft k → Fv k → k = B) ∧ (∀ k, Ft k → Fe k → k = B) ∧ (∀ k, Fv k → Fe k → k = B) ∧ (∀ bm, mp = .map (some bm) → F bm ∧ ¬ Ft bm ∧ ¬ Fv bm ∧ ¬ Fe bm)
  lt : ∀ k, F k → k < W.heap.size
  bd : t.Bd
section
variable {Yh : Hx} {W W' : World} {F : Nat → Prop} {B G : Nat} {t : To}
theorem MpOk.kept {mp : Value} {p : Int → Part} {m : Nat} (h : MpOk W mp p m) (hb : ∀ bm, mp = .map (some bm) → W'.heap[bm]? = W.heap[bm]?) : MpOk W' mp p m := h.imp id (fun ⟨bm, e, h1⟩ => ⟨bm, e, h1.kept (hb bm e)⟩)
theorem Tf.kept (h : Tf Yh W F B G t) (hb : ∀ k, F k → W'.heap[k]? = W.heap[k]?) (hs : W.heap.size ≤ W'.heap.size) : Tf Yh W' F B G t := by
  obtain ⟨a, b, d, v, u, e, g, mp, Ft, Fv, Fe, GV, h1, h2, h3, h4, h5, f1, f2, f3, d1, d2, d3, d4⟩ := h.ex
  exact ⟨⟨a, b, d, v, u, e, g, mp, Ft, Fv, Fe, GV, (hb B (f2 B h3.b)).trans h1, Tp.kept h2 (fun k hk => hb k (f1 k hk)) hs, h3.kept (fun k hk _ => hb k (f2 k hk)) hs, h4.kept (fun k hk _ => hb k (f3 k hk)) hs, h5.kept (fun bm e => hb bm (d4 bm e).1), f1, f2, f3, d1, d2, d3, d4⟩, fun k hk => Nat.lt_of_lt_of_le (h.lt k hk) hs, h.bd⟩
theorem Tf.shared (h : Tf Yh W F B G t) {D Dg : Nat} {xs : List Int} (hd : Yh.dr = some (D, Dg, xs)) : F D ∧ F Dg ∧ D ≠ B ∧ Dg ≠ B ∧ ∃ n, n ≤ t.s.n ∧ Drw W D Dg xs n := by
  obtain ⟨a, b, d, v, u, e, g, mp, Ft, Fv, Fe, GV, h1, h2, h3, h4, h5, f1, f2, f3, d1, d2, d3, d4⟩ := h.ex
  obtain ⟨k1, k2, k3, k4, n, k5, k6⟩ := Tp.shared h2 hd
  exact ⟨f1 D k1, f1 Dg k2, k3, k4, n, k5, k6⟩
def Sq.up (s : Sq) (m : Nat) : Sq := ⟨s.K, s.fr, s.S, s.V, m⟩
def To.up (t : To) (m : Nat) : To := ⟨t.s.up m, t.v, t.fv, t.e, t.fe, t.p, t.m⟩
theorem Tf.drawn (h : Tf Yh W F B G t) {D Dg m n : Nat} {xs : List Int} (hd : Yh.dr = some (D, Dg, xs)) (hb : ∀ k, F k → k ≠ D → k ≠ Dg → W'.heap[k]? = W.heap[k]?) (hs : W.heap.size ≤ W'.heap.size) (hD : Drw W' D Dg xs n) (hn : n ≤ m) : Tf Yh W' F B G (t.up m) := by
  obtain ⟨a, b, d, v, u, e, g, mp, Ft, Fv, Fe, GV, h1, h2, h3, h4, h5, f1, f2, f3, d1, d2, d3, d4⟩ := h.ex
  obtain ⟨k1, k2, k3, k4, _⟩ := Tp.shared h2 hd
  have nv : ∀ k, Fv k → k ≠ D ∧ k ≠ Dg := fun k hk => ⟨fun e => k3 (d1 D k1 (e ▸ hk)), fun e => k4 (d1 Dg k2 (e ▸ hk))⟩
  have ne : ∀ k, Fe k → k ≠ D ∧ k ≠ Dg := fun k hk => ⟨fun e => k3 (d2 D k1 (e ▸ hk)), fun e => k4 (d2 Dg k2 (e ▸ hk))⟩
  exact ⟨⟨a, b, d, v, u, e, g, mp, Ft, Fv, Fe, GV, (hb B (f2 B h3.b) (Ne.symm k3) (Ne.symm k4)).trans h1, Tp.drawn h2 hd (fun k hk => hb k (f1 k hk)) hs hD hn, h3.kept (fun k hk _ => hb k (f2 k hk) (nv k hk).1 (nv k hk).2) hs, h4.kept (fun k hk _ => hb k (f3 k hk) (ne k hk).1 (ne k hk).2) hs,
    h5.kept (fun bm e => hb bm (d4 bm e).1 (fun e' => (d4 bm e).2.1 (e' ▸ k1)) (fun e' => (d4 bm e).2.1 (e' ▸ k2))), f1, f2, f3, d1, d2, d3, d4⟩, fun k hk => Nat.lt_of_lt_of_le (h.lt k hk) hs, ⟨h.bd.v, h.bd.x⟩⟩
theorem Tf.below (h : Tf Yh W F B G t) (hb : Below W.heap.size W W') : Tf Yh W' F B G t := h.kept (fun k hk => hb.block k (h.lt k hk)) hb.size
theorem Tf.fb (h : Tf Yh W F B G t) : F B := by
  obtain ⟨a, b, d, v, u, e, g, mp, Ft, Fv, Fe, GV, h1, h2, h3, h4, h5, f1, f2, f3, _⟩ := h.ex
  exact f2 B h3.b
theorem Tf.treap (h : Tf Yh W F B G t) : ∃ X Ft, TsX X W Ft B t.s ∧ ∀ W' Ft' s', TsX X W' Ft' B s' → Step Ft Ft' W W' → ∃ F', Tf Yh W' F' B G (t.ws s') ∧ Step F F' W W' := by
  obtain ⟨a, b, d, v, u, e, g, mp, Ft, Fv, Fe, GV, h1, h2, h3, h4, h5, f1, f2, f3, d1, d2, d3, d4⟩ := h.ex
  refine ⟨_, Ft, h2, fun W' Ft' s' k1 k2 => ⟨fun k => F k ∨ Ft' k, ?_, ?_⟩⟩
  · obtain ⟨kB, a', b', d', q1⟩ := Tp.blk k1
    have lF := h.lt
    refine ⟨⟨a', b', d', v, u, e, g, mp, Ft', Fv, Fe, GV, q1, k1, h3.kept (fun k hk hne => k2.only.block k (h3.lt k hk) (fun hf => hne (d1 k hf hk))) k2.size, h4.kept (fun k hk hne => k2.only.block k (h4.lt k hk) (fun hf => hne (d2 k hf hk))) k2.size, h5.kept (fun bm e' => k2.only.block bm (lF bm (d4 bm e').1) (d4 bm e').2.1), fun k hk => .inr hk, fun k hk => .inl (f2 k hk), fun k hk => .inl (f3 k hk), fun k hk hk' => ?_, fun k hk hk' => ?_, d3, fun bm e' => ⟨.inl (d4 bm e').1, fun hf => ?_, (d4 bm e').2.2⟩⟩, fun k hk => ?_, ⟨h.bd.v, h.bd.x⟩⟩
    · rcases k2.ext k hk with h' | h'
      · exact d1 k h' hk'
      · have := h3.lt k hk'; omega
    · rcases k2.ext k hk with h' | h'
      · exact d2 k h' hk'
      · have := h4.lt k hk'; omega
    · rcases k2.ext bm hf with h' | h'
      · exact (d4 bm e').2.1 h'
      · have := lF bm (d4 bm e').1; omega
    · rcases hk with hk | hk
      · exact Nat.lt_of_lt_of_le (lF k hk) k2.size
      · exact Tp.lt k1 k hk
  · refine ⟨⟨k2.only.os, k2.only.tape, k2.only.output, k2.only.size, fun k hk hn => k2.only.block k hk (fun hf => hn (f1 k hf))⟩, fun k hk => ?_⟩
    rcases hk with hk | hk
    · exact .inl hk
    · exact (k2.ext k hk).imp (f1 k) id
theorem Tf.verts (h : Tf Yh W F B G t) : ∃ φ Fv GV, AV.Ar Yh.T φ W Fv B GV (slV t.v) t.fv ∧ ∀ W' Fv' GV' L' fr', AV.Ar Yh.T φ W' Fv' B GV' (slV L') fr' → (∀ v, isA L' v = true → Bd (atA 0 L' v)) → Step Fv Fv' W W' → ∃ F', Tf Yh W' F' B G (t.wv L' fr') ∧ Step F F' W W' := by
  obtain ⟨a, b, d, v, u, e, g, mp, Ft, Fv, Fe, GV, h1, h2, h3, h4, h5, f1, f2, f3, d1, d2, d3, d4⟩ := h.ex
  refine ⟨fun v u => a :: b :: d :: v :: u :: e :: g :: mp :: Yh.ex, Fv, GV, h3.up h1 ⟨fun _ _ => rfl, fun _ _ => rfl, fun _ _ _ => rfl, fun _ _ _ => rfl⟩, fun W' Fv' GV' L' fr' k1 hv k2 => ⟨fun k => F k ∨ Fv' k, ?_, ?_⟩⟩
  · obtain ⟨v', u', q1, q2⟩ := ARw.down k1
    have lF := h.lt
    refine ⟨⟨a, b, d, v', u', e, g, mp, Ft, Fv', Fe, GV', q1, Tp.reh h2 h1 q1 (fun k hk hne => k2.only.block k (Tp.lt h2 k hk) (fun hf => hne (d1 k hk hf))) k2.size, q2, h4.kept (fun k hk hne => k2.only.block k (h4.lt k hk) (fun hf => hne (d3 k hf hk))) k2.size, h5.kept (fun bm e' => k2.only.block bm (lF bm (d4 bm e').1) (d4 bm e').2.2.1), fun k hk => .inl (f1 k hk), fun k hk => .inr hk, fun k hk => .inl (f3 k hk), fun k hk hk' => ?_, d2, fun k hk hk' => ?_, fun bm e' => ⟨.inl (d4 bm e').1, (d4 bm e').2.1, fun hf => ?_, (d4 bm e').2.2.2⟩⟩, fun k hk => ?_, ⟨hv, h.bd.x⟩⟩
    · rcases k2.ext k hk' with h' | h'
      · exact d1 k hk h'
      · have := Tp.lt h2 k hk; omega
    · rcases k2.ext k hk with h' | h'
      · exact d3 k h' hk'
      · have := h4.lt k hk'; omega
    · rcases k2.ext bm hf with h' | h'
      · exact (d4 bm e').2.2.1 h'
      · have := lF bm (d4 bm e').1; omega
    · rcases hk with hk | hk
      · exact Nat.lt_of_lt_of_le (lF k hk) k2.size
      · exact q2.lt k hk
  · refine ⟨⟨k2.only.os, k2.only.tape, k2.only.output, k2.only.size, fun k hk hn => k2.only.block k hk (fun hf => hn (f2 k hf))⟩, fun k hk => ?_⟩
    rcases hk with hk | hk
    · exact .inl hk
    · exact (k2.ext k hk).imp (f2 k) id
theorem Tf.edges (h : Tf Yh W F B G t) : ∃ φ Fe, AE.Ar Yh.T φ W Fe B G (slE t.e) t.fe ∧ ∀ W' Fe' G' L' fr', AE.Ar Yh.T φ W' Fe' B G' (slE L') fr' → (∀ n, isA L' n = true → Bd (atA zeE L' n).x ∧ Bd (atA zeE L' n).y) → Step Fe Fe' W W' → ∃ F', Tf Yh W' F' B G' (t.we L' fr') ∧ Step F F' W W' := by
  obtain ⟨a, b, d, v, u, e, g, mp, Ft, Fv, Fe, GV, h1, h2, h3, h4, h5, f1, f2, f3, d1, d2, d3, d4⟩ := h.ex
  refine ⟨fun e g => a :: b :: d :: v :: u :: e :: g :: mp :: Yh.ex, Fe, h4.up h1 ⟨fun _ _ => rfl, fun _ _ => rfl, fun _ _ _ => rfl, fun _ _ _ => rfl⟩, fun W' Fe' G' L' fr' k1 hv k2 => ⟨fun k => F k ∨ Fe' k, ?_, ?_⟩⟩
  · obtain ⟨v', u', q1, q2⟩ := ARw.down k1
    have lF := h.lt
    refine ⟨⟨a, b, d, v, u, v', u', mp, Ft, Fv, Fe', GV, q1, Tp.reh h2 h1 q1 (fun k hk hne => k2.only.block k (Tp.lt h2 k hk) (fun hf => hne (d2 k hk hf))) k2.size, h3.kept (fun k hk hne => k2.only.block k (h3.lt k hk) (fun hf => hne (d3 k hk hf))) k2.size, q2, h5.kept (fun bm e' => k2.only.block bm (lF bm (d4 bm e').1) (d4 bm e').2.2.2), fun k hk => .inl (f1 k hk), fun k hk => .inl (f2 k hk), fun k hk => .inr hk, d1, fun k hk hk' => ?_, fun k hk hk' => ?_, fun bm e' => ⟨.inl (d4 bm e').1, (d4 bm e').2.1, (d4 bm e').2.2.1, fun hf => ?_⟩⟩, fun k hk => ?_, ⟨h.bd.v, hv⟩⟩
    · rcases k2.ext k hk' with h' | h'
      · exact d2 k hk h'
      · have := Tp.lt h2 k hk; omega
    · rcases k2.ext k hk' with h' | h'
      · exact d3 k hk h'
      · have := h3.lt k hk; omega
    · rcases k2.ext bm hf with h' | h'
      · exact (d4 bm e').2.2.2 h'
      · have := lF bm (d4 bm e').1; omega
    · rcases hk with hk | hk
      · exact Nat.lt_of_lt_of_le (lF k hk) k2.size
      · exact q2.lt k hk
  · refine ⟨⟨k2.only.os, k2.only.tape, k2.only.output, k2.only.size, fun k hk hn => k2.only.block k hk (fun hf => hn (f3 k hf))⟩, fun k hk => ?_⟩
    rcases hk with hk | hk
    · exact .inl hk
    · exact (k2.ext k hk).imp (f3 k) id
theorem Tf.map (h : Tf Yh W F B G t) : ∃ mp, W.cell? ⟨B, 7, none⟩ = some mp ∧ W.frozen? ⟨B, 7, none⟩ = false ∧ ((mp = .map none ∧ t.p = p0 ∧ t.m = 0) ∨ ∃ bm, mp = .map (some bm) ∧ F bm ∧ PM W bm t.m t.p ∧ ∀ W' p' m', PM W' bm m' p' → W.grownBy W' (some bm) → Tf Yh W' F B G (t.wp p' m') ∧ Step F F W W') := by
  obtain ⟨a, b, d, v, u, e, g, mp, Ft, Fv, Fe, GV, h1, h2, h3, h4, h5, f1, f2, f3, d1, d2, d3, d4⟩ := h.ex
  refine ⟨mp, h1.at rfl, h1.frozen 7, h5.imp id (fun ⟨bm, e', h5⟩ => ⟨bm, e', (d4 bm e').1, h5, fun W' p' m' k1 k2 => ?_⟩)⟩
  have lF := h.lt
  obtain ⟨g1, g2, g3, g4⟩ := d4 bm e'
  have kp : ∀ k, k < W.heap.size → k ≠ bm → W'.heap[k]? = W.heap[k]? := fun k hk hne => k2.block k hk (fun e => hne (Option.some.inj e))
  refine ⟨⟨⟨a, b, d, v, u, e, g, mp, Ft, Fv, Fe, GV, (kp B h1.lt (fun e => g3 (e ▸ h3.b))).trans h1, Tp.kept h2 (fun k hk => kp k (Tp.lt h2 k hk) (fun e => g2 (e ▸ hk))) k2.size, h3.kept (fun k hk _ => kp k (h3.lt k hk) (fun e => g3 (e ▸ hk))) k2.size, h4.kept (fun k hk _ => kp k (h4.lt k hk) (fun e => g4 (e ▸ hk))) k2.size, .inr ⟨bm, e', k1⟩, f1, f2, f3, d1, d2, d3, d4⟩, fun k hk => Nat.lt_of_lt_of_le (lF k hk) k2.size, ⟨h.bd.v, h.bd.x⟩⟩, ⟨⟨k2.os, k2.tape, k2.output, k2.size, fun k hk hn => kp k hk (fun e => hn (e ▸ g1))⟩, fun k hk => .inl hk⟩⟩
theorem Tf.mkmap (h : Tf Yh W F B G t) (hp : t.p = p0) : ∃ F', Tf Yh ((W.alloc (.map #[] 0)).setCell ⟨B, 7, none⟩ (.map (some W.heap.size))) F' B G (t.wp p0 (t.m + 1)) ∧ Step F F' W ((W.alloc (.map #[] 0)).setCell ⟨B, 7, none⟩ (.map (some W.heap.size))) := by
  obtain ⟨a, b, d, v, u, e, g, mp, Ft, Fv, Fe, GV, h1, h2, h3, h4, h5, f1, f2, f3, d1, d2, d3, d4⟩ := h.ex
  have lF := h.lt
  have hB := h1.lt
  have kp : ∀ k, k < W.heap.size → k ≠ B → ((W.alloc (.map #[] 0)).setCell ⟨B, 7, none⟩ (.map (some W.heap.size))).heap[k]? = W.heap[k]? := fun k hk hne => (Below.heap_setCell _ ⟨B, 7, none⟩ _ k hne).trans (heap_alloc_old W _ k hk)
  have hsz : ((W.alloc (.map #[] 0)).setCell ⟨B, 7, none⟩ (.map (some W.heap.size))).heap.size = W.heap.size + 1 := by rw [size_setCell]; simp
  have q1 : Blk ((W.alloc (.map #[] 0)).setCell ⟨B, 7, none⟩ (.map (some W.heap.size))) B Yh.T (a :: b :: d :: v :: u :: e :: g :: .map (some W.heap.size) :: Yh.ex).toArray := by simpa using (h1.alloc (.map #[] 0)).setAt 7 (.map (some W.heap.size))
  have hss : W.heap.size ≤ ((W.alloc (.map #[] 0)).setCell ⟨B, 7, none⟩ (.map (some W.heap.size))).heap.size := by omega
  refine ⟨fun k => F k ∨ k = W.heap.size, ⟨⟨a, b, d, v, u, e, g, .map (some W.heap.size), Ft, Fv, Fe, GV, q1, Tp.reh h2 h1 q1 (fun k hk hne => kp k (Tp.lt h2 k hk) hne) hss, h3.kept (fun k hk hne => kp k (h3.lt k hk) hne) hss, h4.kept (fun k hk hne => kp k (h4.lt k hk) hne) hss, .inr ⟨_, rfl, ?_⟩, fun k hk => .inl (f1 k hk), fun k hk => .inl (f2 k hk), fun k hk => .inl (f3 k hk), d1, d2, d3, fun bm e' => ?_⟩, fun k hk => ?_, ⟨h.bd.v, h.bd.x⟩⟩, ⟨?_, fun k hk => hk.imp id (fun e => by omega)⟩⟩
  · obtain ⟨D, d1, d2⟩ := (PM.made W).kept (W' := (W.alloc (.map #[] 0)).setCell ⟨B, 7, none⟩ (.map (some W.heap.size))) (Below.heap_setCell _ ⟨B, 7, none⟩ _ _ (Ne.symm (Nat.ne_of_lt hB)))
    exact ⟨D, d1.mono (Nat.zero_le _), d2⟩
  · cases e'
    exact ⟨.inr rfl, fun hf => by have := Tp.lt h2 _ hf; omega, fun hf => by have := h3.lt _ hf; omega, fun hf => by have := h4.lt _ hf; omega⟩
  · rw [hsz]
    rcases hk with hk | rfl
    · have := lF k hk; omega
    · omega
  · exact ((Only.refl F W).alloc _).set (.inl (f2 B h3.b)) 7 _
theorem PM.mono {b n n' : Nat} {p : Int → Part} (h : PM W b n p) (hn : n ≤ n') : PM W b n' p := by
  obtain ⟨D, d1, d2⟩ := h
  exact ⟨D, d1.mono hn, d2⟩
theorem Tf.fresh {d : Option Addr} {mx : Nat} (hb : Blk W B Yh.T (.slice none 0 0 :: .slice none 0 0 :: .pointer d :: .slice none 0 0 :: .slice none 0 0 :: .slice none 0 0 :: .slice none 0 0 :: .map none :: Yh.ex).toArray) (hF : F B) (hlt : ∀ k, F k → k < W.heap.size) (hd : Dok Yh.dr W F (fun k => k = B) d 0) : Tf Yh W F B G to0 := by
  have hrow : ∀ S m, ARw S m W (fun k => k = B) B G (.slice none 0 0) (.slice none 0 0) [] [] := fun S m => ⟨RowW.empty _ _ _, RowW.empty _ _ _, fun k h => (by cases h), fun k h => (by cases h), fun k h => (by cases h), rfl, fun k hk => by rw [hk]; exact hb.lt, fun s hs => (by cases hs), fun f hf => (by cases hf)⟩
  refine ⟨⟨_, _, _, _, _, _, _, _, F, (fun k => k = B), (fun k => k = B), G, hb, Tp.fresh (Xh := ⟨Yh.T, .slice none 0 0 :: .slice none 0 0 :: .slice none 0 0 :: .slice none 0 0 :: .map none :: Yh.ex, Yh.dr⟩) hb hF hlt hd, hrow _ _, hrow _ _, .inl ⟨rfl, rfl, rfl⟩, fun k hk => hk, fun k hk => by rw [hk]; exact hF, fun k hk => by rw [hk]; exact hF, fun k _ h => h, fun k _ h => h, fun k _ h => h, fun bm e => (by cases e)⟩, hlt, ⟨fun v hv => (by simp [isA, to0] at hv), fun n hn => (by simp [isA, to0] at hn)⟩⟩
theorem Tf.frs (h : Tf Yh W F B G t) : (∀ f ∈ t.fv, 1 ≤ f ∧ f ≤ t.v.length) ∧ (∀ f ∈ t.fe, 1 ≤ f ∧ f ≤ t.e.length) := by
  obtain ⟨a, b, d, v, u, e, g, mp, Ft, Fv, Fe, GV, h1, h2, h3, h4, _⟩ := h.ex
  refine ⟨fun f hf => ?_, fun f hf => ?_⟩
  · have := h3.fr f hf; rw [slV_len] at this; exact this
  · have := h4.fr f hf; rw [slE_len] at this; exact this
theorem Tf.newBd (h : Tf Yh W F B G t) {k : Nat} (hle : t.s.le k) (hk : k ≤ 100000) : Bd (newI t.s.K t.s.fr) := by
  obtain ⟨X, Ft, hT, _⟩ := h.treap
  have hl := hle.1
  have hf := hT.fk.2
  rcases List.eq_nil_or_concat t.s.fr with e | ⟨fr', f, e⟩
  · rw [e]; unfold newI Bd; simp only [List.getLast?_nil]; omega
  · rw [List.concat_eq_append] at e
    have := (hf f (by rw [e]; simp)).2
    rw [e]; unfold newI Bd; rw [List.getLast?_concat]; simp only; omega
end
end Go.Proofs.YtlmdjghcmofdlaaGreat
namespace Go.Proofs.YtlmdjghcmofdlaaGreat
open Go.RowKit
set_option linter.unusedVariables false
section
variable {Yh : Hx} {w : World} {F : Nat → Prop} {B G : Nat} {t : To}
theorem tf_make (h : Tf Yh w F B G t) (x : Vl) {k : Nat} (hle : t.s.le k) (hk : k ≤ 100000) : Calls Tryz.prog 73 #[.pointer (some ⟨B, 0, none⟩), vlc x] w fun e w' => ∃ F', e = .returned (.int .i32 (newI t.s.K t.s.fr)) ∧ Tf Yh w' F' B G (t.ws (t.s.make x)) ∧ Step F F' w w' := by
  obtain ⟨X, Ft, hT, hup⟩ := h.treap
  exact (smake_any hT x hle hk).mono fun e w' ⟨Ft', h1, h2, h3⟩ => let ⟨F', a, b⟩ := hup _ _ _ h2 h3; ⟨F', h1, a, b⟩
theorem tf_join (h : Tf Yh w F B G t) (i j : Int) (hb : -2147483648 ≤ i ∧ i ≤ 2147483647) (hc : -2147483648 ≤ j ∧ j ≤ 2147483647) : Calls Tryz.prog 139 #[.pointer (some ⟨B, 0, none⟩), .int .i32 i, .int .i32 j] w fun e w' => ∃ F', e = .returned (.bool (joinB t.s.S i j)) ∧ Tf Yh w' F' B G (t.ws (t.s.join i j)) ∧ Step F F' w w' := by
  obtain ⟨X, Ft, hT, hup⟩ := h.treap
  exact (sjoin_any hT i j hb hc).mono fun e w' ⟨Ft', h1, h2, h3⟩ => let ⟨F', a, b⟩ := hup _ _ _ h2 h3; ⟨F', h1, a, b⟩
theorem tf_cut (h : Tf Yh w F B G t) (i : Int) (hb : -2147483648 ≤ i ∧ i ≤ 2147483647) : Calls Tryz.prog 131 #[.pointer (some ⟨B, 0, none⟩), .int .i32 i] w fun e w' => ∃ F', e = .returned (.bool (isK t.s.K i)) ∧ Tf Yh w' F' B G (t.ws (t.s.cut i)) ∧ Step F F' w w' := by
  obtain ⟨X, Ft, hT, hup⟩ := h.treap
  exact (scut_any hT i hb).mono fun e w' ⟨Ft', h1, h2, h3⟩ => let ⟨F', a, b⟩ := hup _ _ _ h2 h3; ⟨F', h1, a, b⟩
theorem tf_set (h : Tf Yh w F B G t) (i : Int) (x : Vl) (hb : -2147483648 ≤ i ∧ i ≤ 2147483647) : Calls Tryz.prog 136 #[.pointer (some ⟨B, 0, none⟩), .int .i32 i, vlc x] w fun e w' => ∃ F', e = .returned (.bool (isK t.s.K i)) ∧ Tf Yh w' F' B G (t.ws (t.s.set i x)) ∧ Step F F' w w' := by
  obtain ⟨X, Ft, hT, hup⟩ := h.treap
  exact (sset_any hT i x hb).mono fun e w' ⟨Ft', h1, h2, h3⟩ => let ⟨F', a, b⟩ := hup _ _ _ h2 h3; ⟨F', h1, a, b⟩
theorem tf_free (h : Tf Yh w F B G t) (i : Int) (hb : -2147483648 ≤ i ∧ i ≤ 2147483647) : Calls Tryz.prog 79 #[.pointer (some ⟨B, 0, none⟩), .int .i32 i] w fun e w' => ∃ F', e = .returned (.bool (t.s.lone i)) ∧ Tf Yh w' F' B G (t.ws (t.s.free i)) ∧ Step F F' w w' := by
  obtain ⟨X, Ft, hT, hup⟩ := h.treap
  exact (sfree_any hT i hb).mono fun e w' ⟨Ft', h1, h2, h3⟩ => let ⟨F', a, b⟩ := hup _ _ _ h2 h3; ⟨F', h1, a, b⟩
theorem tf_first (h : Tf Yh w F B G t) (i : Int) (hb : -2147483648 ≤ i ∧ i ≤ 2147483647) : Calls Tryz.prog 140 #[.pointer (some ⟨B, 0, none⟩), .int .i32 i] w fun e w' => e = .returned (.int .i32 ((t.s.S i).headD 0)) ∧ w' = w := by
  obtain ⟨X, Ft, hT, _⟩ := h.treap
  exact tfirst_any hT i hb
theorem tf_next (h : Tf Yh w F B G t) (i : Int) (hb : -2147483648 ≤ i ∧ i ≤ 2147483647) : Calls Tryz.prog 132 #[.pointer (some ⟨B, 0, none⟩), .int .i32 i] w fun e w' => e = .returned (.int .i32 (nxS (t.s.S i) i)) ∧ w' = w := by
  obtain ⟨X, Ft, hT, _⟩ := h.treap
  exact tnext_any hT i hb
theorem tf_same (h : Tf Yh w F B G t) (i j : Int) (hb : -2147483648 ≤ i ∧ i ≤ 2147483647) (hc : -2147483648 ≤ j ∧ j ≤ 2147483647) : Calls Tryz.prog 92 #[.pointer (some ⟨B, 0, none⟩), .int .i32 i, .int .i32 j] w fun e w' => e = .returned (.bool (decide (j ∈ t.s.S i))) ∧ w' = w := by
  obtain ⟨X, Ft, hT, _⟩ := h.treap
  exact tsame_any hT i j hb hc
theorem tf_total (h : Tf Yh w F B G t) (i : Int) (hb : -2147483648 ≤ i ∧ i ≤ 2147483647) : Calls Tryz.prog 117 #[.pointer (some ⟨B, 0, none⟩), .int .i32 i] w fun e w' => e = .returned (vlc (sumV ((t.s.S i).map t.s.V))) ∧ Below w.heap.size w w' := by
  obtain ⟨X, Ft, hT, _⟩ := h.treap
  exact ttotal_any hT i hb
theorem tf_get (h : Tf Yh w F B G t) (i : Int) (hb : -2147483648 ≤ i ∧ i ≤ 2147483647) : Calls Tryz.prog 135 #[.pointer (some ⟨B, 0, none⟩), .int .i32 i] w fun e w' => e = .returned (.tuple #[vlc (t.val i), .bool (isK t.s.K i)]) ∧ Below w.heap.size w w' := by
  obtain ⟨X, Ft, hT, _⟩ := h.treap
  exact tget_any hT i hb
theorem tf_find (h : Tf Yh w F B G t) (i mask : Int) (hb : -2147483648 ≤ i ∧ i ≤ 2147483647) (hm : 0 ≤ mask ∧ mask ≤ 255) : Calls Tryz.prog 134 #[.pointer (some ⟨B, 0, none⟩), .int .i32 i, .int .u8 mask] w fun e w' => e = .returned (.int .i32 (fdS t.s.V (t.s.S i) mask)) ∧ Below w.heap.size w w' := by
  obtain ⟨X, Ft, hT, _⟩ := h.treap
  exact tfind_any hT i mask hb hm
theorem tf_vtake (h : Tf Yh w F B G t) (x : Int) (hx : Bd x) (h1 : t.fv.length ≤ 100000) (h2 : t.v.length ≤ 100000) : Calls Tryz.prog 74 #[.pointer (some ⟨B, 3, none⟩), .int .i32 x] w fun e w' => ∃ F', e = .returned (.int .i32 (tkI t.v t.fv)) ∧ Tf Yh w' F' B G (t.wv (tkL t.v t.fv x) t.fv.dropLast) ∧ Step F F' w w' := by
  obtain ⟨φ, Fv, GV, hA, hup⟩ := h.verts
  refine (AV.take_any x hA (by omega) (by rw [slV_len]; omega)).mono fun e w' ⟨Fv', GV', e1, h3, h4⟩ => ?_
  rw [(slV_take t.v t.fv x).2] at h3
  rw [(slV_take t.v t.fv x).1] at e1
  obtain ⟨F', a, b⟩ := hup _ _ _ _ _ h3 (fun v hv => by
    have h1 := isA_bd hv
    rw [atA_tkL h.frs.1 0 x h1.1]
    rw [isA_tkL h.frs.1 x v] at hv
    split
    · exact hx
    · rename_i e; rw [if_neg e] at hv; exact h.bd.v v hv) h4
  exact ⟨F', e1, a, b⟩
theorem tf_vfree (h : Tf Yh w F B G t) (i : Int) (hi : isA t.v i = true) (h1 : t.fv.length ≤ 100000) (h2 : t.v.length ≤ 100000) : Calls Tryz.prog 80 #[.pointer (some ⟨B, 3, none⟩), .int .i32 i] w fun e w' => ∃ F', e = .returned (.bool true) ∧ Tf Yh w' F' B G (t.wv (frL 0 t.v i) (t.fv ++ [i])) ∧ Step F F' w w' := by
  obtain ⟨φ, Fv, GV, hA, hup⟩ := h.verts
  refine (AV.free_at hA i (by rw [slV_isT]; exact hi) (by rw [slV_len]; omega) (by omega)).mono fun e w' ⟨Fv', e1, h3, h4⟩ => ?_
  rw [slV_free] at h3
  obtain ⟨F', a, b⟩ := hup _ _ _ _ _ h3 (fun v hv => by
    have h1 := isA_bd hv
    rw [atA_frL 0 hi h1.1]
    rw [isA_frL 0 hi v] at hv
    split
    · rename_i e; rw [if_pos e] at hv; cases hv
    · rename_i e; rw [if_neg e] at hv; exact h.bd.v v hv) h4
  exact ⟨F', e1, a, b⟩
theorem tf_vat (h : Tf Yh w F B G t) (i : Int) (hi : isA t.v i = true) (h2 : t.v.length ≤ 100000) : ∃ GV, Calls Tryz.prog 103 #[.pointer (some ⟨B, 3, none⟩), .int .i32 i] w (fun e w' => e = .returned (.pointer (some ⟨GV, (i - 1).toNat * 2, none⟩)) ∧ w' = w) ∧ w.cell? ⟨GV, (i - 1).toNat * 2, none⟩ = some (.int .i32 (atA 0 t.v i)) := by
  obtain ⟨φ, Fv, GV, hA, hup⟩ := h.verts
  refine ⟨GV, AV.at_at hA i (by rw [slV_isT]; exact hi) (by rw [slV_len]; omega), ?_⟩
  have hs : (slV t.v)[(i - 1).toNat]? = some ([.int .i32 (atA 0 t.v i)], true) := by unfold slV; rw [List.getElem?_map, isA_get 0 hi]; rfl
  exact (hA.slot hs).2.2.1 0 _ rfl
theorem tf_vat_no (h : Tf Yh w F B G t) (i : Int) (hb : -2147483648 ≤ i ∧ i ≤ 2147483647) (hi : isA t.v i = false) (h2 : t.v.length ≤ 100000) : Calls Tryz.prog 103 #[.pointer (some ⟨B, 3, none⟩), .int .i32 i] w fun e w' => e = .returned (.pointer none) ∧ w' = w := by
  obtain ⟨φ, Fv, GV, hA, hup⟩ := h.verts
  exact AV.at_no hA hb (by rw [slV_isT]; exact hi) (by rw [slV_len]; omega)
theorem tf_etake (h : Tf Yh w F B G t) (x : Edg) (hx : Bd x.x ∧ Bd x.y) (h1 : t.fe.length ≤ 100000) (h2 : t.e.length ≤ 100000) : Calls Tryz.prog 138 #[.pointer (some ⟨B, 5, none⟩), .agg #[.int .i64 x.a, .int .i64 x.b, .int .i32 x.x, .int .i32 x.y]] w fun e w' => ∃ F' G', e = .returned (.int .i32 (tkI t.e t.fe)) ∧ Tf Yh w' F' B G' (t.we (tkL t.e t.fe x) t.fe.dropLast) ∧ Step F F' w w' := by
  obtain ⟨φ, Fe, hA, hup⟩ := h.edges
  refine (AE.take_any x.a x.b x.x x.y hA (by omega) (by rw [slE_len]; omega)).mono fun e w' ⟨Fe', G', e1, h3, h4⟩ => ?_
  rw [show ([Value.int .i64 x.a, .int .i64 x.b, .int .i32 x.x, .int .i32 x.y], true) = (edc x, true) from rfl, (slE_take t.e t.fe x).2] at h3
  rw [(slE_take t.e t.fe x).1] at e1
  obtain ⟨F', a, b⟩ := hup _ _ _ _ _ h3 (fun v hv => by
    have h1 := isA_bd hv
    rw [atA_tkL h.frs.2 zeE x h1.1]
    rw [isA_tkL h.frs.2 x v] at hv
    split
    · exact hx
    · rename_i e; rw [if_neg e] at hv; exact h.bd.x v hv) h4
  exact ⟨F', G', e1, a, b⟩
theorem tf_efree (h : Tf Yh w F B G t) (i : Int) (hi : isA t.e i = true) (h1 : t.fe.length ≤ 100000) (h2 : t.e.length ≤ 100000) : Calls Tryz.prog 110 #[.pointer (some ⟨B, 5, none⟩), .int .i32 i] w fun e w' => ∃ F', e = .returned (.bool true) ∧ Tf Yh w' F' B G (t.we (frL zeE t.e i) (t.fe ++ [i])) ∧ Step F F' w w' := by
  obtain ⟨φ, Fe, hA, hup⟩ := h.edges
  refine (AE.free_at hA i (by rw [slE_isT]; exact hi) (by rw [slE_len]; omega) (by omega)).mono fun e w' ⟨Fe', e1, h3, h4⟩ => ?_
  rw [show (([Value.int .i64 0, .int .i64 0, .int .i32 0, .int .i32 0] : List Value), false) = (edc zeE, false) from rfl, slE_free] at h3
  obtain ⟨F', a, b⟩ := hup _ _ _ _ _ h3 (fun v hv => by
    have h1 := isA_bd hv
    rw [atA_frL zeE hi h1.1]
    rw [isA_frL zeE hi v] at hv
    split
    · rename_i e; rw [if_pos e] at hv; cases hv
    · rename_i e; rw [if_neg e] at hv; exact h.bd.x v hv) h4
  exact ⟨F', e1, a, b⟩
theorem tf_eat (h : Tf Yh w F B G t) (i : Int) (hi : isA t.e i = true) (h2 : t.e.length ≤ 100000) : Calls Tryz.prog 127 #[.pointer (some ⟨B, 5, none⟩), .int .i32 i] w fun e w' => e = .returned (.pointer (some ⟨G, (i - 1).toNat * 5, none⟩)) ∧ w' = w := by
  obtain ⟨φ, Fe, hA, hup⟩ := h.edges
  exact AE.at_at hA i (by rw [slE_isT]; exact hi) (by rw [slE_len]; omega)
theorem Tf.ecell (h : Tf Yh w F B G t) {i : Int} (hi : isA t.e i = true) : w.cell? ⟨G, (i - 1).toNat * 5, none⟩ = some (.int .i64 (t.edge i).a) ∧ w.cell? ⟨G, (i - 1).toNat * 5 + 1, none⟩ = some (.int .i64 (t.edge i).b) ∧ w.cell? ⟨G, (i - 1).toNat * 5 + 2, none⟩ = some (.int .i32 (t.edge i).x) ∧ w.cell? ⟨G, (i - 1).toNat * 5 + 3, none⟩ = some (.int .i32 (t.edge i).y) ∧ G < w.heap.size := by
  obtain ⟨φ, Fe, hA, hup⟩ := h.edges
  have hs : (slE t.e)[(i - 1).toNat]? = some (edc (t.edge i), true) := by unfold slE; rw [List.getElem?_map, isA_get zeE hi]; rfl
  have := (hA.slot hs)
  exact ⟨this.2.2.1 0 _ rfl, this.2.2.1 1 _ rfl, this.2.2.1 2 _ rfl, this.2.2.1 3 _ rfl, hA.lt G this.1⟩
theorem tf_eat_no (h : Tf Yh w F B G t) (i : Int) (hb : -2147483648 ≤ i ∧ i ≤ 2147483647) (hi : isA t.e i = false) (h2 : t.e.length ≤ 100000) : Calls Tryz.prog 127 #[.pointer (some ⟨B, 5, none⟩), .int .i32 i] w fun e w' => e = .returned (.pointer none) ∧ w' = w := by
  obtain ⟨φ, Fe, hA, hup⟩ := h.edges
  exact AE.at_no hA hb (by rw [slE_isT]; exact hi) (by rw [slE_len]; omega)
end
end Go.Proofs.YtlmdjghcmofdlaaGreat
