/- Layer 6 (treap) in memory: nodes in an arena. -/
import Derived.Test.YtcbgeahcnjamdabGreatArenaNode
import Derived.Test.YtcbgeahcnjamdabGreatTreapPlain
namespace Go.Proofs.YtcbgeahcnjamdabGreat
open Go.RowKit
set_option linter.unusedVariables false
variable {Xh : Hx}

/-- A node's cells. -/
def ndc (x : Nd) : List Value := [.int .i64 x.own.c, .int .i64 x.own.s, .int .i64 x.own.l, .int .u8 x.own.m, .int .i64 x.sum.c, .int .i64 x.sum.s, .int .i64 x.sum.l, .int .u8 x.sum.m, .int .i64 x.size, .int .u32 x.pr, .int .i32 x.l, .int .i32 x.r, .int .i32 x.u]
def zeV : Vl := ⟨0, 0, 0, 0⟩
def zeN : Nd := ⟨zeV, zeV, 0, 0, 0, 0, 0⟩
/-- A node, and whether it is taken. -/
abbrev Nt := Nd × Bool
def slN (N : List Nt) : List Slt := N.map fun p => (ndc p.1, p.2)
/-- The node of a number. -/
def nd (N : List Nt) (i : Int) : Nd := if 1 ≤ i then (N.getD (i - 1).toNat (zeN, false)).1 else zeN
/-- Is there an item i? -/
def tk (N : List Nt) (i : Int) : Bool := isT (slN N) i
/-- Where its node lies in the row of slots. -/
def loc (i : Int) : Nat := (i - 1).toNat * 14
def setN (N : List Nt) (i : Int) (n : Nd) : List Nt := N.set (i - 1).toNat (n, true)
theorem slN_len (N : List Nt) : (slN N).length = N.length := by simp [slN]
theorem tk_iff {N : List Nt} {i : Int} : tk N i = true ↔ 1 ≤ i ∧ i ≤ N.length ∧ N[(i - 1).toNat]? = some (nd N i, true) := by
  unfold tk
  rw [isT_iff]
  constructor
  · rintro ⟨k, x, rfl, h⟩
    unfold slN at h
    rw [List.getElem?_map] at h
    rw [show ((k : Int) + 1 - 1).toNat = k by omega]
    cases hk : N[k]? with
    | none => rw [hk] at h; cases h
    | some p =>
      rw [hk] at h
      obtain ⟨n, b⟩ := p
      simp at h
      have := (List.getElem?_eq_some_iff.1 hk).1
      refine ⟨by omega, by omega, ?_⟩
      unfold nd
      rw [if_pos (by omega), show ((k : Int) + 1 - 1).toNat = k by omega, List.getD_eq_getElem?_getD, hk, h.2]
      rfl
  · rintro ⟨h1, h2, h3⟩
    refine ⟨(i - 1).toNat, ndc (nd N i), by omega, ?_⟩
    unfold slN
    rw [List.getElem?_map, h3]
    rfl
theorem tk_ne {N : List Nt} {i : Int} (h : tk N i = true) : i ≠ 0 := by have := (tk_iff.1 h).1; omega
theorem tk_zero (N : List Nt) : tk N 0 = false := by
  cases h : tk N 0 with
  | false => rfl
  | true => exact absurd rfl (tk_ne h)
theorem setN_len (N : List Nt) (i : Int) (n : Nd) : (setN N i n).length = N.length := by simp [setN]
theorem slN_setN (N : List Nt) (i : Int) (n : Nd) : slN (setN N i n) = (slN N).set (i - 1).toNat (ndc n, true) := by simp [slN, setN, List.map_set]
theorem nd_setN {N : List Nt} {i : Int} (n : Nd) (h : tk N i = true) : nd (setN N i n) = upd (nd N) i n := by
  obtain ⟨h1, h2, h3⟩ := tk_iff.1 h
  funext j
  unfold upd setN
  simp only [nd]
  by_cases hj : 1 ≤ j
  · rw [if_pos hj, if_pos hj, List.getD_eq_getElem?_getD, List.getD_eq_getElem?_getD, List.getElem?_set]
    by_cases e : j = i
    · subst e
      rw [if_pos rfl, if_pos rfl, if_pos (by omega)]
      rfl
    · rw [if_neg e, if_neg (by omega)]
  · rw [if_neg hj, if_neg hj, if_neg (by omega)]
theorem tk_setN {N : List Nt} {i : Int} (n : Nd) (h : tk N i = true) (j : Int) : tk (setN N i n) j = tk N j := by
  rw [Bool.eq_iff_iff]
  obtain ⟨h1, h2, h3⟩ := tk_iff.1 h
  have hn := nd_setN n h
  constructor
  · intro h'
    obtain ⟨a1, a2, a3⟩ := tk_iff.1 h'
    by_cases e : j = i
    · rw [e]; exact h
    · refine tk_iff.2 ⟨a1, by rw [setN_len] at a2; exact a2, ?_⟩
      rw [hn, upd_ne _ _ e] at a3
      unfold setN at a3
      rwa [List.getElem?_set_ne (by omega)] at a3
  · intro h'
    obtain ⟨a1, a2, a3⟩ := tk_iff.1 h'
    refine tk_iff.2 ⟨a1, by rw [setN_len]; exact a2, ?_⟩
    rw [hn]
    unfold setN
    by_cases e : j = i
    · subst e; rw [List.getElem?_set_self (by omega), upd_at]
    · rw [List.getElem?_set_ne (by omega), upd_ne _ _ e]; exact a3

/-- A forest in block B, whose nodes are N, in block G; its draws' address d. -/
def Frs (Xh : Hx) (d : Option Addr) (W : World) (F : Nat → Prop) (B G : Nat) (N : List Nt) (fr : List Int) : Prop := AN.Ar Xh d W F B G (slN N) fr
section
variable {d : Option Addr} {W W' : World} {F F' : Nat → Prop} {B G : Nat} {N : List Nt} {fr : List Int}
theorem Frs.arn (h : Frs Xh d W F B G N fr) : AN.Ar Xh d W F B G (slN N) fr := h
theorem Frs.below (h : Frs Xh d W F B G N fr) (hb : Below W.heap.size W W') : Frs Xh d W' F B G N fr := ArnX.below h hb
theorem Frs.kept (h : Frs Xh d W F B G N fr) (hb : ∀ k, F k → W'.heap[k]? = W.heap[k]?) (hs : W.heap.size ≤ W'.heap.size) : Frs Xh d W' F B G N fr := ArnX.kept h hb hs
theorem Frs.step {F1 : Nat → Prop} (h : Frs Xh d W F B G N fr) (hb : Step F' F1 W W') (hd : ∀ k, F k → ¬ F' k) : Frs Xh d W' F B G N fr := ArnX.step h hb hd
theorem Frs.lt (h : Frs Xh d W F B G N fr) : ∀ k, F k → k < W.heap.size := ArnX.lt h
theorem Frs.at (h : Frs Xh d W F B G N fr) {i : Int} (hi : tk N i = true) {j : Nat} {u : Value} (hj : (ndc (nd N i))[j]? = some u) : W.cell? ⟨G, loc i + j, none⟩ = some u := by
  obtain ⟨h1, h2, h3⟩ := tk_iff.1 hi
  have hs : (slN N)[(i - 1).toNat]? = some (ndc (nd N i), true) := by unfold slN; rw [List.getElem?_map, h3]; rfl
  exact (h.slot hs).2.2.1 j u (by unfold slc; rw [List.getElem?_append_left (List.getElem?_eq_some_iff.1 hj).1]; exact hj)
theorem Frs.fz (h : Frs Xh d W F B G N fr) {i : Int} (hi : tk N i = true) (j : Nat) : W.frozen? ⟨G, j, none⟩ = false := by
  obtain ⟨h1, h2, h3⟩ := tk_iff.1 hi
  have hs : (slN N)[(i - 1).toNat]? = some (ndc (nd N i), true) := by unfold slN; rw [List.getElem?_map, h3]; rfl
  exact (h.slot hs).2.2.2 j
theorem Frs.g (h : Frs Xh d W F B G N fr) {i : Int} (hi : tk N i = true) : F G ∧ G ≠ B := by
  obtain ⟨h1, h2, h3⟩ := tk_iff.1 hi
  exact h.slotF (by rw [slN_len]; omega)
/-- A cell of a node is written. -/
theorem Frs.put (h : Frs Xh d W F B G N fr) {i : Int} (hi : tk N i = true) {j : Nat} {u : Value} {n : Nd} (hj : j < 13) (hn : ndc n = (ndc (nd N i)).set j u) : Frs Xh d (W.setCell ⟨G, loc i + j, none⟩ u) F B G (setN N i n) fr ∧ Step F F W (W.setCell ⟨G, loc i + j, none⟩ u) := by
  obtain ⟨h1, h2, h3⟩ := tk_iff.1 hi
  have hs : (slN N)[(i - 1).toNat]? = some (ndc (nd N i), true) := by unfold slN; rw [List.getElem?_map, h3]; rfl
  refine ⟨?_, ArnX.step_set h (h.g hi).1 _ _⟩
  unfold Frs
  rw [slN_setN]
  exact ArnX.put h hs (by omega) (by unfold slc; simp only; rw [hn, List.set_append_left _ _ (by simp [ndc]; omega)]) rfl
theorem setN_setN (N : List Nt) (i : Int) (n m : Nd) : setN (setN N i n) i m = setN N i m := by simp [setN]
theorem Frs.put' (h : Frs Xh d W F B G N fr) {i : Int} (hi : tk N i = true) {n0 n : Nd} (j : Nat) {u : Value} (hj : j < 13) (hs : Frs Xh d W' F B G (setN N i n0) fr) (hst : Step F F W W') (hn : ndc n = (ndc n0).set j u) :
    Frs Xh d (W'.setCell ⟨G, loc i + j, none⟩ u) F B G (setN N i n) fr ∧ Step F F W (W'.setCell ⟨G, loc i + j, none⟩ u) := by
  have hi' : tk (setN N i n0) i = true := by rw [tk_setN n0 hi]; exact hi
  have hnd : nd (setN N i n0) i = n0 := by rw [nd_setN n0 hi, upd_at]
  obtain ⟨h1, h2⟩ := hs.put hi' (j := j) (u := u) (n := n) hj (by rw [hnd]; exact hn)
  rw [setN_setN] at h1
  exact ⟨h1, hst.trans h2⟩
/-- A node's own value is written; its sum is. -/
theorem Frs.putOwn (h : Frs Xh d W F B G N fr) {i : Int} (hi : tk N i = true) (v : Vl) : Frs Xh d ((((W.setCell ⟨G, loc i, none⟩ (.int .i64 v.c)).setCell ⟨G, loc i + 1, none⟩ (.int .i64 v.s)).setCell ⟨G, loc i + 2, none⟩ (.int .i64 v.l)).setCell ⟨G, loc i + 3, none⟩ (.int .u8 v.m)) F B G (setN N i ((nd N i).wo v)) fr ∧
    Step F F W ((((W.setCell ⟨G, loc i, none⟩ (.int .i64 v.c)).setCell ⟨G, loc i + 1, none⟩ (.int .i64 v.s)).setCell ⟨G, loc i + 2, none⟩ (.int .i64 v.l)).setCell ⟨G, loc i + 3, none⟩ (.int .u8 v.m)) := by
  obtain ⟨a1, b1⟩ := h.put hi (j := 0) (u := .int .i64 v.c) (n := (nd N i).wo ⟨v.c, (nd N i).own.s, (nd N i).own.l, (nd N i).own.m⟩) (by omega) rfl
  obtain ⟨a2, b2⟩ := h.put' hi 1 (u := .int .i64 v.s) (n := (nd N i).wo ⟨v.c, v.s, (nd N i).own.l, (nd N i).own.m⟩) (by omega) a1 b1 rfl
  obtain ⟨a3, b3⟩ := h.put' hi 2 (u := .int .i64 v.l) (n := (nd N i).wo ⟨v.c, v.s, v.l, (nd N i).own.m⟩) (by omega) a2 b2 rfl
  exact h.put' hi 3 (u := .int .u8 v.m) (n := (nd N i).wo v) (by omega) a3 b3 rfl
theorem Frs.putSum (h : Frs Xh d W F B G N fr) {i : Int} (hi : tk N i = true) (v : Vl) : Frs Xh d ((((W.setCell ⟨G, loc i + 4, none⟩ (.int .i64 v.c)).setCell ⟨G, loc i + 5, none⟩ (.int .i64 v.s)).setCell ⟨G, loc i + 6, none⟩ (.int .i64 v.l)).setCell ⟨G, loc i + 7, none⟩ (.int .u8 v.m)) F B G (setN N i ((nd N i).ws (nd N i).size v)) fr ∧
    Step F F W ((((W.setCell ⟨G, loc i + 4, none⟩ (.int .i64 v.c)).setCell ⟨G, loc i + 5, none⟩ (.int .i64 v.s)).setCell ⟨G, loc i + 6, none⟩ (.int .i64 v.l)).setCell ⟨G, loc i + 7, none⟩ (.int .u8 v.m)) := by
  obtain ⟨a1, b1⟩ := h.put hi (j := 4) (u := .int .i64 v.c) (n := (nd N i).ws (nd N i).size ⟨v.c, (nd N i).sum.s, (nd N i).sum.l, (nd N i).sum.m⟩) (by omega) rfl
  obtain ⟨a2, b2⟩ := h.put' hi 5 (u := .int .i64 v.s) (n := (nd N i).ws (nd N i).size ⟨v.c, v.s, (nd N i).sum.l, (nd N i).sum.m⟩) (by omega) a1 b1 rfl
  obtain ⟨a3, b3⟩ := h.put' hi 6 (u := .int .i64 v.l) (n := (nd N i).ws (nd N i).size ⟨v.c, v.s, v.l, (nd N i).sum.m⟩) (by omega) a2 b2 rfl
  exact h.put' hi 7 (u := .int .u8 v.m) (n := (nd N i).ws (nd N i).size v) (by omega) a3 b3 rfl
theorem Frs.dcell (h : Frs Xh d W F B G N fr) : W.cell? ⟨B, 2, none⟩ = some (.pointer d) := by
  obtain ⟨v, u, h1, _⟩ := h.ex
  exact h1.at (by simp)

/-- Two lists of nodes alike but for the nodes of A: as long, as taken, with the same values and priorities. -/
structure Keeps (A : Int → Prop) (N N' : List Nt) : Prop where
  len : N'.length = N.length
  tk : ∀ i, tk N' i = tk N i
  own : ∀ i, (nd N' i).own = (nd N i).own
  out : ∀ i, ¬ A i → nd N' i = nd N i
theorem Keeps.refl (A : Int → Prop) (N : List Nt) : Keeps A N N := ⟨rfl, fun _ => rfl, fun _ => rfl, fun _ _ => rfl⟩
theorem Keeps.trans {A : Int → Prop} {N N1 N2 : List Nt} (h : Keeps A N N1) (k : Keeps A N1 N2) : Keeps A N N2 :=
  ⟨k.len.trans h.len, fun i => (k.tk i).trans (h.tk i), fun i => (k.own i).trans (h.own i), fun i hi => (k.out i hi).trans (h.out i hi)⟩
theorem Keeps.mono {A A' : Int → Prop} {N N' : List Nt} (h : Keeps A N N') (hA : ∀ i, A i → A' i) : Keeps A' N N' := ⟨h.len, h.tk, h.own, fun i hi => h.out i (fun h' => hi (hA i h'))⟩
theorem keeps_setN {A : Int → Prop} {i : Int} {n : Nd} (h : Go.Proofs.YtcbgeahcnjamdabGreat.tk N i = true) (hA : A i) (ho : n.own = (nd N i).own) : Keeps A N (setN N i n) := by
  refine ⟨setN_len _ _ _, tk_setN n h, fun j => ?_, fun j hj => ?_⟩
  · rw [nd_setN n h]; unfold upd; split
    · rename_i e; rw [e, ho]
    · rfl
  · rw [nd_setN n h, upd_ne]; intro e; exact hj (e ▸ hA)
end
end Go.Proofs.YtcbgeahcnjamdabGreat
