/- Two unions apart; the joins of a list of pairs. -/
import Derived.Test.YtcbgeahcnjamdacUnionLaw
import Derived.Test.YtcbgeahcnjamdacUnionActs
namespace Go.Proofs.Ytcbgeahcnjamdac
open Go.RowKit
set_option linter.unusedVariables false

/-- Two unions apart, made since w0. -/
structure Duu (w0 wr : World) (B G H : Nat) (L : List Int) (B' G' H' : Nat) (M : List Int) : Prop where
  u : Un wr B G H L
  v : Un wr B' G' H' M
  dis : (B ≠ B' ∧ B ≠ G' ∧ B ≠ H') ∧ (G ≠ B' ∧ G ≠ G' ∧ G ≠ H') ∧ (H ≠ B' ∧ H ≠ G' ∧ H ≠ H')
  lo : (w0.heap.size ≤ B ∧ w0.heap.size ≤ G ∧ w0.heap.size ≤ H) ∧ w0.heap.size ≤ B' ∧ w0.heap.size ≤ G' ∧ w0.heap.size ≤ H'
  bl : Below w0.heap.size w0 wr
section
variable {w0 wr w1 w2 : World} {B G H B' G' H' : Nat} {L L' M M' : List Int}
theorem Duu.below (h : Duu w0 wr B G H L B' G' H' M) (hb : Below wr.heap.size wr w1) : Duu w0 w1 B G H L B' G' H' M := ⟨h.u.below hb, h.v.below hb, h.dis, h.lo, below_step h.bl hb (Nat.le_refl _)⟩
theorem Duu.stepU (h : Duu w0 wr B G H L B' G' H' M) (h1 : Un w1 B G H L') (t1 : Thru B G H wr w1) : Duu w0 w1 B G H L' B' G' H' M :=
  ⟨h1, h.v.thru t1 (fun k hk => by have := h.dis; omega), h.dis, h.lo, Thru.start h.bl (Nat.le_refl _) t1 h.lo.1⟩
theorem Duu.stepV (h : Duu w0 wr B G H L B' G' H' M) (h1 : Un w1 B' G' H' M') (t1 : Thru B' G' H' wr w1) : Duu w0 w1 B G H L B' G' H' M' :=
  ⟨h.u.thru t1 (fun k hk => by have := h.dis; omega), h1, h.dis, h.lo, Thru.start h.bl (Nat.le_refl _) t1 h.lo.2⟩
theorem Duu.made (h1 : Un wr B G H L) (hb : Below w0.heap.size w0 wr) (hl : w0.heap.size ≤ B ∧ w0.heap.size ≤ G ∧ w0.heap.size ≤ H) (h2 : Un w1 B' G' H' M) (hb2 : Below wr.heap.size wr w1) (hl2 : wr.heap.size ≤ B' ∧ wr.heap.size ≤ G' ∧ wr.heap.size ≤ H') : Duu w0 w1 B G H L B' G' H' M :=
  ⟨h1.below hb2, h2, by have := h1.lt; omega, by have := hb.size; omega, below_step hb hb2 (Nat.le_refl _)⟩
end
/-- The first k pairs. -/
def prs (qs : List A11.Ac) (k : Nat) : List (Int × Int) := (qs.take k).map fun q => (q.a, q.b)
theorem prs_succ {qs : List A11.Ac} {k : Nat} (h : k < qs.length) : prs qs (k + 1) = prs qs k ++ [((A11.aAt qs k).a, (A11.aAt qs k).b)] := by
  unfold prs; rw [A11.aAt_eq h, List.take_add_one, List.getElem?_eq_getElem h, List.map_append]; rfl
theorem prs_zero (qs : List A11.Ac) : prs qs 0 = [] := rfl
theorem unL_succ (n : Nat) {qs : List A11.Ac} {k : Nat} (h : k < qs.length) : unL n (prs qs (k + 1)) = joinL (unL n (prs qs k)) (A11.aAt qs k).a (A11.aAt qs k).b := by rw [prs_succ h, unL_snoc]
/-- The pairs from the last one on, the other way about. -/
def rev (qs : List A11.Ac) : List (Int × Int) := (prs qs qs.length).reverse.map swapP
theorem rev_eq (qs : List A11.Ac) : rev qs = qs.reverse.map fun q => (q.b, q.a) := by
  unfold rev prs; rw [List.take_length, ← List.map_reverse, List.map_map]; rfl
theorem rev_len (qs : List A11.Ac) : (rev qs).length = qs.length := by rw [rev_eq]; simp
theorem rev_succ {qs : List A11.Ac} {j k : Nat} (h : k + (j + 1) = qs.length) : (rev qs).take (j + 1) = (rev qs).take j ++ [((A11.aAt qs k).b, (A11.aAt qs k).a)] := by
  have hj : j < (rev qs).length := by rw [rev_len]; omega
  rw [List.take_add_one, List.getElem?_eq_getElem hj]
  congr 1
  have : (rev qs)[j] = ((A11.aAt qs k).b, (A11.aAt qs k).a) := by
    have h2 : k < qs.length := by omega
    rw [A11.aAt_eq h2]
    have e : ∀ (R : List (Int × Int)) (hR : j < R.length), R = (qs.reverse.map fun q => (q.b, q.a)) → R[j] = (qs[k].b, qs[k].a) := by
      intro R hR e
      subst e
      have : qs.length - 1 - j = k := by omega
      simp [this]
    exact e _ hj (rev_eq qs)
  rw [this]; rfl
theorem unL_rev (n : Nat) (qs : List A11.Ac) : unL n ((rev qs).take (rev qs).length) = unL n (prs qs qs.length) := by
  rw [List.take_length]; exact unL_order n _
theorem made_bd (n : Nat) (l : List (Int × Int)) : 0 ≤ madeN n l ∧ madeN n l ≤ n := by
  have := setsN_bd (unL n l)
  have := (unL_nm n l).2
  unfold madeN
  omega
theorem made_succ (n : Nat) {qs : List A11.Ac} {k : Nat} (h : k < qs.length) : madeN n (prs qs (k + 1)) = madeN n (prs qs k) + if joinB (unL n (prs qs k)) (A11.aAt qs k).a (A11.aAt qs k).b then 1 else 0 := by rw [prs_succ h, madeN_snoc]
theorem nmN_out {L : List Int} {a : Int} (h : memN L a = false) : nameN L a = -1 := by unfold nameN; rw [h]; rfl
theorem nmN_in {L : List Int} (hN : Nm L) {a : Int} (h : memN L a = true) : 0 ≤ nameN L a ∧ nameN L a < L.length := by
  obtain ⟨h0, h1⟩ := memN_iff.1 h
  have := hN.lo a.toNat (by omega)
  unfold nameN; rw [h]; simp; omega
theorem smN_name {L : List Int} (hN : Nm L) (a b : Int) (ha : memN L a = true) : sameN L a b = (nameN L a == nameN L b) := by
  cases hb : memN L b with
  | true => unfold sameN nameN; rw [ha, hb]; simp; rfl
  | false =>
    have h1 := nmN_in hN ha
    rw [nmN_out hb]
    unfold sameN; rw [hb]
    simp
    omega
theorem smN_out {L : List Int} {a : Int} (b : Int) (ha : memN L a = false) : sameN L a b = false := by unfold sameN; rw [ha]; rfl

end Go.Proofs.Ytcbgeahcnjamdac
