/- Over whatever program: a struct in a block of its own, some of whose fields are rows of its own. -/
import Derived.Test.YtpbnhbpkfdhedaaArenaRow
namespace Go.Proofs.Ytpbnhbpkfdhedaa
open Go.RowKit
set_option linter.unusedVariables false

/-- Two rows that share no block. -/
def Apart (v u : Value) : Prop := ∀ k, v.ownBlock = some k → u.ownBlock ≠ some k
theorem Apart.symm {v u : Value} (h : Apart v u) : Apart u v := fun k h1 h2 => h k h2 h1
/-- What a field is: a row of n elements of type e, size cells each, whose cells are xs; or something else. -/
inductive Fld where
  | row (e : TypeId) (size n : Nat) (xs : List Value)
  | other
/-- A struct of type T in block B, its fields vs; it lies, with its rows, in the blocks of F. -/
structure Rcd (W : World) (F : Nat → Prop) (B : Nat) (T : TypeId) (vs : List Value) (rs : List Fld) : Prop where
  blk : Blk W B T vs.toArray
  b : F B
  lt : ∀ k, F k → k < W.heap.size
  get : ∀ (j : Nat) e sz n xs, rs[j]? = some (Fld.row e sz n xs) → ∃ v, vs[j]? = some v ∧ RowW W e sz v n xs ∧ ∀ k, v.ownBlock = some k → F k ∧ k ≠ B
  apart : ∀ (i j : Nat) e sz n xs e' sz' n' xs' v u, i ≠ j → rs[i]? = some (Fld.row e sz n xs) → rs[j]? = some (Fld.row e' sz' n' xs') → vs[i]? = some v → vs[j]? = some u → Apart v u

section
variable {W W' : World} {F F' : Nat → Prop} {B : Nat} {T : TypeId} {vs : List Value} {rs : List Fld}
theorem Rcd.kept (h : Rcd W F B T vs rs) (hb : ∀ k, F k → W'.heap[k]? = W.heap[k]?) (hs : W.heap.size ≤ W'.heap.size) : Rcd W' F B T vs rs :=
  ⟨(hb B h.b).trans h.blk, h.b, fun k hk => Nat.lt_of_lt_of_le (h.lt k hk) hs, fun j e sz n xs hj => by
    obtain ⟨v, h1, h2, h3⟩ := h.get j e sz n xs hj
    exact ⟨v, h1, h2.kept fun k hk => hb k (h3 k hk).1, h3⟩, h.apart⟩
theorem Rcd.below (h : Rcd W F B T vs rs) (hb : Below W.heap.size W W') : Rcd W' F B T vs rs := h.kept (fun k hk => hb.block k (h.lt k hk)) hb.size
theorem Rcd.drewN (h : Rcd W F B T vs rs) (n : Nat) : Rcd (W.drewN n) F B T vs rs := h.kept (fun _ _ => rfl) (Nat.le_refl _)
theorem Rcd.step {F1 : Nat → Prop} (h : Rcd W F B T vs rs) (hb : Step F' F1 W W') (hd : ∀ k, F k → ¬ F' k) : Rcd W' F B T vs rs := h.kept (fun k hk => hb.only.block k (h.lt k hk) (hd k hk)) hb.size
theorem Rcd.blt (h : Rcd W F B T vs rs) : B < W.heap.size := h.lt B h.b
theorem Rcd.cell (h : Rcd W F B T vs rs) {j : Nat} {v : Value} (hj : vs[j]? = some v) : W.cell? ⟨B, j, none⟩ = some v := h.blk.at (by simpa using hj)
theorem Rcd.frozen (h : Rcd W F B T vs rs) (j : Nat) : W.frozen? ⟨B, j, none⟩ = false := h.blk.frozen j
theorem set_get {α : Type} {l : List α} {i j : Nat} {x y : α} (h : (l.set i x)[j]? = some y) : (i = j ∧ x = y ∧ i < l.length) ∨ (i ≠ j ∧ l[j]? = some y) := by
  rw [List.getElem?_set] at h
  split at h
  · rename_i hij
    split at h
    · cases h; exact .inl ⟨hij, rfl, by omega⟩
    · cases h
  · rename_i hij
    exact .inr ⟨hij, h⟩
theorem size_setCell (W : World) (a : Addr) (u : Value) : (W.setCell a u).heap.size = W.heap.size := by show (W.heap.modify _ _).size = _; rw [Array.size_modify]
/-- A field j that is a row is told anew: the new row lies where the old one lay, or behind W. -/
theorem Rcd.regrow (h : Rcd W F B T vs rs) {j : Nat} {e : TypeId} {sz n : Nat} {xs : List Value} {v : Value} (hr : rs[j]? = some (Fld.row e sz n xs)) (hv : vs[j]? = some v) {W1 w2 : World} (h1 : Below W.heap.size W W1) (hg : W1.grownBy w2 v.ownBlock)
    {g cap n' : Nat} {xs' : List Value} (hown : RowW w2 e sz (.slice (some ⟨g, 0, none⟩) n' cap) n' xs') (hat : v.ownBlock = some g ∨ W.heap.size ≤ g) :
    Blk w2 B T vs.toArray ∧ Rcd (w2.setCell ⟨B, j, none⟩ (.slice (some ⟨g, 0, none⟩) n' cap)) (fun k => F k ∨ k = g) B T (vs.set j (.slice (some ⟨g, 0, none⟩) n' cap)) (rs.set j (Fld.row e sz n' xs')) ∧ Step F (fun k => F k ∨ k = g) W (w2.setCell ⟨B, j, none⟩ (.slice (some ⟨g, 0, none⟩) n' cap)) := by
  obtain ⟨v', e1, hrow, hF⟩ := h.get j e sz n xs hr
  obtain rfl : v' = v := Option.some.inj (e1.symm.trans hv)
  have hB := h.blt
  have hs1 := h1.size
  have hs2 := hg.size
  have hgB : g ≠ B := by
    rcases hat with h' | h'
    · exact (hF g h').2
    · omega
  have keep : ∀ k, k < W.heap.size → v'.ownBlock ≠ some k → w2.heap[k]? = W.heap[k]? := fun k hk hn => (hg.block k (by omega) (Ne.symm hn)).trans (h1.block k hk)
  have hb2 : Blk w2 B T vs.toArray := (keep B hB (fun e => (hF B e).2 rfl)).trans h.blk
  have hsz := size_setCell w2 ⟨B, j, none⟩ (.slice (some ⟨g, 0, none⟩) n' cap)
  refine ⟨hb2, ⟨?_, .inl h.b, fun k hk => ?_, fun i e' sz' m ys hi => ?_, fun i l e2 sz2 n2 xs2 e3 sz3 n3 xs3 x y hil hi hl hx hy => ?_⟩, ⟨?_, fun k hk => ?_⟩⟩
  · have := hb2.setAt j (.slice (some ⟨g, 0, none⟩) n' cap)
    simpa using this
  · rw [hsz]
    rcases hk with hk | rfl
    · have := h.lt k hk; omega
    · exact hown.lt rfl
  · rcases set_get hi with ⟨rfl, e2, _⟩ | ⟨hne, hi⟩
    · cases e2
      refine ⟨_, by rw [List.getElem?_set_self (List.getElem?_eq_some_iff.1 hv).1], hown.kept fun k hk => Below.heap_setCell w2 ⟨B, _, none⟩ _ k (fun e => by cases hk; exact hgB e), fun k hk => by cases hk; exact ⟨.inr rfl, hgB⟩⟩
    · obtain ⟨u, hu, hrow', hF'⟩ := h.get i e' sz' m ys hi
      refine ⟨u, by rw [List.getElem?_set_ne hne]; exact hu, hrow'.kept fun k hk => ?_, fun k hk => ⟨.inl (hF' k hk).1, (hF' k hk).2⟩⟩
      exact (Below.heap_setCell w2 ⟨B, _, none⟩ _ k (hF' k hk).2).trans (keep k (hrow'.lt hk) (fun e => h.apart j i _ _ _ _ _ _ _ _ _ _ hne hr hi hv hu k e hk))
  · -- apart
    have main : ∀ (i : Nat) u e' sz' m ys, j ≠ i → rs[i]? = some (Fld.row e' sz' m ys) → vs[i]? = some u → Apart (.slice (some ⟨g, 0, none⟩) n' cap) u := by
      intro i u e' sz' m ys hne hi hu k hk hk'
      have hkg : g = k := by simpa [Value.ownBlock] using hk
      subst hkg
      rcases hat with h' | h'
      · exact h.apart j i _ _ _ _ _ _ _ _ _ _ hne hr hi hv hu g h' hk'
      · obtain ⟨u', hu', hrow', _⟩ := h.get i e' sz' m ys hi
        obtain rfl : u' = u := Option.some.inj (hu'.symm.trans hu)
        have := hrow'.lt hk'; omega
    rcases set_get hi with ⟨rfl, e4, _⟩ | ⟨hne, hi⟩
    · rw [List.getElem?_set_self (List.getElem?_eq_some_iff.1 hv).1] at hx
      cases hx
      rw [List.getElem?_set_ne hil] at hl hy
      exact main l y _ _ _ _ hil hl hy
    · rw [List.getElem?_set_ne hne] at hx
      rcases set_get hl with ⟨rfl, e4, _⟩ | ⟨hne', hl⟩
      · rw [List.getElem?_set_self (List.getElem?_eq_some_iff.1 hv).1] at hy
        cases hy
        exact (main i x _ _ _ _ hne hi hx).symm
      · rw [List.getElem?_set_ne hne'] at hy
        exact h.apart i l _ _ _ _ _ _ _ _ _ _ hil hi hl hx hy
  · refine Only.set ⟨hg.os.trans h1.os, hg.tape.trans h1.tape, hg.output.trans h1.output, by omega, fun k hk hn => ?_⟩ (.inl h.b) j _
    exact keep k hk (fun e => hn (hF k e).1)
  · rcases hk with hk | rfl
    · exact .inl hk
    · rcases hat with h' | h'
      · exact .inl (hF k h').1
      · exact .inr h'
/-- A row is cut. -/
theorem Rcd.cut (h : Rcd W F B T vs rs) {j : Nat} {e : TypeId} {sz n g cap : Nat} {xs : List Value} (hr : rs[j]? = some (Fld.row e sz n xs)) (hv : vs[j]? = some (.slice (some ⟨g, 0, none⟩) n cap)) {k : Nat} (hk : k ≤ n) :
    Rcd (W.setCell ⟨B, j, none⟩ (.slice (some ⟨g, 0, none⟩) k cap)) F B T (vs.set j (.slice (some ⟨g, 0, none⟩) k cap)) (rs.set j (Fld.row e sz k (xs.take (k * sz)))) ∧ Step F F W (W.setCell ⟨B, j, none⟩ (.slice (some ⟨g, 0, none⟩) k cap)) := by
  obtain ⟨v', e1, hrow, hF⟩ := h.get j e sz n xs hr
  obtain rfl : v' = _ := Option.some.inj (e1.symm.trans hv)
  have hFg := hF g rfl
  obtain ⟨_, h2, h3⟩ := h.regrow hr hv (Below.refl _ W) (w2 := W) ⟨rfl, rfl, rfl, Nat.le_refl _, fun _ _ _ => rfl⟩ (hrow.cut hk) (.inl rfl)
  have hFF : (fun q => F q ∨ q = g) = F := by
    funext q
    apply propext
    constructor
    · rintro (h' | rfl)
      · exact h'
      · exact hFg.1
    · exact .inl
  rw [hFF] at h2 h3
  exact ⟨h2, h3⟩
/-- A cell of a row is written. -/
theorem Rcd.put (h : Rcd W F B T vs rs) {j : Nat} {e : TypeId} {sz n g cap : Nat} {xs : List Value} (hr : rs[j]? = some (Fld.row e sz n xs)) (hv : vs[j]? = some (.slice (some ⟨g, 0, none⟩) n cap)) {i : Nat} (hi : i < n * sz) (u : Value) :
    Rcd (W.setCell ⟨g, i, none⟩ u) F B T vs (rs.set j (Fld.row e sz n (xs.set i u))) ∧ Step F F W (W.setCell ⟨g, i, none⟩ u) := by
  obtain ⟨v', e1, hrow, hF⟩ := h.get j e sz n xs hr
  obtain rfl : v' = _ := Option.some.inj (e1.symm.trans hv)
  have hFg := hF g rfl
  have hrl := (List.getElem?_eq_some_iff.1 hr).1
  refine ⟨⟨(Below.heap_setCell W ⟨g, i, none⟩ u B (Ne.symm hFg.2)).trans h.blk, h.b, fun k hk => by rw [size_setCell]; exact h.lt k hk, fun l e' sz' m ys hl => ?_, fun i' l e2 sz2 n2 xs2 e3 sz3 n3 xs3 x y hil hi' hl hx hy => ?_⟩, ⟨(Only.refl F W).set (.inl hFg.1) i u, fun k hk => .inl hk⟩⟩
  · rcases set_get hl with ⟨rfl, e2, _⟩ | ⟨hne, hl⟩
    · cases e2
      exact ⟨_, hv, hrow.set hi u, hF⟩
    · obtain ⟨y, hy, hrow', hF'⟩ := h.get l e' sz' m ys hl
      exact ⟨y, hy, hrow'.kept fun k hk => Below.heap_setCell W ⟨g, i, none⟩ u k (fun e => by rw [e] at hk; exact h.apart j l _ _ _ _ _ _ _ _ _ _ hne hr hl hv hy g rfl hk), hF'⟩
  · have old : ∀ (q : Nat) e2 sz2 n2 xs2, (rs.set j (Fld.row e sz n (xs.set i u)))[q]? = some (Fld.row e2 sz2 n2 xs2) → ∃ e3 sz3 n3 xs3, rs[q]? = some (Fld.row e3 sz3 n3 xs3) := by
      intro q e2 sz2 n2 xs2 hq
      rcases set_get hq with ⟨rfl, _, _⟩ | ⟨_, hq⟩
      · exact ⟨_, _, _, _, hr⟩
      · exact ⟨_, _, _, _, hq⟩
    obtain ⟨a1, a2, a3, a4, ha⟩ := old _ _ _ _ _ hi'
    obtain ⟨b1, b2, b3, b4, hb⟩ := old _ _ _ _ _ hl
    exact h.apart i' l _ _ _ _ _ _ _ _ _ _ hil ha hb hx hy
end
end Go.Proofs.Ytpbnhbpkfdhedaa
