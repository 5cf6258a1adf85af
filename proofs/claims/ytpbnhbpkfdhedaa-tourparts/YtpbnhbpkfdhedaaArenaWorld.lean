/- Layer 5 (arena) in memory: slots in a row, free numbers in another one. -/
import Derived.Test.YtpbnhbpkfdhedaaRecs
import Derived.Test.YtpbnhbpkfdhedaaListAt
namespace Go.Proofs.Ytpbnhbpkfdhedaa
open Go.RowKit
set_option linter.unusedVariables false

/-- A slot: the cells of its thing; whether it is taken. -/
abbrev Slt := List Value × Bool
def slc (s : Slt) : List Value := s.1 ++ [.bool s.2]
/-- The cells of slots. -/
def slcs (L : List Slt) : List Value := L.flatMap slc
def WSl (m : Nat) (L : List Slt) : Prop := ∀ s ∈ L, s.1.length = m
theorem slc_len {m : Nat} {s : Slt} (h : s.1.length = m) : (slc s).length = m + 1 := by simp [slc, h]
theorem slcs_len {m : Nat} {L : List Slt} (h : WSl m L) : (slcs L).length = L.length * (m + 1) := by
  induction L with
  | nil => simp [slcs]
  | cons s L ih =>
    have h1 := ih (fun x hx => h x (by simp [hx]))
    unfold slcs at h1 ⊢
    rw [List.flatMap_cons, List.length_append, h1, slc_len (h s (by simp)), List.length_cons, Nat.add_mul]
    omega
theorem slcs_snoc (L : List Slt) (s : Slt) : slcs (L ++ [s]) = slcs L ++ slc s := by simp [slcs]
theorem slcs_at {m : Nat} {L : List Slt} (h : WSl m L) {i j : Nat} {s : Slt} (hi : L[i]? = some s) (hj : j < m + 1) : (slcs L)[i * (m + 1) + j]? = (slc s)[j]? := by
  induction L generalizing i with
  | nil => simp at hi
  | cons x L ih =>
    have hx := slc_len (h x (by simp))
    unfold slcs at ih ⊢
    rw [List.flatMap_cons]
    cases i with
    | zero =>
      simp at hi
      subst hi
      rw [Nat.zero_mul, Nat.zero_add, List.getElem?_append_left (by omega)]
    | succ i =>
      simp at hi
      rw [Nat.add_mul, Nat.one_mul, List.getElem?_append_right (by omega), hx, show i * (m + 1) + (m + 1) + j - (m + 1) = i * (m + 1) + j by omega]
      exact ih (fun y hy => h y (by simp [hy])) hi
theorem slcs_set {m : Nat} {L : List Slt} (h : WSl m L) {i j : Nat} {s s' : Slt} {u : Value} (hi : L[i]? = some s) (hj : j < m + 1) (hs : slc s' = (slc s).set j u) : (slcs L).set (i * (m + 1) + j) u = slcs (L.set i s') := by
  induction L generalizing i with
  | nil => simp at hi
  | cons x L ih =>
    have hx := slc_len (h x (by simp))
    unfold slcs at ih ⊢
    rw [List.flatMap_cons]
    cases i with
    | zero =>
      simp at hi
      subst hi
      rw [Nat.zero_mul, Nat.zero_add, List.set_append_left _ _ (by omega), List.set_cons_zero, List.flatMap_cons, hs]
    | succ i =>
      simp at hi
      rw [Nat.add_mul, Nat.one_mul, List.set_append_right _ _ (by omega), hx, show i * (m + 1) + (m + 1) + j - (m + 1) = i * (m + 1) + j by omega, ih (fun y hy => h y (by simp [hy])) hi, List.set_cons_succ, List.flatMap_cons]
theorem WSl.set {m : Nat} {L : List Slt} (h : WSl m L) {i : Nat} {s : Slt} (hs : s.1.length = m) : WSl m (L.set i s) := fun x hx => by
  rcases List.mem_or_eq_of_mem_set hx with h1 | h1
  · exact h x h1
  · rw [h1]; exact hs
theorem WSl.snoc {m : Nat} {L : List Slt} (h : WSl m L) {s : Slt} (hs : s.1.length = m) : WSl m (L ++ [s]) := fun x hx => by
  rcases List.mem_append.1 hx with h1 | h1
  · exact h x h1
  · simp at h1; rw [h1]; exact hs

/-- Is the number i one of a slot that is taken? -/
def isT (L : List Slt) (i : Int) : Bool := decide (1 ≤ i) && (match L[(i - 1).toNat]? with | some s => s.2 | none => false)
theorem isT_low {L : List Slt} {i : Int} (h : ¬ 1 ≤ i) : isT L i = false := by simp [isT, h]
theorem isT_high {L : List Slt} {i : Int} (h : (L.length : Int) < i) : isT L i = false := by
  unfold isT
  rw [List.getElem?_eq_none (by omega)]
  simp
theorem isT_at {L : List Slt} {k : Nat} {s : Slt} (h : L[k]? = some s) : isT L ((k : Int) + 1) = s.2 := by
  unfold isT
  rw [show ((k : Int) + 1 - 1).toNat = k by omega, h]
  simp
  omega
theorem isT_iff {L : List Slt} {i : Int} : isT L i = true ↔ ∃ (k : Nat) (x : List Value), i = k + 1 ∧ L[k]? = some (x, true) := by
  constructor
  · intro h
    unfold isT at h
    simp only [Bool.and_eq_true, decide_eq_true_eq] at h
    obtain ⟨h1, h2⟩ := h
    cases hq : L[(i - 1).toNat]? with
    | none => rw [hq] at h2; cases h2
    | some s =>
      rw [hq] at h2
      obtain ⟨x, b⟩ := s
      simp at h2
      subst h2
      exact ⟨(i - 1).toNat, x, by omega, hq⟩
  · rintro ⟨k, x, rfl, h⟩
    rw [isT_at h]

/-- The slot that is taken next; the slots behind that, with s there. -/
def takeI (L : List Slt) (fr : List Int) : Int := match fr.getLast? with | none => (L.length : Int) + 1 | some f => f
def takeL (L : List Slt) (fr : List Int) (s : Slt) : List Slt := match fr.getLast? with | none => L ++ [s] | some f => L.set (f - 1).toNat s
theorem takeI_nil (L : List Slt) : takeI L [] = (L.length : Int) + 1 := rfl
theorem takeI_snoc (L : List Slt) (fr : List Int) (f : Int) : takeI L (fr ++ [f]) = f := by unfold takeI; rw [List.getLast?_concat]
theorem takeL_nil (L : List Slt) (s : Slt) : takeL L [] s = L ++ [s] := rfl
theorem takeL_snoc (L : List Slt) (fr : List Int) (f : Int) (s : Slt) : takeL L (fr ++ [f]) s = L.set (f - 1).toNat s := by unfold takeL; rw [List.getLast?_concat]
theorem takeL_len (L : List Slt) (fr : List Int) (s : Slt) : (takeL L fr s).length + fr.length = L.length + fr.dropLast.length + 1 := by
  rcases List.eq_nil_or_concat fr with rfl | ⟨fr', f, rfl⟩
  · simp [takeL_nil]
  · rw [List.concat_eq_append, takeL_snoc]; simp; omega
theorem takeL_le (L : List Slt) (fr : List Int) (s : Slt) : (takeL L fr s).length ≤ L.length + 1 ∧ L.length ≤ (takeL L fr s).length ∧ fr.dropLast.length ≤ fr.length := by
  rcases List.eq_nil_or_concat fr with rfl | ⟨fr', f, rfl⟩
  · simp [takeL_nil]
  · rw [List.concat_eq_append, takeL_snoc]; simp

def i32s (xs : List Int) : List Value := xs.map (Value.int .i32)
theorem i32s_len (xs : List Int) : (i32s xs).length = xs.length := by simp [i32s]
theorem i32s_at {xs : List Int} {i : Nat} (h : i < xs.length) : (i32s xs)[i]? = some (.int .i32 (lAt xs i)) := by
  unfold i32s; rw [List.getElem?_map, lAt_some h]; rfl
theorem i32s_snoc (xs : List Int) (x : Int) : i32s (xs ++ [x]) = i32s xs ++ [.int .i32 x] := by simp [i32s]

/-- A block's cells f v u: v stands at o, u at o1. -/
structure Hole (f : Value → Value → List Value) (o o1 : Nat) : Prop where
  a : ∀ v u, (f v u)[o]? = some v
  b : ∀ v u, (f v u)[o1]? = some u
  sa : ∀ v u x, (f v u).set o x = f x u
  sb : ∀ v u x, (f v u).set o1 x = f v x
theorem hole2 (ex : List Value) : Hole (fun v u => v :: u :: ex) 0 1 := ⟨fun _ _ => rfl, fun _ _ => rfl, fun _ _ _ => rfl, fun _ _ _ => rfl⟩
section
variable {f : Value → Value → List Value} {o o1 : Nat} {W : World} {B : Nat} {t : TypeId} {a b : Value}
theorem Hole.cells (k : Hole f o o1) (h : Blk W B t (f a b).toArray) : W.cell? ⟨B, o, none⟩ = some a ∧ W.cell? ⟨B, o1, none⟩ = some b := ⟨h.at (by simpa using k.a a b), h.at (by simpa using k.b a b)⟩
theorem Hole.set0 (k : Hole f o o1) (h : Blk W B t (f a b).toArray) (x : Value) : Blk (W.setCell ⟨B, o, none⟩ x) B t (f x b).toArray := by have := h.setAt o x; rw [← k.sa a b x]; simpa using this
theorem Hole.set1 (k : Hole f o o1) (h : Blk W B t (f a b).toArray) (x : Value) : Blk (W.setCell ⟨B, o1, none⟩ x) B t (f a x).toArray := by have := h.setAt o1 x; rw [← k.sb a b x]; simpa using this
end
/-- An arena (of type T, its slots' type S, m cells a thing) in block B, its two cells at o0 and o1, the block's cells φ v u: its slots L, in block G; the free ones fr, as they were freed; it lies in the blocks of F. -/
structure ArnX (φ : Value → Value → List Value) (o0 o1 : Nat) (T S m : Nat) (W : World) (F : Nat → Prop) (B G : Nat) (L : List Slt) (fr : List Int) : Prop where
  ex : ∃ v u, Blk W B T (φ v u).toArray ∧ RowW W S (m + 1) v L.length (slcs L) ∧ RowW W 21 1 u fr.length (i32s fr) ∧ Apart v u ∧ (∀ k, v.ownBlock = some k → k = G ∧ F k ∧ k ≠ B) ∧ (∀ k, u.ownBlock = some k → F k ∧ k ≠ B)
  b : F B
  lt : ∀ k, F k → k < W.heap.size
  wsl : WSl m L
  fr : ∀ f ∈ fr, 1 ≤ f ∧ f ≤ L.length
  ok : Hole φ o0 o1

abbrev Arn (T S m : Nat) := ArnX (fun v u => [v, u]) 0 1 T S m

section
variable {φ : Value → Value → List Value} {o0 o1 : Nat} {T S m : Nat} {W W' : World} {F F' : Nat → Prop} {B G : Nat} {L : List Slt} {fr : List Int}
theorem ArnX.kept (h : ArnX φ o0 o1 T S m W F B G L fr) (hb : ∀ k, F k → W'.heap[k]? = W.heap[k]?) (hs : W.heap.size ≤ W'.heap.size) : ArnX φ o0 o1 T S m W' F B G L fr := by
  obtain ⟨v, u, h1, h2, h3, h4, h5, h6⟩ := h.ex
  exact ⟨⟨v, u, (hb B h.b).trans h1, h2.kept fun k hk => hb k (h5 k hk).2.1, h3.kept fun k hk => hb k (h6 k hk).1, h4, h5, h6⟩, h.b, fun k hk => Nat.lt_of_lt_of_le (h.lt k hk) hs, h.wsl, h.fr, h.ok⟩
theorem ArnX.below (h : ArnX φ o0 o1 T S m W F B G L fr) (hb : Below W.heap.size W W') : ArnX φ o0 o1 T S m W' F B G L fr := h.kept (fun k hk => hb.block k (h.lt k hk)) hb.size
theorem ArnX.drewN (h : ArnX φ o0 o1 T S m W F B G L fr) (n : Nat) : ArnX φ o0 o1 T S m (W.drewN n) F B G L fr := h.kept (fun _ _ => rfl) (Nat.le_refl _)
theorem Step.drewN (h : Step F F' W W') (n : Nat) : Step F F' W (W'.drewN n) := ⟨⟨h.only.os, h.only.tape, h.only.output, h.only.size, h.only.block⟩, h.ext⟩
/-- Something else was written, that lies in the blocks of F'. -/
theorem ArnX.step {F1 : Nat → Prop} (h : ArnX φ o0 o1 T S m W F B G L fr) (hb : Step F' F1 W W') (hd : ∀ k, F k → ¬ F' k) : ArnX φ o0 o1 T S m W' F B G L fr := h.kept (fun k hk => hb.only.block k (h.lt k hk) (hd k hk)) hb.size
theorem Step.apart {F1 F2 : Nat → Prop} (hb : Step F' F1 W W') (hd : ∀ k, F2 k → ¬ F' k) (hl : ∀ k, F2 k → k < W.heap.size) : ∀ k, F2 k → ¬ F1 k := fun k hk h1 => (hb.ext k h1).elim (hd k hk) (fun h2 => by have := hl k hk; omega)
theorem ArnX.blt (h : ArnX φ o0 o1 T S m W F B G L fr) : B < W.heap.size := h.lt B h.b
theorem ArnX.head (h : ArnX φ o0 o1 T S m W F B G L fr) : ∃ ao cap, W.cell? ⟨B, o0, none⟩ = some (.slice ao L.length cap) := by
  obtain ⟨v, u, h1, h2, h3, h4, h5, h6⟩ := h.ex
  obtain ⟨ao, cap, rfl⟩ := h2.form
  exact ⟨ao, cap, (h.ok.cells h1).1⟩
theorem ArnX.tail (h : ArnX φ o0 o1 T S m W F B G L fr) : ∃ ao cap, W.cell? ⟨B, o1, none⟩ = some (.slice ao fr.length cap) := by
  obtain ⟨v, u, h1, h2, h3, h4, h5, h6⟩ := h.ex
  obtain ⟨ao, cap, rfl⟩ := h3.form
  exact ⟨ao, cap, (h.ok.cells h1).2⟩
theorem ArnX.row (h : ArnX φ o0 o1 T S m W F B G L fr) (hn : 0 < L.length) : ∃ cap, W.cell? ⟨B, o0, none⟩ = some (.slice (some ⟨G, 0, none⟩) L.length cap) := by
  obtain ⟨v, u, h1, h2, h3, h4, h5, h6⟩ := h.ex
  obtain ⟨g, cap, rfl⟩ := h2.led hn
  obtain ⟨rfl, _⟩ := h5 g rfl
  exact ⟨cap, (h.ok.cells h1).1⟩
theorem ArnX.froz (h : ArnX φ o0 o1 T S m W F B G L fr) (j : Nat) : W.frozen? ⟨B, j, none⟩ = false := by
  obtain ⟨v, u, h1, _⟩ := h.ex
  exact h1.frozen j
/-- The row of slots: where slot k lies. -/
theorem ArnX.slot (h : ArnX φ o0 o1 T S m W F B G L fr) {k : Nat} {s : Slt} (hk : L[k]? = some s) : F G ∧ G ≠ B ∧ (∀ j u, (slc s)[j]? = some u → W.cell? ⟨G, k * (m + 1) + j, none⟩ = some u) ∧ (∀ j, W.frozen? ⟨G, j, none⟩ = false) := by
  obtain ⟨v, u, h1, h2, h3, h4, h5, h6⟩ := h.ex
  have hlt := (List.getElem?_eq_some_iff.1 hk).1
  obtain ⟨g, cap, rfl⟩ := h2.led (by omega)
  obtain ⟨rfl, hF, hB⟩ := h5 g rfl
  have hs := slc_len (h.wsl s (List.mem_of_getElem? hk))
  refine ⟨hF, hB, fun j u hj => ?_, h2.frozen⟩
  have hjl := (List.getElem?_eq_some_iff.1 hj).1
  exact h2.cell ((slcs_at h.wsl hk (by omega)).trans hj)
theorem ArnX.slotAt (h : ArnX φ o0 o1 T S m W F B G L fr) {k j : Nat} (hk : k < L.length) (hj : j < m + 1) : ∃ u, W.cell? ⟨G, k * (m + 1) + j, none⟩ = some u := by
  have hs := h.wsl _ (List.getElem_mem hk)
  have hl := slc_len hs
  exact ⟨_, (h.slot (List.getElem?_eq_getElem hk)).2.2.1 j _ (List.getElem?_eq_getElem (by omega))⟩
theorem ArnX.slotFz (h : ArnX φ o0 o1 T S m W F B G L fr) (hk : 0 < L.length) (j : Nat) : W.frozen? ⟨G, j, none⟩ = false := (h.slot (List.getElem?_eq_getElem hk)).2.2.2 j
theorem ArnX.slotF (h : ArnX φ o0 o1 T S m W F B G L fr) (hk : 0 < L.length) : F G ∧ G ≠ B := ⟨(h.slot (List.getElem?_eq_getElem hk)).1, (h.slot (List.getElem?_eq_getElem hk)).2.1⟩
/-- A cell of slot k is written. -/
theorem ArnX.put (h : ArnX φ o0 o1 T S m W F B G L fr) {k j : Nat} {s s' : Slt} {u : Value} (hk : L[k]? = some s) (hj : j < m + 1) (hs : slc s' = (slc s).set j u) (hl : s'.1.length = m) : ArnX φ o0 o1 T S m (W.setCell ⟨G, k * (m + 1) + j, none⟩ u) F B G (L.set k s') fr := by
  obtain ⟨v, y, h1, h2, h3, h4, h5, h6⟩ := h.ex
  have hlt := (List.getElem?_eq_some_iff.1 hk).1
  obtain ⟨g, cap, rfl⟩ := h2.led (by omega)
  obtain ⟨rfl, hF, hB⟩ := h5 g rfl
  have hsz : (W.setCell ⟨g, k * (m + 1) + j, none⟩ u).heap.size = W.heap.size := by show (W.heap.modify _ _).size = _; rw [Array.size_modify]
  have hin : k * (m + 1) + j < L.length * (m + 1) := by
    have h1 : (k + 1) * (m + 1) ≤ L.length * (m + 1) := Nat.mul_le_mul_right _ (by omega)
    rw [Nat.add_mul] at h1; omega
  have hset := h2.set hin u
  rw [slcs_set h.wsl hk hj hs] at hset
  refine ⟨⟨_, y, (Below.heap_setCell W ⟨g, _, none⟩ u B (Ne.symm hB)).trans h1, by rw [List.length_set]; exact hset, h3.kept fun q hq => Below.heap_setCell W ⟨g, _, none⟩ u q (fun e => by rw [e] at hq; exact h4 g rfl hq), h4, h5, h6⟩, h.b, fun q hq => by rw [hsz]; exact h.lt q hq, h.wsl.set hl, by rw [List.length_set]; exact h.fr, h.ok⟩
theorem ArnX.step_set (h : ArnX φ o0 o1 T S m W F B G L fr) (hG : F G) (j : Nat) (u : Value) : Step F F W (W.setCell ⟨G, j, none⟩ u) := ⟨(Only.refl F W).set (.inl hG) j u, fun k hk => .inl hk⟩
/-- A row of slots that has grown by one. -/
theorem ArnX.regrow {v u : Value} {w2 : World} {o : Obj} {g cap : Nat} {s : Slt} (h : ArnX φ o0 o1 T S m W F B G L fr) (h1 : Blk W B T (φ v u).toArray) (h3 : RowW W 21 1 u fr.length (i32s fr)) (h4 : Apart v u) (h5 : ∀ k, v.ownBlock = some k → k = G ∧ F k ∧ k ≠ B) (h6 : ∀ k, u.ownBlock = some k → F k ∧ k ≠ B)
    (hown : RowW w2 S (m + 1) (.slice (some ⟨g, 0, none⟩) (L.length + 1) cap) (L.length + 1) (slcs L ++ slc s)) (hg : (W.alloc o).grownBy w2 v.ownBlock) (hat : v.ownBlock = some g ∨ g = W.heap.size + 1) (hl : s.1.length = m) :
    Blk w2 B T (φ v u).toArray ∧ ArnX φ o0 o1 T S m (w2.setCell ⟨B, o0, none⟩ (.slice (some ⟨g, 0, none⟩) (L.length + 1) cap)) (fun k => F k ∨ k = g) B g (L ++ [s]) fr ∧ Step F (fun k => F k ∨ k = g) W (w2.setCell ⟨B, o0, none⟩ (.slice (some ⟨g, 0, none⟩) (L.length + 1) cap)) := by
  have hB := h.blt
  have hnB : v.ownBlock ≠ some B := fun e => (h5 B e).2.2 rfl
  have hs2 := hg.size
  simp at hs2
  have hgB : g ≠ B := by
    rcases hat with h' | h'
    · exact (h5 g h').2.2
    · omega
  have hb2 : Blk w2 B T (φ v u).toArray := (h1.alloc o).kept hg (Ne.symm hnB)
  have hug : u.ownBlock ≠ some g := by
    rcases hat with h' | h'
    · exact h4 g h'
    · intro e; have := h3.lt e; omega
  have hsz : (w2.setCell ⟨B, o0, none⟩ (.slice (some ⟨g, 0, none⟩) (L.length + 1) cap)).heap.size = w2.heap.size := by show (w2.heap.modify _ _).size = _; rw [Array.size_modify]
  refine ⟨hb2, ⟨⟨_, u, h.ok.set0 hb2 _, ?_, ?_, fun k hk hk' => ?_, fun k hk => ?_, fun k hk => ⟨.inl (h6 k hk).1, (h6 k hk).2⟩⟩, .inl h.b, fun k hk => ?_, h.wsl.snoc hl, fun f hf => ?_, h.ok⟩, ⟨?_, fun k hk => ?_⟩⟩
  · rw [slcs_snoc, List.length_append]
    exact hown.kept fun k hk => Below.heap_setCell w2 ⟨B, o0, none⟩ _ k (fun e => by cases hk; exact hgB e)
  · refine h3.kept fun k hk => ?_
    have hkl := h3.lt hk
    exact (Below.heap_setCell w2 ⟨B, o0, none⟩ _ k (h6 k hk).2).trans ((hg.block k (by simp; omega) (fun e => h4 k e.symm hk)).trans (heap_alloc_old W o k hkl))
  · cases hk; exact hug hk'
  · cases hk; exact ⟨rfl, .inr rfl, hgB⟩
  · rw [hsz]
    rcases hk with hk | rfl
    · have := h.lt k hk; omega
    · exact hown.lt rfl
  · have := h.fr f hf
    simp; omega
  · exact (((Only.refl F W).alloc o).grown hg (fun k hk => .inl (h5 k hk).2.1)).set (.inl h.b) o0 _
  · rcases hk with hk | rfl
    · exact .inl hk
    · rcases hat with h' | h'
      · exact .inl (h5 k h').2.1
      · right; omega
/-- A number more that is free. -/
theorem ArnX.refree {v u : Value} {w2 : World} {o : Obj} {g cap : Nat} {f : Int} (h : ArnX φ o0 o1 T S m W F B G L fr) (h1 : Blk W B T (φ v u).toArray) (h2 : RowW W S (m + 1) v L.length (slcs L)) (h3 : RowW W 21 1 u fr.length (i32s fr)) (h4 : Apart v u) (h5 : ∀ k, v.ownBlock = some k → k = G ∧ F k ∧ k ≠ B) (h6 : ∀ k, u.ownBlock = some k → F k ∧ k ≠ B)
    (hown : RowW w2 21 1 (.slice (some ⟨g, 0, none⟩) (fr.length + 1) cap) (fr.length + 1) (i32s fr ++ [.int .i32 f])) (hg : (W.alloc o).grownBy w2 u.ownBlock) (hat : u.ownBlock = some g ∨ g = W.heap.size + 1) (hf : 1 ≤ f ∧ f ≤ L.length) :
    Blk w2 B T (φ v u).toArray ∧ ArnX φ o0 o1 T S m (w2.setCell ⟨B, o1, none⟩ (.slice (some ⟨g, 0, none⟩) (fr.length + 1) cap)) (fun k => F k ∨ k = g) B G L (fr ++ [f]) ∧ Step F (fun k => F k ∨ k = g) W (w2.setCell ⟨B, o1, none⟩ (.slice (some ⟨g, 0, none⟩) (fr.length + 1) cap)) := by
  have hB := h.blt
  have hnB : u.ownBlock ≠ some B := fun e => (h6 B e).2 rfl
  have hs2 := hg.size
  simp at hs2
  have hgB : g ≠ B := by
    rcases hat with h' | h'
    · exact (h6 g h').2
    · omega
  have hb2 : Blk w2 B T (φ v u).toArray := (h1.alloc o).kept hg (Ne.symm hnB)
  have hvg : v.ownBlock ≠ some g := by
    rcases hat with h' | h'
    · exact fun e => h4 g e h'
    · intro e; have := h2.lt e; omega
  have hsz : (w2.setCell ⟨B, o1, none⟩ (.slice (some ⟨g, 0, none⟩) (fr.length + 1) cap)).heap.size = w2.heap.size := by show (w2.heap.modify _ _).size = _; rw [Array.size_modify]
  refine ⟨hb2, ⟨⟨v, _, h.ok.set1 hb2 _, ?_, ?_, fun k hk hk' => ?_, fun k hk => ?_, fun k hk => ?_⟩, .inl h.b, fun k hk => ?_, h.wsl, fun x hx => ?_, h.ok⟩, ⟨?_, fun k hk => ?_⟩⟩
  · refine h2.kept fun k hk => ?_
    have hkl := h2.lt hk
    exact (Below.heap_setCell w2 ⟨B, o1, none⟩ _ k (h5 k hk).2.2).trans ((hg.block k (by simp; omega) (fun e => h4 k hk e.symm)).trans (heap_alloc_old W o k hkl))
  · rw [i32s_snoc, List.length_append]
    exact hown.kept fun k hk => Below.heap_setCell w2 ⟨B, o1, none⟩ _ k (fun e => by cases hk; exact hgB e)
  · cases hk'; exact hvg hk
  · exact ⟨(h5 k hk).1, .inl (h5 k hk).2.1, (h5 k hk).2.2⟩
  · cases hk; exact ⟨.inr rfl, hgB⟩
  · rw [hsz]
    rcases hk with hk | rfl
    · have := h.lt k hk; omega
    · exact hown.lt rfl
  · rcases List.mem_append.1 hx with hx | hx
    · exact h.fr x hx
    · simp at hx; rw [hx]; exact hf
  · exact (((Only.refl F W).alloc o).grown hg (fun k hk => .inl (h6 k hk).1)).set (.inl h.b) o1 _
  · rcases hk with hk | rfl
    · exact .inl hk
    · rcases hat with h' | h'
      · exact .inl (h6 k h').1
      · right; omega
/-- The free number that came last is no longer free. -/
theorem ArnX.unfree {f : Int} (h : ArnX φ o0 o1 T S m W F B G L (fr ++ [f])) : ∃ H cap, W.cell? ⟨B, o1, none⟩ = some (.slice (some ⟨H, 0, none⟩) (fr.length + 1) cap) ∧ W.cell? ⟨H, fr.length, none⟩ = some (.int .i32 f) ∧ fr.length + 1 ≤ cap ∧ cap ≤ maxLen ∧
    ArnX φ o0 o1 T S m (W.setCell ⟨B, o1, none⟩ (.slice (some ⟨H, 0, none⟩) fr.length cap)) F B G L fr ∧ Step F F W (W.setCell ⟨B, o1, none⟩ (.slice (some ⟨H, 0, none⟩) fr.length cap)) := by
  obtain ⟨v, u, h1, h2, h3, h4, h5, h6⟩ := h.ex
  rw [List.length_append] at h3
  obtain ⟨H, cap, rfl⟩ := h3.led (by simp)
  have hcap : fr.length + 1 ≤ cap ∧ cap ≤ maxLen := by
    rcases h3.2 with ⟨e, _⟩ | ⟨g', cap', cur, e, _, e1, e2, _⟩
    · cases e
    · cases e; exact ⟨e1, e2⟩
  have hsz : (W.setCell ⟨B, o1, none⟩ (.slice (some ⟨H, 0, none⟩) fr.length cap)).heap.size = W.heap.size := by show (W.heap.modify _ _).size = _; rw [Array.size_modify]
  have hcut := h3.cut (k := fr.length) (by simp)
  rw [i32s_snoc, Nat.mul_one, ← i32s_len, List.take_left] at hcut
  refine ⟨H, cap, (h.ok.cells h1).2, h3.cell (by rw [i32s_snoc, List.getElem?_append_right (by rw [i32s_len]; exact Nat.le_refl _), i32s_len, Nat.sub_self]; rfl), hcap.1, hcap.2, ⟨⟨v, _, h.ok.set1 h1 _, ?_, ?_, fun k hk hk' => h4 k hk hk', h5, fun k hk => h6 k hk⟩, h.b, fun k hk => by rw [hsz]; exact h.lt k hk, h.wsl, fun x hx => h.fr x (by simp [hx]), h.ok⟩, ⟨(Only.refl F W).set (.inl h.b) o1 _, fun k hk => .inl hk⟩⟩
  · exact h2.kept fun k hk => Below.heap_setCell W ⟨B, o1, none⟩ _ k (h5 k hk).2.2
  · rw [← i32s_len]
    exact hcut.kept fun k hk => Below.heap_setCell W ⟨B, o1, none⟩ _ k (h6 k hk).2

/-- Cells are written, one behind the other. -/
def putAll (W : World) (G o : Nat) : List Value → World
  | [] => W
  | u :: us => putAll (W.setCell ⟨G, o, none⟩ u) G (o + 1) us
theorem putAll_snoc (W : World) (G o : Nat) (us : List Value) (u : Value) : putAll W G o (us ++ [u]) = (putAll W G o us).setCell ⟨G, o + us.length, none⟩ u := by
  induction us generalizing W o with
  | nil => rfl
  | cons x us ih =>
    show putAll _ G (o + 1) (us ++ [u]) = _
    rw [ih, List.length_cons, show o + 1 + us.length = o + (us.length + 1) by omega]
    rfl
theorem step_putAll {G : Nat} (hG : F G) (W : World) (o : Nat) (us : List Value) : Step F F W (putAll W G o us) := by
  induction us generalizing W o with
  | nil => exact Step.refl F W
  | cons x us ih => exact Step.trans ⟨(Only.refl F W).set (.inl hG) o x, fun k hk => .inl hk⟩ (ih _ _)
/-- A slot is written. -/
theorem ArnX.putAll (h : ArnX φ o0 o1 T S m W F B G L fr) {k : Nat} {s s' : Slt} (hk : L[k]? = some s) (hl : s'.1.length = m) : ArnX φ o0 o1 T S m (putAll W G (k * (m + 1)) (slc s')) F B G (L.set k s') fr := by
  have hs := h.wsl s (List.mem_of_getElem? hk)
  have hlt := (List.getElem?_eq_some_iff.1 hk).1
  have part : ∀ j, j ≤ m → ArnX φ o0 o1 T S m (Go.Proofs.Ytpbnhbpkfdhedaa.putAll W G (k * (m + 1)) (s'.1.take j)) F B G (L.set k (s'.1.take j ++ s.1.drop j, s.2)) fr := by
    intro j
    induction j with
    | zero =>
      intro _
      rw [List.take_zero, List.drop_zero, List.nil_append, show L.set k (s.1, s.2) = L from by rw [← (List.getElem?_eq_some_iff.1 hk).2]; exact List.set_getElem_self hlt]
      exact h
    | succ j ih =>
      intro hj
      have h1 := ih (by omega)
      have hx : s'.1[j]? = some (s'.1[j]) := List.getElem?_eq_getElem (by omega)
      rw [List.take_add_one, hx, Option.toList_some, putAll_snoc, List.length_take, Nat.min_eq_left (by omega)]
      have h2 := h1.put (k := k) (j := j) (s := (s'.1.take j ++ s.1.drop j, s.2)) (s' := (s'.1.take j ++ [s'.1[j]] ++ s.1.drop (j + 1), s.2)) (u := s'.1[j]) (by simp [hlt]) (by omega) ?_ (by simp; omega)
      · rwa [List.set_set] at h2
      · unfold slc
        have e : s.1.drop j = s.1[j] :: s.1.drop (j + 1) := List.drop_eq_getElem_cons (by omega)
        simp only [e, List.append_assoc, List.cons_append, List.nil_append]
        rw [List.set_append_right _ _ (by simp; omega), List.length_take, Nat.min_eq_left (by omega), Nat.sub_self]
        rfl
  have h1 := part m (Nat.le_refl _)
  rw [List.take_of_length_le (by omega), List.drop_of_length_le (by omega), List.append_nil] at h1
  have h2 := h1.put (k := k) (j := m) (s := (s'.1, s.2)) (s' := s') (u := .bool s'.2) (by simp [hlt]) (by omega) ?_ hl
  · rw [List.set_set] at h2
    unfold slc
    rw [putAll_snoc, hl]
    exact h2
  · unfold slc
    rw [List.set_append_right _ _ (by simp [hl]), hl, Nat.sub_self]
    rfl
end

/-- Two arenas that share no block, behind a start w. -/
structure Two (T1 S1 m1 T2 S2 m2 : Nat) (w wr : World) (Fa : Nat → Prop) (Ba Ga : Nat) (La : List Slt) (fa : List Int) (Fb : Nat → Prop) (Bb Gb : Nat) (Lb : List Slt) (fb : List Int) : Prop where
  a : Arn T1 S1 m1 wr Fa Ba Ga La fa
  b : Arn T2 S2 m2 wr Fb Bb Gb Lb fb
  dis : ∀ k, Fa k → ¬ Fb k
  fa : ∀ k, Fa k → w.heap.size ≤ k
  fb : ∀ k, Fb k → w.heap.size ≤ k
  below : Below w.heap.size w wr
section
variable {T1 S1 m1 T2 S2 m2 : Nat} {w wr w' : World} {Fa Fa' : Nat → Prop} {Ba Ga Ga' : Nat} {La La' : List Slt} {fa fa' : List Int} {Fb Fb' : Nat → Prop} {Bb Gb Gb' : Nat} {Lb Lb' : List Slt} {fb fb' : List Int}
theorem Two.stepA (h : Two T1 S1 m1 T2 S2 m2 w wr Fa Ba Ga La fa Fb Bb Gb Lb fb) (hA : Arn T1 S1 m1 w' Fa' Ba Ga' La' fa') (hS : Step Fa Fa' wr w') : Two T1 S1 m1 T2 S2 m2 w w' Fa' Ba Ga' La' fa' Fb Bb Gb Lb fb :=
  ⟨hA, h.b.step hS (fun k h1 h2 => h.dis k h2 h1), fun k h1 h2 => hS.apart (fun k h1 h2 => h.dis k h2 h1) h.b.lt k h2 h1, hS.from h.below.size h.fa, h.fb, hS.start h.below (Nat.le_refl _) h.fa⟩
theorem Two.stepB (h : Two T1 S1 m1 T2 S2 m2 w wr Fa Ba Ga La fa Fb Bb Gb Lb fb) (hB : Arn T2 S2 m2 w' Fb' Bb Gb' Lb' fb') (hS : Step Fb Fb' wr w') : Two T1 S1 m1 T2 S2 m2 w w' Fa Ba Ga La fa Fb' Bb Gb' Lb' fb' :=
  ⟨h.a.step hS h.dis, hB, hS.apart h.dis h.a.lt, h.fa, hS.from h.below.size h.fb, hS.start h.below (Nat.le_refl _) h.fb⟩
theorem Two.drewN (h : Two T1 S1 m1 T2 S2 m2 w wr Fa Ba Ga La fa Fb Bb Gb Lb fb) (n : Nat) : Two T1 S1 m1 T2 S2 m2 w (wr.drewN n) Fa Ba Ga La fa Fb Bb Gb Lb fb :=
  ⟨h.a.drewN n, h.b.drewN n, h.dis, h.fa, h.fb, h.below.trans ⟨rfl, rfl, rfl, Nat.le_refl _, fun _ _ => rfl⟩⟩
end
end Go.Proofs.Ytpbnhbpkfdhedaa
