/- Layer 6 (treap): a forest, by its sequences. -/
import Derived.Test.YtcbgeahcnjamdabGreatTreapZip
import Derived.Test.YtcbgeahcnjamdabGreatDrawNew
namespace Go.Proofs.YtcbgeahcnjamdabGreat
open Go.RowKit
set_option linter.unusedVariables false
variable {Xh : Hx}

/-- Which numbers are taken. -/
def isK (K : List Bool) (i : Int) : Bool := decide (1 ≤ i) && K.getD (i - 1).toNat false
theorem tk_isK (N : List Nt) (i : Int) : tk N i = isK (N.map (·.2)) i := by
  unfold tk isT isK slN
  rw [List.getElem?_map, List.getD_eq_getElem?_getD, List.getElem?_map]
  cases N[(i - 1).toNat]? <;> rfl
theorem isK_bd {K : List Bool} {i : Int} (h : isK K i = true) : 1 ≤ i ∧ i ≤ K.length := by
  unfold isK at h
  simp only [Bool.and_eq_true, decide_eq_true_eq] at h
  refine ⟨h.1, ?_⟩
  rcases Nat.lt_or_ge (i - 1).toNat K.length with h1 | h1
  · omega
  · rw [List.getD_eq_getElem?_getD, List.getElem?_eq_none h1] at h; simp at h
theorem isK_set {K : List Bool} {i : Int} (b : Bool) (hi : 1 ≤ i ∧ i ≤ K.length) (j : Int) : isK (K.set (i - 1).toNat b) j = if j = i then b else isK K j := by
  unfold isK
  rw [List.getD_eq_getElem?_getD, List.getElem?_set]
  by_cases h1 : 1 ≤ j
  · by_cases e : j = i
    · subst e; rw [if_pos rfl, if_pos rfl, if_pos (by omega)]; simp [h1]
    · rw [if_neg (by omega), if_neg e, List.getD_eq_getElem?_getD]
  · have : j ≠ i := by omega
    simp [h1, this]
theorem isK_snoc {K : List Bool} (b : Bool) (j : Int) : isK (K ++ [b]) j = if j = (K.length : Int) + 1 then b else isK K j := by
  unfold isK
  rw [List.getD_eq_getElem?_getD, List.getD_eq_getElem?_getD]
  by_cases h1 : 1 ≤ j
  · by_cases e : j = (K.length : Int) + 1
    · subst e
      rw [if_pos rfl, show ((K.length : Int) + 1 - 1).toNat = K.length by omega, List.getElem?_concat_length]
      simp; omega
    · rw [if_neg e]
      rcases Nat.lt_or_ge (j - 1).toNat K.length with h2 | h2
      · rw [List.getElem?_append_left h2]
      · rw [List.getElem?_eq_none (by simp; omega), List.getElem?_eq_none h2]
  · have : j ≠ (K.length : Int) + 1 := by omega
    simp [h1, this]

/-- The sequences S are those that the nodes tell. -/
structure Wd (N : List Nt) (S : Int → List Int) : Prop where
  tree : ∀ i, tk N i = true → ∃ t, t.seq = S i ∧ Good N t
  mem : ∀ i, tk N i = true → i ∈ S i
  same : ∀ i j, j ∈ S i → S j = S i
  none : ∀ i, tk N i = false → S i = []
theorem Wd.ne {N : List Nt} {S : Int → List Int} (h : Wd N S) {i : Int} : S i ≠ [] ↔ tk N i = true := by
  constructor
  · intro h1
    cases h2 : tk N i with
    | true => rfl
    | false => exact absurd (h.none i h2) h1
  · intro h1 h2
    have := h.mem i h1
    rw [h2] at this
    simp at this
theorem Wd.memTk {N : List Nt} {S : Int → List Int} (h : Wd N S) {i j : Int} (hj : j ∈ S i) : tk N j = true ∧ tk N i = true := by
  have h1 : tk N i = true := h.ne.1 (fun e => by rw [e] at hj; simp at hj)
  refine ⟨h.ne.1 ?_, h1⟩
  rw [h.same i j hj]
  exact h.ne.2 h1
theorem Wd.nodup {N : List Nt} {S : Int → List Int} (h : Wd N S) (i : Int) : (S i).Nodup := by
  cases h2 : tk N i with
  | true => obtain ⟨t, e, g⟩ := h.tree i h2; rw [← e]; exact g.nodup
  | false => rw [h.none i h2]; simp
theorem Wd.len {N : List Nt} {S : Int → List Int} (h : Wd N S) (i : Int) : (S i).length ≤ N.length := len_le (h.nodup i) (fun j hj => (h.memTk hj).1)

/-- The draws of a forest: none yet, or some of its own. -/
def Dh (dr : Option (Nat × Nat × List Int)) (D Dg : Nat) (xs : List Int) : Prop := ∀ q, dr = some q → q = (D, Dg, xs)
theorem Dh.none (D Dg : Nat) (xs : List Int) : Dh none D Dg xs := fun q e => by cases e
def Dok (dr : Option (Nat × Nat × List Int)) (W : World) (F Fa : Nat → Prop) (d : Option Addr) (mx : Nat) : Prop := (d = none ∧ dr = none) ∨ ∃ D Dg xs n, d = some ⟨D, 0, none⟩ ∧ Drw W D Dg xs n ∧ n ≤ mx ∧ F D ∧ F Dg ∧ ¬ Fa D ∧ ¬ Fa Dg ∧ Dh dr D Dg xs
/-- A forest in block B, within the blocks of F: which numbers are taken (K), which are free (fr, as they were freed), each item's sequence and value; at most mx numbers were drawn. -/
structure Tp (Xh : Hx) (W : World) (F : Nat → Prop) (B : Nat) (K : List Bool) (fr : List Int) (S : Int → List Int) (V : Int → Vl) (mx : Nat) : Prop where
  ex : ∃ G N d Fa, Frs Xh d W Fa B G N fr ∧ Wd N S ∧ N.map (·.2) = K ∧ (∀ i, (nd N i).own = V i) ∧ (∀ k, Fa k → F k) ∧ Dok Xh.dr W F Fa d mx
  lt : ∀ k, F k → k < W.heap.size
  fk : fr.Nodup ∧ ∀ f ∈ fr, isK K f = false ∧ 1 ≤ f ∧ f ≤ K.length
  klen : K.length ≤ 2147483647
section
variable {W W' : World} {F F' : Nat → Prop} {B : Nat} {K : List Bool} {fr : List Int} {S : Int → List Int} {V : Int → Vl} {mx : Nat}
theorem Tp.kept (h : Tp Xh W F B K fr S V mx) (hb : ∀ k, F k → W'.heap[k]? = W.heap[k]?) (hs : W.heap.size ≤ W'.heap.size) : Tp Xh W' F B K fr S V mx := by
  obtain ⟨G, N, d, Fa, h1, h2, h3, h4, h5, h6⟩ := h.ex
  refine ⟨⟨G, N, d, Fa, h1.kept (fun k hk => hb k (h5 k hk)) hs, h2, h3, h4, h5, h6.imp id ?_⟩, fun k hk => Nat.lt_of_lt_of_le (h.lt k hk) hs, h.fk, h.klen⟩
  rintro ⟨D, Dg, xs, n, a1, a2, a3, a4, a5, a6, a7⟩
  exact ⟨D, Dg, xs, n, a1, a2.kept (hb D a4) (hb Dg a5) hs, a3, a4, a5, a6, a7⟩
/-- The draws that it shares. -/
theorem Tp.shared (h : Tp Xh W F B K fr S V mx) {D Dg : Nat} {xs : List Int} (hd : Xh.dr = some (D, Dg, xs)) : F D ∧ F Dg ∧ D ≠ B ∧ Dg ≠ B ∧ ∃ n, n ≤ mx ∧ Drw W D Dg xs n := by
  obtain ⟨G, N, d, Fa, h1, h2, h3, h4, h5, h6⟩ := h.ex
  rcases h6 with ⟨_, e⟩ | ⟨D', Dg', xs', n, a1, a2, a3, a4, a5, a6, a7, a8⟩
  · rw [e] at hd; cases hd
  · cases a8 _ hd
    exact ⟨a4, a5, fun e => a6 (e ▸ h1.arn.b), fun e => a7 (e ▸ h1.arn.b), n, a3, a2⟩
/-- Another one drew from them. -/
theorem Tp.drawn (h : Tp Xh W F B K fr S V mx) {D Dg m n : Nat} {xs : List Int} (hd : Xh.dr = some (D, Dg, xs)) (hb : ∀ k, F k → k ≠ D → k ≠ Dg → W'.heap[k]? = W.heap[k]?) (hs : W.heap.size ≤ W'.heap.size) (hD : Drw W' D Dg xs n) (hn : n ≤ m) : Tp Xh W' F B K fr S V m := by
  obtain ⟨G, N, d, Fa, h1, h2, h3, h4, h5, h6⟩ := h.ex
  rcases h6 with ⟨_, e⟩ | ⟨D', Dg', xs', n', a1, a2, a3, a4, a5, a6, a7, a8⟩
  · rw [e] at hd; cases hd
  · cases a8 _ hd
    exact ⟨⟨G, N, d, Fa, h1.kept (fun k hk => hb k (h5 k hk) (fun e => a6 (e ▸ hk)) (fun e => a7 (e ▸ hk))) hs, h2, h3, h4, h5, .inr ⟨D, Dg, xs, n, a1, hD, hn, a4, a5, a6, a7, a8⟩⟩, fun k hk => Nat.lt_of_lt_of_le (h.lt k hk) hs, h.fk, h.klen⟩
theorem Tp.below (h : Tp Xh W F B K fr S V mx) (hb : Below W.heap.size W W') : Tp Xh W' F B K fr S V mx := h.kept (fun k hk => hb.block k (h.lt k hk)) hb.size
theorem Tp.step {F1 : Nat → Prop} (h : Tp Xh W F B K fr S V mx) (hb : Step F' F1 W W') (hd : ∀ k, F k → ¬ F' k) : Tp Xh W' F B K fr S V mx := h.kept (fun k hk => hb.only.block k (h.lt k hk) (hd k hk)) hb.size
theorem Tp.mono (h : Tp Xh W F B K fr S V mx) {m : Nat} (hm : mx ≤ m) : Tp Xh W F B K fr S V m := by
  obtain ⟨G, N, d, Fa, h1, h2, h3, h4, h5, h6⟩ := h.ex
  exact ⟨⟨G, N, d, Fa, h1, h2, h3, h4, h5, h6.imp id (fun ⟨D, Dg, xs, n, a1, a2, a3, a4⟩ => ⟨D, Dg, xs, n, a1, a2, by omega, a4⟩)⟩, h.lt, h.fk, h.klen⟩
theorem Step.wide {Fa Fa' : Nat → Prop} (h : Step Fa Fa' W W') (hF : ∀ k, Fa k → F k) : Step F F W W' :=
  ⟨⟨h.only.os, h.only.tape, h.only.output, h.only.size, fun k hk hn => h.only.block k hk (fun h' => hn (hF k h'))⟩, fun k hk => .inl hk⟩
theorem Tp.mem (h : Tp Xh W F B K fr S V mx) {i : Int} : isK K i = true ↔ i ∈ S i := by
  obtain ⟨G, N, d, Fa, h1, h2, h3, h4, h5, h6⟩ := h.ex
  rw [← h3, ← tk_isK]
  exact ⟨h2.mem i, fun h' => (h2.memTk h').1⟩
theorem Tp.nil (h : Tp Xh W F B K fr S V mx) {i : Int} : isK K i = false ↔ S i = [] := by
  obtain ⟨G, N, d, Fa, h1, h2, h3, h4, h5, h6⟩ := h.ex
  rw [← h3, ← tk_isK]
  constructor
  · exact h2.none i
  · intro h'
    cases h'' : tk N i with
    | false => rfl
    | true => exact absurd h' (h2.ne.2 h'')
theorem Tp.same (h : Tp Xh W F B K fr S V mx) {i j : Int} (hj : j ∈ S i) : S j = S i := by
  obtain ⟨G, N, d, Fa, h1, h2, h3, h4, h5, h6⟩ := h.ex
  exact h2.same i j hj
theorem Tp.nodup (h : Tp Xh W F B K fr S V mx) (i : Int) : (S i).Nodup := by
  obtain ⟨G, N, d, Fa, h1, h2, h3, h4, h5, h6⟩ := h.ex
  exact h2.nodup i
theorem Tp.len (h : Tp Xh W F B K fr S V mx) (i : Int) : (S i).length ≤ K.length := by
  obtain ⟨G, N, d, Fa, h1, h2, h3, h4, h5, h6⟩ := h.ex
  rw [← h3, List.length_map]
  exact h2.len i
/-- A writer's step, that leaves the draws alone. -/
theorem Tp.wrote {G : Nat} {N N' : List Nt} {d : Option Addr} {Fa : Nat → Prop} {S' : Int → List Int} {V' : Int → Vl} (h : Tp Xh W F B K fr S V mx) (h1 : Frs Xh d W Fa B G N fr) (h3 : N.map (·.2) = K) (h5 : ∀ k, Fa k → F k) (h6 : Dok Xh.dr W F Fa d mx)
    (hA : Frs Xh d W' Fa B G N' fr) (hS : Step Fa Fa W W') (hw : Wd N' S') (hk : N'.map (·.2) = K) (hv : ∀ i, (nd N' i).own = V' i) : Tp Xh W' F B K fr S' V' mx ∧ Step F F W W' := by
  refine ⟨⟨⟨G, N', d, Fa, hA, hw, hk, hv, h5, h6.imp id ?_⟩, fun k hk => Nat.lt_of_lt_of_le (h.lt k hk) hS.size, h.fk, h.klen⟩, hS.wide h5⟩
  rintro ⟨D, Dg, xs, n, a1, a2, a3, a4, a5, a6, a7, a8⟩
  exact ⟨D, Dg, xs, n, a1, a2.kept (hS.only.block D (h.lt D a4) a6) (hS.only.block Dg (h.lt Dg a5) a7) hS.size, a3, a4, a5, a6, a7, a8⟩
end
theorem flags_of {N N' : List Nt} (hlen : N'.length = N.length) (htk : ∀ i, tk N' i = tk N i) : N'.map (·.2) = N.map (·.2) := by
  apply List.ext_getElem?
  intro k
  rw [List.getElem?_map, List.getElem?_map]
  rcases Nat.lt_or_ge k N.length with h1 | h1
  · have h2 : k < N'.length := by rw [hlen]; exact h1
    have := htk ((k : Int) + 1)
    rw [tk_isK, tk_isK] at this
    unfold isK at this
    rw [List.getD_eq_getElem?_getD, List.getD_eq_getElem?_getD, List.getElem?_map, List.getElem?_map, show ((k : Int) + 1 - 1).toNat = k by omega, List.getElem?_eq_getElem h1, List.getElem?_eq_getElem h2] at this
    rw [List.getElem?_eq_getElem h1, List.getElem?_eq_getElem h2]
    simp only [Option.map_some] at this ⊢
    rw [show decide (1 ≤ (k : Int) + 1) = true by simp; omega] at this
    simpa using this
  · rw [List.getElem?_eq_none h1, List.getElem?_eq_none (by rw [hlen]; exact h1)]
theorem Keeps.flags {A : Int → Prop} {N N' : List Nt} (h : Keeps A N N') : N'.map (·.2) = N.map (·.2) := flags_of h.len h.tk
end Go.Proofs.YtcbgeahcnjamdabGreat
