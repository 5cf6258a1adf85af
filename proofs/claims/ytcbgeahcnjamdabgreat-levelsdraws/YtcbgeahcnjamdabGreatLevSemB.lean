/- Layer 10, plain: loose edges rise, are bound; no edge is found; edges are put in and taken out. -/
import Derived.Test.YtcbgeahcnjamdabGreatLevSem
namespace Go.Proofs.YtcbgeahcnjamdabGreat
open Go.RowKit
set_option linter.unusedVariables false
section
variable {E : EM} {S : Int → Prop} {n : Int} {m : Nat} {go : Eg}
theorem te_loose {e : Int} {x : Eg} (hx : E e = some x) (ht : x.t = false) (S' : Int → Prop) (j a b : Int) : Te (upE E e x) S' j a b ↔ Te E S' j a b := by
  constructor
  · rintro ⟨f, y, h1, h2, h3, h4⟩
    unfold upE at h2
    by_cases ef : f = e
    · subst ef; rw [updQ_at] at h2; cases h2; rw [ht] at h3; cases h3
    · rw [updQ_ne ef] at h2; exact ⟨f, y, h1, h2, h3, h4⟩
  · rintro ⟨f, y, h1, h2, h3, h4⟩
    by_cases ef : f = e
    · subst ef; rw [hx] at h2; cases h2; rw [ht] at h3; cases h3
    · exact ⟨f, y, h1, by unfold upE; rw [updQ_ne ef]; exact h2, h3, h4⟩
/-- No tree edge of v's tree is of just that level. -/
def NoTree (E : EM) (S : Int → Prop) (i : Int) (v : Int) : Prop := ∀ e x, ¬ S e → E e = some x → x.t = true → x.l = i → ¬ Jn (Te E S i) v x.a
theorem NoTree.rise {i v u : Int} (h : NoTree E S i v) (k : Jn (Te E S i) v u) : Jn (Te E S (i + 1)) v u := by
  induction k with
  | refl => exact .refl _
  | @step u w hp e ih =>
    have key : ∀ a b, Te E S i a b → Jn (Te E S i) v a → Te E S (i + 1) a b := fun a b ⟨f, y, h1, h2, h3, h4, h5, h6⟩ hj => by
      by_cases hl : y.l = i
      · exact absurd (h5 ▸ hj) (h f y h1 h2 h3 hl)
      · exact ⟨f, y, h1, h2, h3, by omega, h5, h6⟩
    rcases e with e | e
    · exact .step ih (.inl (key _ _ e hp))
    · exact .step ih (.inr (key _ _ e (.step hp (.inr e))))
/-- A loose edge rises. -/
theorem Rp.upLoose {i : Nat} (h : Rp E S n m go i) {v : Int} (hv : Half E S n i v) (hN : NoTree E S i v) {e : Int} {x : Eg} (hx : E e = some x) (ht : x.t = false) (hS : ¬ S e) (hl : x.l = i) (ha : Jn (Te E S i) v x.a) (hb : Jn (Te E S i) v x.b) :
    Rp (upE E e x) S n m go i ∧ Half (upE E e x) S n i v ∧ NoTree (upE E e x) S i v := by
  have same : ∀ (S' : Int → Prop) (j a b : Int), Te (upE E e x) S' j a b ↔ Te E S' j a b := te_loose hx ht
  have jsame : ∀ (S' : Int → Prop) (j a b : Int), Jn (Te (upE E e x) S' j) a b ↔ Jn (Te E S' j) a b := fun S' j a b => jn_iff (same S' j)
  have gsame : ∀ (j a b : Int), Jn (Tg (upE E e x) S go j) a b ↔ Jn (Tg E S go j) a b := fun j a b => jn_iff (fun a b => by unfold Tg; rw [same])
  have old : ∀ f y, upE E e x f = some y → (f = e ∧ y = ⟨x.a, x.b, x.l + 1, x.t⟩) ∨ (f ≠ e ∧ E f = some y) := fun f y hy => by
    unfold upE at hy
    by_cases ef : f = e
    · subst ef; rw [updQ_at] at hy; cases hy; exact .inl ⟨rfl, rfl⟩
    · rw [updQ_ne ef] at hy; exact .inr ⟨ef, hy⟩
  refine ⟨⟨fun f y h1 h2 h3 => ?_, fun j hjm u T d1 d2 => h.sz j hjm u T d1 fun z hz => (jsame _ _ _ _).1 (d2 z hz), fun k => h.nj ((jsame _ _ _ _).1 k), fun f y h1 h2 h3 => ?_, fun j hji hjm Ta Tb d1 d2 k1 k2 => h.c j hji hjm Ta Tb d1 d2 (fun u hu => (jsame _ _ _ _).1 (k1 u hu)) (fun u hu => (jsame _ _ _ _).1 (k2 u hu)), upE_l0 hx h.l0⟩, fun T d1 d2 => hv T d1 fun u hu => (jsame _ _ _ _).1 (d2 u hu), fun f y h1 h2 h3 h4 => ?_⟩
  · rw [jsame]
    rcases old f y h2 with ⟨rfl, rfl⟩ | ⟨e1, e2⟩
    · rw [ht] at h3; cases h3
    · exact h.acy f y h1 e2 h3
  · rw [jsame, gsame]
    rcases old f y h2 with ⟨rfl, rfl⟩ | ⟨e1, e2⟩
    · refine .inl ?_
      show Jn (Te E S (x.l + 1)) x.a x.b
      rw [hl]
      exact (hN.rise ha).symm.trans (hN.rise hb)
    · exact h.b f y h1 e2 h3
  · rw [jsame]
    rcases old f y h2 with ⟨rfl, rfl⟩ | ⟨e1, e2⟩
    · rw [ht] at h3; cases h3
    · exact hN f y h1 e2 h3 h4
/-- None is found at a level. -/
theorem Rp.fail {i : Nat} (h : Rp E S n m go i) {v : Int} (hv : v = go.a ∨ v = go.b) (hno : ∀ e x, ¬ S e → E e = some x → x.t = false → x.l = i → ¬ Jn (Te E S i) v x.a ∧ ¬ Jn (Te E S i) v x.b) : Rp E S n m go ((i : Int) - 1) := by
  refine ⟨h.acy, h.sz, h.nj, fun e x h1 h2 h3 => ?_, fun j hj hm => h.c j (by omega) hm, h.l0⟩
  rcases h.b e x h1 h2 h3 with k | ⟨k1, k2⟩
  · exact .inl k
  · by_cases hl : x.l = i
    · refine .inl ?_
      obtain ⟨n1, n2⟩ := hno e x h1 h2 h3 hl
      rw [hl] at k2 ⊢
      rcases Tg.jn.1 k2 with k | ⟨c1, c2⟩ | ⟨c1, c2⟩
      · exact k
      · rcases hv with rfl | rfl
        · exact absurd c1.symm n1
        · exact absurd c2 n2
      · rcases hv with rfl | rfl
        · exact absurd c2 n2
        · exact absurd c1.symm n1
    · exact .inr ⟨by omega, k2⟩
theorem Rp.done (h : Rp E S n m go (-1)) : Bb E S := fun e x h1 h2 h3 => by
  rcases h.b e x h1 h2 h3 with k | ⟨k1, _⟩
  · exact k
  · have := h.l0 e x h2; omega
/-- The lesser side has at most half. -/
theorem Rp.half {i : Nat} (h : Rp E S n m go i) (hm : i < m) {v : Int} {na nb : Nat} (hA : ∃ Ta : List Int, Ta.Nodup ∧ (∀ u ∈ Ta, Jn (Te E S i) go.a u) ∧ Ta.length = na) (hB : ∃ Tb : List Int, Tb.Nodup ∧ (∀ u ∈ Tb, Jn (Te E S i) go.b u) ∧ Tb.length = nb)
    (hAm : ∀ T : List Int, T.Nodup → (∀ u ∈ T, Jn (Te E S i) go.a u) → T.length ≤ na) (hBm : ∀ T : List Int, T.Nodup → (∀ u ∈ T, Jn (Te E S i) go.b u) → T.length ≤ nb) (hv : v = if nb < na then go.b else go.a) : Half E S n i v := by
  obtain ⟨Ta, a1, a2, a3⟩ := hA
  obtain ⟨Tb, b1, b2, b3⟩ := hB
  have hc := h.c i (Int.le_refl _) hm Ta Tb a1 b1 a2 b2
  rw [a3, b3] at hc
  have hp := two_pow_pos i
  intro T d1 d2
  have le : 2 * (T.length : Int) ≤ (na : Int) + nb := by
    split at hv
    · rw [hv] at d2; have := hBm T d1 d2; omega
    · rw [hv] at d2; have := hAm T d1 d2; omega
  exact Int.le_trans (Int.mul_le_mul_of_nonneg_right le (Int.le_of_lt hp)) hc
/-! Another tree edge, of level l, from a to b. -/
/-- The edges with one more, or one told anew, as a tree edge. -/
theorem te_set {E' : EM} {e : Int} {y : Eg} (hE : E' = updQ E e (some y)) (hy : y.t = true) (hold : ∀ x, E e = some x → x.t = false) {S' : Int → Prop} (hS : ¬ S' e) (j a b : Int) : Te E' S' j a b ↔ Te E S' j a b ∨ (j ≤ y.l ∧ a = y.a ∧ b = y.b) := by
  subst hE
  constructor
  · rintro ⟨f, z, h1, h2, h3, h4, h5, h6⟩
    by_cases ef : f = e
    · subst ef; rw [updQ_at] at h2; cases h2; exact .inr ⟨h4, h5.symm, h6.symm⟩
    · rw [updQ_ne ef] at h2; exact .inl ⟨f, z, h1, h2, h3, h4, h5, h6⟩
  · rintro (⟨f, z, h1, h2, h3, h4, h5, h6⟩ | ⟨h1, rfl, rfl⟩)
    · by_cases ef : f = e
      · subst ef; rw [hold z h2] at h3; cases h3
      · exact ⟨f, z, h1, by rw [updQ_ne ef]; exact h2, h3, h4, h5, h6⟩
    · exact ⟨e, y, hS, updQ_at _ _ _, hy, h1, rfl, rfl⟩
theorem te_set_no {E' : EM} {e : Int} {y : Eg} (hE : E' = updQ E e (some y)) (hold : ∀ x, E e = some x → x.t = false) {S' : Int → Prop} (hS : S' e) (j a b : Int) : Te E' S' j a b ↔ Te E S' j a b := by
  subst hE
  constructor
  · rintro ⟨f, z, h1, h2, h3⟩
    have ef : f ≠ e := fun k => h1 (k ▸ hS)
    rw [updQ_ne ef] at h2; exact ⟨f, z, h1, h2, h3⟩
  · rintro ⟨f, z, h1, h2, h3⟩
    have ef : f ≠ e := fun k => h1 (k ▸ hS)
    exact ⟨f, z, h1, by rw [updQ_ne ef]; exact h2, h3⟩
theorem Acy.set {E' : EM} {e : Int} {y : Eg} (h : Acy E S) (hE : E' = updQ E e (some y)) (hy : y.t = true) (hold : ∀ x, E e = some x → x.t = false) (hS : ¬ S e) (h0 : ∀ e x, E e = some x → 0 ≤ x.l) (hj : ¬ Jn (Te E S 0) y.a y.b) : Acy E' S := by
  intro f z h1 h2 h3 k
  by_cases ef : f = e
  · subst ef
    rw [hE, updQ_at] at h2; cases h2
    refine hj (k.sub fun a b r => ?_)
    obtain ⟨f', z', g1, g2⟩ := (te_set_no hE hold (S' := fun k => S k ∨ k = f) (.inr rfl) 0 a b).1 r
    exact ⟨f', z', fun k => g1 (.inl k), g2⟩
  · have hf : E f = some z := by rw [hE, updQ_ne ef] at h2; exact h2
    have k' : Jn (fun a b => Te E (fun k => S k ∨ k = f) 0 a b ∨ (a = y.a ∧ b = y.b)) z.a z.b := k.sub fun a b r => by
      rcases (te_set hE hy hold (S' := fun k => S k ∨ k = f) (fun k => k.elim hS (fun k => ef k.symm)) 0 a b).1 r with r | ⟨_, r⟩
      · exact .inl r
      · exact .inr r
    have up : ∀ a b, Jn (Te E (fun k => S k ∨ k = f) 0) a b → Jn (Te E S 0) a b := fun a b k => k.sub fun a b ⟨f', z', g1, g2⟩ => ⟨f', z', fun k => g1 (.inl k), g2⟩
    have edge : Jn (Te E S 0) z.a z.b := Jn.one ⟨f, z, h1, hf, h3, h0 f z hf, rfl, rfl⟩
    rcases Jn.more.1 k' with k1 | ⟨k1, k2⟩ | ⟨k1, k2⟩
    · exact h f z h1 hf h3 k1
    · exact hj (((up _ _ k1).symm.trans edge).trans (up _ _ k2).symm)
    · exact hj (((up _ _ k2).trans edge.symm).trans (up _ _ k1))
/-- A list parted by whom it is joined to. -/
theorem part_len (T : List Int) (P : Int → Prop) [DecidablePred P] : T.length = (T.filter fun u => decide (P u)).length + (T.filter fun u => decide (¬ P u)).length := by
  induction T with
  | nil => rfl
  | cons a T ih =>
    by_cases h : P a
    · rw [List.filter_cons_of_pos (by simpa using h), List.filter_cons_of_neg (by simpa using h)]; simp only [List.length_cons]; omega
    · rw [List.filter_cons_of_neg (by simpa using h), List.filter_cons_of_pos (by simpa using h)]; simp only [List.length_cons]; omega
/-- A loose edge becomes a tree edge. -/
theorem Rp.bind {i : Nat} (h : Rp E S n m go i) {e : Int} {x : Eg} (hx : E e = some x) (ht : x.t = false) (hS : ¬ S e) (hl : x.l = i) (hj : ¬ Jn (Te E S i) x.a x.b) :
    (∀ j : Int, 0 ≤ j → j ≤ i → ¬ Jn (Te E S j) x.a x.b) ∧ Acy (updQ E e (some ⟨x.a, x.b, x.l, true⟩)) S ∧ Sz (updQ E e (some ⟨x.a, x.b, x.l, true⟩)) S n m ∧ Bb (updQ E e (some ⟨x.a, x.b, x.l, true⟩)) S := by
  obtain ⟨E', hE⟩ : ∃ E', E' = updQ E e (some ⟨x.a, x.b, x.l, true⟩) := ⟨_, rfl⟩
  rw [← hE]
  have hold : ∀ y, E e = some y → y.t = false := fun y hy => by rw [hx] at hy; cases hy; exact ht
  have tset := fun (j a b : Int) => te_set hE rfl hold (S' := S) hS j a b
  -- the ends lie on the two sides
  have hc : (Jn (Te E S i) x.a go.a ∧ Jn (Te E S i) go.b x.b) ∨ (Jn (Te E S i) x.a go.b ∧ Jn (Te E S i) go.a x.b) := by
    rcases h.b e x hS hx ht with k | ⟨k1, k2⟩
    · rw [hl] at k; exact absurd k hj
    · rw [hl] at k2
      rcases Tg.jn.1 k2 with k | k | k
      · exact absurd k hj
      · exact .inl k
      · exact .inr k
  have nj : ∀ j : Int, 0 ≤ j → j ≤ i → ¬ Jn (Te E S j) x.a x.b := fun j h0 hji k => by
    have k0 := k.low h0
    rcases hc with ⟨c1, c2⟩ | ⟨c1, c2⟩
    · exact h.nj (((c1.low (by omega)).symm.trans k0).trans (c2.low (by omega)).symm)
    · exact h.nj (((c2.low (by omega)).trans k0.symm).trans (c1.low (by omega)))
  have mono : ∀ j a b, Te E S j a b → Te E' S j a b := fun j a b k => (tset j a b).2 (.inl k)
  -- what was joined by the edge that is gone is joined anew
  have gl : ∀ j : Int, j ≤ i → ∀ a b, Jn (Tg E S go j) a b → Jn (Te E' S j) a b := fun j hji a b k => by
    have ed : Jn (Te E' S j) x.a x.b := Jn.one ((tset j _ _).2 (.inr ⟨by show j ≤ x.l; omega, rfl, rfl⟩))
    have gg : Jn (Te E' S j) go.a go.b := by
      rcases hc with ⟨c1, c2⟩ | ⟨c1, c2⟩
      · exact (((c1.low hji).sub (mono j)).symm.trans ed).trans ((c2.low hji).sub (mono j)).symm
      · exact (((c2.low hji).sub (mono j)).trans ed.symm).trans ((c1.low hji).sub (mono j))
    refine k.lift fun a b r => ?_
    rcases r with r | ⟨rfl, rfl⟩
    · exact Jn.one (mono j a b r)
    · exact gg
  refine ⟨nj, h.acy.set hE rfl hold hS h.l0 (nj 0 (Int.le_refl _) (by omega)), fun j hjm v T d1 d2 => ?_, fun f z h1 h2 h3 => ?_⟩
  · by_cases hji : (j : Int) ≤ i
    · -- who is joined to v
      have dec : ∀ u ∈ T, Jn (Te E S j) v u ∨ (Jn (Te E S j) v x.a ∧ Jn (Te E S j) x.b u) ∨ (Jn (Te E S j) v x.b ∧ Jn (Te E S j) x.a u) := fun u hu => by
        have k : Jn (fun a b => Te E S j a b ∨ (a = x.a ∧ b = x.b)) v u := (d2 u hu).sub fun a b r => by
          rcases (tset j a b).1 r with r | ⟨_, r⟩
          · exact .inl r
          · exact .inr r
        exact Jn.more.1 k
      by_cases hv : Jn (Te E S j) v x.a ∨ Jn (Te E S j) v x.b
      · have side : ∀ u ∈ T, Jn (Te E S j) go.a u ∨ Jn (Te E S j) go.b u := fun u hu => by
          have hxu : Jn (Te E S j) x.a u ∨ Jn (Te E S j) x.b u := by
            rcases dec u hu with k | ⟨_, k⟩ | ⟨_, k⟩
            · rcases hv with hv | hv
              · exact .inl (hv.symm.trans k)
              · exact .inr (hv.symm.trans k)
            · exact .inr k
            · exact .inl k
          rcases hc with ⟨c1, c2⟩ | ⟨c1, c2⟩
          · rcases hxu with k | k
            · exact .inl ((c1.low hji).symm.trans k)
            · exact .inr ((c2.low hji).trans k)
          · rcases hxu with k | k
            · exact .inr ((c1.low hji).symm.trans k)
            · exact .inl ((c2.low hji).trans k)
        classical
        have hp := part_len T (fun u => Jn (Te E S j) go.a u)
        have := h.c j hji hjm (T.filter fun u => decide (Jn (Te E S j) go.a u)) (T.filter fun u => decide (¬ Jn (Te E S j) go.a u)) (d1.sublist List.filter_sublist) (d1.sublist List.filter_sublist) (fun u hu => by simpa using (List.mem_filter.1 hu).2) (fun u hu => by
          obtain ⟨k1, k2⟩ := List.mem_filter.1 hu
          exact (side u k1).resolve_left (by simpa using k2))
        rw [hp]
        simpa using this
      · refine h.sz j hjm v T d1 fun u hu => ?_
        rcases dec u hu with k | ⟨k, _⟩ | ⟨k, _⟩
        · exact k
        · exact absurd (.inl k) hv
        · exact absurd (.inr k) hv
    · refine h.sz j hjm v T d1 fun u hu => (d2 u hu).sub fun a b r => ?_
      rcases (tset j a b).1 r with r | ⟨r, _⟩
      · exact r
      · have : (j : Int) ≤ x.l := r; omega
  · have ef : f ≠ e := fun k => by subst k; rw [hE, updQ_at] at h2; cases h2; cases h3
    have hf : E f = some z := by rw [hE, updQ_ne ef] at h2; exact h2
    rcases h.b f z h1 hf h3 with k | ⟨k1, k2⟩
    · exact k.sub (mono _)
    · exact gl _ k1 _ _ k2
/-! A graph at rest. -/
/-- The edges of a graph at rest: V its vertices. -/
structure Rest (E : EM) (V : List Int) (n : Int) (m : Nat) : Prop where
  acy : Acy E (fun _ => False)
  sz : Sz E (fun _ => False) n m
  b : Bb E (fun _ => False)
  l0 : ∀ e x, E e = some x → 0 ≤ x.l ∧ x.l < m
  v : ∀ e x, E e = some x → x.a ≠ x.b ∧ x.a ∈ V ∧ x.b ∈ V
/-- What edges join, tree edges join. -/
theorem Rest.joins {V : List Int} (h : Rest E V n m) (a b : Int) : Jn (Ae E) a b ↔ Jn (Te E (fun _ => False) 0) a b := by
  constructor
  · intro k
    refine k.lift fun a b ⟨e, x, h1, h2, h3⟩ => ?_
    subst h2 h3
    cases ht : x.t with
    | true => exact Jn.one ⟨e, x, fun k => k, h1, ht, (h.l0 e x h1).1, rfl, rfl⟩
    | false => exact (h.b e x (fun k => k) h1 ht).low (h.l0 e x h1).1
  · exact fun k => k.sub fun a b ⟨e, x, h1, h2, h3, h4, h5, h6⟩ => ⟨e, x, h2, h5, h6⟩
theorem mem_of_jn {R : Int → Int → Prop} {V : List Int} (hR : ∀ a b, R a b → a ∈ V ∧ b ∈ V) {v u : Int} (k : Jn R v u) : u = v ∨ (u ∈ V ∧ v ∈ V) := by
  induction k with
  | refl => exact .inl rfl
  | step hp e ih =>
    rcases e with e | e
    · rcases ih with rfl | ih
      · exact .inr ⟨(hR _ _ e).2, (hR _ _ e).1⟩
      · exact .inr ⟨(hR _ _ e).2, ih.2⟩
    · rcases ih with rfl | ih
      · exact .inr ⟨(hR _ _ e).1, (hR _ _ e).2⟩
      · exact .inr ⟨(hR _ _ e).1, ih.2⟩
/-- A tree edge is put in. -/
theorem Rest.insTree {V : List Int} (h : Rest E V n m) (hV : (V.length : Int) ≤ n) (hn : 1 ≤ n) (hm : 1 ≤ m) {e a b : Int} (he : E e = none) (ha : a ∈ V) (hb : b ∈ V) (hab : a ≠ b) (hj : ¬ Jn (Te E (fun _ => False) 0) a b) : Rest (updQ E e (some ⟨a, b, 0, true⟩)) V n m := by
  obtain ⟨E', hE⟩ : ∃ E', E' = updQ E e (some ⟨a, b, 0, true⟩) := ⟨_, rfl⟩
  rw [← hE]
  have hold : ∀ y, E e = some y → y.t = false := fun y hy => by rw [he] at hy; cases hy
  have tset := fun (j a' b' : Int) => te_set hE rfl hold (S' := fun _ => False) (fun k => k) j a' b'
  have old : ∀ f y, E' f = some y → (f = e ∧ y = ⟨a, b, 0, true⟩) ∨ (f ≠ e ∧ E f = some y) := fun f y hy => by
    rw [hE] at hy
    by_cases ef : f = e
    · subst ef; rw [updQ_at] at hy; cases hy; exact .inl ⟨rfl, rfl⟩
    · rw [updQ_ne ef] at hy; exact .inr ⟨ef, hy⟩
  refine ⟨h.acy.set hE rfl hold (fun k => k) (fun e x k => (h.l0 e x k).1) hj, fun j hjm v T d1 d2 => ?_, fun f z h1 h2 h3 => ?_, fun f z h1 => ?_, fun f z h1 => ?_⟩
  · by_cases hj0 : j = 0
    · subst hj0
      have hT : (T.length : Int) ≤ n := by
        have hsub : ∀ u ∈ T, u = v ∨ u ∈ V := fun u hu => by
          rcases mem_of_jn (V := V) (fun a' b' r => by
            rcases (tset _ a' b').1 r with ⟨f, y, _, g2, _, _, rfl, rfl⟩ | ⟨_, rfl, rfl⟩
            · exact (h.v f y g2).2
            · exact ⟨ha, hb⟩) (d2 u hu) with k | k
          · exact .inl k
          · exact .inr k.1
        by_cases hv : v ∈ V
        · have := d1.length_le_of_subset (l₂ := V) (fun u hu => (hsub u hu).elim (fun k => k ▸ hv) id)
          omega
        · have := d1.length_le_of_subset (l₂ := [v]) (fun u hu => by
            rcases mem_of_jn (V := V) (fun a' b' r => by
              rcases (tset _ a' b').1 r with ⟨f, y, _, g2, _, _, rfl, rfl⟩ | ⟨_, rfl, rfl⟩
              · exact (h.v f y g2).2
              · exact ⟨ha, hb⟩) (d2 u hu) with k | k
            · simp [k]
            · exact absurd k.2 hv)
          simp at this
          omega
      simpa using hT
    · refine h.sz j hjm v T d1 fun u hu => (d2 u hu).sub fun a' b' r => ?_
      rcases (tset j a' b').1 r with r | ⟨r, _⟩
      · exact r
      · have : (j : Int) ≤ 0 := r; omega
  · rcases old f z h2 with ⟨rfl, rfl⟩ | ⟨_, k⟩
    · cases h3
    · exact (h.b f z h1 k h3).sub fun a' b' r => (tset _ a' b').2 (.inl r)
  · rcases old f z h1 with ⟨rfl, rfl⟩ | ⟨_, k⟩
    · exact ⟨Int.le_refl _, by show (0 : Int) < m; omega⟩
    · exact h.l0 f z k
  · rcases old f z h1 with ⟨rfl, rfl⟩ | ⟨_, k⟩
    · exact ⟨hab, ha, hb⟩
    · exact h.v f z k
/-- Loose edges do not count. -/
theorem te_congr {E' : EM} {S S' : Int → Prop} (h : ∀ e x, x.t = true → ((¬ S e ∧ E e = some x) ↔ (¬ S' e ∧ E' e = some x))) (j a b : Int) : Te E S j a b ↔ Te E' S' j a b := by
  constructor
  · rintro ⟨f, y, h1, h2, h3, h4⟩
    obtain ⟨k1, k2⟩ := (h f y h3).1 ⟨h1, h2⟩
    exact ⟨f, y, k1, k2, h3, h4⟩
  · rintro ⟨f, y, h1, h2, h3, h4⟩
    obtain ⟨k1, k2⟩ := (h f y h3).2 ⟨h1, h2⟩
    exact ⟨f, y, k1, k2, h3, h4⟩
/-- The same tree edges; the loose ones are among those that were, or joined. -/
theorem Rest.loose {E' : EM} {S : Int → Prop} {V : List Int} (ha : Acy E S) (hs : Sz E S n m) (hE : ∀ e x, x.t = true → ((¬ S e ∧ E e = some x) ↔ E' e = some x)) (hb : ∀ e x, E' e = some x → x.t = false → Jn (Te E S x.l) x.a x.b) (hl : ∀ e x, E' e = some x → 0 ≤ x.l ∧ x.l < m) (hv : ∀ e x, E' e = some x → x.a ≠ x.b ∧ x.a ∈ V ∧ x.b ∈ V) : Rest E' V n m := by
  have tc : ∀ j a b, Te E S j a b ↔ Te E' (fun _ => False) j a b := te_congr fun e x ht => by rw [hE e x ht]; simp
  have jc : ∀ j a b, Jn (Te E S j) a b ↔ Jn (Te E' (fun _ => False) j) a b := fun j a b => jn_iff (tc j)
  refine ⟨fun e x h1 h2 h3 k => ?_, fun i hi v T d1 d2 => hs i hi v T d1 fun u hu => (jc _ _ _).2 (d2 u hu), fun e x h1 h2 h3 => (jc _ _ _).1 (hb e x h2 h3), hl, hv⟩
  obtain ⟨g1, g2⟩ := (hE e x h3).2 h2
  refine ha e x g1 g2 h3 (k.sub fun a b ⟨f, y, k1, k2, k3, k4⟩ => ?_)
  obtain ⟨q1, q2⟩ := (hE f y k3).2 k2
  exact ⟨f, y, fun q => q.elim q1 (fun q => k1 (.inr q)), q2, k3, k4⟩
end
end Go.Proofs.YtcbgeahcnjamdabGreat
