/- Layer 9 (edges), plain: lists of numbers of which the last one takes the place of one that is taken; where each stands. -/
import Derived.Test.YtcbgeahcnjamdabGreatMapVal
namespace Go.Proofs.YtcbgeahcnjamdabGreat
open Go.RowKit
set_option linter.unusedVariables false

/-- Where a number stands in a list. -/
def posL (l : List Int) (e : Int) : Option Value := if e ∈ l then some (.int .i64 (l.idxOf e)) else none
/-- A number is taken: the last one takes its place. -/
def delL (l : List Int) (e : Int) : List Int := (l.set (l.idxOf e) (lAt l (l.length - 1))).take (l.length - 1)
theorem posL_nil (e : Int) : posL [] e = none := by simp [posL]
theorem posL_some {l : List Int} {e : Int} : (posL l e).isSome = true ↔ e ∈ l := by unfold posL; split <;> simp_all
theorem posL_isSome (l : List Int) (e : Int) : (posL l e).isSome = decide (e ∈ l) := by unfold posL; split <;> simp_all
theorem posL_get {l : List Int} {e : Int} (h : e ∈ l) (z : Value) : (posL l e).getD z = .int .i64 (l.idxOf e) := by simp [posL, h]
theorem posL_snoc {l : List Int} {e : Int} (h : e ∉ l) : posL (l ++ [e]) = updQ (posL l) e (some (.int .i64 l.length)) := by
  funext x
  unfold updQ
  split
  · rename_i hx; subst hx
    simp [posL, List.idxOf_append, h]
  · rename_i hx
    unfold posL
    by_cases hl : x ∈ l
    · simp [hl, List.idxOf_append]
    · simp [hl, hx]
theorem mem_cut {l : List Int} {e : Int} (h : e ∈ l) (hn : l.Nodup) : (∃ P, l = P ++ [e] ∧ e ∉ P) ∨ ∃ P M y, l = P ++ e :: (M ++ [y]) ∧ e ∉ P ∧ e ∉ M ∧ e ≠ y ∧ y ∉ P ∧ y ∉ M := by
  obtain ⟨P, R, rfl⟩ := List.append_of_mem h
  rw [List.nodup_append] at hn
  obtain ⟨h1, h2, h3⟩ := hn
  rcases List.eq_nil_or_concat R with rfl | ⟨M, y, rfl⟩
  · exact .inl ⟨P, rfl, fun hp => h3 e hp e (by simp) rfl⟩
  · simp only [List.concat_eq_append] at *
    rw [List.nodup_cons, List.nodup_append] at h2
    obtain ⟨g1, g2, g3, g4⟩ := h2
    refine .inr ⟨P, M, y, rfl, fun hp => h3 e hp e (by simp) rfl, fun hm => g1 (by simp [hm]), fun hy => g1 (by simp [hy]), fun hp => h3 y hp y (by simp) rfl, fun hm => g4 y hm y (by simp) rfl⟩
theorem idx_mid {P R : List Int} {e : Int} (h : e ∉ P) : (P ++ e :: R).idxOf e = P.length := by
  rw [List.idxOf_append, if_neg h]; simp
theorem delL_end {P : List Int} {e : Int} (h : e ∉ P) : delL (P ++ [e]) e = P := by
  unfold delL
  rw [idx_mid h]
  have e1 : (P ++ [e]).length - 1 = P.length := by simp
  rw [e1, List.set_append_right _ _ (Nat.le_refl _)]
  simp
theorem delL_mid {P M : List Int} {e y : Int} (h : e ∉ P) : delL (P ++ e :: (M ++ [y])) e = P ++ y :: M := by
  unfold delL
  rw [idx_mid h]
  have e1 : (P ++ e :: (M ++ [y])).length - 1 = P.length + (M.length + 1) := by simp
  have e2 : lAt (P ++ e :: (M ++ [y])) (P.length + (M.length + 1)) = y := by
    unfold lAt
    rw [List.getD_eq_getElem?_getD, List.getElem?_append_right (by omega)]
    simp
  rw [e1, e2, List.set_append_right _ _ (Nat.le_refl _)]
  simp [List.take_append]
  exact List.take_of_length_le (by omega)
theorem idx_lt {l : List Int} {e : Int} (h : e ∈ l) : l.idxOf e < l.length := List.idxOf_lt_length_of_mem h
theorem lAt_last_end (P : List Int) (e : Int) : lAt (P ++ [e]) P.length = e := by simp [lAt]
theorem posL_del {l : List Int} {e : Int} (h : e ∈ l) (hn : l.Nodup) : posL (delL l e) = updQ (updQ (posL l) (lAt l (l.length - 1)) (some (.int .i64 (l.idxOf e)))) e none := by
  rcases mem_cut h hn with ⟨P, rfl, h1⟩ | ⟨P, M, y, rfl, h1, h2, h3, h4, h5⟩
  · rw [delL_end h1, idx_mid h1]
    have e1 : (P ++ [e]).length - 1 = P.length := by simp
    rw [e1, lAt_last_end]
    funext x
    unfold updQ
    split
    · rename_i hx; subst hx; simp [posL, h1]
    · rename_i hx
      by_cases hl : x ∈ P
      · simp [posL, hl, List.idxOf_append]
      · simp [posL, hl, hx]
  · rw [delL_mid h1, idx_mid h1]
    have e1 : (P ++ e :: (M ++ [y])).length - 1 = P.length + (M.length + 1) := by simp
    have e2 : lAt (P ++ e :: (M ++ [y])) (P.length + (M.length + 1)) = y := by
      unfold lAt
      rw [List.getD_eq_getElem?_getD, List.getElem?_append_right (by omega)]
      simp
    rw [e1, e2]
    funext x
    unfold updQ
    split
    · rename_i hx; subst hx; simp [posL, h1, h2, h3]
    · rename_i hx
      split
      · rename_i hy; subst hy
        simp [posL, idx_mid h4]
      · rename_i hy
        by_cases hl : x ∈ P
        · simp [posL, hl, List.idxOf_append]
        · by_cases hm : x ∈ M
          · simp [posL, hl, hm, hx, hy, List.idxOf_append, List.idxOf_cons, beq_eq_false_iff_ne.2 (Ne.symm hx), beq_eq_false_iff_ne.2 (Ne.symm hy)]
          · simp [posL, hl, hm, hx, hy]
theorem delL_mem {l : List Int} {e x : Int} (h : e ∈ l) (hn : l.Nodup) : x ∈ delL l e ↔ x ∈ l ∧ x ≠ e := by
  rcases mem_cut h hn with ⟨P, rfl, h1⟩ | ⟨P, M, y, rfl, h1, h2, h3, h4, h5⟩
  · rw [delL_end h1]
    constructor
    · intro hx; exact ⟨by simp [hx], fun e1 => h1 (e1 ▸ hx)⟩
    · rintro ⟨hx, hne⟩; simpa [hne] using hx
  · rw [delL_mid h1]
    constructor
    · intro hx
      refine ⟨by simp at hx ⊢; rcases hx with h | h | h <;> simp [h], fun e1 => ?_⟩
      subst e1
      simp [h1, h2, h3] at hx
    · rintro ⟨hx, hne⟩
      simp [hne] at hx ⊢
      rcases hx with h | h | h <;> simp [h]
theorem delL_nodup {l : List Int} {e : Int} (h : e ∈ l) (hn : l.Nodup) : (delL l e).Nodup := by
  rcases mem_cut h hn with ⟨P, rfl, h1⟩ | ⟨P, M, y, rfl, h1, h2, h3, h4, h5⟩
  · rw [delL_end h1]; rw [List.nodup_append] at hn; exact hn.1
  · rw [delL_mid h1]
    rw [List.nodup_append, List.nodup_cons, List.nodup_append] at hn
    obtain ⟨a1, ⟨a2, a3, a4, a5⟩, a6⟩ := hn
    rw [List.nodup_append, List.nodup_cons]
    refine ⟨a1, ⟨h5, a3⟩, fun u hu v hv => ?_⟩
    simp at hv
    rcases hv with rfl | hv
    · rintro rfl; exact h4 hu
    · exact a6 u hu v (by simp [hv])
theorem delL_len {l : List Int} {e : Int} (h : e ∈ l) : (delL l e).length = l.length - 1 := by
  unfold delL; rw [List.length_take, List.length_set]; omega

/-- What stands where; how many in all. -/
structure Bg where
  L : Int × Int → List Int
  n : Nat
def bg0 : Bg := ⟨fun _ => [], 0⟩
def Bg.put (s : Bg) (a : Int × Int) (e : Int) : Bg := ⟨updQ s.L a (s.L a ++ [e]), s.n + 1⟩
def Bg.take (s : Bg) (a : Int × Int) (e : Int) : Bg := ⟨updQ s.L a (delL (s.L a) e), s.n - 1⟩
/-- What each place's number is, by vertex, level and number. -/
def Bg.pos (s : Bg) (x : Int × Int × Int) : Option Value := posL (s.L (x.1, x.2.1)) x.2.2
/-- A bag's state, of which at most k were put in. -/
structure Bg.Ok (s : Bg) (k : Nat) : Prop where
  key : ∀ a, s.L a ≠ [] → okP a ∧ 0 ≤ a.2 ∧ a.2 ≤ 63
  nodup : ∀ a, (s.L a).Nodup
  num : ∀ a e, e ∈ s.L a → 1 ≤ e ∧ e ≤ 9223372036854775807
  len : ∀ a, (s.L a).length ≤ k
  le : s.n ≤ k
theorem bg0_ok (k : Nat) : bg0.Ok k := ⟨fun a h => absurd rfl h, fun a => by simp [bg0], fun a e h => by simp [bg0] at h, fun a => by simp [bg0], by simp [bg0]⟩
theorem Bg.Ok.mono {s : Bg} {k k' : Nat} (h : s.Ok k) (hk : k ≤ k') : s.Ok k' := ⟨h.key, h.nodup, h.num, fun a => Nat.le_trans (h.len a) hk, Nat.le_trans h.le hk⟩
theorem Bg.Ok.put {s : Bg} {k : Nat} (h : s.Ok k) {a : Int × Int} {e : Int} (ha : okP a) (h0 : 0 ≤ a.2) (h1 : a.2 ≤ 63) (he : 1 ≤ e) (he1 : e ≤ 9223372036854775807) (hn : e ∉ s.L a) : (s.put a e).Ok (k + 1) := by
  refine ⟨fun x hx => ?_, fun x => ?_, fun x u hu => ?_, fun x => ?_, ?_⟩
  · by_cases hxa : x = a
    · subst hxa; exact ⟨ha, h0, h1⟩
    · exact h.key x (by simpa [Bg.put, updQ_ne hxa] using hx)
  · by_cases hxa : x = a
    · subst hxa
      simp only [Bg.put, updQ_at]
      rw [List.nodup_append]
      exact ⟨h.nodup x, by simp, fun u hu v hv => by simp at hv; subst hv; rintro rfl; exact hn hu⟩
    · simp only [Bg.put, updQ_ne hxa]; exact h.nodup x
  · by_cases hxa : x = a
    · subst hxa
      simp [Bg.put, updQ_at] at hu
      rcases hu with hu | rfl
      · exact h.num x u hu
      · exact ⟨he, he1⟩
    · simp only [Bg.put, updQ_ne hxa] at hu; exact h.num x u hu
  · by_cases hxa : x = a
    · subst hxa; simp only [Bg.put, updQ_at, List.length_append, List.length_singleton]; have := h.len x; omega
    · simp only [Bg.put, updQ_ne hxa]; have := h.len x; omega
  · have := h.le; simp only [Bg.put]; omega
theorem Bg.Ok.take {s : Bg} {k : Nat} (h : s.Ok k) {a : Int × Int} {e : Int} (hm : e ∈ s.L a) : (s.take a e).Ok k := by
  have hl := delL_len hm
  refine ⟨fun x hx => ?_, fun x => ?_, fun x u hu => ?_, fun x => ?_, ?_⟩
  · by_cases hxa : x = a
    · subst hxa; exact h.key x (fun e0 => by rw [e0] at hm; simp at hm)
    · exact h.key x (by simpa [Bg.take, updQ_ne hxa] using hx)
  · by_cases hxa : x = a
    · subst hxa; simp only [Bg.take, updQ_at]; exact delL_nodup hm (h.nodup x)
    · simp only [Bg.take, updQ_ne hxa]; exact h.nodup x
  · by_cases hxa : x = a
    · subst hxa
      simp only [Bg.take, updQ_at] at hu
      exact h.num x u ((delL_mem hm (h.nodup x)).1 hu).1
    · simp only [Bg.take, updQ_ne hxa] at hu; exact h.num x u hu
  · by_cases hxa : x = a
    · subst hxa; simp only [Bg.take, updQ_at]; have := h.len x; omega
    · simp only [Bg.take, updQ_ne hxa]; exact h.len x
  · have := h.le; simp only [Bg.take]; omega
theorem Bg.pos_put {s : Bg} {a : Int × Int} {e : Int} (h : e ∉ s.L a) : (s.put a e).pos = updQ s.pos (a.1, a.2, e) (some (.int .i64 (s.L a).length)) := by
  funext x
  obtain ⟨v, l, u⟩ := x
  obtain ⟨v', l'⟩ := a
  by_cases hx : (v, l) = (v', l')
  · cases hx
    have h1 := congrFun (posL_snoc h) u
    simp only [Bg.pos, Bg.put, updQ_at]
    rw [h1]
    by_cases hu : u = e
    · subst hu; rw [updQ_at, updQ_at]
    · rw [updQ_ne hu, updQ_ne (by simpa using hu)]; rfl
  · rw [updQ_ne (by intro h1; cases h1; exact hx rfl)]
    simp only [Bg.pos, Bg.put]
    rw [updQ_ne hx]
theorem Bg.pos_take {s : Bg} {a : Int × Int} {e : Int} (h : e ∈ s.L a) (hn : (s.L a).Nodup) : (s.take a e).pos = updQ (updQ s.pos (a.1, a.2, lAt (s.L a) ((s.L a).length - 1)) (some (.int .i64 ((s.L a).idxOf e)))) (a.1, a.2, e) none := by
  funext x
  obtain ⟨v, l, u⟩ := x
  obtain ⟨v', l'⟩ := a
  by_cases hx : (v, l) = (v', l')
  · cases hx
    have h1 := congrFun (posL_del h hn) u
    simp only [Bg.pos, Bg.take, updQ_at]
    rw [h1]
    by_cases hu : u = e
    · subst hu; rw [updQ_at, updQ_at]
    · have hne : ((v, l, u) : Int × Int × Int) ≠ (v, l, e) := by intro h1; apply hu; simpa using h1
      rw [updQ_ne hu, updQ_ne hne]
      generalize lAt (s.L (v, l)) ((s.L (v, l)).length - 1) = y
      by_cases hy : u = y
      · subst hy; rw [updQ_at, updQ_at]
      · rw [updQ_ne hy, updQ_ne (by intro h1; apply hy; simpa using h1)]; rfl
  · rw [updQ_ne (by intro h1; cases h1; exact hx rfl), updQ_ne (by intro h1; cases h1; exact hx rfl)]
    simp only [Bg.pos, Bg.take]
    rw [updQ_ne hx]
end Go.Proofs.YtcbgeahcnjamdabGreat
