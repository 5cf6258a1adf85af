/- Layer 3 (cells) in plain mathematics: a grid's kinds are a list of integers; edits are pairs (cell, kind). -/
import Derived.Lib.SlicesCompact
namespace Go.Proofs.Ytcflbekjiohfnaa
set_option linter.unusedVariables false

abbrev Ed := Int × Int
def eAt (es : List Ed) (i : Nat) : Ed := es.getD i (0, 0)
def lAt (L : List Int) (i : Nat) : Int := L.getD i 0
def put (L : List Int) (c k : Int) : List Int := L.set c.toNat k
def puts (L : List Int) (es : List Ed) : List Int := es.foldl (fun L e => put L e.1 e.2) L
/-- The cells below m whose kind is another one, rising. -/
def diffsTo (L L' : List Int) (m : Nat) : List Int := ((List.range m).filter fun i => lAt L' i != lAt L i).map fun i : Nat => (i : Int)
def diffs (L L' : List Int) : List Int := diffsTo L L' L.length

theorem eAt_eq {es : List Ed} {i : Nat} (h : i < es.length) : eAt es i = es[i] := by
  unfold eAt; rw [List.getD_eq_getElem?_getD, List.getElem?_eq_getElem h]; rfl
theorem eAt_mem {es : List Ed} {i : Nat} (h : i < es.length) : eAt es i ∈ es := by rw [eAt_eq h]; exact List.getElem_mem h
theorem lAt_eq {L : List Int} {i : Nat} (h : i < L.length) : lAt L i = L[i] := by
  unfold lAt; rw [List.getD_eq_getElem?_getD, List.getElem?_eq_getElem h]; rfl
theorem lAt_mem {L : List Int} {i : Nat} (h : i < L.length) : lAt L i ∈ L := by rw [lAt_eq h]; exact List.getElem_mem h
theorem lAt_some {L : List Int} {i : Nat} (h : i < L.length) : L[i]? = some (lAt L i) := by rw [lAt_eq h]; exact List.getElem?_eq_getElem h
theorem lAt_out {L : List Int} {i : Nat} (h : L.length ≤ i) : lAt L i = 0 := by
  unfold lAt; rw [List.getD_eq_getElem?_getD, List.getElem?_eq_none h]; rfl
theorem etake_snoc {es : List Ed} {i : Nat} (h : i < es.length) : es.take (i + 1) = es.take i ++ [eAt es i] := by
  rw [eAt_eq h, List.take_add_one, List.getElem?_eq_getElem h]; rfl
theorem ltake_snoc {L : List Int} {i : Nat} (h : i < L.length) : L.take (i + 1) = L.take i ++ [lAt L i] := by
  rw [lAt_eq h, List.take_add_one, List.getElem?_eq_getElem h]; rfl
theorem list_ext {L M : List Int} (hl : L.length = M.length) (h : ∀ i, i < L.length → lAt L i = lAt M i) : L = M := by
  apply List.ext_getElem hl
  intro i h1 h2
  have := h i h1
  rwa [lAt_eq h1, lAt_eq h2] at this

theorem put_len (L : List Int) (c k : Int) : (put L c k).length = L.length := by simp [put]
theorem puts_len (es : List Ed) : ∀ L : List Int, (puts L es).length = L.length := by
  induction es with
  | nil => intro L; rfl
  | cons e es ih => intro L; show (puts (put L e.1 e.2) es).length = _; rw [ih, put_len]
theorem puts_append (L : List Int) (es fs : List Ed) : puts L (es ++ fs) = puts (puts L es) fs := by simp [puts, List.foldl_append]
theorem puts_one (L : List Int) (c k : Int) : puts L [(c, k)] = put L c k := rfl
theorem puts_snoc (L : List Int) {es : List Ed} {i : Nat} (h : i < es.length) : puts L (es.take (i + 1)) = put (puts L (es.take i)) (eAt es i).1 (eAt es i).2 := by
  rw [etake_snoc h, puts_append]; rfl
theorem lAt_put {L : List Int} {c k : Int} {i : Nat} (h0 : 0 ≤ c) (hi : i < L.length) : lAt (put L c k) i = if (i : Int) = c then k else lAt L i := by
  have h1 : i < (put L c k).length := by rw [put_len]; exact hi
  rw [lAt_eq h1, lAt_eq hi]
  simp only [put, List.getElem_set]
  by_cases h : c.toNat = i
  · rw [if_pos h, if_pos (by omega)]
  · rw [if_neg h, if_neg (by omega)]
theorem lAt_put' {L : List Int} {c k : Int} {i : Nat} (h0 : 0 ≤ c) (hne : (i : Int) ≠ c) : lAt (put L c k) i = lAt L i := by
  by_cases hi : i < L.length
  · rw [lAt_put h0 hi, if_neg hne]
  · rw [lAt_out (by rw [put_len]; omega), lAt_out (by omega)]
theorem lAt_puts_out (i : Nat) (es : List Ed) : ∀ L : List Int, (∀ e ∈ es, 0 ≤ e.1 ∧ (i : Int) ≠ e.1) → lAt (puts L es) i = lAt L i := by
  induction es with
  | nil => intro L _; rfl
  | cons e es ih =>
    intro L h
    show lAt (puts (put L e.1 e.2) es) i = _
    rw [ih _ (fun e he => h e (List.mem_cons_of_mem _ he)), lAt_put' (h e List.mem_cons_self).1 (h e List.mem_cons_self).2]

/-- All kinds are kinds of the table. -/
def Kin (n : Int) (L : List Int) : Prop := ∀ x ∈ L, 0 ≤ x ∧ x < n
theorem Kin.at {n : Int} {L : List Int} (h : Kin n L) {i : Nat} (hi : i < L.length) : 0 ≤ lAt L i ∧ lAt L i < n := h _ (lAt_mem hi)
theorem Kin.put {n : Int} {L : List Int} (h : Kin n L) (c : Int) {k : Int} (h0 : 0 ≤ k) (h1 : k < n) : Kin n (put L c k) := by
  intro x hx
  rcases List.mem_or_eq_of_mem_set hx with h2 | rfl
  · exact h x h2
  · exact ⟨h0, h1⟩
theorem Kin.puts {n : Int} (es : List Ed) : ∀ {L : List Int}, Kin n L → (∀ e ∈ es, 0 ≤ e.2 ∧ e.2 < n) → Kin n (puts L es) := by
  induction es with
  | nil => intro L h _; exact h
  | cons e es ih => intro L h hk; exact ih (h.put _ (hk e List.mem_cons_self).1 (hk e List.mem_cons_self).2) (fun e he => hk e (List.mem_cons_of_mem _ he))
theorem Kin.zeros {n : Int} (m : Nat) (h : 0 < n) : Kin n (List.replicate m 0) := by
  intro x hx
  rw [List.eq_of_mem_replicate hx]
  exact ⟨Int.le_refl _, h⟩

/-- Rising lists with the same numbers are the same. -/
theorem rise_ext : ∀ {xs ys : List Int}, xs.Pairwise (· < ·) → ys.Pairwise (· < ·) → (∀ c, c ∈ xs ↔ c ∈ ys) → xs = ys
  | [], [], _, _, _ => rfl
  | [], y :: ys, _, _, h => absurd ((h y).2 List.mem_cons_self) (by simp)
  | x :: xs, [], _, _, h => absurd ((h x).1 List.mem_cons_self) (by simp)
  | x :: xs, y :: ys, hx, hy, h => by
    rw [List.pairwise_cons] at hx hy
    have e : x = y := by
      rcases List.mem_cons.1 ((h x).1 List.mem_cons_self) with h1 | h1
      · exact h1
      · rcases List.mem_cons.1 ((h y).2 List.mem_cons_self) with h2 | h2
        · exact h2.symm
        · have := hx.1 y h2; have := hy.1 x h1; omega
    subst e
    refine congrArg (x :: ·) (rise_ext hx.2 hy.2 fun c => ⟨fun hc => ?_, fun hc => ?_⟩)
    · rcases List.mem_cons.1 ((h c).1 (List.mem_cons_of_mem _ hc)) with h1 | h1
      · have := hx.1 c hc; omega
      · exact h1
    · rcases List.mem_cons.1 ((h c).2 (List.mem_cons_of_mem _ hc)) with h1 | h1
      · have := hy.1 c hc; omega
      · exact h1

theorem diffsTo_rise (L L' : List Int) (m : Nat) : (diffsTo L L' m).Pairwise (· < ·) := by
  unfold diffsTo
  rw [List.pairwise_map]
  exact (List.Pairwise.filter _ List.pairwise_lt_range).imp (fun {a b} h => by omega)
theorem diffsTo_mem {L L' : List Int} {m : Nat} {c : Int} : c ∈ diffsTo L L' m ↔ 0 ≤ c ∧ c < m ∧ lAt L' c.toNat ≠ lAt L c.toNat := by
  simp only [diffsTo, List.mem_map, List.mem_filter, List.mem_range, bne_iff_ne]
  constructor
  · rintro ⟨i, ⟨h1, h2⟩, rfl⟩; exact ⟨by omega, by omega, by simpa using h2⟩
  · rintro ⟨h1, h2, h3⟩; exact ⟨c.toNat, ⟨by omega, h3⟩, by omega⟩
theorem diffsTo_succ (L L' : List Int) (m : Nat) : diffsTo L L' (m + 1) = diffsTo L L' m ++ (if lAt L' m = lAt L m then [] else [(m : Int)]) := by
  unfold diffsTo
  rw [List.range_succ, List.filter_append, List.map_append]
  congr 1
  by_cases h : lAt L' m = lAt L m
  · rw [if_pos h]; simp [h]
  · rw [if_neg h]; simp [h]
theorem diffs_self (L : List Int) : diffs L L = [] := by
  unfold diffs diffsTo; simp
theorem diffsTo_len (L L' : List Int) (m : Nat) : (diffsTo L L' m).length ≤ m := by
  unfold diffsTo; rw [List.length_map]; exact Nat.le_trans (List.length_filter_le _ _) (by simp)
theorem diffs_len (L L' : List Int) : (diffs L L').length ≤ L.length := diffsTo_len _ _ _
theorem diffs_mem {L L' : List Int} {c : Int} : c ∈ diffs L L' ↔ 0 ≤ c ∧ c < L.length ∧ lAt L' c.toNat ≠ lAt L c.toNat := diffsTo_mem
/-- The cells that changed, by a rising list that holds them. -/
theorem diffs_of {L L' xs : List Int} (hr : xs.Pairwise (· < ·)) (h : ∀ c, c ∈ xs ↔ 0 ≤ c ∧ c < L.length ∧ lAt L' c.toNat ≠ lAt L c.toNat) : xs = diffs L L' :=
  rise_ext hr (diffsTo_rise _ _ _) (fun c => (h c).trans diffs_mem.symm)
/-- One cell more, behind all that changed. -/
theorem diffs_put {L L' : List Int} {c k : Int} (hl : L'.length = L.length) (h0 : 0 ≤ c) (h1 : c < L.length) (hb : ∀ i : Nat, c ≤ i → lAt L' i = lAt L i) :
    diffs L (put L' c k) = diffs L L' ++ (if lAt L' c.toNat = k then [] else [c]) := by
  refine (diffs_of ?_ fun d => ?_).symm
  · rw [List.pairwise_append]
    refine ⟨diffsTo_rise _ _ _, by split <;> simp, fun a ha b hb' => ?_⟩
    have h2 := diffs_mem.1 ha
    have h3 : ¬ c ≤ a := fun h => h2.2.2 (hb a.toNat (by omega))
    split at hb'
    · simp at hb'
    · simp at hb'; omega
  · rw [List.mem_append, diffs_mem]
    by_cases hd : d = c
    · subst hd
      have e1 := hb d.toNat (by omega)
      constructor
      · rintro (h | h)
        · exact absurd e1 h.2.2
        · refine ⟨h0, h1, ?_⟩
          rw [lAt_put h0 (by omega), if_pos (by omega), ← e1]
          split at h
          · simp at h
          · rename_i h2; exact fun e => h2 e.symm
      · rintro ⟨_, _, h⟩
        rw [lAt_put h0 (by omega), if_pos (by omega), ← e1] at h
        right; rw [if_neg (fun e => h e.symm)]; simp
    · have e2 : d ∉ (if lAt L' c.toNat = k then [] else [c]) := by split <;> simp [hd]
      constructor
      · rintro (h | h)
        · refine ⟨h.1, h.2.1, ?_⟩
          rw [lAt_put' h0 (by omega)]; exact h.2.2
        · exact absurd h e2
      · rintro ⟨h2, h3, h⟩
        rw [lAt_put' h0 (by omega)] at h
        exact .inl ⟨h2, h3, h⟩

/-- What an error a batch meets. -/
def errB (nk nc : Int) (es : List Ed) : Int :=
  if es.any (fun e => !(decide (0 ≤ e.2) && decide (e.2 < nk))) then 7 else if es.any (fun e => !(decide (0 ≤ e.1) && decide (e.1 < nc))) then 6 else if 65536 < es.length then 9 else 0
theorem errB_zero {nk nc : Int} {es : List Ed} (h : errB nk nc es = 0) : (∀ e ∈ es, 0 ≤ e.2 ∧ e.2 < nk) ∧ (∀ e ∈ es, 0 ≤ e.1 ∧ e.1 < nc) ∧ es.length ≤ 65536 := by
  unfold errB at h
  split at h
  · omega
  · split at h
    · omega
    · split at h
      · omega
      · rename_i h1 h2 h3
        refine ⟨fun e he => ?_, fun e he => ?_, by omega⟩
        · simp only [List.any_eq_true, not_exists, not_and] at h1
          have := h1 e he; simpa using this
        · simp only [List.any_eq_true, not_exists, not_and] at h2
          have := h2 e he; simpa using this

theorem compact_mem {zs : List Int} {c : Int} : c ∈ Lib.compact zs → c ∈ zs := by
  simp only [Lib.compact, Lib.compactUpTo, List.mem_map, List.mem_filter, List.mem_range]
  rintro ⟨i, ⟨h1, _⟩, rfl⟩
  rw [getElem!_pos _ i (by simpa using h1)]
  simp
/-- Of a list that never falls the first of each run. -/
theorem compactUpTo_rise (zs : List Int) (hs : zs.Pairwise (· ≤ ·)) : ∀ m, m ≤ zs.length → (Lib.compactUpTo zs.toArray m).Pairwise (· < ·) ∧ (∀ c ∈ Lib.compactUpTo zs.toArray m, ∀ i, m ≤ i + 1 → i < zs.length → c ≤ lAt zs i) ∧ (∀ i, i < m → lAt zs i ∈ Lib.compactUpTo zs.toArray m) := by
  have hm : ∀ i j, i ≤ j → j < zs.length → lAt zs i ≤ lAt zs j := by
    intro i j hij hj
    rcases Nat.eq_or_lt_of_le hij with rfl | h
    · exact Int.le_refl _
    · rw [lAt_eq (by omega), lAt_eq hj]; exact List.pairwise_iff_getElem.1 hs i j (by omega) hj h
  have hg : ∀ i, i < zs.length → zs.toArray[i]! = lAt zs i := by
    intro i hi
    rw [getElem!_pos _ i (by simpa using hi), lAt_eq hi]; simp
  intro m
  induction m with
  | zero => intro _; exact ⟨by simp [Lib.compactUpTo], by simp [Lib.compactUpTo], fun i hi => absurd hi (Nat.not_lt_zero _)⟩
  | succ m ih =>
    intro h
    obtain ⟨h1, h2, h3⟩ := ih (by omega)
    rw [Lib.compactUpTo_succ]
    by_cases hk : Lib.keeps zs.toArray m = true
    · rw [if_pos hk, hg m (by omega)]
      refine ⟨?_, ?_, ?_⟩
      · rw [List.pairwise_append]
        refine ⟨h1, by simp, fun a ha b hb => ?_⟩
        simp at hb; subst hb
        rcases Nat.eq_zero_or_pos m with rfl | hp
        · simp [Lib.compactUpTo] at ha
        · have h4 := h2 a ha (m - 1) (by omega) (by omega)
          have h5 := hm (m - 1) m (by omega) (by omega)
          have h6 : lAt zs m ≠ lAt zs (m - 1) := by
            unfold Lib.keeps at hk
            rw [hg m (by omega), hg (m - 1) (by omega)] at hk
            simp at hk
            rcases hk with h | h
            · omega
            · exact h
          omega
      · intro c hc i hi hil
        rcases List.mem_append.1 hc with h4 | h4
        · exact h2 c h4 i (by omega) hil
        · simp at h4; subst h4; exact hm m i (by omega) hil
      · intro i hi
        rw [List.mem_append]
        by_cases h4 : i < m
        · exact .inl (h3 i h4)
        · right; rw [show i = m by omega]; simp
    · rw [if_neg hk, List.append_nil]
      refine ⟨h1, fun c hc i hi hil => h2 c hc i (by omega) hil, fun i hi => ?_⟩
      by_cases h4 : i < m
      · exact h3 i h4
      · have h5 : i = m := by omega
        subst h5
        unfold Lib.keeps at hk
        rw [hg i (by omega)] at hk
        have hp : 0 < i := Nat.pos_of_ne_zero (fun e => hk (by simp [e]))
        rw [hg (i - 1) (by omega)] at hk
        have h6 : lAt zs i = lAt zs (i - 1) := Classical.byContradiction (fun hn => hk (by simp [hn]))
        rw [h6]
        exact h3 (i - 1) (by omega)
/-- Sorted, each once. -/
theorem touched_plain (zs : List Int) : (Lib.compact (zs.mergeSort fun x y => decide (x ≤ y))).Pairwise (· < ·) ∧ (∀ c, c ∈ Lib.compact (zs.mergeSort fun x y => decide (x ≤ y)) ↔ c ∈ zs) := by
  have hp : (zs.mergeSort fun x y => decide (x ≤ y)).Pairwise (· ≤ ·) := by
    have := List.pairwise_mergeSort (le := fun x y : Int => decide (x ≤ y)) (fun a b c => by simp; omega) (fun a b => by simp; omega) zs
    exact this.imp (fun h => by simpa using h)
  have hmem : ∀ c, c ∈ (zs.mergeSort fun x y => decide (x ≤ y)) ↔ c ∈ zs := fun c => List.mem_mergeSort
  generalize (zs.mergeSort fun x y => decide (x ≤ y)) = ys at *
  have h := compactUpTo_rise ys hp ys.length (Nat.le_refl _)
  refine ⟨h.1, fun c => ⟨fun hc => (hmem c).1 (compact_mem hc), fun hc => ?_⟩⟩
  obtain ⟨i, hi, rfl⟩ := List.getElem_of_mem ((hmem c).2 hc)
  rw [← lAt_eq hi]
  exact h.2.2 i hi
/-- What a batch answers: of the cells that it speaks of those that changed. -/
theorem batch_plain {L : List Int} {es : List Ed} (hc : ∀ e ∈ es, 0 ≤ e.1 ∧ e.1 < L.length) :
    ((Lib.compact ((es.map (·.1)).mergeSort fun x y => decide (x ≤ y))).filter fun c => lAt (puts L es) c.toNat != lAt L c.toNat) = diffs L (puts L es) := by
  obtain ⟨h1, h2⟩ := touched_plain (es.map (·.1))
  refine diffs_of (h1.filter _) fun c => ?_
  rw [List.mem_filter, h2, bne_iff_ne, List.mem_map]
  constructor
  · rintro ⟨⟨e, he, rfl⟩, h⟩; exact ⟨(hc e he).1, (hc e he).2, h⟩
  · rintro ⟨h3, h4, h⟩
    refine ⟨?_, h⟩
    apply Classical.byContradiction
    intro hn
    refine h (lAt_puts_out c.toNat es L fun e he => ⟨(hc e he).1, fun e' => hn ⟨e, he, by omega⟩⟩)

/-- The edits of a row of n cells; of a rectangle. -/
def rowE (f : Int) (k : Int) (n : Nat) : List Ed := (List.range n).map fun i : Nat => (f + i, k)
theorem rowE_len (f k : Int) (n : Nat) : (rowE f k n).length = n := by simp [rowE]
theorem rowE_succ (f k : Int) (n : Nat) : rowE f k (n + 1) = rowE f k n ++ [(f + n, k)] := by simp [rowE, List.range_succ]
def rectE (zw x y : Int) (w : Nat) (k : Int) (h : Nat) : List Ed := (List.range h).flatMap fun j : Nat => rowE ((y + j) * zw + x) k w
theorem rectE_succ (zw x y : Int) (w : Nat) (k : Int) (h : Nat) : rectE zw x y w k (h + 1) = rectE zw x y w k h ++ rowE ((y + h) * zw + x) k w := by simp [rectE, List.range_succ]
theorem rowE_mem {f k : Int} {n : Nat} {e : Ed} : e ∈ rowE f k n ↔ f ≤ e.1 ∧ e.1 < f + n ∧ e.2 = k := by
  simp only [rowE, List.mem_map, List.mem_range]
  constructor
  · rintro ⟨i, hi, rfl⟩; exact ⟨by show f ≤ f + (i : Int); omega, by show f + (i : Int) < f + n; omega, rfl⟩
  · rintro ⟨h1, h2, h3⟩; exact ⟨(e.1 - f).toNat, by omega, by ext <;> simp; omega; exact h3.symm⟩
theorem rectE_mem {zw x y : Int} {w : Nat} {k : Int} {h : Nat} {e : Ed} : e ∈ rectE zw x y w k h ↔ ∃ r : Nat, r < h ∧ (y + r) * zw + x ≤ e.1 ∧ e.1 < (y + r) * zw + x + w ∧ e.2 = k := by
  simp only [rectE, List.mem_flatMap, List.mem_range, rowE_mem]
theorem row_step {zw : Int} {a b : Int} (h0 : 0 ≤ zw) (h : a + 1 ≤ b) : a * zw + zw ≤ b * zw := by
  have h1 : (a + 1) * zw ≤ b * zw := Int.mul_le_mul_of_nonneg_right h h0
  rw [Int.add_mul, Int.one_mul] at h1
  exact h1
/-- The rows ahead of row j lie ahead of its first cell. -/
theorem rectE_ahead {zw x y : Int} {w : Nat} {k : Int} {j : Nat} (h0 : 0 ≤ zw) (hx : 0 ≤ x) (hy : 0 ≤ y) (hw : x + w ≤ zw) {e : Ed} (he : e ∈ rectE zw x y w k j) : e.1 < (y + j) * zw + x ∧ 0 ≤ e.1 ∧ e.2 = k := by
  obtain ⟨r, hr, h1, h2, h3⟩ := rectE_mem.1 he
  have h4 := row_step (zw := zw) (a := y + r) (b := y + j) h0 (by omega)
  have h5 : 0 ≤ (y + r) * zw := Int.mul_nonneg (by omega) h0
  exact ⟨by omega, by omega, h3⟩
theorem rect_row_lt {zw zh x y : Int} {w j h : Nat} (h0 : 0 ≤ zw) (hx : 0 ≤ x) (hy : 0 ≤ y) (hw : x + w ≤ zw) (hh : y + h ≤ zh) (hj : j < h) : 0 ≤ (y + j) * zw + x ∧ (y + j) * zw + x + w ≤ zw * zh := by
  have h4 := row_step (zw := zw) (a := y + j) (b := zh) h0 (by omega)
  have h5 : 0 ≤ (y + j) * zw := Int.mul_nonneg (by omega) h0
  rw [Int.mul_comm zh zw] at h4
  exact ⟨by omega, by omega⟩
end Go.Proofs.Ytcflbekjiohfnaa
