/- The plain mathematics of TileParts: the nearest of some cells; how often each cell was met. -/
import Derived.Test.YtabgplniaiehpabTileLawP
import Derived.WalkKit
namespace Go.Proofs.Ytabgplniaiehpab.Pl
open Go.RowKit
/-- How far the nearest one of some cells is. -/
def bestN (W H c : Int) (l : List Int) : Int := l.foldl (fun b x => if b < 0 ∨ awayN W H c x < b then awayN W H c x else b) (-1)
theorem bestN_snoc (W H c : Int) (l : List Int) (x : Int) : bestN W H c (l ++ [x]) = if bestN W H c l < 0 ∨ awayN W H c x < bestN W H c l then awayN W H c x else bestN W H c l := by
  unfold bestN; rw [List.foldl_append]; rfl
theorem fold_bd (W H c : Int) : ∀ (l : List Int) (b : Int), -1 ≤ b → b ≤ 8190 → -1 ≤ l.foldl (fun b x => if b < 0 ∨ awayN W H c x < b then awayN W H c x else b) b ∧ l.foldl (fun b x => if b < 0 ∨ awayN W H c x < b then awayN W H c x else b) b ≤ 8190 := by
  intro l
  induction l with
  | nil => intro b h1 h2; exact ⟨h1, h2⟩
  | cons a l ih =>
    intro b h1 h2
    have := away_bd W H c a
    rw [List.foldl_cons]
    exact ih (if b < 0 ∨ awayN W H c a < b then awayN W H c a else b) (by split <;> omega) (by split <;> omega)
theorem bestN_bd (W H c : Int) (l : List Int) : -1 ≤ bestN W H c l ∧ bestN W H c l ≤ 8190 := fold_bd W H c l _ (by omega) (by omega)
theorem fold_no {W H c : Int} (h : inB W H c = false) : ∀ l : List Int, l.foldl (fun b x => if b < 0 ∨ awayN W H c x < b then awayN W H c x else b) (-1) = -1 := by
  intro l
  induction l with
  | nil => rfl
  | cons a l ih => rw [List.foldl_cons, away_no1 h, if_pos (.inl (by omega))]; exact ih
theorem fold_min {W H c : Int} : ∀ (l : List Int) (b : Int), 0 ≤ b → (∀ x ∈ l, 0 ≤ awayN W H c x) →
    0 ≤ l.foldl (fun b x => if b < 0 ∨ awayN W H c x < b then awayN W H c x else b) b ∧ l.foldl (fun b x => if b < 0 ∨ awayN W H c x < b then awayN W H c x else b) b ≤ b ∧
    (∀ x ∈ l, l.foldl (fun b x => if b < 0 ∨ awayN W H c x < b then awayN W H c x else b) b ≤ awayN W H c x) ∧
    (l.foldl (fun b x => if b < 0 ∨ awayN W H c x < b then awayN W H c x else b) b = b ∨ ∃ x ∈ l, l.foldl (fun b x => if b < 0 ∨ awayN W H c x < b then awayN W H c x else b) b = awayN W H c x) := by
  intro l
  induction l with
  | nil => intro b h0 _; exact ⟨h0, Int.le_refl _, fun x hx => (by cases hx), .inl rfl⟩
  | cons a l ih =>
    intro b h0 hp
    rw [List.foldl_cons]
    have ha := hp a (by simp)
    obtain ⟨q0, q1, q2, q3⟩ := ih (if b < 0 ∨ awayN W H c a < b then awayN W H c a else b) (by split <;> omega) (fun x hx => hp x (by simp [hx]))
    refine ⟨q0, Int.le_trans q1 (by split <;> omega), fun x hx => ?_, ?_⟩
    · rcases List.mem_cons.1 hx with rfl | hx
      · exact Int.le_trans q1 (by split <;> omega)
      · exact q2 x hx
    · rcases q3 with e | ⟨x, hx, e⟩
      · by_cases k : b < 0 ∨ awayN W H c a < b
        · rw [if_pos k] at e ⊢
          exact .inr ⟨a, by simp, e⟩
        · rw [if_neg k] at e ⊢
          exact .inl e
      · exact .inr ⟨x, by simp [hx], e⟩
theorem bestN_all {W H c t : Int} (ht : tileB W H t = true) : bestN W H c (cellsL W H t) = tawayN W H c t := by
  cases hc : inB W H c with
  | false => rw [taway_no (by rw [hc]; simp)]; exact fold_no hc _
  | true =>
    obtain ⟨m1, e1⟩ := taway_at hc ht
    have hp : ∀ x ∈ cellsL W H t, 0 ≤ awayN W H c x := fun x hx => away_nonneg hc (cells_mem.1 hx).2.1
    have hle : ∀ x ∈ cellsL W H t, tawayN W H c t ≤ awayN W H c x := fun x hx => taway_le hx hc
    generalize cellsL W H t = l at *
    unfold bestN
    cases l with
    | nil => cases m1
    | cons a l =>
      rw [List.foldl_cons, if_pos (.inl (by omega))]
      obtain ⟨q0, q1, q2, q3⟩ := fold_min (c := c) l (awayN W H c a) (hp a (by simp)) (fun x hx => hp x (by simp [hx]))
      refine Int.le_antisymm ?_ ?_
      · rw [← e1]
        rcases List.mem_cons.1 m1 with e | hm
        · rw [e]; exact q1
        · exact q2 _ hm
      · rcases q3 with e | ⟨x, hx, e⟩
        · rw [e]; exact hle a (by simp)
        · rw [e]; exact hle x (by simp [hx])
/-- How often a cell was met: the tiles ahead of k are told, of k's cells some. -/
def metF (W H : Int) (k : Int) (pre : List Int) (c : Int) : Int := (if ofN W H c < k then 1 else 0) + (if c ∈ pre then 1 else 0)
theorem metF_bd (W H k : Int) (pre : List Int) (c : Int) : 0 ≤ metF W H k pre c ∧ metF W H k pre c ≤ 2 := by unfold metF; split <;> split <;> omega
theorem metF_snoc {W H k : Int} {pre : List Int} {x : Int} (hx : x ∉ pre) (c : Int) : metF W H k (pre ++ [x]) c = if c = x then metF W H k pre x + 1 else metF W H k pre c := by
  unfold metF
  by_cases e : c = x
  · subst e
    rw [if_pos rfl, if_neg hx, if_pos (show c ∈ pre ++ [c] by simp)]
    omega
  · rw [if_neg e]
    have : (c ∈ pre ++ [x]) ↔ c ∈ pre := by simp [e]
    simp only [this]
theorem metF_next {W H : Int} {k : Nat} (ht : tileB W H k = true) {c : Int} (hc : inB W H c = true) : metF W H k (cellsL W H k) c = metF W H (k + 1 : Nat) [] c := by
  unfold metF
  rw [if_neg (show c ∉ ([] : List Int) by simp)]
  have hm : c ∈ cellsL W H k ↔ ofN W H c = k := by rw [cells_mem]; exact ⟨fun h => h.2.2, fun h => ⟨ht, hc, h⟩⟩
  by_cases e : ofN W H c = (k : Int)
  · rw [if_pos (hm.2 e), if_neg (by omega), if_pos (by omega)]; rfl
  · rw [if_neg (fun h => e (hm.1 h))]
    by_cases l : ofN W H c < (k : Int)
    · rw [if_pos l, if_pos (by omega)]
    · rw [if_neg l, if_neg (by omega)]
theorem metF_all {W H c : Int} {M : Nat} (hM : countN W H = M) (hc : inB W H c = true) : metF W H M [] c = 1 := by
  unfold metF
  have := (tileB_iff.1 (of_bd hc).1).2
  rw [if_pos (by omega), if_neg (by simp)]; rfl
theorem metF_zero {W H c : Int} (hc : inB W H c = true) : metF W H 0 [] c = 0 := by
  unfold metF
  have := (tileB_iff.1 (of_bd hc).1).1
  rw [if_neg (by omega), if_neg (by simp)]; rfl
/-- A row of counts. -/
def metC (f : Int → Int) (n : Nat) : Array Value := ((List.range n).map fun i => Value.int .i64 (f (i : Nat))).toArray
theorem metC_at {f : Int → Int} {n i : Nat} (h : i < n) : (metC f n)[i]? = some (.int .i64 (f i)) := by unfold metC; simp [h]
theorem metC_congr {f g : Int → Int} {n : Nat} (h : ∀ i : Nat, i < n → f i = g i) : metC f n = metC g n := by
  unfold metC
  congr 1
  refine List.map_congr_left fun i hi => ?_
  rw [h i (List.mem_range.1 hi)]
theorem metC_set {f : Int → Int} {n i : Nat} (v : Int) : (metC f n).setIfInBounds i (.int .i64 v) = metC (fun c => if c = i then v else f c) n := by
  unfold metC
  rw [List.setIfInBounds_toArray]
  congr 1
  refine List.ext_getElem (by simp) fun k h1 h2 => ?_
  simp only [List.length_map, List.length_range] at h2
  rw [List.getElem_set]
  simp only [List.getElem_map, List.getElem_range]
  by_cases e : i = k
  · subst e; simp
  · rw [if_neg e, if_neg (by omega)]
theorem part_step {W H t : Int} {pre : List Int} {x : Int} (h : pre ++ [x] <+: cellsL W H t) : lastI pre < x ∧ x ∉ pre ∧ inB W H x = true ∧ ofN W H x = t ∧ tileB W H t = true ∧ 0 ≤ x ∧ x < cellsN W H := by
  have hx : x ∈ cellsL W H t := h.subset (by simp)
  obtain ⟨h1, h2, h3⟩ := cells_mem.1 hx
  have hs : (pre ++ [x]).Pairwise (· < ·) := (cells_sorted W H t).sublist h.sublist
  rw [List.pairwise_append] at hs
  obtain ⟨b1, b2⟩ := blw_iff.1 (show blw x (cellsN W H) = true from h2)
  refine ⟨?_, fun hm => ?_, h2, h3, h1, b1, b2⟩
  · rcases lastI_mem pre with e | hm
    · omega
    · exact hs.2.2 _ hm x (by simp)
  · have := hs.2.2 _ hm x (by simp); omega
theorem last_bd {W H t : Int} {pre : List Int} (h : pre <+: cellsL W H t) : -1 ≤ lastI pre ∧ lastI pre ≤ 4194304 := by
  rcases lastI_mem pre with e | hm
  · omega
  · have := cells_mem.1 (h.subset hm)
    obtain ⟨b1, b2⟩ := blw_iff.1 (show blw _ (cellsN W H) = true from this.2.1)
    have := cellsN_bd W H
    omega
theorem last_all {W H t : Int} (h : tileB W H t = true) : ¬ lastI (cellsL W H t) < 0 := by
  have hl : cellsL W H t ≠ [] := fun e => by have := (nearest_mem (c := 0) h); rw [e] at this; cases this
  rcases lastI_mem (cellsL W H t) with e | hm
  · unfold lastI at e
    cases k : (cellsL W H t).getLast? with
    | none => exact absurd (List.getLast?_eq_none_iff.1 k) hl
    | some v =>
      have hv := List.mem_of_getLast? k
      have := (blw_iff.1 (show blw v (cellsN W H) = true from (cells_mem.1 hv).2.1)).1
      unfold lastI; rw [k]; simp; omega
  · have := (blw_iff.1 (show blw _ (cellsN W H) = true from (cells_mem.1 hm).2.1)).1
    omega
end Go.Proofs.Ytabgplniaiehpab.Pl
