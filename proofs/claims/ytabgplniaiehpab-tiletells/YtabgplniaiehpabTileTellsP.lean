/- The plain mathematics of TileTells: a tile's first and last cell; what lies between two tiles beside one; a row's block. -/
import Derived.Test.YtabgplniaiehpabTilePartsP
import Derived.Test.YtabgplniaiehpabTileRef
namespace Go.Proofs.Ytabgplniaiehpab.Pl
open Go.RowKit
theorem rect_first {W x y : Int} {w r : Nat} (hw : 0 < w) (hr : 0 < r) : (rectL W x y w r)[0]? = some (y * W + x) := by
  obtain ⟨r, rfl⟩ : ∃ k, r = k + 1 := ⟨r - 1, by omega⟩
  obtain ⟨w, rfl⟩ : ∃ k, w = k + 1 := ⟨w - 1, by omega⟩
  unfold rectL spanL
  rw [List.range_succ_eq_map (n := r), List.flatMap_cons, List.range_succ_eq_map (n := w)]
  simp
theorem last_of {l : List Int} {a : Int} : (l ++ [a])[(l ++ [a]).length - 1]? = some a := by simp
theorem rect_last {W x y : Int} {w r : Nat} (hw : 0 < w) (hr : 0 < r) : (rectL W x y w r)[(rectL W x y w r).length - 1]? = some ((y + ((r - 1 : Nat) : Int)) * W + (x + ((w - 1 : Nat) : Int))) := by
  obtain ⟨r, rfl⟩ : ∃ k, r = k + 1 := ⟨r - 1, by omega⟩
  obtain ⟨w, rfl⟩ : ∃ k, w = k + 1 := ⟨w - 1, by omega⟩
  rw [rect_succ, span_succ, ← List.append_assoc, last_of]
  simp; omega
theorem corners {W H t : Int} (h : tileB W H t = true) : ∃ f l : Int, (cellsL W H t)[0]? = some f ∧ (cellsL W H t)[(cellsL W H t).length - 1]? = some l ∧ inB W H f = true ∧ inB W H l = true ∧
    f % W = bxN W H t ∧ f / W = byN W H t ∧ l % W = bxN W H t + bwN W H t - 1 ∧ l / W = byN W H t + bhN W H t - 1 := by
  obtain ⟨a1, a2, a3, a4, b1, b2, b3, b4, b5, b6, b7, b8, _⟩ := box_bd h
  have hf : (cellsL W H t)[0]? = some (byN W H t * W + bxN W H t) := rect_first (by omega) (by omega)
  have hl : (cellsL W H t)[(cellsL W H t).length - 1]? = some ((byN W H t + (((bhN W H t).toNat - 1 : Nat) : Int)) * W + (bxN W H t + (((bwN W H t).toNat - 1 : Nat) : Int))) := rect_last (by omega) (by omega)
  refine ⟨_, _, hf, hl, (cells_mem.1 (List.mem_of_getElem? hf)).2.1, (cells_mem.1 (List.mem_of_getElem? hl)).2.1, idx_mod (by omega) (by omega), idx_div (by omega) (by omega), ?_, ?_⟩
  · rw [idx_mod (by omega) (by omega)]; omega
  · rw [idx_div (by omega) (by omega)]; omega
theorem sorted_at {L : List Int} (hs : L.Pairwise (· < ·)) (h0 : ∀ x ∈ L, 0 ≤ x) {pre : List Int} {x : Int} (h : pre ++ [x] <+: L) : -1 ≤ lastI pre ∧ lastI pre < x ∧ ∀ k, lastI pre < k → k < x → k ∉ L := by
  obtain ⟨rest, rfl⟩ := h
  rw [List.pairwise_append] at hs
  obtain ⟨hs1, hs2, hs3⟩ := hs
  rw [List.pairwise_append] at hs1
  obtain ⟨hp, _, hx⟩ := hs1
  have hx0 := h0 x (by simp)
  have hm : ∀ k ∈ pre, k ≤ lastI pre := fun k hk => by
    rcases List.eq_nil_or_concat pre with rfl | ⟨q, y, rfl⟩
    · cases hk
    · rw [List.concat_eq_append] at *
      rw [lastI_snoc]
      rcases List.mem_append.1 hk with h1 | h1
      · exact Int.le_of_lt ((List.pairwise_append.1 hp).2.2 k h1 y (by simp))
      · rw [List.mem_singleton.1 h1]; exact Int.le_refl _
  refine ⟨?_, ?_, fun k k1 k2 hk => ?_⟩
  · rcases lastI_mem pre with e | e
    · omega
    · have := h0 _ (show lastI pre ∈ pre ++ [x] ++ rest by simp [e]); omega
  · rcases lastI_mem pre with e | e
    · omega
    · exact hx _ e x (by simp)
  · rcases List.mem_append.1 hk with h1 | h1
    · rcases List.mem_append.1 h1 with h2 | h2
      · have := hm k h2; omega
      · have := List.mem_singleton.1 h2; omega
    · have := hs3 x (by simp) k h1; omega
theorem sorted_end {L : List Int} (hs : L.Pairwise (· < ·)) (h0 : ∀ x ∈ L, 0 ≤ x) : -1 ≤ lastI L ∧ ∀ k, lastI L < k → k ∉ L := by
  refine ⟨?_, fun k k1 hk => ?_⟩
  · rcases lastI_mem L with e | e
    · omega
    · have := h0 _ e; omega
  · rcases List.eq_nil_or_concat L with rfl | ⟨q, y, rfl⟩
    · cases hk
    · rw [List.concat_eq_append] at *
      rw [lastI_snoc] at k1
      rcases List.mem_append.1 hk with h1 | h1
      · have := (List.pairwise_append.1 hs).2.2 k h1 y (by simp); omega
      · have := List.mem_singleton.1 h1; omega
theorem row_blk {w : World} {e : TypeId} {n : Nat} {v : Value} {L : List Int} (h : RowW w e 1 v n (iCs L)) (hn : 0 < n) : ∃ g cap cur, v = .slice (some ⟨g, 0, none⟩) n cap ∧ Blk w g e cur ∧ ∀ (i : Nat) (x : Int), L[i]? = some x → cur[i]? = some (Value.int .i64 x) := by
  rcases h.2 with ⟨_, h1⟩ | ⟨g, cap, cur, rfl, hb, _, _, _, ht⟩
  · omega
  · refine ⟨g, cap, cur, rfl, hb, fun i x hx => ?_⟩
    have hj : (iCs L)[i]? = some (Value.int .i64 x) := by unfold iCs; simp [hx]
    rw [← ht, List.getElem?_take] at hj
    split at hj
    · simpa using hj
    · cases hj
/-- How many, as an integer. -/
def lenI (l : List Int) : Int := (l.length : Int)
theorem lenI_snoc (l : List Int) (x : Int) : lenI (l ++ [x]) = lenI l + 1 := by unfold lenI; simp
theorem at_part {L pre : List Int} {x : Int} (h : pre ++ [x] <+: L) : pre.length < L.length ∧ L[pre.length]? = some x := by
  obtain ⟨r, rfl⟩ := h
  constructor
  · simp
  · simp
/-- What a box holds, as an integer. -/
def nx (b : Nat) (w : World) : Int := intOf ((w.cell? ⟨b, 0, none⟩).getD undef)
theorem nx_of {b : Nat} {w : World} {t : TypeId} {k : Int} (h : Blk w b t #[.int .i64 k]) : nx b w = k := by unfold nx; rw [h.cell1]; rfl
theorem tbes_none {W H t : Int} (h : tileB W H t = false) : tbesL W H t = [] := by unfold tbesL nearL; rw [if_neg (by rw [show inB (tW W H) (tH W H) t = false from h]; simp)]
theorem tbes_lt {W H t x : Int} (ht : tileB W H t = true) (h : x ∈ tbesL W H t) : 0 ≤ x ∧ x < countN W H := tileB_iff.1 ((near_iff (show inB (tW W H) (tH W H) t = true from ht)).1 h).1
end Go.Proofs.Ytabgplniaiehpab.Pl
