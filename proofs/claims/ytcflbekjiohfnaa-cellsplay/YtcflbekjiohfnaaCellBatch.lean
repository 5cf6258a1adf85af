/- touched, kindsOf, Batch. -/
import Derived.Test.YtcflbekjiohfnaaCellRefuse
import Derived.Test.YtcflbekjiohfnaaSortLay
import Derived.Sort.OwnSortedInts
import Derived.Lib.OwnBridge
namespace Go.Proofs.Ytcflbekjiohfnaa
open Go.RowKit Go.Shelf Go.Sort
set_option linter.unusedVariables false

/-- A row that is filled from its head on. -/
def fillTo (f : Nat → Int) (n k : Nat) : List Int := (List.range n).map fun i => if i < k then f i else 0
theorem fillTo_len (f : Nat → Int) (n k : Nat) : (fillTo f n k).length = n := by simp [fillTo]
theorem fillTo_zero (f : Nat → Int) (n : Nat) : fillTo f n 0 = List.replicate n 0 := by
  apply List.ext_getElem
  · simp [fillTo]
  · intro i h1 h2; simp [fillTo]
theorem fillTo_set (f : Nat → Int) (n k : Nat) : (fillTo f n k).set k (f k) = fillTo f n (k + 1) := by
  apply List.ext_getElem
  · simp [fillTo]
  · intro i h1 h2
    simp only [fillTo, List.getElem_set, List.getElem_map, List.getElem_range]
    by_cases h : k = i
    · subst h; simp
    · rw [if_neg h]
      by_cases h3 : i < k
      · rw [if_pos h3, if_pos (by omega)]
      · rw [if_neg h3, if_neg (by omega)]
theorem fillTo_all (f : Nat → Int) (n : Nat) : fillTo f n n = (List.range n).map f := by
  apply List.ext_getElem
  · simp [fillTo]
  · intro i h1 h2
    have : i < n := by simpa [fillTo] using h1
    simp [fillTo, this]
def iRow (xs : List Int) : Array Value := (ints xs).toArray
theorem iRow_at {xs : List Int} {i : Nat} (h : i < xs.length) : (iRow xs)[i]? = some (.int .i64 (lAt xs i)) := by
  unfold iRow; rw [List.getElem?_toArray, ints_at h]
theorem iRow_set (xs : List Int) (i : Nat) (c : Int) : (iRow xs).setIfInBounds i (.int .i64 c) = iRow (xs.set i c) := by
  unfold iRow ints; rw [List.setIfInBounds_toArray, List.map_set]
theorem rowOf_set (xs : List Int) (i : Nat) (c : Int) : (rowOf xs).setIfInBounds i (.int .u8 c) = rowOf (xs.set i c) := by
  unfold rowOf; rw [List.setIfInBounds_toArray, List.map_set]
/-- make([]int, n). -/
theorem make_int (m : Nat) (hm : m ≤ 4194304) (w : World) : (Instr.makeSlice 29 (.int .i64 m) (.int .i64 m)).run Try.prog w = .ok (.slice (some ⟨w.heap.size, 0, none⟩) m m) (w.alloc (.cells (iRow (List.replicate m 0)) 3)) := by
  obtain ⟨i0, hi, hz0, hz1, hz2⟩ := info_parts Try.infoI
  have h := run_make (P := Try.prog) w 29 3 i0 (.int .i64 0) Try.underlying29 hi hz0 .i64 .i64 m m (by omega) (by omega) (by rw [hz2]; omega) (by omega)
  rw [h, hz1]
  simp only [Int.toNat_natCast, Nat.mul_one]
  rw [show iRow (List.replicate m 0) = Array.replicate m (Value.int .i64 0) from by unfold iRow ints; rw [List.map_replicate, List.toArray_replicate], ← made_one]
  rfl
theorem holds_row {W : World} {R : Nat} {xs : List Int} (h : Blk W R 3 (iRow xs)) : Holds (Value.int .i64) W R 0 xs.toArray := fun j hj => by
  have hj' : j < xs.length := by simpa using hj
  rw [Nat.zero_add, getElem!_pos _ j hj]
  refine ⟨?_, h.frozen j⟩
  rw [h.at (iRow_at hj'), lAt_eq hj']
  simp
theorem cell_of_holds {w : World} {g : Nat} {S : List Int} (h : Holds (Value.int .i64) w g 0 S.toArray) (j : Nat) (hj : j < S.length) : w.cell? ⟨g, j, none⟩ = some (.int .i64 (lAt S j)) := by
  have h1 := (h j (by simpa using hj)).1
  rw [Nat.zero_add] at h1
  rw [h1, getElem!_pos _ j (by simpa using hj), lAt_eq hj]
  simp

abbrev srt (zs : List Int) : List Int := zs.mergeSort fun x y => decide (x ≤ y)
/-- The cells that edits speak of, rising, each once. -/
def touchedL (es : List Ed) : List Int := Lib.compact (srt (es.map (·.1)))

set_option maxRecDepth 100000 in
set_option maxHeartbeats 1600000 in
theorem touched_any (ao : Option Addr) (cap : Nat) (es : List Ed) (w : World) (hes : es.length ≤ 65536) (he : EAt w ao es) :
    Calls Try.prog 38 #[.slice ao es.length cap] w fun e w' => ∃ R cap', e = .returned (.slice (some ⟨R, 0, none⟩) (touchedL es).length cap') ∧ w.heap.size ≤ R ∧ R < w'.heap.size ∧ Hid (∀ i, i < (touchedL es).length → w'.cell? ⟨R, i, none⟩ = some (.int .i64 (lAt (touchedL es) i))) ∧ Below w.heap.size w w' := by
  have HE : Hid (EAt w ao es) := he
  clear he
  obtain ⟨R, hR⟩ : ∃ R, R = w.heap.size := ⟨_, rfl⟩
  have HL : Hid (es.map (·.1) = fillTo (fun i => (eAt es i).1) es.length es.length) := by
    show _ = _
    rw [fillTo_all]
    apply List.ext_getElem
    · simp
    · intro i h1 h2
      have : i < es.length := by simpa using h1
      simp [eAt_eq this]
  have hmk := make_int es.length (by omega)
  generalize hN : es.length = N at *
  go_enter Try.func38, Try.ntmps38
  go_wp2
  go_loopw [11] (fun i wr => ∃ k : Nat, k ≤ N ∧ i = .int .i64 k ∧ Hid (Blk wr R 3 (iRow (fillTo (fun i => (eAt es i).1) N k))) ∧ R < wr.heap.size ∧ Below w.heap.size w wr) (fun i _ => N - (intOf i).toNat)
  case atStart => exact ⟨0, Nat.zero_le _, rfl, by show Blk _ _ _ _; rw [fillTo_zero, hR]; exact Blk.new w _ _, by simp [hR], (Below.refl _ _).alloc (Nat.le_refl _) _⟩
  case round =>
    obtain ⟨k, hkn, rfl, HR, hRlt, hB⟩ := hrel
    by_cases hlt : k < N
    · rcases HE.out with h | ⟨b, off, rfl, hc⟩
      · rw [h] at hN; simp at hN; omega
      · have c0 := (hc k (by omega)).1
        have c1 := (hc k (by omega)).2
        have c0' := (hB.cell (p := ⟨b, _, none⟩) (cell_lt c0)).trans c0
        have c1' := (hB.cell (p := ⟨b, _, none⟩) (cell_lt c1)).trans c1
        have hblt : b < wr.heap.size := cell_lt c0'
        have hr0 := HR.out.at (iRow_at (xs := fillTo (fun i => (eAt es i).1) N k) (i := k) (by rw [fillTo_len]; exact hlt))
        have hf0 := HR.out.frozen k
        have HS : Hid (iRow (fillTo (fun i => (eAt es i).1) N (k + 1)) = (iRow (fillTo (fun i => (eAt es i).1) N k)).setIfInBounds k (.int .i64 (eAt es k).1)) := by
          show _ = _
          rw [iRow_set, ← fillTo_set]
        clear hc c0 c1
        generalize hx : eAt es k = x at *
        rw [hR] at hr0 hf0
        have hRlt' : w.heap.size < wr.heap.size := by omega
        go_wp2
        go_roundw
        case rel =>
          refine ⟨k + 1, by omega, by go_num, ?_, ?_, ?_⟩
          · show Blk _ _ _ _
            rw [HS.out, hR]
            rw [hR] at HR
            exact (HR.out.setAt k _).alloc _
          · simp; omega
          · exact (hB.setCell (by simp) _).alloc (by simp; exact hB.size) _
        case measure => simp [intOf]; omega
    · have hke : k = N := by omega
      subst hke
      have HH : Hid (Holds (Value.int .i64) wr R 0 (es.map (·.1)).toArray) := by
        show Holds _ _ _ _ _
        rw [HL.out]
        exact holds_row HR.out
      have hzl : (es.map (·.1)).length = k := by rw [List.length_map]; exact hN
      obtain ⟨cs, hcs⟩ : ∃ cs, touchedL es = cs := ⟨_, rfl⟩
      have HCS : Hid (touchedL es = cs) := hcs
      have HT : Hid (cs = Lib.compact (srt (es.map (·.1)))) := hcs.symm
      clear hcs
      generalize es.map (·.1) = zs at *
      have hsort := AnyM.slices_Sort_int sortLay R 0 k zs wr HH.out hRlt (by omega)
      rw [hzl] at hsort
      change Calls Try.prog 56 _ _ _ at hsort
      have HSo : Hid _ := hsort
      clear hsort
      rw [hR] at HSo
      go_wp2_with fail
      refine Calls.mono HSo.out ?_
      rintro e w2 ⟨rfl, nn, os, hw2⟩
      have hH2 : Holds (Value.int .i64) w2 R 0 (srt zs).toArray := by
        subst hw2
        rw [← hR]
        exact holds_grow _ _ os R 0 _ (by simpa [putRow, mapBlock, Sort.ahead] using hRlt) (holds_putRow _ _ R 0 _ _ (holds_ahead _ wr nn R 0 _ HH.out) (by simp))
      have hB2 : Below w.heap.size w w2 := by
        subst hw2
        exact hB.grown (grownBy_sortedI _) hB.size (fun j hj => by cases hj; exact Nat.le_refl _)
      have hR2 : R < w2.heap.size := by
        have : wr.heap.size ≤ w2.heap.size := by subst hw2; simp [grow, putRow, mapBlock, Sort.ahead]
        omega
      have hsl : (srt zs).length = k := by rw [List.length_mergeSort]; exact hzl
      have hcomp := AnyG.slices_Compact_int compactLay R 0 k (srt zs) w2 hH2 (by omega) (by omega)
      have HT' : Hid (Lib.compact (srt zs) = cs) := HT.out.symm
      rw [hsl, HT'.out] at hcomp
      have hcl : cs.length ≤ k := by rw [← HT'.out]; have := Lib.compact_length_le (srt zs); omega
      change Calls Try.prog 57 _ _ _ at hcomp
      have HCo : Hid _ := hcomp
      have HH2 : Hid (Holds (Value.int .i64) w2 R 0 (srt zs).toArray) := hH2
      clear hcomp hw2 hH2 HSo
      rw [hR] at HCo
      go_wp2_with fail
      refine Calls.mono HCo.out ?_
      rintro e w3 ⟨rfl, q, hw3⟩
      have hH3 : Holds (Value.int .i64) w3 R 0 (cs ++ List.replicate (k - cs.length) 0).toArray := by
        subst hw3
        rw [← hR]
        exact holds_putRow _ _ R 0 _ _ (holds_ahead _ w2 q R 0 _ HH2.out) (by simp; omega)
      have hB3 : Below w.heap.size w w3 := by
        subst hw3
        exact Lib.below_putRow hB2 (Nat.le_refl _)
      have hR3 : R < w3.heap.size := by
        subst hw3; simpa [putRow, mapBlock, Sort.ahead] using hR2
      have HC3 : Hid (∀ i, i < cs.length → w3.cell? ⟨R, i, none⟩ = some (.int .i64 (lAt cs i))) := fun i hi => by
        rw [cell_of_holds hH3 i (by simp; omega), lAt_eq (by simp; omega), lAt_eq hi]
        simp [hi]
      clear hH3 hw3 HCo
      go_wp2
      go_ret
      rw [HCS.out]
      refine ⟨R, k, by rw [hR]; rfl, by omega, hR3, HC3, hB3⟩
end Go.Proofs.Ytcflbekjiohfnaa
