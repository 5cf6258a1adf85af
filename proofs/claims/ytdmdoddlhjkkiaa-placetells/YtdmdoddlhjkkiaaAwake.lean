/- Contract of the statements' own helper awake: it returns true. -/
import Derived.Test.YtdmdoddlhjkkiaaBeside
namespace Go.Proofs.Ytdmdoddlhjkkiaa
open Go.RowKit Go.Shelf
attribute [local go_sem] Oper.semAt_some

/-- n = 10*n + c, over all that came. -/
def numW (l : List Int) : Int := l.foldl (fun n c => wrap64 (wrap64 (10 * n) + c)) 0
theorem numW_snoc (l : List Int) (x : Int) : numW (l ++ [x]) = wrap64 (wrap64 (10 * numW l) + x) := by simp [numW]

set_option maxRecDepth 100000 in
set_option maxHeartbeats 2000000 in
theorem awake_any (w : World) : Calls Try.prog 12 #[] w fun e w' => e = .returned (.bool true) ∧ Below w.heap.size w w' := by
  refine (callsIn_wide (n := 9)).1 ?_
  refine callsIn_of_wp_marks Try.func12 rfl trivial ?_ rfl
  simp only [Try.ntmps12, List.size_toArray, List.length_nil, Nat.reduceSub, Array.replicate_succ, Array.replicate_zero, List.push_toArray, List.append_toArray, List.nil_append, List.cons_append]
  gi_wp2_with fail
  refine ⟨trivial, ?_⟩
  refine (callsIn_wide.2 (index_any _ _ _ _ _)).mono ?_
  rintro e w1 ⟨rfl, hb1⟩
  have hz1 := (Blk.new w 23 #[.int .i64 4, .int .i64 3]).below hb1
  obtain ⟨z0, z1⟩ := hz1.cells2
  have ei : idxN 4 3 1 2 = 9 := by decide +kernel
  have ea : atB 4 3 1 2 = true := by decide +kernel
  rw [ei, ea]
  clear ei ea
  gi_wp2_with fail
  refine ⟨trivial, ?_⟩
  refine (callsIn_wide.2 (at_yes _ _ _ _ (by decide +kernel))).mono ?_
  rintro e w2 ⟨rfl, hb2⟩
  have hz2 := hz1.below hb2
  obtain ⟨y0, y1⟩ := hz2.cells2
  have hl2 := hz2.lt
  gi_wp2_with fail
  refine ⟨trivial, ?_⟩
  refine (callsIn_wide.2 (near_ab _ _ _ _)).mono ?_
  rintro e w3 ⟨B1, C1, rfl, hh1, _, _, hb3⟩
  have hz3 := (hz2.alloc (.cells #[.int .i64 0] 3)).below hb3
  have hn3 := (Blk.new w2 3 #[.int .i64 0]).below hb3
  obtain ⟨x0, x1⟩ := hz3.cells2
  have hnf := nearF_nil B1 C1
  gi_wp2_with (refine ⟨trivial, ?_⟩; gi_at_call 11; refine (callsIn_wide.2 (near_ab _ _ _ _)).mono ?_; rintro e w4 ⟨B, C, rfl, hh, lB, lC, hb4⟩)
  have hz4 := hz3.below hb4
  have hn4 := hn3.below hb4
  have hs2 : w.heap.size < w2.heap.size := hz2.lt
  have hNB : w2.heap.size < B := Nat.lt_of_lt_of_le hn3.lt lB
  have hNC : w2.heap.size < C := Nat.lt_of_lt_of_le hn3.lt lC
  have hB4 : Below w.heap.size w w4 := by
    have s1 := hb1.size; have s2 := hb2.size; have s3 := hb3.size
    simp at s1 s2 s3
    exact ((((((Below.refl _ w).alloc (Nat.le_refl _) _).trans (hb1.mono (by simp))).trans (hb2.mono (by omega))).alloc (by omega) _).trans (hb3.mono (by simp; omega))).trans (hb4.mono (by omega))
  generalize hN : w2.heap.size = N at *
  clear hb1 hb2 hb3 hb4 hz1 hz2 hz3 hn3 hh1 z0 z1 y0 y1 x0 x1 hl2 hN
  refine wpIn_rangeFunc_ownF rfl (by omega) (gf := 22) (lb := #[.pointer (some ⟨B, 0, none⟩), .pointer (some ⟨C, 0, none⟩)]) rfl trivial (enters_of Try.func22 (by kernel_rfl) rfl)
    (near1_stops _ (by omega) _ _ 4 3 5 _ hh) (fun h k => kept2_t h k) (kept2_b (Array.getElem?_eq_some_iff.1 hh.1).1 (Array.getElem?_eq_some_iff.1 hh.2).1) (Below.refl _ _) (fun _ => rfl)
    (fun pre W' => (Blk W' N 3 #[.int .i64 (numW pre)] ∧ Blk W' w.heap.size 23 #[.int .i64 4, .int .i64 3]) ∧ Below w.heap.size w W')
    (fun c pre W' => False)
    (OwnFrom.and (Own.from (fun s A B row hs hg hr => ⟨blk_grown hs.1 hg hr, blk_grown hs.2 hg hr⟩) _) (ownFrom_below (Nat.le_refl _) (by have := hB4.size; omega)))
    (fun _ _ _ _ _ hs _ _ => hs)
    ⟨⟨hn4, hz4⟩, hB4⟩
    ?a1 ?assign ?body ?done ?stop
  case assign =>
    intro l x X K hK
    gi_wp2
    exact hK
  case body =>
    rintro l pre x X ⟨⟨hn, hz⟩, hB⟩ _
    have c1 := hn.cell1
    have f1 := hn.frozen 0
    gi_wp2
    exact ⟨KeepsOthers.setCell _ _ _, ⟨Below.heap_setCell _ _ _ _ (by simp; omega), Below.heap_setCell _ _ _ _ (by simp; omega)⟩, ⟨by rw [numW_snoc]; exact hn.set1 _, hz.other (by omega) _⟩, hB.setCell (p := ⟨N, 0, none⟩) (by simp; omega) _⟩
  case done =>
    rintro D ys X hD hall ⟨⟨hn, hz⟩, hB⟩ hK
    have e1 : numW ys = 1469 := by rw [show ys = nearL 4 3 5 from hall]; decide +kernel
    rw [e1] at hn
    clear e1 hall
    have c1 := hn.cell1
    obtain ⟨z0, z1⟩ := hz.cells2
    gi_wp2_with fail
    refine ⟨trivial, ?_⟩
    refine (callsIn_wide.2 (right_any _ _ _)).mono ?_
    rintro e X1 ⟨rfl, hb1⟩
    have hz1 := hz.below hb1
    obtain ⟨z10, z11⟩ := hz1.cells2
    rw [show rt 4 3 = true from by decide +kernel]
    gi_wp2_with fail
    refine ⟨trivial, ?_⟩
    refine (callsIn_wide.2 (cells_any _ _ _)).mono ?_
    rintro e X2 ⟨rfl, hb2⟩
    have hz2 := hz1.below hb2
    have hn2 := (hn.below hb1).below hb2
    have c2 := hn2.cell1
    obtain ⟨z20, z21⟩ := hz2.cells2
    rw [show cellsN 4 3 = 12 from by decide +kernel]
    gi_wp2_with (refine ⟨trivial, ?_⟩; gi_at_call 13; refine (callsIn_wide.2 (beside_any _ _ _ _ _)).mono ?_; rintro e X3 ⟨rfl, hb3⟩; rw [show decide ((4 : Int) ∈ nearL 4 3 0) = true from by decide +kernel]; obtain ⟨z30, z31⟩ := (hz2.below hb3).cells2)
    refine ⟨trivial, ?_⟩
    refine (callsIn_wide.2 (away_any _ _ _ _ _)).mono ?_
    rintro e X4 ⟨rfl, hb4⟩
    rw [show awayN 4 3 0 11 = 5 from by decide +kernel]
    gi_wp2
    have hb5 : Below X.heap.size X X4 := below_step (below_step (below_step hb1 hb2 (Nat.le_refl _)) hb3 (Nat.le_refl _)) hb4 (Nat.le_refl _)
    have hK' := (below_others hb5).same D _ hK rfl
    refine ⟨by simp, .inl ⟨_, _, rfl, run_takeDeferred hK', ?_⟩⟩
    exact ⟨_, results_tmp rfl _ _ _, rfl, (below_step hB hb5 (Nat.le_refl _)).trans (belowK_b (w := w) (Nat.le_refl _) X4 D _ _ (Nat.le_trans hB4.size hD) hK' rfl rfl)⟩
  case stop =>
    rintro D c pre X _ _ h _
    exact h.elim

end Go.Proofs.Ytdmdoddlhjkkiaa
