/- The walk of PlaceSteps: it returns true in whatever world; nothing that lay turns. -/
import Derived.Test.YtdmdoddlhjkkiaaTurnedWalk
import Derived.Test.YtdmdoddlhjkkiaaPlainThree
namespace Go.Proofs.Ytdmdoddlhjkkiaa
open Go.RowKit Go.Shelf
attribute [local go_sem] Oper.semAt_some

theorem has2_grown {X Y : World} {row : Option Nat} {B C : Nat} {W H c : Int} (hs : Has2 B C W H c X) (hg : X.grownBy Y row) (hrow : ∀ r, row = some r → ∃ o : Obj, X.heap[r]? = some o ∧ o.isCells = false) : Has2 B C W H c Y :=
  ⟨blk_grown (B := B) (cs := #[.int .i64 W, .int .i64 H]) hs.1 hg hrow, blk_grown (B := C) (cs := #[.int .i64 c]) hs.2 hg hrow⟩
theorem kept2_below {X Y : World} {B C : Nat} {W H c : Int} (hs : Has2 B C W H c X) (hb : Below X.heap.size X Y) : Kept2 B C X Y :=
  ⟨hb.block B (Array.getElem?_eq_some_iff.1 hs.1).1, hb.block C (Array.getElem?_eq_some_iff.1 hs.2).1⟩
theorem kept2_set {X : World} {B C N : Nat} (v : Value) (h1 : B ≠ N) (h2 : C ≠ N) : Kept2 B C X (X.setCell ⟨N, 0, none⟩ v) :=
  ⟨Below.heap_setCell _ _ _ _ h1, Below.heap_setCell _ _ _ _ h2⟩

set_option maxRecDepth 100000 in
set_option maxHeartbeats 2000000 in
theorem steps_neg (W H a b : Int) (w : World) (hd : awayN W H a b < 0) : Calls Try.prog 8 #[sz W H, .int .i64 a, .int .i64 b] w fun e w' => e = .returned (.bool true) ∧ Below w.heap.size w w' := by
  obtain ⟨d, hD⟩ : ∃ d, awayN W H a b = d := ⟨_, rfl⟩
  rw [hD] at hd
  have HD : Hid (awayN W H a b = d) := hD; clear hD
  refine (callsIn_wide (n := 9)).1 ?_
  refine callsIn_of_wp_marks Try.func8 rfl trivial ?_ rfl
  simp only [Try.ntmps8, List.size_toArray, List.length_cons, List.length_nil, Nat.reduceAdd, Nat.reduceSub, Array.replicate_succ, Array.replicate_zero, List.push_toArray, List.append_toArray, List.nil_append, List.cons_append]
  gi_wp2_with fail
  refine ⟨trivial, ?_⟩
  refine (callsIn_wide.2 (awake_any _)).mono ?_
  rintro e w1 ⟨rfl, hb1⟩
  have hz := (((Blk.new w 23 #[.int .i64 W, .int .i64 H]).alloc (.cells #[.int .i64 b] 3)).alloc (.cells #[.bool false] 4)).below hb1
  have hy := ((Blk.new (w.alloc (.cells #[.int .i64 W, .int .i64 H] 23)) 3 #[.int .i64 b]).alloc (.cells #[.bool false] 4)).below hb1
  have hr := (Blk.new ((w.alloc (.cells #[.int .i64 W, .int .i64 H] 23)).alloc (.cells #[.int .i64 b] 3)) 4 #[.bool false]).below hb1
  have hB1 : Below w.heap.size w w1 := below_step (below_new (below_new (below_new (Below.refl _ w) (Nat.le_refl _) _) (Nat.le_refl _) _) (Nat.le_refl _) _) hb1 (Nat.le_refl _)
  simp only [World.size_alloc] at hy hr
  obtain ⟨z0, z1⟩ := hz.cells2
  have y0 := hy.cell1
  gi_wp2_with fail
  refine ⟨trivial, ?_⟩
  refine (callsIn_wide.2 (away_as _ HD.out)).mono ?_
  rintro e w2 ⟨rfl, hb2⟩
  have hr2 := hr.below hb2
  have r0 := hr2.cell1
  have r1 := hr2.frozen 0
  have rl := hr2.lt
  have hB2 := below_step hB1 hb2 (Nat.le_refl _)
  gi_wp2
  have hc5 := ((hr2.set1 (.bool true)).alloc (.cells #[.int .i64 d] 3)).cell1
  refine ⟨.bool true, ?_, rfl, below_new (hB2.setCell (p := ⟨w.heap.size + 1 + 1, 0, none⟩) (by simp; omega) _) (Nat.le_refl _) _⟩
  simp [results, Try.f8, go_sem, hc5]

set_option maxRecDepth 100000 in
set_option maxHeartbeats 2000000 in
theorem steps_pos (W H a b : Int) (w : World) (ha : inB W H a = true) (hb : inB W H b = true) : Calls Try.prog 8 #[sz W H, .int .i64 a, .int .i64 b] w fun e w' => e = .returned (.bool true) ∧ Below w.heap.size w w' := by
  have hd0 := away_nonneg ha hb
  have hdb := (away_bd W H a b).2
  have HS : Hid (∀ c, c ∈ nearL W H a → awayN W H c b = awayN W H a b - 1 ∨ awayN W H c b = awayN W H a b + 1) := fun c => steps_one ha hb
  have hC := steps_cnt ha hb
  obtain ⟨d, hD⟩ : ∃ d, awayN W H a b = d := ⟨_, rfl⟩
  rw [hD] at hd0 hdb HS hC
  have HC : Hid (cntI (fun c => decide (awayN W H c b < d)) (nearL W H a) ≤ 2 ∧ (0 < cntI (fun c => decide (awayN W H c b < d)) (nearL W H a) ↔ 0 < d)) := hC
  clear hC
  have HD : Hid (awayN W H a b = d) := hD; clear hD
  clear ha hb
  refine (callsIn_wide (n := 9)).1 ?_
  refine callsIn_of_wp_marks Try.func8 rfl trivial ?_ rfl
  simp only [Try.ntmps8, List.size_toArray, List.length_cons, List.length_nil, Nat.reduceAdd, Nat.reduceSub, Array.replicate_succ, Array.replicate_zero, List.push_toArray, List.append_toArray, List.nil_append, List.cons_append]
  gi_wp2_with fail
  refine ⟨trivial, ?_⟩
  refine (callsIn_wide.2 (awake_any _)).mono ?_
  rintro e w1 ⟨rfl, hb1⟩
  have hz := (((Blk.new w 23 #[.int .i64 W, .int .i64 H]).alloc (.cells #[.int .i64 b] 3)).alloc (.cells #[.bool false] 4)).below hb1
  have hy := ((Blk.new (w.alloc (.cells #[.int .i64 W, .int .i64 H] 23)) 3 #[.int .i64 b]).alloc (.cells #[.bool false] 4)).below hb1
  have hr := (Blk.new ((w.alloc (.cells #[.int .i64 W, .int .i64 H] 23)).alloc (.cells #[.int .i64 b] 3)) 4 #[.bool false]).below hb1
  have hB1 : Below w.heap.size w w1 := below_step (below_new (below_new (below_new (Below.refl _ w) (Nat.le_refl _) _) (Nat.le_refl _) _) (Nat.le_refl _) _) hb1 (Nat.le_refl _)
  simp only [World.size_alloc] at hy hr
  obtain ⟨z0, z1⟩ := hz.cells2
  have y0 := hy.cell1
  gi_wp2_with fail
  refine ⟨trivial, ?_⟩
  refine (callsIn_wide.2 (away_as _ HD.out)).mono ?_
  rintro e w2 ⟨rfl, hb2⟩
  have hr2 := hr.below hb2
  have r0 := hr2.cell1
  have r1 := hr2.frozen 0
  have rl := hr2.lt
  have hB2 := below_step hB1 hb2 (Nat.le_refl _)
  have hz2 := hz.below hb2
  have hy2 := hy.below hb2
  obtain ⟨z20, z21⟩ := hz2.cells2
  have zl := hz2.lt
  clear hb1 hz hy hr hB1 z0 z1 y0
  gi_wp2_with fail
  refine ⟨trivial, ?_⟩
  refine (callsIn_wide.2 (near_ab _ _ _ _)).mono ?_
  rintro e w3 ⟨B1, C1, rfl, hh1, _, _, hb3⟩
  have hz3 := ((hz2.alloc (.cells #[.int .i64 d] 3)).alloc (.cells #[.int .i64 0] 3)).below hb3
  have hy3 := ((hy2.alloc (.cells #[.int .i64 d] 3)).alloc (.cells #[.int .i64 0] 3)).below hb3
  have hr3 := ((hr2.alloc (.cells #[.int .i64 d] 3)).alloc (.cells #[.int .i64 0] 3)).below hb3
  have hd3 := ((Blk.new w2 3 #[.int .i64 d]).alloc (.cells #[.int .i64 0] 3)).below hb3
  have hn3 := (Blk.new (w2.alloc (.cells #[.int .i64 d] 3)) 3 #[.int .i64 0]).below hb3
  have hB3 := below_step (below_new (below_new hB2 (Nat.le_refl _) _) (Nat.le_refl _) _) hb3 (Nat.le_refl _)
  simp only [World.size_alloc] at hn3
  obtain ⟨z30, z31⟩ := hz3.cells2
  have hnf := nearF_nil B1 C1
  gi_wp2_with (refine ⟨trivial, ?_⟩; gi_at_call 11; refine (callsIn_wide.2 (near_ab _ _ _ _)).mono ?_; rintro e w4 ⟨B, C, rfl, hh, lB, lC, hb4⟩)
  have hz4 := hz3.below hb4
  have hy4 := hy3.below hb4
  have hr4 := hr3.below hb4
  have hd4 := hd3.below hb4
  have hn4 := hn3.below hb4
  have hB4 := below_step hB3 hb4 (Nat.le_refl _)
  have l3 := hn3.lt
  generalize w2.heap.size = N at *
  clear hz2 hy2 hr2 hz3 hy3 hr3 hd3 hn3 hb2 hb3 hb4 hB2 hB3 z20 z21 z30 z31 r0 r1 hh1 hnf
  refine wpIn_rangeFunc_ownF rfl (by omega) (gf := 22) (lb := #[.pointer (some ⟨B, 0, none⟩), .pointer (some ⟨C, 0, none⟩)]) rfl trivial (enters_of Try.func22 (by kernel_rfl) rfl)
    (near1_stops _ (by omega) _ _ W H a _ hh) (fun h k => kept2_t h k) (kept2_b (Array.getElem?_eq_some_iff.1 hh.1).1 (Array.getElem?_eq_some_iff.1 hh.2).1) (Below.refl _ _) (fun _ => rfl)
    (fun pre W' => (Blk W' (N + 1) 3 #[.int .i64 (cntI (fun c => decide (awayN W H c b < d)) pre)] ∧ Blk W' N 3 #[.int .i64 d] ∧ Blk W' w.heap.size 23 #[.int .i64 W, .int .i64 H] ∧ Blk W' (w.heap.size + 1) 3 #[.int .i64 b] ∧ Blk W' (w.heap.size + 1 + 1) 4 #[.bool false] ∧ Has2 B C W H a W') ∧ Below w.heap.size w W')
    (fun c pre W' => c = .ret ∧ ∃ y ∈ pre, ¬ (awayN W H y b = d - 1 ∨ awayN W H y b = d + 1))
    (OwnFrom.and (Own.from (fun s A B row hs hg hr => ⟨blk_grown hs.1 hg hr, blk_grown hs.2.1 hg hr, blk_grown hs.2.2.1 hg hr, blk_grown hs.2.2.2.1 hg hr, blk_grown hs.2.2.2.2.1 hg hr, has2_grown hs.2.2.2.2.2 hg hr⟩) _) (ownFrom_below (Nat.le_refl _) (by have := hB4.size; omega)))
    (fun _ _ _ _ _ hs _ _ => hs)
    ⟨⟨hn4, hd4, hz4, hy4, hr4, hh⟩, hB4⟩
    ?a1 ?assign ?body ?done ?stop
  case assign =>
    intro l x X K hK
    gi_wp2
    exact hK
  case body =>
    rintro l pre x X ⟨⟨hn, hd, hz, hy, hr, hh⟩, hB⟩ hlen
    have c1 := hn.cell1
    have f1 := hn.frozen 0
    have c2 := hd.cell1
    obtain ⟨z0, z1⟩ := hz.cells2
    have y0 := hy.cell1
    have r0 := hr.cell1
    have r1 := hr.frozen 0
    have hcb := cntI_bd (fun c => decide (awayN W H c b < d)) pre
    obtain ⟨q, hq⟩ : ∃ q, cntI (fun c => decide (awayN W H c b < d)) pre = q := ⟨_, rfl⟩
    rw [hq] at c1 hcb hn
    have HQ : Hid (cntI (fun c => decide (awayN W H c b < d)) pre = q) := hq; clear hq
    by_cases h1 : awayN W H x b = d - 1
    · have H1 : Hid (awayN W H x b = d - 1) := h1; clear h1
      gi_wp2_with fail
      refine ⟨trivial, ?_⟩
      refine (CallsIn.inRound l (callsIn_wide.2 (away_as _ H1.out))).mono ?_
      rintro e X1 ⟨rfl, hb1⟩
      have hn' := hn.below hb1
      have hd' := hd.below hb1
      have k1 := hn'.cell1
      have k2 := hn'.frozen 0
      have k3 := hd'.cell1
      gi_wp2
      have hk := kept2_below hh hb1
      exact ⟨(below_others hb1).trans (KeepsOthers.setCell _ _ _), kept2_t hk (kept2_set _ (by omega) (by omega)),
        ⟨by rw [cntI_append, HQ.out, cntI_one, if_pos (by rw [decide_eq_true_iff, H1.out]; omega)]; exact hn'.set1 _, hd'.other (by omega) _, (hz.below hb1).other (by omega) _, (hy.below hb1).other (by omega) _, (hr.below hb1).other (by omega) _, hh.kept (kept2_t hk (kept2_set _ (by omega) (by omega)))⟩,
        (below_step hB hb1 (Nat.le_refl _)).setCell (p := ⟨N + 1, 0, none⟩) (by simp; omega) _⟩
    · by_cases h2 : awayN W H x b = d + 1
      · have H2 : Hid (awayN W H x b = d + 1) := h2; clear h2 h1
        have hne : ((d + 1 : Int) != d - 1) = true := by rw [bne_iff_ne]; omega
        gi_wp2_with fail
        refine ⟨trivial, ?_⟩
        refine (CallsIn.inRound l (callsIn_wide.2 (away_as _ H2.out))).mono ?_
        rintro e X1 ⟨rfl, hb1⟩
        have hn' := hn.below hb1
        have hd' := hd.below hb1
        have k1 := hn'.cell1
        have k2 := hn'.frozen 0
        have k3 := hd'.cell1
        gi_wp2
        have hk := kept2_below hh hb1
        exact ⟨below_others hb1, hk,
          ⟨by rw [cntI_append, HQ.out, cntI_one, if_neg (by rw [decide_eq_true_iff, H2.out]; omega), Int.add_zero]; exact hn', hd', hz.below hb1, hy.below hb1, hr.below hb1, hh.kept hk⟩, below_step hB hb1 (Nat.le_refl _)⟩
      · have HX : Hid (¬ (awayN W H x b = d - 1 ∨ awayN W H x b = d + 1)) := fun h => h.elim h1 h2
        obtain ⟨E, hE⟩ : ∃ E, awayN W H x b = E := ⟨_, rfl⟩
        rw [hE] at h1 h2
        have HE : Hid (awayN W H x b = E) := hE; clear hE
        have n1 : (E != d - 1) = true := by rw [bne_iff_ne]; exact h1
        have n2 : (E != d + 1) = true := by rw [bne_iff_ne]; exact h2
        clear h1 h2
        gi_wp2_with fail
        refine ⟨trivial, ?_⟩
        refine (CallsIn.inRound l (callsIn_wide.2 (away_as _ HE.out))).mono ?_
        rintro e X1 ⟨rfl, hb1⟩
        have hd' := hd.below hb1
        have k3 := hd'.cell1
        have hr' := hr.below hb1
        have k4 := hr'.cell1
        have k5 := hr'.frozen 0
        gi_wp2
        exact ⟨(below_others hb1).trans (KeepsOthers.setCell _ _ _), rfl, x, by simp, HX.out⟩
  case done =>
    rintro D ys X hD hall ⟨⟨hn, hd, hz, hy, hr, _⟩, hB⟩ hK
    rw [show ys = nearL W H a from hall] at hn
    obtain ⟨hc1, hc2⟩ := HC.out
    have hc0 := (cntI_bd (fun c => decide (awayN W H c b < d)) (nearL W H a)).1
    generalize cntI (fun c => decide (awayN W H c b < d)) (nearL W H a) = q at *
    have c1 := hn.cell1
    have c2 := hd.cell1
    have r0 := hr.cell1
    have r1 := hr.frozen 0
    have fin : ∀ v, v = true → Blk (X.setCell ⟨w.heap.size + 1 + 1, 0, none⟩ (.bool v)) (w.heap.size + 1 + 1) 4 #[.bool true] := fun v h => by rw [h]; exact hr.set1 _
    by_cases h0 : 0 < d
    · have hq0 : 0 < q := hc2.2 h0
      clear hc2 HC
      gi_wp2
      have hK' := (KeepsOthers.setCell X ⟨w.heap.size + 1 + 1, 0, none⟩ (.bool true)).same D _ hK rfl
      refine ⟨by simp, .inl ⟨_, _, rfl, run_takeDeferred hK', ?_⟩⟩
      have hc5 := cell_kept (fin true rfl).cell1 (grownBy_putObj' _ D (.deferred none)) (fun r e => by cases e; exact ⟨_, hK', rfl⟩)
      refine ⟨.bool true, ?_, rfl, (hB.setCell (p := ⟨w.heap.size + 1 + 1, 0, none⟩) (by simp; omega) _).trans (belowK_b (w := w) (Nat.le_refl _) _ D _ _ (Nat.le_trans hB4.size hD) hK' rfl rfl)⟩
      simp [results, Try.f8, go_sem, hc5]
    · have hq0 : ¬ 0 < q := fun h => h0 (hc2.1 h)
      have dq : decide (0 < q) = false := by simpa using hq0
      have dd : decide (0 < d) = false := by simpa using h0
      clear hc2 HC
      gi_wp2
      have hK' := (KeepsOthers.setCell X ⟨w.heap.size + 1 + 1, 0, none⟩ (.bool true)).same D _ hK rfl
      refine ⟨by simp, .inl ⟨_, _, rfl, run_takeDeferred hK', ?_⟩⟩
      have hc5 := cell_kept (fin true rfl).cell1 (grownBy_putObj' _ D (.deferred none)) (fun r e => by cases e; exact ⟨_, hK', rfl⟩)
      refine ⟨.bool true, ?_, rfl, (hB.setCell (p := ⟨w.heap.size + 1 + 1, 0, none⟩) (by simp; omega) _).trans (belowK_b (w := w) (Nat.le_refl _) _ D _ _ (Nat.le_trans hB4.size hD) hK' rfl rfl)⟩
      simp [results, Try.f8, go_sem, hc5]
  case stop =>
    rintro D c pre X _ hpre ⟨rfl, y, hy, hbad⟩ _
    exact absurd (HS.out y ((show pre <+: nearL W H a from hpre).subset hy)) hbad

theorem steps_any (W H a b : Int) (w : World) : Calls Try.prog 8 #[sz W H, .int .i64 a, .int .i64 b] w fun e w' => e = .returned (.bool true) ∧ Below w.heap.size w w' := by
  by_cases h : awayN W H a b < 0
  · exact steps_neg W H a b w h
  · obtain ⟨ha, hb⟩ := away_in (by omega : 0 ≤ awayN W H a b)
    exact steps_pos W H a b w ha hb

end Go.Proofs.Ytdmdoddlhjkkiaa
