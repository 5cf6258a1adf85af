/- The walk of PlaceNear: it returns true in whatever world; nothing that lay turns. -/
import Derived.Test.YtdmdoddlhjkkiaaStepsWalk
import Derived.Test.YtdmdoddlhjkkiaaPlainFour
namespace Go.Proofs.Ytdmdoddlhjkkiaa
open Go.RowKit Go.Shelf
attribute [local go_sem] Oper.semAt_some

set_option maxRecDepth 100000 in
set_option maxHeartbeats 4000000 in
theorem near_neg (W H a b c : Int) (w : World) (hd : awayN W H a b < 0) : Calls Try.prog 6 #[sz W H, .int .i64 a, .int .i64 b, .int .i64 c] w fun e w' => e = .returned (.bool true) ∧ Below w.heap.size w w' := by
  have bd := (away_bd W H a b).2
  have be := (away_bd W H b c).2
  have bf := (away_bd W H a c).2
  have HS0 := away_comm W H b a
  obtain ⟨d, hD⟩ : ∃ d, awayN W H a b = d := ⟨_, rfl⟩
  obtain ⟨e, hE⟩ : ∃ e, awayN W H b c = e := ⟨_, rfl⟩
  obtain ⟨f, hF⟩ : ∃ f, awayN W H a c = f := ⟨_, rfl⟩
  rw [hD] at hd bd HS0
  rw [hE] at be
  rw [hF] at bf
  have HD : Hid (awayN W H a b = d) := hD
  have HE : Hid (awayN W H b c = e) := hE
  have HF : Hid (awayN W H a c = f) := hF
  have HS : Hid (awayN W H b a = d) := HS0
  have HP : Hid (decide (awayN W H a b = 1) = (d == 1)) := by show _ = _; rw [hD, Bool.eq_iff_iff]; simp
  have HQ : Hid (decide (awayN W H b a = 1) = (d == 1)) := by show _ = _; rw [HS0, Bool.eq_iff_iff]; simp
  clear hD hE hF HS0
  have t1 : (d == 0) = false := beq_eq_false_iff_ne.2 (by omega)
  have t2 : decide (0 ≤ d) = false := by simp; omega
  refine (callsIn_wide (n := 9)).1 ?_
  refine callsIn_of_wp_marks Try.func6 rfl trivial ?_ rfl
  simp only [Try.ntmps6, List.size_toArray, List.length_cons, List.length_nil, Nat.reduceAdd, Nat.reduceSub, Array.replicate_succ, Array.replicate_zero, List.push_toArray, List.append_toArray, List.nil_append, List.cons_append]
  gi_wp2_with fail
  refine ⟨trivial, ?_⟩
  refine (callsIn_wide.2 (awake_any _)).mono ?_
  rintro _ w1 ⟨rfl, hb1⟩
  have hz := (((Blk.new w 23 #[.int .i64 W, .int .i64 H]).alloc (.cells #[.int .i64 a] 3)).alloc (.cells #[.bool false] 4)).below hb1
  have hy := ((Blk.new (w.alloc (.cells #[.int .i64 W, .int .i64 H] 23)) 3 #[.int .i64 a]).alloc (.cells #[.bool false] 4)).below hb1
  have hr := (Blk.new ((w.alloc (.cells #[.int .i64 W, .int .i64 H] 23)).alloc (.cells #[.int .i64 a] 3)) 4 #[.bool false]).below hb1
  have hB1 : Below w.heap.size w w1 := below_step (below_new (below_new (below_new (Below.refl _ w) (Nat.le_refl _) _) (Nat.le_refl _) _) (Nat.le_refl _) _) hb1 (Nat.le_refl _)
  simp only [World.size_alloc] at hy hr
  clear hb1
  have a0 := Grow.cell hz.lt hz.cells2.1
  have a1 := Grow.cell hz.lt hz.cells2.2
  have b0 := Grow.cell hy.lt hy.cell1
  have hne := Grow.ne w1
  gi_wp2
  refine wpIn_wide.2 ?_
  refine wp_region_grow (by kernel_rfl) (by kernel_rfl) ?_
  repeat (go_big_quiet_step ((go_at_call 14; exact grow_call (away_as _ (by first | exact HD.out | exact HE.out | exact HF.out)))))
  refine wpQuiet_nil ?_
  rintro w2 ⟨⟨_, hb2⟩, rfl⟩
  replace hz := hz.below hb2
  replace hy := hy.below hb2
  replace hr := hr.below hb2
  have hB2 := below_step hB1 hb2 (Nat.le_refl _)
  clear a0 a1 b0 hne hb2 hB1
  obtain ⟨z0, z1⟩ := hz.cells2
  have y0 := hy.cell1
  gi_wp2_with fail
  refine ⟨trivial, ?_⟩
  refine (callsIn_wide.2 (away_as _ HS.out)).mono ?_
  rintro _ w3 ⟨rfl, hb3⟩
  replace hz := hz.below hb3
  replace hy := hy.below hb3
  replace hr := hr.below hb3
  have hB3 := below_step hB2 hb3 (Nat.le_refl _)
  clear z0 z1 y0 hb3 hB2
  obtain ⟨z0, z1⟩ := hz.cells2
  have y0 := hy.cell1
  gi_wp2_with (refine ⟨trivial, ?_⟩; gi_at_call 13; refine (callsIn_wide.2 (beside_as _ HP.out)).mono ?_; rintro _ w4 ⟨rfl, hb4⟩; obtain ⟨z40, z41⟩ := (hz.below hb4).cells2; have y40 := (hy.below hb4).cell1; clear HP)
  refine ⟨trivial, ?_⟩
  refine (callsIn_wide.2 (beside_as _ HQ.out)).mono ?_
  rintro _ w5 ⟨rfl, hb5⟩
  replace hz := (hz.below hb4).below hb5
  replace hy := (hy.below hb4).below hb5
  replace hr := (hr.below hb4).below hb5
  have hB5 := below_step (below_step hB3 hb4 (Nat.le_refl _)) hb5 (Nat.le_refl _)
  clear z0 z1 y0 z40 z41 y40 hb4 hb5 hB3
  obtain ⟨z0, z1⟩ := hz.cells2
  have y0 := hy.cell1
  have zl := hz.lt
  have yl := hy.lt
  have rl := hr.lt
  gi_wp2_with (refine ⟨trivial, ?_⟩; gi_at_call 11; refine (callsIn_wide.2 (near_ab _ _ _ _)).mono ?_; rintro _ w6 ⟨B1, C1, rfl, hh1, lB1, lC1, hb6⟩; have hnf := nearF_nil B1 C1; obtain ⟨z60, z61⟩ := (((hz.alloc (.cells #[.int .i64 0] 3)).alloc (.cells #[.int .i64 (-1)] 3)).below hb6).cells2; have y60 := (((hy.alloc (.cells #[.int .i64 0] 3)).alloc (.cells #[.int .i64 (-1)] 3)).below hb6).cell1; clear yl)
  refine ⟨trivial, ?_⟩
  refine (callsIn_wide.2 (near_ab _ _ _ _)).mono ?_
  rintro _ w7 ⟨B, C, rfl, hh, lB, lC, hb7⟩
  have hn6 := ((Blk.new w5 3 #[.int .i64 0]).alloc (.cells #[.int .i64 (-1)] 3)).below hb6
  have hl6 := (Blk.new (w5.alloc (.cells #[.int .i64 0] 3)) 3 #[.int .i64 (-1)]).below hb6
  simp only [World.size_alloc] at hl6
  replace hz := (((hz.alloc (.cells #[.int .i64 0] 3)).alloc (.cells #[.int .i64 (-1)] 3)).below hb6).below hb7
  replace hy := (((hy.alloc (.cells #[.int .i64 0] 3)).alloc (.cells #[.int .i64 (-1)] 3)).below hb6).below hb7
  replace hr := (((hr.alloc (.cells #[.int .i64 0] 3)).alloc (.cells #[.int .i64 (-1)] 3)).below hb6).below hb7
  have hn7 := hn6.below hb7
  have hl7 := hl6.below hb7
  have l6 := hl6.lt
  have hB7 := below_step (below_step (below_new (below_new hB5 (Nat.le_refl _) _) (Nat.le_refl _) _) hb6 (Nat.le_refl _)) hb7 (Nat.le_refl _)
  generalize w5.heap.size = M at *
  clear z0 z1 y0 z60 z61 y60 hb6 hb7 hB5 hn6 hl6 hh1 hnf HD HE HF HS HQ zl bd be bf lB1 lC1
  gi_wp2_with fail
  refine wpIn_rangeFunc_ownF rfl (by omega) (gf := 22) (lb := #[.pointer (some ⟨B, 0, none⟩), .pointer (some ⟨C, 0, none⟩)]) rfl trivial (enters_of Try.func22 (by kernel_rfl) rfl)
    (near1_stops _ (by omega) _ _ W H a _ hh) (fun h k => kept2_t h k) (kept2_b (Array.getElem?_eq_some_iff.1 hh.1).1 (Array.getElem?_eq_some_iff.1 hh.2).1) (Below.refl _ _) (fun _ => rfl)
    (fun pre W' => (Blk W' M 3 #[.int .i64 pre.length] ∧ Blk W' (M + 1) 3 #[.int .i64 (lastI pre)] ∧ Blk W' w.heap.size 23 #[.int .i64 W, .int .i64 H] ∧ Blk W' (w.heap.size + 1) 3 #[.int .i64 a] ∧ Blk W' (w.heap.size + 1 + 1) 4 #[.bool false] ∧ Has2 B C W H a W') ∧ Below w.heap.size w W')
    (fun c pre W' => c = .ret ∧ ∃ p x, pre = p ++ [x] ∧ ¬ (lastI p < x ∧ awayN W H a x = 1))
    (OwnFrom.and (Own.from (fun s A B row hs hg hr => ⟨blk_grown hs.1 hg hr, blk_grown hs.2.1 hg hr, blk_grown hs.2.2.1 hg hr, blk_grown hs.2.2.2.1 hg hr, blk_grown hs.2.2.2.2.1 hg hr, has2_grown hs.2.2.2.2.2 hg hr⟩) _) (ownFrom_below (Nat.le_refl _) (by have := hB7.size; omega)))
    (fun _ _ _ _ _ hs _ _ => hs)
    ⟨⟨hn7, hl7, hz, hy, hr, hh⟩, hB7⟩
    ?a1 ?assign ?body ?done ?stop
  case assign =>
    intro l x X K hK
    gi_wp2
    exact hK
  case body =>
    rintro l pre x X ⟨⟨hn, hl, hz, hy, hr, hh⟩, hB⟩ hlen
    have c1 := hn.cell1
    have f1 := hn.frozen 0
    have c2 := hl.cell1
    have f2 := hl.frozen 0
    obtain ⟨z0, z1⟩ := hz.cells2
    have y0 := hy.cell1
    have r0 := hr.cell1
    have r1 := hr.frozen 0
    obtain ⟨q, hq⟩ : ∃ q, lastI pre = q := ⟨_, rfl⟩
    rw [hq] at c2 hl
    have HL : Hid (lastI pre = q) := hq; clear hq
    by_cases hx : x ≤ q
    · gi_wp2
      repeat (refine ⟨trivial, ?_⟩; gi_wp2)
      exact ⟨KeepsOthers.setCell _ _ _, rfl, pre, x, rfl, fun h => by have := h.1; rw [HL.out] at this; omega⟩
    · by_cases hg : awayN W H a x = 1
      · have HG : Hid (awayN W H a x = 1) := hg
        have HG2 : Hid (decide (awayN W H a x = 1) = true) := by show _ = _; rw [hg]; rfl
        clear hg
        have dx : decide (x ≤ q) = false := by simpa using hx
        gi_wp2_with fail
        refine ⟨trivial, ?_⟩
        refine (CallsIn.inRound l (callsIn_wide.2 (beside_as _ HG2.out))).mono ?_
        rintro _ X1 ⟨rfl, hb1⟩
        obtain ⟨z10, z11⟩ := (hz.below hb1).cells2
        have y10 := (hy.below hb1).cell1
        gi_wp2_with fail
        refine ⟨trivial, ?_⟩
        refine (CallsIn.inRound l (callsIn_wide.2 (away_as _ HG.out))).mono ?_
        rintro _ X2 ⟨rfl, hb2⟩
        have hb := below_step hb1 hb2 (Nat.le_refl _)
        have hn' := hn.below hb
        have hl' := hl.below hb
        have k1 := hn'.cell1
        have k2 := hn'.frozen 0
        have k3 := hl'.cell1
        have k4 := hl'.frozen 0
        gi_wp2
        have hk := kept2_t (kept2_t (kept2_below hh hb) (kept2_set (N := M + 1) (.int .i64 x) (by omega) (by omega))) (kept2_set (N := M) (.int .i64 ((pre.length : Int) + 1)) (by omega) (by omega))
        exact ⟨((below_others hb).trans (KeepsOthers.setCell _ _ _)).trans (KeepsOthers.setCell _ _ _), hk,
          ⟨by rw [List.length_append]; exact (hn'.other (by omega) _).set1 _, by rw [lastI_snoc]; exact (hl'.set1 _).other (by omega) _, ((hz.below hb).other (by omega) _).other (by omega) _, ((hy.below hb).other (by omega) _).other (by omega) _, ((hr.below hb).other (by omega) _).other (by omega) _, hh.kept hk⟩,
          ((below_step hB hb (Nat.le_refl _)).setCell (p := ⟨M + 1, 0, none⟩) (by simp; omega) _).setCell (p := ⟨M, 0, none⟩) (by simp; omega) _⟩
      · have HG2 : Hid (decide (awayN W H a x = 1) = false) := by show _ = _; rw [decide_eq_false hg]
        have HX : Hid (¬ (lastI pre < x ∧ awayN W H a x = 1)) := fun h => hg h.2
        clear hg
        have dx : decide (x ≤ q) = false := by simpa using hx
        gi_wp2_with fail
        refine ⟨trivial, ?_⟩
        refine (CallsIn.inRound l (callsIn_wide.2 (beside_as _ HG2.out))).mono ?_
        rintro _ X1 ⟨rfl, hb1⟩
        have hr' := hr.below hb1
        have k4 := hr'.cell1
        have k5 := hr'.frozen 0
        gi_wp2
        repeat (refine ⟨trivial, ?_⟩; gi_wp2)
        exact ⟨(below_others hb1).trans (KeepsOthers.setCell _ _ _), rfl, pre, x, rfl, HX.out⟩
  case done =>
    rintro D ys X hD hall ⟨⟨hn, hl, hz, hy, hr, _⟩, hB⟩ hK
    rw [show ys = nearL W H a from hall] at hn
    have hlen := nearL_len W H a
    obtain ⟨z0, z1⟩ := hz.cells2
    have y0 := hy.cell1
    cases ha : inB W H a with
    | false =>
      rw [near_no ha] at hn
      have HA : Hid (inB W H a = false) := ha; clear ha
      gi_wp2_with fail
      refine ⟨trivial, ?_⟩
      refine (callsIn_wide.2 (at_no _ _ _ _ HA.out)).mono ?_
      rintro _ X2 ⟨rfl, hb8⟩
      have c1 := (hn.below hb8).cell1
      have r0 := (hr.below hb8).cell1
      have r1 := (hr.below hb8).frozen 0
      gi_wp2
      have hX2 := hr.below hb8
      have hK2 := (below_others hb8).same D _ hK rfl
      have hK' := (KeepsOthers.setCell X2 ⟨w.heap.size + 1 + 1, 0, none⟩ (.bool true)).same D _ hK2 rfl
      refine ⟨by simp, .inl ⟨_, _, rfl, run_takeDeferred hK', ?_⟩⟩
      have hc5 := cell_kept (hX2.set1 (.bool true)).cell1 (grownBy_putObj' _ D (.deferred none)) (fun r e => by cases e; exact ⟨_, hK', rfl⟩)
      refine ⟨.bool true, ?_, rfl, ((below_step hB hb8 (Nat.le_refl _)).setCell (p := ⟨w.heap.size + 1 + 1, 0, none⟩) (by simp; omega) _).trans (belowK_b (w := w) (Nat.le_refl _) _ D _ _ (Nat.le_trans hB7.size hD) hK' rfl rfl)⟩
      simp [results, Try.f6, go_sem, hc5]
    | true =>
      have hmany : W ≠ 1 → H ≠ 1 → 2 ≤ (nearL W H a).length := near_many ha
      generalize (nearL W H a).length = q at *
      have HM : Hid (W ≠ 1 → H ≠ 1 → 2 ≤ q) := hmany; clear hmany
      have HA : Hid (inB W H a = true) := ha; clear ha
      by_cases hW1 : W = 1
      · have g1 : (W == 1) = true := beq_iff_eq.2 hW1
        clear hW1
        gi_wp2_with fail
        refine ⟨trivial, ?_⟩
        refine (callsIn_wide.2 (at_yes _ _ _ _ HA.out)).mono ?_
        rintro _ X2 ⟨rfl, hb8⟩
        have c1 := (hn.below hb8).cell1
        have r0 := (hr.below hb8).cell1
        have r1 := (hr.below hb8).frozen 0
        obtain ⟨z80, z81⟩ := (hz.below hb8).cells2
        gi_wp2
        have hX2 := hr.below hb8
        have hK2 := (below_others hb8).same D _ hK rfl
        have hK' := (KeepsOthers.setCell X2 ⟨w.heap.size + 1 + 1, 0, none⟩ (.bool true)).same D _ hK2 rfl
        refine ⟨by simp, .inl ⟨_, _, rfl, run_takeDeferred hK', ?_⟩⟩
        have hc5 := cell_kept (hX2.set1 (.bool true)).cell1 (grownBy_putObj' _ D (.deferred none)) (fun r e => by cases e; exact ⟨_, hK', rfl⟩)
        refine ⟨.bool true, ?_, rfl, ((below_step hB hb8 (Nat.le_refl _)).setCell (p := ⟨w.heap.size + 1 + 1, 0, none⟩) (by simp; omega) _).trans (belowK_b (w := w) (Nat.le_refl _) _ D _ _ (Nat.le_trans hB7.size hD) hK' rfl rfl)⟩
        simp [results, Try.f6, go_sem, hc5]
      · by_cases hH1 : H = 1
        · have g1 : (W == 1) = false := beq_eq_false_iff_ne.2 hW1
          have g2 : (H == 1) = true := beq_iff_eq.2 hH1
          clear hW1 hH1
          gi_wp2_with fail
          refine ⟨trivial, ?_⟩
          refine (callsIn_wide.2 (at_yes _ _ _ _ HA.out)).mono ?_
          rintro _ X2 ⟨rfl, hb8⟩
          have c1 := (hn.below hb8).cell1
          have r0 := (hr.below hb8).cell1
          have r1 := (hr.below hb8).frozen 0
          obtain ⟨z80, z81⟩ := (hz.below hb8).cells2
          gi_wp2
          have hX2 := hr.below hb8
          have hK2 := (below_others hb8).same D _ hK rfl
          have hK' := (KeepsOthers.setCell X2 ⟨w.heap.size + 1 + 1, 0, none⟩ (.bool true)).same D _ hK2 rfl
          refine ⟨by simp, .inl ⟨_, _, rfl, run_takeDeferred hK', ?_⟩⟩
          have hc5 := cell_kept (hX2.set1 (.bool true)).cell1 (grownBy_putObj' _ D (.deferred none)) (fun r e => by cases e; exact ⟨_, hK', rfl⟩)
          refine ⟨.bool true, ?_, rfl, ((below_step hB hb8 (Nat.le_refl _)).setCell (p := ⟨w.heap.size + 1 + 1, 0, none⟩) (by simp; omega) _).trans (belowK_b (w := w) (Nat.le_refl _) _ D _ _ (Nat.le_trans hB7.size hD) hK' rfl rfl)⟩
          simp [results, Try.f6, go_sem, hc5]
        · have g1 : (W == 1) = false := beq_eq_false_iff_ne.2 hW1
          have g2 : (H == 1) = false := beq_eq_false_iff_ne.2 hH1
          have g3 : 2 ≤ q := HM.out hW1 hH1
          clear hW1 hH1
          gi_wp2_with fail
          refine ⟨trivial, ?_⟩
          refine (callsIn_wide.2 (at_yes _ _ _ _ HA.out)).mono ?_
          rintro _ X2 ⟨rfl, hb8⟩
          have c1 := (hn.below hb8).cell1
          have r0 := (hr.below hb8).cell1
          have r1 := (hr.below hb8).frozen 0
          obtain ⟨z80, z81⟩ := (hz.below hb8).cells2
          gi_wp2
          have hX2 := hr.below hb8
          have hK2 := (below_others hb8).same D _ hK rfl
          have hK' := (KeepsOthers.setCell X2 ⟨w.heap.size + 1 + 1, 0, none⟩ (.bool true)).same D _ hK2 rfl
          refine ⟨by simp, .inl ⟨_, _, rfl, run_takeDeferred hK', ?_⟩⟩
          have hc5 := cell_kept (hX2.set1 (.bool true)).cell1 (grownBy_putObj' _ D (.deferred none)) (fun r e => by cases e; exact ⟨_, hK', rfl⟩)
          refine ⟨.bool true, ?_, rfl, ((below_step hB hb8 (Nat.le_refl _)).setCell (p := ⟨w.heap.size + 1 + 1, 0, none⟩) (by simp; omega) _).trans (belowK_b (w := w) (Nat.le_refl _) _ D _ _ (Nat.le_trans hB7.size hD) hK' rfl rfl)⟩
          simp [results, Try.f6, go_sem, hc5]
  case stop =>
    rintro D c pre X _ hpre ⟨rfl, p, x, rfl, hbad⟩ _
    cases ha : inB W H a with
    | false =>
      have hp : p ++ [x] <+: nearL W H a := hpre
      rw [near_no ha] at hp
      have := hp.length_le; simp at this
    | true => exact absurd (near_next ha hpre) hbad

set_option maxRecDepth 100000 in
set_option maxHeartbeats 4000000 in
theorem near_zp (W H a b c : Int) (w : World) (hd : awayN W H a b = 0) (he : 0 ≤ awayN W H b c) : Calls Try.prog 6 #[sz W H, .int .i64 a, .int .i64 b, .int .i64 c] w fun e w' => e = .returned (.bool true) ∧ Below w.heap.size w w' := by
  have bd := (away_bd W H a b).2
  have be := (away_bd W H b c).2
  have bf := (away_bd W H a c).2
  have tri := away_tri (by omega : 0 ≤ awayN W H a b) he
  have hab : (a != b) = false := by rw [away_zero hd]; simp
  have HS0 := away_comm W H b a
  obtain ⟨d, hD⟩ : ∃ d, awayN W H a b = d := ⟨_, rfl⟩
  obtain ⟨e, hE⟩ : ∃ e, awayN W H b c = e := ⟨_, rfl⟩
  obtain ⟨f, hF⟩ : ∃ f, awayN W H a c = f := ⟨_, rfl⟩
  rw [hD] at hd bd HS0
  rw [hE] at be
  rw [hF] at bf
  rw [hE] at he
  rw [hD, hE, hF] at tri
  have HD : Hid (awayN W H a b = d) := hD
  have HE : Hid (awayN W H b c = e) := hE
  have HF : Hid (awayN W H a c = f) := hF
  have HS : Hid (awayN W H b a = d) := HS0
  have HP : Hid (decide (awayN W H a b = 1) = (d == 1)) := by show _ = _; rw [hD, Bool.eq_iff_iff]; simp
  have HQ : Hid (decide (awayN W H b a = 1) = (d == 1)) := by show _ = _; rw [HS0, Bool.eq_iff_iff]; simp
  clear hD hE hF HS0
  subst hd
  obtain ⟨tri1, tri2⟩ := tri
  have t4 : decide (f < 0) = false := by simp; omega
  have t5 : decide (0 + e < f) = false := by simp; omega
  refine (callsIn_wide (n := 9)).1 ?_
  refine callsIn_of_wp_marks Try.func6 rfl trivial ?_ rfl
  simp only [Try.ntmps6, List.size_toArray, List.length_cons, List.length_nil, Nat.reduceAdd, Nat.reduceSub, Array.replicate_succ, Array.replicate_zero, List.push_toArray, List.append_toArray, List.nil_append, List.cons_append]
  gi_wp2_with fail
  refine ⟨trivial, ?_⟩
  refine (callsIn_wide.2 (awake_any _)).mono ?_
  rintro _ w1 ⟨rfl, hb1⟩
  have hz := (((Blk.new w 23 #[.int .i64 W, .int .i64 H]).alloc (.cells #[.int .i64 a] 3)).alloc (.cells #[.bool false] 4)).below hb1
  have hy := ((Blk.new (w.alloc (.cells #[.int .i64 W, .int .i64 H] 23)) 3 #[.int .i64 a]).alloc (.cells #[.bool false] 4)).below hb1
  have hr := (Blk.new ((w.alloc (.cells #[.int .i64 W, .int .i64 H] 23)).alloc (.cells #[.int .i64 a] 3)) 4 #[.bool false]).below hb1
  have hB1 : Below w.heap.size w w1 := below_step (below_new (below_new (below_new (Below.refl _ w) (Nat.le_refl _) _) (Nat.le_refl _) _) (Nat.le_refl _) _) hb1 (Nat.le_refl _)
  simp only [World.size_alloc] at hy hr
  clear hb1
  have a0 := Grow.cell hz.lt hz.cells2.1
  have a1 := Grow.cell hz.lt hz.cells2.2
  have b0 := Grow.cell hy.lt hy.cell1
  have hne := Grow.ne w1
  gi_wp2
  refine wpIn_wide.2 ?_
  refine wp_region_grow (by kernel_rfl) (by kernel_rfl) ?_
  repeat (go_big_quiet_step ((go_at_call 14; exact grow_call (away_as _ (by first | exact HD.out | exact HE.out | exact HF.out)))))
  refine wpQuiet_nil ?_
  rintro w2 ⟨⟨_, hb2⟩, rfl⟩
  replace hz := hz.below hb2
  replace hy := hy.below hb2
  replace hr := hr.below hb2
  have hB2 := below_step hB1 hb2 (Nat.le_refl _)
  clear a0 a1 b0 hne hb2 hB1
  obtain ⟨z0, z1⟩ := hz.cells2
  have y0 := hy.cell1
  gi_wp2_with fail
  refine ⟨trivial, ?_⟩
  refine (callsIn_wide.2 (away_as _ HS.out)).mono ?_
  rintro _ w3 ⟨rfl, hb3⟩
  replace hz := hz.below hb3
  replace hy := hy.below hb3
  replace hr := hr.below hb3
  have hB3 := below_step hB2 hb3 (Nat.le_refl _)
  clear z0 z1 y0 hb3 hB2
  obtain ⟨z0, z1⟩ := hz.cells2
  have y0 := hy.cell1
  gi_wp2_with (refine ⟨trivial, ?_⟩; gi_at_call 13; refine (callsIn_wide.2 (beside_as _ HP.out)).mono ?_; rintro _ w4 ⟨rfl, hb4⟩; obtain ⟨z40, z41⟩ := (hz.below hb4).cells2; have y40 := (hy.below hb4).cell1; clear HP)
  refine ⟨trivial, ?_⟩
  refine (callsIn_wide.2 (beside_as _ HQ.out)).mono ?_
  rintro _ w5 ⟨rfl, hb5⟩
  replace hz := (hz.below hb4).below hb5
  replace hy := (hy.below hb4).below hb5
  replace hr := (hr.below hb4).below hb5
  have hB5 := below_step (below_step hB3 hb4 (Nat.le_refl _)) hb5 (Nat.le_refl _)
  clear z0 z1 y0 z40 z41 y40 hb4 hb5 hB3
  obtain ⟨z0, z1⟩ := hz.cells2
  have y0 := hy.cell1
  have zl := hz.lt
  have yl := hy.lt
  have rl := hr.lt
  gi_wp2_with (refine ⟨trivial, ?_⟩; gi_at_call 11; refine (callsIn_wide.2 (near_ab _ _ _ _)).mono ?_; rintro _ w6 ⟨B1, C1, rfl, hh1, lB1, lC1, hb6⟩; have hnf := nearF_nil B1 C1; obtain ⟨z60, z61⟩ := (((hz.alloc (.cells #[.int .i64 0] 3)).alloc (.cells #[.int .i64 (-1)] 3)).below hb6).cells2; have y60 := (((hy.alloc (.cells #[.int .i64 0] 3)).alloc (.cells #[.int .i64 (-1)] 3)).below hb6).cell1; clear yl)
  refine ⟨trivial, ?_⟩
  refine (callsIn_wide.2 (near_ab _ _ _ _)).mono ?_
  rintro _ w7 ⟨B, C, rfl, hh, lB, lC, hb7⟩
  have hn6 := ((Blk.new w5 3 #[.int .i64 0]).alloc (.cells #[.int .i64 (-1)] 3)).below hb6
  have hl6 := (Blk.new (w5.alloc (.cells #[.int .i64 0] 3)) 3 #[.int .i64 (-1)]).below hb6
  simp only [World.size_alloc] at hl6
  replace hz := (((hz.alloc (.cells #[.int .i64 0] 3)).alloc (.cells #[.int .i64 (-1)] 3)).below hb6).below hb7
  replace hy := (((hy.alloc (.cells #[.int .i64 0] 3)).alloc (.cells #[.int .i64 (-1)] 3)).below hb6).below hb7
  replace hr := (((hr.alloc (.cells #[.int .i64 0] 3)).alloc (.cells #[.int .i64 (-1)] 3)).below hb6).below hb7
  have hn7 := hn6.below hb7
  have hl7 := hl6.below hb7
  have l6 := hl6.lt
  have hB7 := below_step (below_step (below_new (below_new hB5 (Nat.le_refl _) _) (Nat.le_refl _) _) hb6 (Nat.le_refl _)) hb7 (Nat.le_refl _)
  generalize w5.heap.size = M at *
  clear z0 z1 y0 z60 z61 y60 hb6 hb7 hB5 hn6 hl6 hh1 hnf HD HE HF HS HQ zl bd be bf lB1 lC1
  gi_wp2_with fail
  refine wpIn_rangeFunc_ownF rfl (by omega) (gf := 22) (lb := #[.pointer (some ⟨B, 0, none⟩), .pointer (some ⟨C, 0, none⟩)]) rfl trivial (enters_of Try.func22 (by kernel_rfl) rfl)
    (near1_stops _ (by omega) _ _ W H a _ hh) (fun h k => kept2_t h k) (kept2_b (Array.getElem?_eq_some_iff.1 hh.1).1 (Array.getElem?_eq_some_iff.1 hh.2).1) (Below.refl _ _) (fun _ => rfl)
    (fun pre W' => (Blk W' M 3 #[.int .i64 pre.length] ∧ Blk W' (M + 1) 3 #[.int .i64 (lastI pre)] ∧ Blk W' w.heap.size 23 #[.int .i64 W, .int .i64 H] ∧ Blk W' (w.heap.size + 1) 3 #[.int .i64 a] ∧ Blk W' (w.heap.size + 1 + 1) 4 #[.bool false] ∧ Has2 B C W H a W') ∧ Below w.heap.size w W')
    (fun c pre W' => c = .ret ∧ ∃ p x, pre = p ++ [x] ∧ ¬ (lastI p < x ∧ awayN W H a x = 1))
    (OwnFrom.and (Own.from (fun s A B row hs hg hr => ⟨blk_grown hs.1 hg hr, blk_grown hs.2.1 hg hr, blk_grown hs.2.2.1 hg hr, blk_grown hs.2.2.2.1 hg hr, blk_grown hs.2.2.2.2.1 hg hr, has2_grown hs.2.2.2.2.2 hg hr⟩) _) (ownFrom_below (Nat.le_refl _) (by have := hB7.size; omega)))
    (fun _ _ _ _ _ hs _ _ => hs)
    ⟨⟨hn7, hl7, hz, hy, hr, hh⟩, hB7⟩
    ?a1 ?assign ?body ?done ?stop
  case assign =>
    intro l x X K hK
    gi_wp2
    exact hK
  case body =>
    rintro l pre x X ⟨⟨hn, hl, hz, hy, hr, hh⟩, hB⟩ hlen
    have c1 := hn.cell1
    have f1 := hn.frozen 0
    have c2 := hl.cell1
    have f2 := hl.frozen 0
    obtain ⟨z0, z1⟩ := hz.cells2
    have y0 := hy.cell1
    have r0 := hr.cell1
    have r1 := hr.frozen 0
    obtain ⟨q, hq⟩ : ∃ q, lastI pre = q := ⟨_, rfl⟩
    rw [hq] at c2 hl
    have HL : Hid (lastI pre = q) := hq; clear hq
    by_cases hx : x ≤ q
    · gi_wp2
      repeat (refine ⟨trivial, ?_⟩; gi_wp2)
      exact ⟨KeepsOthers.setCell _ _ _, rfl, pre, x, rfl, fun h => by have := h.1; rw [HL.out] at this; omega⟩
    · by_cases hg : awayN W H a x = 1
      · have HG : Hid (awayN W H a x = 1) := hg
        have HG2 : Hid (decide (awayN W H a x = 1) = true) := by show _ = _; rw [hg]; rfl
        clear hg
        have dx : decide (x ≤ q) = false := by simpa using hx
        gi_wp2_with fail
        refine ⟨trivial, ?_⟩
        refine (CallsIn.inRound l (callsIn_wide.2 (beside_as _ HG2.out))).mono ?_
        rintro _ X1 ⟨rfl, hb1⟩
        obtain ⟨z10, z11⟩ := (hz.below hb1).cells2
        have y10 := (hy.below hb1).cell1
        gi_wp2_with fail
        refine ⟨trivial, ?_⟩
        refine (CallsIn.inRound l (callsIn_wide.2 (away_as _ HG.out))).mono ?_
        rintro _ X2 ⟨rfl, hb2⟩
        have hb := below_step hb1 hb2 (Nat.le_refl _)
        have hn' := hn.below hb
        have hl' := hl.below hb
        have k1 := hn'.cell1
        have k2 := hn'.frozen 0
        have k3 := hl'.cell1
        have k4 := hl'.frozen 0
        gi_wp2
        have hk := kept2_t (kept2_t (kept2_below hh hb) (kept2_set (N := M + 1) (.int .i64 x) (by omega) (by omega))) (kept2_set (N := M) (.int .i64 ((pre.length : Int) + 1)) (by omega) (by omega))
        exact ⟨((below_others hb).trans (KeepsOthers.setCell _ _ _)).trans (KeepsOthers.setCell _ _ _), hk,
          ⟨by rw [List.length_append]; exact (hn'.other (by omega) _).set1 _, by rw [lastI_snoc]; exact (hl'.set1 _).other (by omega) _, ((hz.below hb).other (by omega) _).other (by omega) _, ((hy.below hb).other (by omega) _).other (by omega) _, ((hr.below hb).other (by omega) _).other (by omega) _, hh.kept hk⟩,
          ((below_step hB hb (Nat.le_refl _)).setCell (p := ⟨M + 1, 0, none⟩) (by simp; omega) _).setCell (p := ⟨M, 0, none⟩) (by simp; omega) _⟩
      · have HG2 : Hid (decide (awayN W H a x = 1) = false) := by show _ = _; rw [decide_eq_false hg]
        have HX : Hid (¬ (lastI pre < x ∧ awayN W H a x = 1)) := fun h => hg h.2
        clear hg
        have dx : decide (x ≤ q) = false := by simpa using hx
        gi_wp2_with fail
        refine ⟨trivial, ?_⟩
        refine (CallsIn.inRound l (callsIn_wide.2 (beside_as _ HG2.out))).mono ?_
        rintro _ X1 ⟨rfl, hb1⟩
        have hr' := hr.below hb1
        have k4 := hr'.cell1
        have k5 := hr'.frozen 0
        gi_wp2
        repeat (refine ⟨trivial, ?_⟩; gi_wp2)
        exact ⟨(below_others hb1).trans (KeepsOthers.setCell _ _ _), rfl, pre, x, rfl, HX.out⟩
  case done =>
    rintro D ys X hD hall ⟨⟨hn, hl, hz, hy, hr, _⟩, hB⟩ hK
    rw [show ys = nearL W H a from hall] at hn
    have hlen := nearL_len W H a
    obtain ⟨z0, z1⟩ := hz.cells2
    have y0 := hy.cell1
    cases ha : inB W H a with
    | false =>
      rw [near_no ha] at hn
      have HA : Hid (inB W H a = false) := ha; clear ha
      gi_wp2_with fail
      refine ⟨trivial, ?_⟩
      refine (callsIn_wide.2 (at_no _ _ _ _ HA.out)).mono ?_
      rintro _ X2 ⟨rfl, hb8⟩
      have c1 := (hn.below hb8).cell1
      have r0 := (hr.below hb8).cell1
      have r1 := (hr.below hb8).frozen 0
      gi_wp2
      have hX2 := hr.below hb8
      have hK2 := (below_others hb8).same D _ hK rfl
      have hK' := (KeepsOthers.setCell X2 ⟨w.heap.size + 1 + 1, 0, none⟩ (.bool true)).same D _ hK2 rfl
      refine ⟨by simp, .inl ⟨_, _, rfl, run_takeDeferred hK', ?_⟩⟩
      have hc5 := cell_kept (hX2.set1 (.bool true)).cell1 (grownBy_putObj' _ D (.deferred none)) (fun r e => by cases e; exact ⟨_, hK', rfl⟩)
      refine ⟨.bool true, ?_, rfl, ((below_step hB hb8 (Nat.le_refl _)).setCell (p := ⟨w.heap.size + 1 + 1, 0, none⟩) (by simp; omega) _).trans (belowK_b (w := w) (Nat.le_refl _) _ D _ _ (Nat.le_trans hB7.size hD) hK' rfl rfl)⟩
      simp [results, Try.f6, go_sem, hc5]
    | true =>
      have hmany : W ≠ 1 → H ≠ 1 → 2 ≤ (nearL W H a).length := near_many ha
      generalize (nearL W H a).length = q at *
      have HM : Hid (W ≠ 1 → H ≠ 1 → 2 ≤ q) := hmany; clear hmany
      have HA : Hid (inB W H a = true) := ha; clear ha
      by_cases hW1 : W = 1
      · have g1 : (W == 1) = true := beq_iff_eq.2 hW1
        clear hW1
        gi_wp2_with fail
        refine ⟨trivial, ?_⟩
        refine (callsIn_wide.2 (at_yes _ _ _ _ HA.out)).mono ?_
        rintro _ X2 ⟨rfl, hb8⟩
        have c1 := (hn.below hb8).cell1
        have r0 := (hr.below hb8).cell1
        have r1 := (hr.below hb8).frozen 0
        obtain ⟨z80, z81⟩ := (hz.below hb8).cells2
        gi_wp2
        have hX2 := hr.below hb8
        have hK2 := (below_others hb8).same D _ hK rfl
        have hK' := (KeepsOthers.setCell X2 ⟨w.heap.size + 1 + 1, 0, none⟩ (.bool true)).same D _ hK2 rfl
        refine ⟨by simp, .inl ⟨_, _, rfl, run_takeDeferred hK', ?_⟩⟩
        have hc5 := cell_kept (hX2.set1 (.bool true)).cell1 (grownBy_putObj' _ D (.deferred none)) (fun r e => by cases e; exact ⟨_, hK', rfl⟩)
        refine ⟨.bool true, ?_, rfl, ((below_step hB hb8 (Nat.le_refl _)).setCell (p := ⟨w.heap.size + 1 + 1, 0, none⟩) (by simp; omega) _).trans (belowK_b (w := w) (Nat.le_refl _) _ D _ _ (Nat.le_trans hB7.size hD) hK' rfl rfl)⟩
        simp [results, Try.f6, go_sem, hc5]
      · by_cases hH1 : H = 1
        · have g1 : (W == 1) = false := beq_eq_false_iff_ne.2 hW1
          have g2 : (H == 1) = true := beq_iff_eq.2 hH1
          clear hW1 hH1
          gi_wp2_with fail
          refine ⟨trivial, ?_⟩
          refine (callsIn_wide.2 (at_yes _ _ _ _ HA.out)).mono ?_
          rintro _ X2 ⟨rfl, hb8⟩
          have c1 := (hn.below hb8).cell1
          have r0 := (hr.below hb8).cell1
          have r1 := (hr.below hb8).frozen 0
          obtain ⟨z80, z81⟩ := (hz.below hb8).cells2
          gi_wp2
          have hX2 := hr.below hb8
          have hK2 := (below_others hb8).same D _ hK rfl
          have hK' := (KeepsOthers.setCell X2 ⟨w.heap.size + 1 + 1, 0, none⟩ (.bool true)).same D _ hK2 rfl
          refine ⟨by simp, .inl ⟨_, _, rfl, run_takeDeferred hK', ?_⟩⟩
          have hc5 := cell_kept (hX2.set1 (.bool true)).cell1 (grownBy_putObj' _ D (.deferred none)) (fun r e => by cases e; exact ⟨_, hK', rfl⟩)
          refine ⟨.bool true, ?_, rfl, ((below_step hB hb8 (Nat.le_refl _)).setCell (p := ⟨w.heap.size + 1 + 1, 0, none⟩) (by simp; omega) _).trans (belowK_b (w := w) (Nat.le_refl _) _ D _ _ (Nat.le_trans hB7.size hD) hK' rfl rfl)⟩
          simp [results, Try.f6, go_sem, hc5]
        · have g1 : (W == 1) = false := beq_eq_false_iff_ne.2 hW1
          have g2 : (H == 1) = false := beq_eq_false_iff_ne.2 hH1
          have g3 : 2 ≤ q := HM.out hW1 hH1
          clear hW1 hH1
          gi_wp2_with fail
          refine ⟨trivial, ?_⟩
          refine (callsIn_wide.2 (at_yes _ _ _ _ HA.out)).mono ?_
          rintro _ X2 ⟨rfl, hb8⟩
          have c1 := (hn.below hb8).cell1
          have r0 := (hr.below hb8).cell1
          have r1 := (hr.below hb8).frozen 0
          obtain ⟨z80, z81⟩ := (hz.below hb8).cells2
          gi_wp2
          have hX2 := hr.below hb8
          have hK2 := (below_others hb8).same D _ hK rfl
          have hK' := (KeepsOthers.setCell X2 ⟨w.heap.size + 1 + 1, 0, none⟩ (.bool true)).same D _ hK2 rfl
          refine ⟨by simp, .inl ⟨_, _, rfl, run_takeDeferred hK', ?_⟩⟩
          have hc5 := cell_kept (hX2.set1 (.bool true)).cell1 (grownBy_putObj' _ D (.deferred none)) (fun r e => by cases e; exact ⟨_, hK', rfl⟩)
          refine ⟨.bool true, ?_, rfl, ((below_step hB hb8 (Nat.le_refl _)).setCell (p := ⟨w.heap.size + 1 + 1, 0, none⟩) (by simp; omega) _).trans (belowK_b (w := w) (Nat.le_refl _) _ D _ _ (Nat.le_trans hB7.size hD) hK' rfl rfl)⟩
          simp [results, Try.f6, go_sem, hc5]
  case stop =>
    rintro D c pre X _ hpre ⟨rfl, p, x, rfl, hbad⟩ _
    cases ha : inB W H a with
    | false =>
      have hp : p ++ [x] <+: nearL W H a := hpre
      rw [near_no ha] at hp
      have := hp.length_le; simp at this
    | true => exact absurd (near_next ha hpre) hbad

set_option maxRecDepth 100000 in
set_option maxHeartbeats 4000000 in
theorem near_zn (W H a b c : Int) (w : World) (hd : awayN W H a b = 0) (he : awayN W H b c < 0) : Calls Try.prog 6 #[sz W H, .int .i64 a, .int .i64 b, .int .i64 c] w fun e w' => e = .returned (.bool true) ∧ Below w.heap.size w w' := by
  have bd := (away_bd W H a b).2
  have be := (away_bd W H b c).2
  have bf := (away_bd W H a c).2
  have hab : (a != b) = false := by rw [away_zero hd]; simp
  have HS0 := away_comm W H b a
  obtain ⟨d, hD⟩ : ∃ d, awayN W H a b = d := ⟨_, rfl⟩
  obtain ⟨e, hE⟩ : ∃ e, awayN W H b c = e := ⟨_, rfl⟩
  obtain ⟨f, hF⟩ : ∃ f, awayN W H a c = f := ⟨_, rfl⟩
  rw [hD] at hd bd HS0
  rw [hE] at be
  rw [hF] at bf
  rw [hE] at he
  have HD : Hid (awayN W H a b = d) := hD
  have HE : Hid (awayN W H b c = e) := hE
  have HF : Hid (awayN W H a c = f) := hF
  have HS : Hid (awayN W H b a = d) := HS0
  have HP : Hid (decide (awayN W H a b = 1) = (d == 1)) := by show _ = _; rw [hD, Bool.eq_iff_iff]; simp
  have HQ : Hid (decide (awayN W H b a = 1) = (d == 1)) := by show _ = _; rw [HS0, Bool.eq_iff_iff]; simp
  clear hD hE hF HS0
  subst hd
  have t3 : decide (0 ≤ e) = false := by simp; omega
  refine (callsIn_wide (n := 9)).1 ?_
  refine callsIn_of_wp_marks Try.func6 rfl trivial ?_ rfl
  simp only [Try.ntmps6, List.size_toArray, List.length_cons, List.length_nil, Nat.reduceAdd, Nat.reduceSub, Array.replicate_succ, Array.replicate_zero, List.push_toArray, List.append_toArray, List.nil_append, List.cons_append]
  gi_wp2_with fail
  refine ⟨trivial, ?_⟩
  refine (callsIn_wide.2 (awake_any _)).mono ?_
  rintro _ w1 ⟨rfl, hb1⟩
  have hz := (((Blk.new w 23 #[.int .i64 W, .int .i64 H]).alloc (.cells #[.int .i64 a] 3)).alloc (.cells #[.bool false] 4)).below hb1
  have hy := ((Blk.new (w.alloc (.cells #[.int .i64 W, .int .i64 H] 23)) 3 #[.int .i64 a]).alloc (.cells #[.bool false] 4)).below hb1
  have hr := (Blk.new ((w.alloc (.cells #[.int .i64 W, .int .i64 H] 23)).alloc (.cells #[.int .i64 a] 3)) 4 #[.bool false]).below hb1
  have hB1 : Below w.heap.size w w1 := below_step (below_new (below_new (below_new (Below.refl _ w) (Nat.le_refl _) _) (Nat.le_refl _) _) (Nat.le_refl _) _) hb1 (Nat.le_refl _)
  simp only [World.size_alloc] at hy hr
  clear hb1
  have a0 := Grow.cell hz.lt hz.cells2.1
  have a1 := Grow.cell hz.lt hz.cells2.2
  have b0 := Grow.cell hy.lt hy.cell1
  have hne := Grow.ne w1
  gi_wp2
  refine wpIn_wide.2 ?_
  refine wp_region_grow (by kernel_rfl) (by kernel_rfl) ?_
  repeat (go_big_quiet_step ((go_at_call 14; exact grow_call (away_as _ (by first | exact HD.out | exact HE.out | exact HF.out)))))
  refine wpQuiet_nil ?_
  rintro w2 ⟨⟨_, hb2⟩, rfl⟩
  replace hz := hz.below hb2
  replace hy := hy.below hb2
  replace hr := hr.below hb2
  have hB2 := below_step hB1 hb2 (Nat.le_refl _)
  clear a0 a1 b0 hne hb2 hB1
  obtain ⟨z0, z1⟩ := hz.cells2
  have y0 := hy.cell1
  gi_wp2_with fail
  refine ⟨trivial, ?_⟩
  refine (callsIn_wide.2 (away_as _ HS.out)).mono ?_
  rintro _ w3 ⟨rfl, hb3⟩
  replace hz := hz.below hb3
  replace hy := hy.below hb3
  replace hr := hr.below hb3
  have hB3 := below_step hB2 hb3 (Nat.le_refl _)
  clear z0 z1 y0 hb3 hB2
  obtain ⟨z0, z1⟩ := hz.cells2
  have y0 := hy.cell1
  gi_wp2_with (refine ⟨trivial, ?_⟩; gi_at_call 13; refine (callsIn_wide.2 (beside_as _ HP.out)).mono ?_; rintro _ w4 ⟨rfl, hb4⟩; obtain ⟨z40, z41⟩ := (hz.below hb4).cells2; have y40 := (hy.below hb4).cell1; clear HP)
  refine ⟨trivial, ?_⟩
  refine (callsIn_wide.2 (beside_as _ HQ.out)).mono ?_
  rintro _ w5 ⟨rfl, hb5⟩
  replace hz := (hz.below hb4).below hb5
  replace hy := (hy.below hb4).below hb5
  replace hr := (hr.below hb4).below hb5
  have hB5 := below_step (below_step hB3 hb4 (Nat.le_refl _)) hb5 (Nat.le_refl _)
  clear z0 z1 y0 z40 z41 y40 hb4 hb5 hB3
  obtain ⟨z0, z1⟩ := hz.cells2
  have y0 := hy.cell1
  have zl := hz.lt
  have yl := hy.lt
  have rl := hr.lt
  gi_wp2_with (refine ⟨trivial, ?_⟩; gi_at_call 11; refine (callsIn_wide.2 (near_ab _ _ _ _)).mono ?_; rintro _ w6 ⟨B1, C1, rfl, hh1, lB1, lC1, hb6⟩; have hnf := nearF_nil B1 C1; obtain ⟨z60, z61⟩ := (((hz.alloc (.cells #[.int .i64 0] 3)).alloc (.cells #[.int .i64 (-1)] 3)).below hb6).cells2; have y60 := (((hy.alloc (.cells #[.int .i64 0] 3)).alloc (.cells #[.int .i64 (-1)] 3)).below hb6).cell1; clear yl)
  refine ⟨trivial, ?_⟩
  refine (callsIn_wide.2 (near_ab _ _ _ _)).mono ?_
  rintro _ w7 ⟨B, C, rfl, hh, lB, lC, hb7⟩
  have hn6 := ((Blk.new w5 3 #[.int .i64 0]).alloc (.cells #[.int .i64 (-1)] 3)).below hb6
  have hl6 := (Blk.new (w5.alloc (.cells #[.int .i64 0] 3)) 3 #[.int .i64 (-1)]).below hb6
  simp only [World.size_alloc] at hl6
  replace hz := (((hz.alloc (.cells #[.int .i64 0] 3)).alloc (.cells #[.int .i64 (-1)] 3)).below hb6).below hb7
  replace hy := (((hy.alloc (.cells #[.int .i64 0] 3)).alloc (.cells #[.int .i64 (-1)] 3)).below hb6).below hb7
  replace hr := (((hr.alloc (.cells #[.int .i64 0] 3)).alloc (.cells #[.int .i64 (-1)] 3)).below hb6).below hb7
  have hn7 := hn6.below hb7
  have hl7 := hl6.below hb7
  have l6 := hl6.lt
  have hB7 := below_step (below_step (below_new (below_new hB5 (Nat.le_refl _) _) (Nat.le_refl _) _) hb6 (Nat.le_refl _)) hb7 (Nat.le_refl _)
  generalize w5.heap.size = M at *
  clear z0 z1 y0 z60 z61 y60 hb6 hb7 hB5 hn6 hl6 hh1 hnf HD HE HF HS HQ zl bd be bf lB1 lC1
  gi_wp2_with fail
  refine wpIn_rangeFunc_ownF rfl (by omega) (gf := 22) (lb := #[.pointer (some ⟨B, 0, none⟩), .pointer (some ⟨C, 0, none⟩)]) rfl trivial (enters_of Try.func22 (by kernel_rfl) rfl)
    (near1_stops _ (by omega) _ _ W H a _ hh) (fun h k => kept2_t h k) (kept2_b (Array.getElem?_eq_some_iff.1 hh.1).1 (Array.getElem?_eq_some_iff.1 hh.2).1) (Below.refl _ _) (fun _ => rfl)
    (fun pre W' => (Blk W' M 3 #[.int .i64 pre.length] ∧ Blk W' (M + 1) 3 #[.int .i64 (lastI pre)] ∧ Blk W' w.heap.size 23 #[.int .i64 W, .int .i64 H] ∧ Blk W' (w.heap.size + 1) 3 #[.int .i64 a] ∧ Blk W' (w.heap.size + 1 + 1) 4 #[.bool false] ∧ Has2 B C W H a W') ∧ Below w.heap.size w W')
    (fun c pre W' => c = .ret ∧ ∃ p x, pre = p ++ [x] ∧ ¬ (lastI p < x ∧ awayN W H a x = 1))
    (OwnFrom.and (Own.from (fun s A B row hs hg hr => ⟨blk_grown hs.1 hg hr, blk_grown hs.2.1 hg hr, blk_grown hs.2.2.1 hg hr, blk_grown hs.2.2.2.1 hg hr, blk_grown hs.2.2.2.2.1 hg hr, has2_grown hs.2.2.2.2.2 hg hr⟩) _) (ownFrom_below (Nat.le_refl _) (by have := hB7.size; omega)))
    (fun _ _ _ _ _ hs _ _ => hs)
    ⟨⟨hn7, hl7, hz, hy, hr, hh⟩, hB7⟩
    ?a1 ?assign ?body ?done ?stop
  case assign =>
    intro l x X K hK
    gi_wp2
    exact hK
  case body =>
    rintro l pre x X ⟨⟨hn, hl, hz, hy, hr, hh⟩, hB⟩ hlen
    have c1 := hn.cell1
    have f1 := hn.frozen 0
    have c2 := hl.cell1
    have f2 := hl.frozen 0
    obtain ⟨z0, z1⟩ := hz.cells2
    have y0 := hy.cell1
    have r0 := hr.cell1
    have r1 := hr.frozen 0
    obtain ⟨q, hq⟩ : ∃ q, lastI pre = q := ⟨_, rfl⟩
    rw [hq] at c2 hl
    have HL : Hid (lastI pre = q) := hq; clear hq
    by_cases hx : x ≤ q
    · gi_wp2
      repeat (refine ⟨trivial, ?_⟩; gi_wp2)
      exact ⟨KeepsOthers.setCell _ _ _, rfl, pre, x, rfl, fun h => by have := h.1; rw [HL.out] at this; omega⟩
    · by_cases hg : awayN W H a x = 1
      · have HG : Hid (awayN W H a x = 1) := hg
        have HG2 : Hid (decide (awayN W H a x = 1) = true) := by show _ = _; rw [hg]; rfl
        clear hg
        have dx : decide (x ≤ q) = false := by simpa using hx
        gi_wp2_with fail
        refine ⟨trivial, ?_⟩
        refine (CallsIn.inRound l (callsIn_wide.2 (beside_as _ HG2.out))).mono ?_
        rintro _ X1 ⟨rfl, hb1⟩
        obtain ⟨z10, z11⟩ := (hz.below hb1).cells2
        have y10 := (hy.below hb1).cell1
        gi_wp2_with fail
        refine ⟨trivial, ?_⟩
        refine (CallsIn.inRound l (callsIn_wide.2 (away_as _ HG.out))).mono ?_
        rintro _ X2 ⟨rfl, hb2⟩
        have hb := below_step hb1 hb2 (Nat.le_refl _)
        have hn' := hn.below hb
        have hl' := hl.below hb
        have k1 := hn'.cell1
        have k2 := hn'.frozen 0
        have k3 := hl'.cell1
        have k4 := hl'.frozen 0
        gi_wp2
        have hk := kept2_t (kept2_t (kept2_below hh hb) (kept2_set (N := M + 1) (.int .i64 x) (by omega) (by omega))) (kept2_set (N := M) (.int .i64 ((pre.length : Int) + 1)) (by omega) (by omega))
        exact ⟨((below_others hb).trans (KeepsOthers.setCell _ _ _)).trans (KeepsOthers.setCell _ _ _), hk,
          ⟨by rw [List.length_append]; exact (hn'.other (by omega) _).set1 _, by rw [lastI_snoc]; exact (hl'.set1 _).other (by omega) _, ((hz.below hb).other (by omega) _).other (by omega) _, ((hy.below hb).other (by omega) _).other (by omega) _, ((hr.below hb).other (by omega) _).other (by omega) _, hh.kept hk⟩,
          ((below_step hB hb (Nat.le_refl _)).setCell (p := ⟨M + 1, 0, none⟩) (by simp; omega) _).setCell (p := ⟨M, 0, none⟩) (by simp; omega) _⟩
      · have HG2 : Hid (decide (awayN W H a x = 1) = false) := by show _ = _; rw [decide_eq_false hg]
        have HX : Hid (¬ (lastI pre < x ∧ awayN W H a x = 1)) := fun h => hg h.2
        clear hg
        have dx : decide (x ≤ q) = false := by simpa using hx
        gi_wp2_with fail
        refine ⟨trivial, ?_⟩
        refine (CallsIn.inRound l (callsIn_wide.2 (beside_as _ HG2.out))).mono ?_
        rintro _ X1 ⟨rfl, hb1⟩
        have hr' := hr.below hb1
        have k4 := hr'.cell1
        have k5 := hr'.frozen 0
        gi_wp2
        repeat (refine ⟨trivial, ?_⟩; gi_wp2)
        exact ⟨(below_others hb1).trans (KeepsOthers.setCell _ _ _), rfl, pre, x, rfl, HX.out⟩
  case done =>
    rintro D ys X hD hall ⟨⟨hn, hl, hz, hy, hr, _⟩, hB⟩ hK
    rw [show ys = nearL W H a from hall] at hn
    have hlen := nearL_len W H a
    obtain ⟨z0, z1⟩ := hz.cells2
    have y0 := hy.cell1
    cases ha : inB W H a with
    | false =>
      rw [near_no ha] at hn
      have HA : Hid (inB W H a = false) := ha; clear ha
      gi_wp2_with fail
      refine ⟨trivial, ?_⟩
      refine (callsIn_wide.2 (at_no _ _ _ _ HA.out)).mono ?_
      rintro _ X2 ⟨rfl, hb8⟩
      have c1 := (hn.below hb8).cell1
      have r0 := (hr.below hb8).cell1
      have r1 := (hr.below hb8).frozen 0
      gi_wp2
      have hX2 := hr.below hb8
      have hK2 := (below_others hb8).same D _ hK rfl
      have hK' := (KeepsOthers.setCell X2 ⟨w.heap.size + 1 + 1, 0, none⟩ (.bool true)).same D _ hK2 rfl
      refine ⟨by simp, .inl ⟨_, _, rfl, run_takeDeferred hK', ?_⟩⟩
      have hc5 := cell_kept (hX2.set1 (.bool true)).cell1 (grownBy_putObj' _ D (.deferred none)) (fun r e => by cases e; exact ⟨_, hK', rfl⟩)
      refine ⟨.bool true, ?_, rfl, ((below_step hB hb8 (Nat.le_refl _)).setCell (p := ⟨w.heap.size + 1 + 1, 0, none⟩) (by simp; omega) _).trans (belowK_b (w := w) (Nat.le_refl _) _ D _ _ (Nat.le_trans hB7.size hD) hK' rfl rfl)⟩
      simp [results, Try.f6, go_sem, hc5]
    | true =>
      have hmany : W ≠ 1 → H ≠ 1 → 2 ≤ (nearL W H a).length := near_many ha
      generalize (nearL W H a).length = q at *
      have HM : Hid (W ≠ 1 → H ≠ 1 → 2 ≤ q) := hmany; clear hmany
      have HA : Hid (inB W H a = true) := ha; clear ha
      by_cases hW1 : W = 1
      · have g1 : (W == 1) = true := beq_iff_eq.2 hW1
        clear hW1
        gi_wp2_with fail
        refine ⟨trivial, ?_⟩
        refine (callsIn_wide.2 (at_yes _ _ _ _ HA.out)).mono ?_
        rintro _ X2 ⟨rfl, hb8⟩
        have c1 := (hn.below hb8).cell1
        have r0 := (hr.below hb8).cell1
        have r1 := (hr.below hb8).frozen 0
        obtain ⟨z80, z81⟩ := (hz.below hb8).cells2
        gi_wp2
        have hX2 := hr.below hb8
        have hK2 := (below_others hb8).same D _ hK rfl
        have hK' := (KeepsOthers.setCell X2 ⟨w.heap.size + 1 + 1, 0, none⟩ (.bool true)).same D _ hK2 rfl
        refine ⟨by simp, .inl ⟨_, _, rfl, run_takeDeferred hK', ?_⟩⟩
        have hc5 := cell_kept (hX2.set1 (.bool true)).cell1 (grownBy_putObj' _ D (.deferred none)) (fun r e => by cases e; exact ⟨_, hK', rfl⟩)
        refine ⟨.bool true, ?_, rfl, ((below_step hB hb8 (Nat.le_refl _)).setCell (p := ⟨w.heap.size + 1 + 1, 0, none⟩) (by simp; omega) _).trans (belowK_b (w := w) (Nat.le_refl _) _ D _ _ (Nat.le_trans hB7.size hD) hK' rfl rfl)⟩
        simp [results, Try.f6, go_sem, hc5]
      · by_cases hH1 : H = 1
        · have g1 : (W == 1) = false := beq_eq_false_iff_ne.2 hW1
          have g2 : (H == 1) = true := beq_iff_eq.2 hH1
          clear hW1 hH1
          gi_wp2_with fail
          refine ⟨trivial, ?_⟩
          refine (callsIn_wide.2 (at_yes _ _ _ _ HA.out)).mono ?_
          rintro _ X2 ⟨rfl, hb8⟩
          have c1 := (hn.below hb8).cell1
          have r0 := (hr.below hb8).cell1
          have r1 := (hr.below hb8).frozen 0
          obtain ⟨z80, z81⟩ := (hz.below hb8).cells2
          gi_wp2
          have hX2 := hr.below hb8
          have hK2 := (below_others hb8).same D _ hK rfl
          have hK' := (KeepsOthers.setCell X2 ⟨w.heap.size + 1 + 1, 0, none⟩ (.bool true)).same D _ hK2 rfl
          refine ⟨by simp, .inl ⟨_, _, rfl, run_takeDeferred hK', ?_⟩⟩
          have hc5 := cell_kept (hX2.set1 (.bool true)).cell1 (grownBy_putObj' _ D (.deferred none)) (fun r e => by cases e; exact ⟨_, hK', rfl⟩)
          refine ⟨.bool true, ?_, rfl, ((below_step hB hb8 (Nat.le_refl _)).setCell (p := ⟨w.heap.size + 1 + 1, 0, none⟩) (by simp; omega) _).trans (belowK_b (w := w) (Nat.le_refl _) _ D _ _ (Nat.le_trans hB7.size hD) hK' rfl rfl)⟩
          simp [results, Try.f6, go_sem, hc5]
        · have g1 : (W == 1) = false := beq_eq_false_iff_ne.2 hW1
          have g2 : (H == 1) = false := beq_eq_false_iff_ne.2 hH1
          have g3 : 2 ≤ q := HM.out hW1 hH1
          clear hW1 hH1
          gi_wp2_with fail
          refine ⟨trivial, ?_⟩
          refine (callsIn_wide.2 (at_yes _ _ _ _ HA.out)).mono ?_
          rintro _ X2 ⟨rfl, hb8⟩
          have c1 := (hn.below hb8).cell1
          have r0 := (hr.below hb8).cell1
          have r1 := (hr.below hb8).frozen 0
          obtain ⟨z80, z81⟩ := (hz.below hb8).cells2
          gi_wp2
          have hX2 := hr.below hb8
          have hK2 := (below_others hb8).same D _ hK rfl
          have hK' := (KeepsOthers.setCell X2 ⟨w.heap.size + 1 + 1, 0, none⟩ (.bool true)).same D _ hK2 rfl
          refine ⟨by simp, .inl ⟨_, _, rfl, run_takeDeferred hK', ?_⟩⟩
          have hc5 := cell_kept (hX2.set1 (.bool true)).cell1 (grownBy_putObj' _ D (.deferred none)) (fun r e => by cases e; exact ⟨_, hK', rfl⟩)
          refine ⟨.bool true, ?_, rfl, ((below_step hB hb8 (Nat.le_refl _)).setCell (p := ⟨w.heap.size + 1 + 1, 0, none⟩) (by simp; omega) _).trans (belowK_b (w := w) (Nat.le_refl _) _ D _ _ (Nat.le_trans hB7.size hD) hK' rfl rfl)⟩
          simp [results, Try.f6, go_sem, hc5]
  case stop =>
    rintro D c pre X _ hpre ⟨rfl, p, x, rfl, hbad⟩ _
    cases ha : inB W H a with
    | false =>
      have hp : p ++ [x] <+: nearL W H a := hpre
      rw [near_no ha] at hp
      have := hp.length_le; simp at this
    | true => exact absurd (near_next ha hpre) hbad

set_option maxRecDepth 100000 in
set_option maxHeartbeats 4000000 in
theorem near_pp (W H a b c : Int) (w : World) (hd : 0 < awayN W H a b) (he : 0 ≤ awayN W H b c) : Calls Try.prog 6 #[sz W H, .int .i64 a, .int .i64 b, .int .i64 c] w fun e w' => e = .returned (.bool true) ∧ Below w.heap.size w w' := by
  have bd := (away_bd W H a b).2
  have be := (away_bd W H b c).2
  have bf := (away_bd W H a c).2
  have tri := away_tri (by omega : 0 ≤ awayN W H a b) he
  have HS0 := away_comm W H b a
  obtain ⟨d, hD⟩ : ∃ d, awayN W H a b = d := ⟨_, rfl⟩
  obtain ⟨e, hE⟩ : ∃ e, awayN W H b c = e := ⟨_, rfl⟩
  obtain ⟨f, hF⟩ : ∃ f, awayN W H a c = f := ⟨_, rfl⟩
  rw [hD] at hd bd HS0
  rw [hE] at be
  rw [hF] at bf
  rw [hE] at he
  rw [hD, hE, hF] at tri
  have HD : Hid (awayN W H a b = d) := hD
  have HE : Hid (awayN W H b c = e) := hE
  have HF : Hid (awayN W H a c = f) := hF
  have HS : Hid (awayN W H b a = d) := HS0
  have HP : Hid (decide (awayN W H a b = 1) = (d == 1)) := by show _ = _; rw [hD, Bool.eq_iff_iff]; simp
  have HQ : Hid (decide (awayN W H b a = 1) = (d == 1)) := by show _ = _; rw [HS0, Bool.eq_iff_iff]; simp
  clear hD hE hF HS0
  have t1 : (d == 0) = false := beq_eq_false_iff_ne.2 (by omega)
  obtain ⟨tri1, tri2⟩ := tri
  have t4 : decide (f < 0) = false := by simp; omega
  have t5 : decide (d + e < f) = false := by simp; omega
  refine (callsIn_wide (n := 9)).1 ?_
  refine callsIn_of_wp_marks Try.func6 rfl trivial ?_ rfl
  simp only [Try.ntmps6, List.size_toArray, List.length_cons, List.length_nil, Nat.reduceAdd, Nat.reduceSub, Array.replicate_succ, Array.replicate_zero, List.push_toArray, List.append_toArray, List.nil_append, List.cons_append]
  gi_wp2_with fail
  refine ⟨trivial, ?_⟩
  refine (callsIn_wide.2 (awake_any _)).mono ?_
  rintro _ w1 ⟨rfl, hb1⟩
  have hz := (((Blk.new w 23 #[.int .i64 W, .int .i64 H]).alloc (.cells #[.int .i64 a] 3)).alloc (.cells #[.bool false] 4)).below hb1
  have hy := ((Blk.new (w.alloc (.cells #[.int .i64 W, .int .i64 H] 23)) 3 #[.int .i64 a]).alloc (.cells #[.bool false] 4)).below hb1
  have hr := (Blk.new ((w.alloc (.cells #[.int .i64 W, .int .i64 H] 23)).alloc (.cells #[.int .i64 a] 3)) 4 #[.bool false]).below hb1
  have hB1 : Below w.heap.size w w1 := below_step (below_new (below_new (below_new (Below.refl _ w) (Nat.le_refl _) _) (Nat.le_refl _) _) (Nat.le_refl _) _) hb1 (Nat.le_refl _)
  simp only [World.size_alloc] at hy hr
  clear hb1
  have a0 := Grow.cell hz.lt hz.cells2.1
  have a1 := Grow.cell hz.lt hz.cells2.2
  have b0 := Grow.cell hy.lt hy.cell1
  have hne := Grow.ne w1
  gi_wp2
  refine wpIn_wide.2 ?_
  refine wp_region_grow (by kernel_rfl) (by kernel_rfl) ?_
  repeat (go_big_quiet_step ((go_at_call 14; exact grow_call (away_as _ (by first | exact HD.out | exact HE.out | exact HF.out)))))
  refine wpQuiet_nil ?_
  rintro w2 ⟨⟨_, hb2⟩, rfl⟩
  replace hz := hz.below hb2
  replace hy := hy.below hb2
  replace hr := hr.below hb2
  have hB2 := below_step hB1 hb2 (Nat.le_refl _)
  clear a0 a1 b0 hne hb2 hB1
  obtain ⟨z0, z1⟩ := hz.cells2
  have y0 := hy.cell1
  gi_wp2_with fail
  refine ⟨trivial, ?_⟩
  refine (callsIn_wide.2 (away_as _ HS.out)).mono ?_
  rintro _ w3 ⟨rfl, hb3⟩
  replace hz := hz.below hb3
  replace hy := hy.below hb3
  replace hr := hr.below hb3
  have hB3 := below_step hB2 hb3 (Nat.le_refl _)
  clear z0 z1 y0 hb3 hB2
  obtain ⟨z0, z1⟩ := hz.cells2
  have y0 := hy.cell1
  gi_wp2_with (refine ⟨trivial, ?_⟩; gi_at_call 13; refine (callsIn_wide.2 (beside_as _ HP.out)).mono ?_; rintro _ w4 ⟨rfl, hb4⟩; obtain ⟨z40, z41⟩ := (hz.below hb4).cells2; have y40 := (hy.below hb4).cell1; clear HP)
  refine ⟨trivial, ?_⟩
  refine (callsIn_wide.2 (beside_as _ HQ.out)).mono ?_
  rintro _ w5 ⟨rfl, hb5⟩
  replace hz := (hz.below hb4).below hb5
  replace hy := (hy.below hb4).below hb5
  replace hr := (hr.below hb4).below hb5
  have hB5 := below_step (below_step hB3 hb4 (Nat.le_refl _)) hb5 (Nat.le_refl _)
  clear z0 z1 y0 z40 z41 y40 hb4 hb5 hB3
  obtain ⟨z0, z1⟩ := hz.cells2
  have y0 := hy.cell1
  have zl := hz.lt
  have yl := hy.lt
  have rl := hr.lt
  gi_wp2_with (refine ⟨trivial, ?_⟩; gi_at_call 11; refine (callsIn_wide.2 (near_ab _ _ _ _)).mono ?_; rintro _ w6 ⟨B1, C1, rfl, hh1, lB1, lC1, hb6⟩; have hnf := nearF_nil B1 C1; obtain ⟨z60, z61⟩ := (((hz.alloc (.cells #[.int .i64 0] 3)).alloc (.cells #[.int .i64 (-1)] 3)).below hb6).cells2; have y60 := (((hy.alloc (.cells #[.int .i64 0] 3)).alloc (.cells #[.int .i64 (-1)] 3)).below hb6).cell1; clear yl)
  refine ⟨trivial, ?_⟩
  refine (callsIn_wide.2 (near_ab _ _ _ _)).mono ?_
  rintro _ w7 ⟨B, C, rfl, hh, lB, lC, hb7⟩
  have hn6 := ((Blk.new w5 3 #[.int .i64 0]).alloc (.cells #[.int .i64 (-1)] 3)).below hb6
  have hl6 := (Blk.new (w5.alloc (.cells #[.int .i64 0] 3)) 3 #[.int .i64 (-1)]).below hb6
  simp only [World.size_alloc] at hl6
  replace hz := (((hz.alloc (.cells #[.int .i64 0] 3)).alloc (.cells #[.int .i64 (-1)] 3)).below hb6).below hb7
  replace hy := (((hy.alloc (.cells #[.int .i64 0] 3)).alloc (.cells #[.int .i64 (-1)] 3)).below hb6).below hb7
  replace hr := (((hr.alloc (.cells #[.int .i64 0] 3)).alloc (.cells #[.int .i64 (-1)] 3)).below hb6).below hb7
  have hn7 := hn6.below hb7
  have hl7 := hl6.below hb7
  have l6 := hl6.lt
  have hB7 := below_step (below_step (below_new (below_new hB5 (Nat.le_refl _) _) (Nat.le_refl _) _) hb6 (Nat.le_refl _)) hb7 (Nat.le_refl _)
  generalize w5.heap.size = M at *
  clear z0 z1 y0 z60 z61 y60 hb6 hb7 hB5 hn6 hl6 hh1 hnf HD HE HF HS HQ zl bd be bf lB1 lC1
  gi_wp2_with fail
  refine wpIn_rangeFunc_ownF rfl (by omega) (gf := 22) (lb := #[.pointer (some ⟨B, 0, none⟩), .pointer (some ⟨C, 0, none⟩)]) rfl trivial (enters_of Try.func22 (by kernel_rfl) rfl)
    (near1_stops _ (by omega) _ _ W H a _ hh) (fun h k => kept2_t h k) (kept2_b (Array.getElem?_eq_some_iff.1 hh.1).1 (Array.getElem?_eq_some_iff.1 hh.2).1) (Below.refl _ _) (fun _ => rfl)
    (fun pre W' => (Blk W' M 3 #[.int .i64 pre.length] ∧ Blk W' (M + 1) 3 #[.int .i64 (lastI pre)] ∧ Blk W' w.heap.size 23 #[.int .i64 W, .int .i64 H] ∧ Blk W' (w.heap.size + 1) 3 #[.int .i64 a] ∧ Blk W' (w.heap.size + 1 + 1) 4 #[.bool false] ∧ Has2 B C W H a W') ∧ Below w.heap.size w W')
    (fun c pre W' => c = .ret ∧ ∃ p x, pre = p ++ [x] ∧ ¬ (lastI p < x ∧ awayN W H a x = 1))
    (OwnFrom.and (Own.from (fun s A B row hs hg hr => ⟨blk_grown hs.1 hg hr, blk_grown hs.2.1 hg hr, blk_grown hs.2.2.1 hg hr, blk_grown hs.2.2.2.1 hg hr, blk_grown hs.2.2.2.2.1 hg hr, has2_grown hs.2.2.2.2.2 hg hr⟩) _) (ownFrom_below (Nat.le_refl _) (by have := hB7.size; omega)))
    (fun _ _ _ _ _ hs _ _ => hs)
    ⟨⟨hn7, hl7, hz, hy, hr, hh⟩, hB7⟩
    ?a1 ?assign ?body ?done ?stop
  case assign =>
    intro l x X K hK
    gi_wp2
    exact hK
  case body =>
    rintro l pre x X ⟨⟨hn, hl, hz, hy, hr, hh⟩, hB⟩ hlen
    have c1 := hn.cell1
    have f1 := hn.frozen 0
    have c2 := hl.cell1
    have f2 := hl.frozen 0
    obtain ⟨z0, z1⟩ := hz.cells2
    have y0 := hy.cell1
    have r0 := hr.cell1
    have r1 := hr.frozen 0
    obtain ⟨q, hq⟩ : ∃ q, lastI pre = q := ⟨_, rfl⟩
    rw [hq] at c2 hl
    have HL : Hid (lastI pre = q) := hq; clear hq
    by_cases hx : x ≤ q
    · gi_wp2
      repeat (refine ⟨trivial, ?_⟩; gi_wp2)
      exact ⟨KeepsOthers.setCell _ _ _, rfl, pre, x, rfl, fun h => by have := h.1; rw [HL.out] at this; omega⟩
    · by_cases hg : awayN W H a x = 1
      · have HG : Hid (awayN W H a x = 1) := hg
        have HG2 : Hid (decide (awayN W H a x = 1) = true) := by show _ = _; rw [hg]; rfl
        clear hg
        have dx : decide (x ≤ q) = false := by simpa using hx
        gi_wp2_with fail
        refine ⟨trivial, ?_⟩
        refine (CallsIn.inRound l (callsIn_wide.2 (beside_as _ HG2.out))).mono ?_
        rintro _ X1 ⟨rfl, hb1⟩
        obtain ⟨z10, z11⟩ := (hz.below hb1).cells2
        have y10 := (hy.below hb1).cell1
        gi_wp2_with fail
        refine ⟨trivial, ?_⟩
        refine (CallsIn.inRound l (callsIn_wide.2 (away_as _ HG.out))).mono ?_
        rintro _ X2 ⟨rfl, hb2⟩
        have hb := below_step hb1 hb2 (Nat.le_refl _)
        have hn' := hn.below hb
        have hl' := hl.below hb
        have k1 := hn'.cell1
        have k2 := hn'.frozen 0
        have k3 := hl'.cell1
        have k4 := hl'.frozen 0
        gi_wp2
        have hk := kept2_t (kept2_t (kept2_below hh hb) (kept2_set (N := M + 1) (.int .i64 x) (by omega) (by omega))) (kept2_set (N := M) (.int .i64 ((pre.length : Int) + 1)) (by omega) (by omega))
        exact ⟨((below_others hb).trans (KeepsOthers.setCell _ _ _)).trans (KeepsOthers.setCell _ _ _), hk,
          ⟨by rw [List.length_append]; exact (hn'.other (by omega) _).set1 _, by rw [lastI_snoc]; exact (hl'.set1 _).other (by omega) _, ((hz.below hb).other (by omega) _).other (by omega) _, ((hy.below hb).other (by omega) _).other (by omega) _, ((hr.below hb).other (by omega) _).other (by omega) _, hh.kept hk⟩,
          ((below_step hB hb (Nat.le_refl _)).setCell (p := ⟨M + 1, 0, none⟩) (by simp; omega) _).setCell (p := ⟨M, 0, none⟩) (by simp; omega) _⟩
      · have HG2 : Hid (decide (awayN W H a x = 1) = false) := by show _ = _; rw [decide_eq_false hg]
        have HX : Hid (¬ (lastI pre < x ∧ awayN W H a x = 1)) := fun h => hg h.2
        clear hg
        have dx : decide (x ≤ q) = false := by simpa using hx
        gi_wp2_with fail
        refine ⟨trivial, ?_⟩
        refine (CallsIn.inRound l (callsIn_wide.2 (beside_as _ HG2.out))).mono ?_
        rintro _ X1 ⟨rfl, hb1⟩
        have hr' := hr.below hb1
        have k4 := hr'.cell1
        have k5 := hr'.frozen 0
        gi_wp2
        repeat (refine ⟨trivial, ?_⟩; gi_wp2)
        exact ⟨(below_others hb1).trans (KeepsOthers.setCell _ _ _), rfl, pre, x, rfl, HX.out⟩
  case done =>
    rintro D ys X hD hall ⟨⟨hn, hl, hz, hy, hr, _⟩, hB⟩ hK
    rw [show ys = nearL W H a from hall] at hn
    have hlen := nearL_len W H a
    obtain ⟨z0, z1⟩ := hz.cells2
    have y0 := hy.cell1
    cases ha : inB W H a with
    | false =>
      rw [near_no ha] at hn
      have HA : Hid (inB W H a = false) := ha; clear ha
      gi_wp2_with fail
      refine ⟨trivial, ?_⟩
      refine (callsIn_wide.2 (at_no _ _ _ _ HA.out)).mono ?_
      rintro _ X2 ⟨rfl, hb8⟩
      have c1 := (hn.below hb8).cell1
      have r0 := (hr.below hb8).cell1
      have r1 := (hr.below hb8).frozen 0
      gi_wp2
      have hX2 := hr.below hb8
      have hK2 := (below_others hb8).same D _ hK rfl
      have hK' := (KeepsOthers.setCell X2 ⟨w.heap.size + 1 + 1, 0, none⟩ (.bool true)).same D _ hK2 rfl
      refine ⟨by simp, .inl ⟨_, _, rfl, run_takeDeferred hK', ?_⟩⟩
      have hc5 := cell_kept (hX2.set1 (.bool true)).cell1 (grownBy_putObj' _ D (.deferred none)) (fun r e => by cases e; exact ⟨_, hK', rfl⟩)
      refine ⟨.bool true, ?_, rfl, ((below_step hB hb8 (Nat.le_refl _)).setCell (p := ⟨w.heap.size + 1 + 1, 0, none⟩) (by simp; omega) _).trans (belowK_b (w := w) (Nat.le_refl _) _ D _ _ (Nat.le_trans hB7.size hD) hK' rfl rfl)⟩
      simp [results, Try.f6, go_sem, hc5]
    | true =>
      have hmany : W ≠ 1 → H ≠ 1 → 2 ≤ (nearL W H a).length := near_many ha
      generalize (nearL W H a).length = q at *
      have HM : Hid (W ≠ 1 → H ≠ 1 → 2 ≤ q) := hmany; clear hmany
      have HA : Hid (inB W H a = true) := ha; clear ha
      by_cases hW1 : W = 1
      · have g1 : (W == 1) = true := beq_iff_eq.2 hW1
        clear hW1
        gi_wp2_with fail
        refine ⟨trivial, ?_⟩
        refine (callsIn_wide.2 (at_yes _ _ _ _ HA.out)).mono ?_
        rintro _ X2 ⟨rfl, hb8⟩
        have c1 := (hn.below hb8).cell1
        have r0 := (hr.below hb8).cell1
        have r1 := (hr.below hb8).frozen 0
        obtain ⟨z80, z81⟩ := (hz.below hb8).cells2
        gi_wp2
        have hX2 := hr.below hb8
        have hK2 := (below_others hb8).same D _ hK rfl
        have hK' := (KeepsOthers.setCell X2 ⟨w.heap.size + 1 + 1, 0, none⟩ (.bool true)).same D _ hK2 rfl
        refine ⟨by simp, .inl ⟨_, _, rfl, run_takeDeferred hK', ?_⟩⟩
        have hc5 := cell_kept (hX2.set1 (.bool true)).cell1 (grownBy_putObj' _ D (.deferred none)) (fun r e => by cases e; exact ⟨_, hK', rfl⟩)
        refine ⟨.bool true, ?_, rfl, ((below_step hB hb8 (Nat.le_refl _)).setCell (p := ⟨w.heap.size + 1 + 1, 0, none⟩) (by simp; omega) _).trans (belowK_b (w := w) (Nat.le_refl _) _ D _ _ (Nat.le_trans hB7.size hD) hK' rfl rfl)⟩
        simp [results, Try.f6, go_sem, hc5]
      · by_cases hH1 : H = 1
        · have g1 : (W == 1) = false := beq_eq_false_iff_ne.2 hW1
          have g2 : (H == 1) = true := beq_iff_eq.2 hH1
          clear hW1 hH1
          gi_wp2_with fail
          refine ⟨trivial, ?_⟩
          refine (callsIn_wide.2 (at_yes _ _ _ _ HA.out)).mono ?_
          rintro _ X2 ⟨rfl, hb8⟩
          have c1 := (hn.below hb8).cell1
          have r0 := (hr.below hb8).cell1
          have r1 := (hr.below hb8).frozen 0
          obtain ⟨z80, z81⟩ := (hz.below hb8).cells2
          gi_wp2
          have hX2 := hr.below hb8
          have hK2 := (below_others hb8).same D _ hK rfl
          have hK' := (KeepsOthers.setCell X2 ⟨w.heap.size + 1 + 1, 0, none⟩ (.bool true)).same D _ hK2 rfl
          refine ⟨by simp, .inl ⟨_, _, rfl, run_takeDeferred hK', ?_⟩⟩
          have hc5 := cell_kept (hX2.set1 (.bool true)).cell1 (grownBy_putObj' _ D (.deferred none)) (fun r e => by cases e; exact ⟨_, hK', rfl⟩)
          refine ⟨.bool true, ?_, rfl, ((below_step hB hb8 (Nat.le_refl _)).setCell (p := ⟨w.heap.size + 1 + 1, 0, none⟩) (by simp; omega) _).trans (belowK_b (w := w) (Nat.le_refl _) _ D _ _ (Nat.le_trans hB7.size hD) hK' rfl rfl)⟩
          simp [results, Try.f6, go_sem, hc5]
        · have g1 : (W == 1) = false := beq_eq_false_iff_ne.2 hW1
          have g2 : (H == 1) = false := beq_eq_false_iff_ne.2 hH1
          have g3 : 2 ≤ q := HM.out hW1 hH1
          clear hW1 hH1
          gi_wp2_with fail
          refine ⟨trivial, ?_⟩
          refine (callsIn_wide.2 (at_yes _ _ _ _ HA.out)).mono ?_
          rintro _ X2 ⟨rfl, hb8⟩
          have c1 := (hn.below hb8).cell1
          have r0 := (hr.below hb8).cell1
          have r1 := (hr.below hb8).frozen 0
          obtain ⟨z80, z81⟩ := (hz.below hb8).cells2
          gi_wp2
          have hX2 := hr.below hb8
          have hK2 := (below_others hb8).same D _ hK rfl
          have hK' := (KeepsOthers.setCell X2 ⟨w.heap.size + 1 + 1, 0, none⟩ (.bool true)).same D _ hK2 rfl
          refine ⟨by simp, .inl ⟨_, _, rfl, run_takeDeferred hK', ?_⟩⟩
          have hc5 := cell_kept (hX2.set1 (.bool true)).cell1 (grownBy_putObj' _ D (.deferred none)) (fun r e => by cases e; exact ⟨_, hK', rfl⟩)
          refine ⟨.bool true, ?_, rfl, ((below_step hB hb8 (Nat.le_refl _)).setCell (p := ⟨w.heap.size + 1 + 1, 0, none⟩) (by simp; omega) _).trans (belowK_b (w := w) (Nat.le_refl _) _ D _ _ (Nat.le_trans hB7.size hD) hK' rfl rfl)⟩
          simp [results, Try.f6, go_sem, hc5]
  case stop =>
    rintro D c pre X _ hpre ⟨rfl, p, x, rfl, hbad⟩ _
    cases ha : inB W H a with
    | false =>
      have hp : p ++ [x] <+: nearL W H a := hpre
      rw [near_no ha] at hp
      have := hp.length_le; simp at this
    | true => exact absurd (near_next ha hpre) hbad

set_option maxRecDepth 100000 in
set_option maxHeartbeats 4000000 in
theorem near_pn (W H a b c : Int) (w : World) (hd : 0 < awayN W H a b) (he : awayN W H b c < 0) : Calls Try.prog 6 #[sz W H, .int .i64 a, .int .i64 b, .int .i64 c] w fun e w' => e = .returned (.bool true) ∧ Below w.heap.size w w' := by
  have bd := (away_bd W H a b).2
  have be := (away_bd W H b c).2
  have bf := (away_bd W H a c).2
  have HS0 := away_comm W H b a
  obtain ⟨d, hD⟩ : ∃ d, awayN W H a b = d := ⟨_, rfl⟩
  obtain ⟨e, hE⟩ : ∃ e, awayN W H b c = e := ⟨_, rfl⟩
  obtain ⟨f, hF⟩ : ∃ f, awayN W H a c = f := ⟨_, rfl⟩
  rw [hD] at hd bd HS0
  rw [hE] at be
  rw [hF] at bf
  rw [hE] at he
  have HD : Hid (awayN W H a b = d) := hD
  have HE : Hid (awayN W H b c = e) := hE
  have HF : Hid (awayN W H a c = f) := hF
  have HS : Hid (awayN W H b a = d) := HS0
  have HP : Hid (decide (awayN W H a b = 1) = (d == 1)) := by show _ = _; rw [hD, Bool.eq_iff_iff]; simp
  have HQ : Hid (decide (awayN W H b a = 1) = (d == 1)) := by show _ = _; rw [HS0, Bool.eq_iff_iff]; simp
  clear hD hE hF HS0
  have t1 : (d == 0) = false := beq_eq_false_iff_ne.2 (by omega)
  have t3 : decide (0 ≤ e) = false := by simp; omega
  refine (callsIn_wide (n := 9)).1 ?_
  refine callsIn_of_wp_marks Try.func6 rfl trivial ?_ rfl
  simp only [Try.ntmps6, List.size_toArray, List.length_cons, List.length_nil, Nat.reduceAdd, Nat.reduceSub, Array.replicate_succ, Array.replicate_zero, List.push_toArray, List.append_toArray, List.nil_append, List.cons_append]
  gi_wp2_with fail
  refine ⟨trivial, ?_⟩
  refine (callsIn_wide.2 (awake_any _)).mono ?_
  rintro _ w1 ⟨rfl, hb1⟩
  have hz := (((Blk.new w 23 #[.int .i64 W, .int .i64 H]).alloc (.cells #[.int .i64 a] 3)).alloc (.cells #[.bool false] 4)).below hb1
  have hy := ((Blk.new (w.alloc (.cells #[.int .i64 W, .int .i64 H] 23)) 3 #[.int .i64 a]).alloc (.cells #[.bool false] 4)).below hb1
  have hr := (Blk.new ((w.alloc (.cells #[.int .i64 W, .int .i64 H] 23)).alloc (.cells #[.int .i64 a] 3)) 4 #[.bool false]).below hb1
  have hB1 : Below w.heap.size w w1 := below_step (below_new (below_new (below_new (Below.refl _ w) (Nat.le_refl _) _) (Nat.le_refl _) _) (Nat.le_refl _) _) hb1 (Nat.le_refl _)
  simp only [World.size_alloc] at hy hr
  clear hb1
  have a0 := Grow.cell hz.lt hz.cells2.1
  have a1 := Grow.cell hz.lt hz.cells2.2
  have b0 := Grow.cell hy.lt hy.cell1
  have hne := Grow.ne w1
  gi_wp2
  refine wpIn_wide.2 ?_
  refine wp_region_grow (by kernel_rfl) (by kernel_rfl) ?_
  repeat (go_big_quiet_step ((go_at_call 14; exact grow_call (away_as _ (by first | exact HD.out | exact HE.out | exact HF.out)))))
  refine wpQuiet_nil ?_
  rintro w2 ⟨⟨_, hb2⟩, rfl⟩
  replace hz := hz.below hb2
  replace hy := hy.below hb2
  replace hr := hr.below hb2
  have hB2 := below_step hB1 hb2 (Nat.le_refl _)
  clear a0 a1 b0 hne hb2 hB1
  obtain ⟨z0, z1⟩ := hz.cells2
  have y0 := hy.cell1
  gi_wp2_with fail
  refine ⟨trivial, ?_⟩
  refine (callsIn_wide.2 (away_as _ HS.out)).mono ?_
  rintro _ w3 ⟨rfl, hb3⟩
  replace hz := hz.below hb3
  replace hy := hy.below hb3
  replace hr := hr.below hb3
  have hB3 := below_step hB2 hb3 (Nat.le_refl _)
  clear z0 z1 y0 hb3 hB2
  obtain ⟨z0, z1⟩ := hz.cells2
  have y0 := hy.cell1
  gi_wp2_with (refine ⟨trivial, ?_⟩; gi_at_call 13; refine (callsIn_wide.2 (beside_as _ HP.out)).mono ?_; rintro _ w4 ⟨rfl, hb4⟩; obtain ⟨z40, z41⟩ := (hz.below hb4).cells2; have y40 := (hy.below hb4).cell1; clear HP)
  refine ⟨trivial, ?_⟩
  refine (callsIn_wide.2 (beside_as _ HQ.out)).mono ?_
  rintro _ w5 ⟨rfl, hb5⟩
  replace hz := (hz.below hb4).below hb5
  replace hy := (hy.below hb4).below hb5
  replace hr := (hr.below hb4).below hb5
  have hB5 := below_step (below_step hB3 hb4 (Nat.le_refl _)) hb5 (Nat.le_refl _)
  clear z0 z1 y0 z40 z41 y40 hb4 hb5 hB3
  obtain ⟨z0, z1⟩ := hz.cells2
  have y0 := hy.cell1
  have zl := hz.lt
  have yl := hy.lt
  have rl := hr.lt
  gi_wp2_with (refine ⟨trivial, ?_⟩; gi_at_call 11; refine (callsIn_wide.2 (near_ab _ _ _ _)).mono ?_; rintro _ w6 ⟨B1, C1, rfl, hh1, lB1, lC1, hb6⟩; have hnf := nearF_nil B1 C1; obtain ⟨z60, z61⟩ := (((hz.alloc (.cells #[.int .i64 0] 3)).alloc (.cells #[.int .i64 (-1)] 3)).below hb6).cells2; have y60 := (((hy.alloc (.cells #[.int .i64 0] 3)).alloc (.cells #[.int .i64 (-1)] 3)).below hb6).cell1; clear yl)
  refine ⟨trivial, ?_⟩
  refine (callsIn_wide.2 (near_ab _ _ _ _)).mono ?_
  rintro _ w7 ⟨B, C, rfl, hh, lB, lC, hb7⟩
  have hn6 := ((Blk.new w5 3 #[.int .i64 0]).alloc (.cells #[.int .i64 (-1)] 3)).below hb6
  have hl6 := (Blk.new (w5.alloc (.cells #[.int .i64 0] 3)) 3 #[.int .i64 (-1)]).below hb6
  simp only [World.size_alloc] at hl6
  replace hz := (((hz.alloc (.cells #[.int .i64 0] 3)).alloc (.cells #[.int .i64 (-1)] 3)).below hb6).below hb7
  replace hy := (((hy.alloc (.cells #[.int .i64 0] 3)).alloc (.cells #[.int .i64 (-1)] 3)).below hb6).below hb7
  replace hr := (((hr.alloc (.cells #[.int .i64 0] 3)).alloc (.cells #[.int .i64 (-1)] 3)).below hb6).below hb7
  have hn7 := hn6.below hb7
  have hl7 := hl6.below hb7
  have l6 := hl6.lt
  have hB7 := below_step (below_step (below_new (below_new hB5 (Nat.le_refl _) _) (Nat.le_refl _) _) hb6 (Nat.le_refl _)) hb7 (Nat.le_refl _)
  generalize w5.heap.size = M at *
  clear z0 z1 y0 z60 z61 y60 hb6 hb7 hB5 hn6 hl6 hh1 hnf HD HE HF HS HQ zl bd be bf lB1 lC1
  gi_wp2_with fail
  refine wpIn_rangeFunc_ownF rfl (by omega) (gf := 22) (lb := #[.pointer (some ⟨B, 0, none⟩), .pointer (some ⟨C, 0, none⟩)]) rfl trivial (enters_of Try.func22 (by kernel_rfl) rfl)
    (near1_stops _ (by omega) _ _ W H a _ hh) (fun h k => kept2_t h k) (kept2_b (Array.getElem?_eq_some_iff.1 hh.1).1 (Array.getElem?_eq_some_iff.1 hh.2).1) (Below.refl _ _) (fun _ => rfl)
    (fun pre W' => (Blk W' M 3 #[.int .i64 pre.length] ∧ Blk W' (M + 1) 3 #[.int .i64 (lastI pre)] ∧ Blk W' w.heap.size 23 #[.int .i64 W, .int .i64 H] ∧ Blk W' (w.heap.size + 1) 3 #[.int .i64 a] ∧ Blk W' (w.heap.size + 1 + 1) 4 #[.bool false] ∧ Has2 B C W H a W') ∧ Below w.heap.size w W')
    (fun c pre W' => c = .ret ∧ ∃ p x, pre = p ++ [x] ∧ ¬ (lastI p < x ∧ awayN W H a x = 1))
    (OwnFrom.and (Own.from (fun s A B row hs hg hr => ⟨blk_grown hs.1 hg hr, blk_grown hs.2.1 hg hr, blk_grown hs.2.2.1 hg hr, blk_grown hs.2.2.2.1 hg hr, blk_grown hs.2.2.2.2.1 hg hr, has2_grown hs.2.2.2.2.2 hg hr⟩) _) (ownFrom_below (Nat.le_refl _) (by have := hB7.size; omega)))
    (fun _ _ _ _ _ hs _ _ => hs)
    ⟨⟨hn7, hl7, hz, hy, hr, hh⟩, hB7⟩
    ?a1 ?assign ?body ?done ?stop
  case assign =>
    intro l x X K hK
    gi_wp2
    exact hK
  case body =>
    rintro l pre x X ⟨⟨hn, hl, hz, hy, hr, hh⟩, hB⟩ hlen
    have c1 := hn.cell1
    have f1 := hn.frozen 0
    have c2 := hl.cell1
    have f2 := hl.frozen 0
    obtain ⟨z0, z1⟩ := hz.cells2
    have y0 := hy.cell1
    have r0 := hr.cell1
    have r1 := hr.frozen 0
    obtain ⟨q, hq⟩ : ∃ q, lastI pre = q := ⟨_, rfl⟩
    rw [hq] at c2 hl
    have HL : Hid (lastI pre = q) := hq; clear hq
    by_cases hx : x ≤ q
    · gi_wp2
      repeat (refine ⟨trivial, ?_⟩; gi_wp2)
      exact ⟨KeepsOthers.setCell _ _ _, rfl, pre, x, rfl, fun h => by have := h.1; rw [HL.out] at this; omega⟩
    · by_cases hg : awayN W H a x = 1
      · have HG : Hid (awayN W H a x = 1) := hg
        have HG2 : Hid (decide (awayN W H a x = 1) = true) := by show _ = _; rw [hg]; rfl
        clear hg
        have dx : decide (x ≤ q) = false := by simpa using hx
        gi_wp2_with fail
        refine ⟨trivial, ?_⟩
        refine (CallsIn.inRound l (callsIn_wide.2 (beside_as _ HG2.out))).mono ?_
        rintro _ X1 ⟨rfl, hb1⟩
        obtain ⟨z10, z11⟩ := (hz.below hb1).cells2
        have y10 := (hy.below hb1).cell1
        gi_wp2_with fail
        refine ⟨trivial, ?_⟩
        refine (CallsIn.inRound l (callsIn_wide.2 (away_as _ HG.out))).mono ?_
        rintro _ X2 ⟨rfl, hb2⟩
        have hb := below_step hb1 hb2 (Nat.le_refl _)
        have hn' := hn.below hb
        have hl' := hl.below hb
        have k1 := hn'.cell1
        have k2 := hn'.frozen 0
        have k3 := hl'.cell1
        have k4 := hl'.frozen 0
        gi_wp2
        have hk := kept2_t (kept2_t (kept2_below hh hb) (kept2_set (N := M + 1) (.int .i64 x) (by omega) (by omega))) (kept2_set (N := M) (.int .i64 ((pre.length : Int) + 1)) (by omega) (by omega))
        exact ⟨((below_others hb).trans (KeepsOthers.setCell _ _ _)).trans (KeepsOthers.setCell _ _ _), hk,
          ⟨by rw [List.length_append]; exact (hn'.other (by omega) _).set1 _, by rw [lastI_snoc]; exact (hl'.set1 _).other (by omega) _, ((hz.below hb).other (by omega) _).other (by omega) _, ((hy.below hb).other (by omega) _).other (by omega) _, ((hr.below hb).other (by omega) _).other (by omega) _, hh.kept hk⟩,
          ((below_step hB hb (Nat.le_refl _)).setCell (p := ⟨M + 1, 0, none⟩) (by simp; omega) _).setCell (p := ⟨M, 0, none⟩) (by simp; omega) _⟩
      · have HG2 : Hid (decide (awayN W H a x = 1) = false) := by show _ = _; rw [decide_eq_false hg]
        have HX : Hid (¬ (lastI pre < x ∧ awayN W H a x = 1)) := fun h => hg h.2
        clear hg
        have dx : decide (x ≤ q) = false := by simpa using hx
        gi_wp2_with fail
        refine ⟨trivial, ?_⟩
        refine (CallsIn.inRound l (callsIn_wide.2 (beside_as _ HG2.out))).mono ?_
        rintro _ X1 ⟨rfl, hb1⟩
        have hr' := hr.below hb1
        have k4 := hr'.cell1
        have k5 := hr'.frozen 0
        gi_wp2
        repeat (refine ⟨trivial, ?_⟩; gi_wp2)
        exact ⟨(below_others hb1).trans (KeepsOthers.setCell _ _ _), rfl, pre, x, rfl, HX.out⟩
  case done =>
    rintro D ys X hD hall ⟨⟨hn, hl, hz, hy, hr, _⟩, hB⟩ hK
    rw [show ys = nearL W H a from hall] at hn
    have hlen := nearL_len W H a
    obtain ⟨z0, z1⟩ := hz.cells2
    have y0 := hy.cell1
    cases ha : inB W H a with
    | false =>
      rw [near_no ha] at hn
      have HA : Hid (inB W H a = false) := ha; clear ha
      gi_wp2_with fail
      refine ⟨trivial, ?_⟩
      refine (callsIn_wide.2 (at_no _ _ _ _ HA.out)).mono ?_
      rintro _ X2 ⟨rfl, hb8⟩
      have c1 := (hn.below hb8).cell1
      have r0 := (hr.below hb8).cell1
      have r1 := (hr.below hb8).frozen 0
      gi_wp2
      have hX2 := hr.below hb8
      have hK2 := (below_others hb8).same D _ hK rfl
      have hK' := (KeepsOthers.setCell X2 ⟨w.heap.size + 1 + 1, 0, none⟩ (.bool true)).same D _ hK2 rfl
      refine ⟨by simp, .inl ⟨_, _, rfl, run_takeDeferred hK', ?_⟩⟩
      have hc5 := cell_kept (hX2.set1 (.bool true)).cell1 (grownBy_putObj' _ D (.deferred none)) (fun r e => by cases e; exact ⟨_, hK', rfl⟩)
      refine ⟨.bool true, ?_, rfl, ((below_step hB hb8 (Nat.le_refl _)).setCell (p := ⟨w.heap.size + 1 + 1, 0, none⟩) (by simp; omega) _).trans (belowK_b (w := w) (Nat.le_refl _) _ D _ _ (Nat.le_trans hB7.size hD) hK' rfl rfl)⟩
      simp [results, Try.f6, go_sem, hc5]
    | true =>
      have hmany : W ≠ 1 → H ≠ 1 → 2 ≤ (nearL W H a).length := near_many ha
      generalize (nearL W H a).length = q at *
      have HM : Hid (W ≠ 1 → H ≠ 1 → 2 ≤ q) := hmany; clear hmany
      have HA : Hid (inB W H a = true) := ha; clear ha
      by_cases hW1 : W = 1
      · have g1 : (W == 1) = true := beq_iff_eq.2 hW1
        clear hW1
        gi_wp2_with fail
        refine ⟨trivial, ?_⟩
        refine (callsIn_wide.2 (at_yes _ _ _ _ HA.out)).mono ?_
        rintro _ X2 ⟨rfl, hb8⟩
        have c1 := (hn.below hb8).cell1
        have r0 := (hr.below hb8).cell1
        have r1 := (hr.below hb8).frozen 0
        obtain ⟨z80, z81⟩ := (hz.below hb8).cells2
        gi_wp2
        have hX2 := hr.below hb8
        have hK2 := (below_others hb8).same D _ hK rfl
        have hK' := (KeepsOthers.setCell X2 ⟨w.heap.size + 1 + 1, 0, none⟩ (.bool true)).same D _ hK2 rfl
        refine ⟨by simp, .inl ⟨_, _, rfl, run_takeDeferred hK', ?_⟩⟩
        have hc5 := cell_kept (hX2.set1 (.bool true)).cell1 (grownBy_putObj' _ D (.deferred none)) (fun r e => by cases e; exact ⟨_, hK', rfl⟩)
        refine ⟨.bool true, ?_, rfl, ((below_step hB hb8 (Nat.le_refl _)).setCell (p := ⟨w.heap.size + 1 + 1, 0, none⟩) (by simp; omega) _).trans (belowK_b (w := w) (Nat.le_refl _) _ D _ _ (Nat.le_trans hB7.size hD) hK' rfl rfl)⟩
        simp [results, Try.f6, go_sem, hc5]
      · by_cases hH1 : H = 1
        · have g1 : (W == 1) = false := beq_eq_false_iff_ne.2 hW1
          have g2 : (H == 1) = true := beq_iff_eq.2 hH1
          clear hW1 hH1
          gi_wp2_with fail
          refine ⟨trivial, ?_⟩
          refine (callsIn_wide.2 (at_yes _ _ _ _ HA.out)).mono ?_
          rintro _ X2 ⟨rfl, hb8⟩
          have c1 := (hn.below hb8).cell1
          have r0 := (hr.below hb8).cell1
          have r1 := (hr.below hb8).frozen 0
          obtain ⟨z80, z81⟩ := (hz.below hb8).cells2
          gi_wp2
          have hX2 := hr.below hb8
          have hK2 := (below_others hb8).same D _ hK rfl
          have hK' := (KeepsOthers.setCell X2 ⟨w.heap.size + 1 + 1, 0, none⟩ (.bool true)).same D _ hK2 rfl
          refine ⟨by simp, .inl ⟨_, _, rfl, run_takeDeferred hK', ?_⟩⟩
          have hc5 := cell_kept (hX2.set1 (.bool true)).cell1 (grownBy_putObj' _ D (.deferred none)) (fun r e => by cases e; exact ⟨_, hK', rfl⟩)
          refine ⟨.bool true, ?_, rfl, ((below_step hB hb8 (Nat.le_refl _)).setCell (p := ⟨w.heap.size + 1 + 1, 0, none⟩) (by simp; omega) _).trans (belowK_b (w := w) (Nat.le_refl _) _ D _ _ (Nat.le_trans hB7.size hD) hK' rfl rfl)⟩
          simp [results, Try.f6, go_sem, hc5]
        · have g1 : (W == 1) = false := beq_eq_false_iff_ne.2 hW1
          have g2 : (H == 1) = false := beq_eq_false_iff_ne.2 hH1
          have g3 : 2 ≤ q := HM.out hW1 hH1
          clear hW1 hH1
          gi_wp2_with fail
          refine ⟨trivial, ?_⟩
          refine (callsIn_wide.2 (at_yes _ _ _ _ HA.out)).mono ?_
          rintro _ X2 ⟨rfl, hb8⟩
          have c1 := (hn.below hb8).cell1
          have r0 := (hr.below hb8).cell1
          have r1 := (hr.below hb8).frozen 0
          obtain ⟨z80, z81⟩ := (hz.below hb8).cells2
          gi_wp2
          have hX2 := hr.below hb8
          have hK2 := (below_others hb8).same D _ hK rfl
          have hK' := (KeepsOthers.setCell X2 ⟨w.heap.size + 1 + 1, 0, none⟩ (.bool true)).same D _ hK2 rfl
          refine ⟨by simp, .inl ⟨_, _, rfl, run_takeDeferred hK', ?_⟩⟩
          have hc5 := cell_kept (hX2.set1 (.bool true)).cell1 (grownBy_putObj' _ D (.deferred none)) (fun r e => by cases e; exact ⟨_, hK', rfl⟩)
          refine ⟨.bool true, ?_, rfl, ((below_step hB hb8 (Nat.le_refl _)).setCell (p := ⟨w.heap.size + 1 + 1, 0, none⟩) (by simp; omega) _).trans (belowK_b (w := w) (Nat.le_refl _) _ D _ _ (Nat.le_trans hB7.size hD) hK' rfl rfl)⟩
          simp [results, Try.f6, go_sem, hc5]
  case stop =>
    rintro D c pre X _ hpre ⟨rfl, p, x, rfl, hbad⟩ _
    cases ha : inB W H a with
    | false =>
      have hp : p ++ [x] <+: nearL W H a := hpre
      rw [near_no ha] at hp
      have := hp.length_le; simp at this
    | true => exact absurd (near_next ha hpre) hbad

theorem nearlaw_any (W H a b c : Int) (w : World) : Calls Try.prog 6 #[sz W H, .int .i64 a, .int .i64 b, .int .i64 c] w fun e w' => e = .returned (.bool true) ∧ Below w.heap.size w w' := by
  by_cases h1 : awayN W H a b < 0
  · exact near_neg W H a b c w h1
  · by_cases h2 : awayN W H a b = 0
    · by_cases h3 : awayN W H b c < 0
      · exact near_zn W H a b c w h2 h3
      · exact near_zp W H a b c w h2 (by omega)
    · by_cases h3 : awayN W H b c < 0
      · exact near_pn W H a b c w (by omega) h3
      · exact near_pp W H a b c w (by omega) (by omega)

end Go.Proofs.Ytdmdoddlhjkkiaa
