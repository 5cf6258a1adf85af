/- The walks of TerrainNobody and TerrainKnown. -/
import Derived.Test.YtdeoajoekilegaaTerrAwake
namespace Go.Proofs.Ytdeoajoekilegaa
open Go.RowKit
set_option linter.unusedVariables false

theorem leastN_none (c : Int) : leastN [] 0 c = 0 := by unfold leastN; split <;> rfl
theorem mayB_none (c k : Int) : mayB [] 0 c k = false := by
  unfold mayB
  cases h : hasN 0 c with
  | false => rfl
  | true => have := hasN_iff.1 h; omega
theorem costN_none (k : Int) : costN [] k = 0 := by
  unfold costN
  split
  · rfl
  · rfl
theorem bare_tab (w : World) : Tab (w.alloc (.cells #[.slice none 0 0, .int .i64 0, .int .i64 0, .int .i64 0, .int .i64 0, .int .i64 0, .int .i64 0, .int .i64 0, .int .i64 0, .int .i64 0] 42)) (fun _ => True) w.heap.size [] 0 := by
  refine ⟨⟨none, 0, ?_, .inl rfl, fun _ => ⟨rfl, rfl⟩, fun a e => (by cases e)⟩, trivial, fun x hx => (by cases hx), by simp, by omega, by omega⟩
  have h := Blk.new w 42 #[.slice none 0 0, .int .i64 0, .int .i64 0, .int .i64 0, .int .i64 0, .int .i64 0, .int .i64 0, .int .i64 0, .int .i64 0, .int .i64 0]
  unfold tbCells
  simp only [leastN_none]
  exact h

set_option maxRecDepth 100000 in
set_option maxHeartbeats 2000000 in
theorem nobody_walk (c k : Int) (w : World) : Calls Try.prog 5 #[.int .i64 c, .int .i64 k] w fun e w' => e = .returned (.bool true) ∧ Below w.heap.size w w' := by
  go_enter Try.func5, Try.ntmps5
  go_wp2_with fail
  refine (awake_any _).mono ?_
  rintro e w1 ⟨rfl, hb1⟩
  have N0 : ∀ w, Hid (TabV w (.pointer none) [] 0) := fun w => .inl ⟨rfl, rfl, rfl⟩
  go_wp2_with fail
  refine (least_any (N0 _).out c).mono ?_
  rintro e w2 ⟨rfl, rfl⟩
  rw [leastN_none]
  have B0 : Hid (TabV (w1.alloc (.cells #[.slice none 0 0, .int .i64 0, .int .i64 0, .int .i64 0, .int .i64 0, .int .i64 0, .int .i64 0, .int .i64 0, .int .i64 0, .int .i64 0] 42)) (.pointer (some ⟨w1.heap.size, 0, none⟩)) [] 0) := .inr ⟨_, _, rfl, bare_tab w1⟩
  have hb2 := below_new hb1 (Nat.le_refl _) (.cells #[.slice none 0 0, .int .i64 0, .int .i64 0, .int .i64 0, .int .i64 0, .int .i64 0, .int .i64 0, .int .i64 0, .int .i64 0, .int .i64 0] 42)
  go_wp2_with fail
  refine (least_any B0.out c).mono ?_
  rintro e w2 ⟨rfl, rfl⟩
  rw [leastN_none]
  go_wp2_with fail
  refine (kinds_any (N0 _).out).mono ?_
  rintro e w2 ⟨rfl, rfl⟩
  rw [show ([] : List Kd).length = 0 from rfl]
  go_wp2_with fail
  refine (classes_any (N0 _).out).mono ?_
  rintro e w2 ⟨rfl, rfl⟩
  go_wp2_with fail
  refine (may_any (N0 _).out c k).mono ?_
  rintro e w2 ⟨rfl, hb3⟩
  have B1 : Hid (TabV w2 _ [] 0) := B0.out.below hb3
  rw [mayB_none]
  go_wp2_with fail
  refine (cost_any (N0 _).out k).mono ?_
  rintro e w3 ⟨rfl, rfl⟩
  rw [costN_none]
  go_wp2_with fail
  refine (all_any (N0 _).out).mono ?_
  rintro e w3 ⟨ao, cap, rfl, _, _, hb4⟩
  have B2 : Hid (TabV w3 _ [] 0) := B1.out.below hb4
  rw [show ([] : List Kd).length = 0 from rfl]
  go_wp2_with fail
  refine (kinds_any B2.out).mono ?_
  rintro e w4 ⟨rfl, rfl⟩
  rw [show ([] : List Kd).length = 0 from rfl]
  go_wp2_with fail
  refine (classes_any B2.out).mono ?_
  rintro e w4 ⟨rfl, rfl⟩
  go_wp2_with fail
  refine (may_any B2.out c k).mono ?_
  rintro e w4 ⟨rfl, hb5⟩
  have B3 : Hid (TabV w4 _ [] 0) := B2.out.below hb5
  rw [mayB_none]
  go_wp2_with fail
  refine (cost_any B3.out k).mono ?_
  rintro e w5 ⟨rfl, rfl⟩
  rw [costN_none]
  go_wp2_with fail
  refine (all_any B3.out).mono ?_
  rintro e w5 ⟨ao, cap, rfl, _, _, hb6⟩
  rw [show ([] : List Kd).length = 0 from rfl]
  go_wp2
  go_ret
  exact ⟨rfl, below_step (below_step (below_step (below_step hb2 hb3 (Nat.le_refl _)) hb4 (Nat.le_refl _)) hb5 (Nat.le_refl _)) hb6 (Nat.le_refl _)⟩

theorem make_17 (w4 : World) : ∃ o, (Instr.makeSlice 22 (.int .i64 17) (.int .i64 17)).run Try.prog w4 = .ok (.slice (some ⟨w4.heap.size, 0, none⟩) 17 17) (w4.alloc o) := by
  obtain ⟨i0, hi, hz0, hz1, hz2⟩ := info_parts Try.infoK
  exact ⟨_, run_make w4 22 29 i0 _ Try.underlying22 hi hz0 .i64 .i64 17 17 (by decide) (by decide) (by rw [hz2]; decide) (by decide)⟩
theorem kat_one (w : World) (x : Kd) : KAt (w.alloc (.cells #[.int .i64 x.1, .int .u8 x.2] 29)) (some ⟨w.heap.size, 0, none⟩) [x] := by
  refine .inr ⟨_, 0, rfl, fun i hi => ?_⟩
  have h := Blk.new w 29 #[.int .i64 x.1, .int .u8 x.2]
  match i, hi with
  | 0, _ => exact ⟨h.at rfl, h.at rfl⟩

set_option maxRecDepth 100000 in
set_option maxHeartbeats 4000000 in
theorem known_walk (w : World) : Calls Try.prog 3 #[] w fun e w' => e = .returned (.bool true) ∧ Below w.heap.size w w' := by
  go_enter Try.func3, Try.ntmps3
  go_wp2_with fail
  refine (example_any _).mono ?_
  rintro e w0 ⟨rfl, rfl⟩
  go_wp2_with fail
  refine (new_yes w.heap.size 0 3 exL 2 _ (example_at w) exL_wk (by decide +kernel)).mono ?_
  rintro e w1 ⟨B, rfl, ht1, hb1⟩
  have hBl : Below w.heap.size w w1 := below_step (below_new (Below.refl _ _) (Nat.le_refl _) _) hb1 (Nat.le_refl _)
  have hE := (Blk.new w 29 #[.int .i64 1, .int .u8 3, .int .i64 5, .int .u8 2, .int .i64 9, .int .u8 0]).below hb1
  have hE0 := hE.at (j := 0) rfl
  have hE1 := hE.frozen 0
  have T1 : Hid (TabV (w1.setCell ⟨w.heap.size, 0, none⟩ (.int .i64 99)) (.pointer (some ⟨B, 0, none⟩)) exL 2) :=
    .inr ⟨_, B, rfl, ht1.kept (fun b hb => Below.heap_setCell _ _ _ _ (by simp at hb; simp; omega))⟩
  have hB2 : Below w.heap.size w (w1.setCell ⟨w.heap.size, 0, none⟩ (.int .i64 99)) := hBl.setCell (by simp) _
  clear ht1 hb1 hE hBl
  rw [show exL.length = 3 from rfl]
  go_wp2_with fail
  clear hE0 hE1
  generalize w1.setCell ⟨w.heap.size, 0, none⟩ (.int .i64 99) = X at *
  refine (all_any T1.out).mono ?_
  rintro e w2 ⟨ao, cap, rfl, hfa, hka, hb3⟩
  rcases hka with h | ⟨b, off, rfl, hka⟩
  · cases h
  obtain ⟨hl, hlo, hfz⟩ := hfa _ rfl
  have hc1 : w2.cell? ⟨b, off + 2 + 1, none⟩ = some (.int .u8 2) := (hka 1 (by decide)).2
  have hf1 := hfz (off + 2 + 1)
  obtain ⟨F, B', e', ht2⟩ : ∃ F B', (Value.pointer (some ⟨B, 0, none⟩)) = .pointer (some ⟨B', 0, none⟩) ∧ Tab X F B' exL 2 := by
    rcases T1.out with ⟨h, _⟩ | h
    · cases h
    · exact h
  cases e'
  have T2 : Hid (TabV (w2.setCell ⟨b, off + 2 + 1, none⟩ (.int .u8 3)) (.pointer (some ⟨B, 0, none⟩)) exL 2) :=
    .inr ⟨_, B, rfl, ((ht2.mono (G := fun b => b < X.heap.size) (fun b _ h => h)).below hb3).kept (fun b hb => Below.heap_setCell _ _ _ _ (by simp at hlo; simp; omega))⟩
  have hB3 : Below w.heap.size w (w2.setCell ⟨b, off + 2 + 1, none⟩ (.int .u8 3)) := (below_step hB2 hb3 (Nat.le_refl _)).setCell (by have := hB2.size; simp at hlo; simp; omega) _
  clear hfa hka hfz ht2 T1 hB2 hb3 hl hlo
  rw [show exL.length = 3 from rfl]
  go_wp2_with fail
  clear hc1 hf1
  generalize w2.setCell ⟨b, off + 2 + 1, none⟩ (.int .u8 3) = Y at *
  refine (least_any T2.out 0).mono ?_
  rintro e w3 ⟨rfl, rfl⟩
  rw [show leastN exL 2 0 = 1 from by decide +kernel]
  go_wp2_with fail
  refine (new_no _ 1 [(1, 4)] 2 _ (kat_one w3 (1, 4)) (by intro x hx; simp at hx; subst hx; decide) (by decide +kernel)).mono ?_
  rintro e w4 ⟨rfl, hb4⟩
  have hb4' := below_step (below_new (Below.refl w3.heap.size w3) (Nat.le_refl _) _) hb4 (Nat.le_refl _)
  have T4 : Hid (TabV w4 (.pointer (some ⟨B, 0, none⟩)) exL 2) := T2.out.below hb4'
  have hB4 := below_step hB3 hb4' (Nat.le_refl _)
  clear hb4 hb4' T2 hB3
  obtain ⟨o4, hmk⟩ := make_17 w4
  go_wp2_with fail
  refine (new_out _ 17 17 1 _ (by decide)).mono ?_
  rintro e w5 ⟨rfl, hb5⟩
  have hb5' := below_step (below_new (Below.refl w4.heap.size w4) (Nat.le_refl _) _) hb5 (Nat.le_refl _)
  have T5 : Hid (TabV w5 (.pointer (some ⟨B, 0, none⟩)) exL 2) := T4.out.below hb5'
  have hB5 := below_step hB4 hb5' (Nat.le_refl _)
  clear hb5 hb5' T4 hB4
  go_wp2_with fail
  refine (new_no _ 1 [(256, 0)] 1 _ (kat_one w5 (256, 0)) (by intro x hx; simp at hx; subst hx; decide) (by decide +kernel)).mono ?_
  rintro e w6 ⟨rfl, hb6⟩
  have hb6' := below_step (below_new (Below.refl w5.heap.size w5) (Nat.le_refl _) _) hb6 (Nat.le_refl _)
  have T6 : Hid (TabV w6 (.pointer (some ⟨B, 0, none⟩)) exL 2) := T5.out.below hb6'
  have hB6 := below_step hB5 hb6' (Nat.le_refl _)
  clear hb6 hb6' T5 hB5
  go_wp2_with fail
  refine (awake_any _).mono ?_
  rintro e w7 ⟨rfl, hb7⟩
  have T7 : Hid (TabV w7 (.pointer (some ⟨B, 0, none⟩)) exL 2) := T6.out.below hb7
  have hB7 := below_step hB6 hb7 (Nat.le_refl _)
  clear hb7 T6 hB6
  go_wp2_with fail
  refine (cost_any T7.out 0).mono ?_
  rintro e w8 ⟨rfl, rfl⟩
  rw [show costN exL 0 = 1 from by decide +kernel]
  go_wp2_with fail
  refine (may_any T7.out 0 1).mono ?_
  rintro e w8 ⟨rfl, hb8⟩
  have T8 : Hid (TabV w8 (.pointer (some ⟨B, 0, none⟩)) exL 2) := T7.out.below hb8
  have hB8 := below_step hB7 hb8 (Nat.le_refl _)
  rw [show mayB exL 2 0 1 = false from by decide +kernel]
  go_wp2_with fail
  refine (may_any T8.out 1 1).mono ?_
  rintro e w9 ⟨rfl, hb9⟩
  have T9 : Hid (TabV w9 (.pointer (some ⟨B, 0, none⟩)) exL 2) := T8.out.below hb9
  have hB9 := below_step hB8 hb9 (Nat.le_refl _)
  rw [show mayB exL 2 1 1 = true from by decide +kernel]
  go_wp2_with fail
  refine (may_any T9.out 2 0).mono ?_
  rintro e w10 ⟨rfl, hb10⟩
  have T10 : Hid (TabV w10 (.pointer (some ⟨B, 0, none⟩)) exL 2) := T9.out.below hb10
  have hB10 := below_step hB9 hb10 (Nat.le_refl _)
  rw [show mayB exL 2 2 0 = false from by decide +kernel]
  go_wp2_with fail
  refine (may_any T10.out 0 3).mono ?_
  rintro e w11 ⟨rfl, hb11⟩
  have T11 : Hid (TabV w11 (.pointer (some ⟨B, 0, none⟩)) exL 2) := T10.out.below hb11
  have hB11 := below_step hB10 hb11 (Nat.le_refl _)
  rw [show mayB exL 2 0 3 = false from by decide +kernel]
  go_wp2_with fail
  refine (cost_any T11.out 3).mono ?_
  rintro e w12 ⟨rfl, rfl⟩
  rw [show costN exL 3 = 0 from by decide +kernel]
  go_wp2
  go_ret
  exact ⟨rfl, hB11⟩

end Go.Proofs.Ytdeoajoekilegaa
