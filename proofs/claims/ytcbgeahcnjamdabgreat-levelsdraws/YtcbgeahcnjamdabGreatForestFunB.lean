/- Layer 8 (forest): the contracts of its functions, told of the whole forest (by tools/gen_forest.py). -/
import Derived.Test.YtcbgeahcnjamdabGreatForestFun
namespace Go.Proofs.YtcbgeahcnjamdabGreat
open Go.RowKit
set_option linter.unusedVariables false
section
variable {w : World} {F : Nat → Prop} {B G : Nat} {f : Fo}
theorem fvput_any (h : Fd w F B G f) {a i : Int} (ha : B64 a) (hi : B64 i) (hle : f.nv ≤ 30000) : Calls Tryz.prog 47 #[.pointer (some ⟨B, 8, none⟩), .int .i64 a, .int .i64 i] w fun e w' => ∃ F', e = .returned (.tuple #[]) ∧ Fd w' F' B G (f.wv (updI f.vi a i) (updI f.vo i a) (f.nv + 1)) ∧ Step F F' w w' := by
  obtain ⟨x, y, u, v, h⟩ := h
  obtain ⟨φ, ok, hb, hn, hB, hup⟩ := h.vnames
  exact (nput_any ok hb hn hB hle ha hi).mono fun e w' ⟨x', y', h1, h2, h3, h4, h5⟩ => let ⟨F', a, b⟩ := hup _ _ _ _ _ _ h2 h3 h4 h5; ⟨F', h1, a, b⟩
theorem fvtake_any (h : Fd w F B G f) {a : Int} (ha : B64 a) (hi : B64 (f.vi a)) (h0 : f.vi a ≠ 0) : Calls Tryz.prog 50 #[.pointer (some ⟨B, 8, none⟩), .int .i64 a] w fun e w' => ∃ F', e = .returned (.tuple #[]) ∧ Fd w' F' B G (f.wv (updI f.vi a 0) (updI f.vo (f.vi a) 0) f.nv) ∧ Step F F' w w' := by
  obtain ⟨x, y, u, v, h⟩ := h
  obtain ⟨φ, ok, hb, hn, hB, hup⟩ := h.vnames
  exact (ntake_any ok hb hn hB ha hi h0).mono fun e w' ⟨h1, h2, h3, h5⟩ => let ⟨F', a, b⟩ := hup _ _ _ _ _ _ h2 h3 (fun k hk => .inl hk) h5; ⟨F', h1, a, b⟩
theorem feput_any (h : Fd w F B G f) {a i : Int} (ha : B64 a) (hi : B64 i) (hle : f.ne ≤ 30000) : Calls Tryz.prog 47 #[.pointer (some ⟨B, 10, none⟩), .int .i64 a, .int .i64 i] w fun e w' => ∃ F', e = .returned (.tuple #[]) ∧ Fd w' F' B G (f.we (updI f.ei a i) (updI f.eo i a) (f.ne + 1)) ∧ Step F F' w w' := by
  obtain ⟨x, y, u, v, h⟩ := h
  obtain ⟨φ, ok, hb, hn, hB, hup⟩ := h.enames
  exact (nput_any ok hb hn hB hle ha hi).mono fun e w' ⟨x', y', h1, h2, h3, h4, h5⟩ => let ⟨F', a, b⟩ := hup _ _ _ _ _ _ h2 h3 h4 h5; ⟨F', h1, a, b⟩
theorem fetake_any (h : Fd w F B G f) {a : Int} (ha : B64 a) (hi : B64 (f.ei a)) (h0 : f.ei a ≠ 0) : Calls Tryz.prog 50 #[.pointer (some ⟨B, 10, none⟩), .int .i64 a] w fun e w' => ∃ F', e = .returned (.tuple #[]) ∧ Fd w' F' B G (f.we (updI f.ei a 0) (updI f.eo (f.ei a) 0) f.ne) ∧ Step F F' w w' := by
  obtain ⟨x, y, u, v, h⟩ := h
  obtain ⟨φ, ok, hb, hn, hB, hup⟩ := h.enames
  exact (ntake_any ok hb hn hB ha hi h0).mono fun e w' ⟨h1, h2, h3, h5⟩ => let ⟨F', a, b⟩ := hup _ _ _ _ _ _ h2 h3 (fun k hk => .inl hk) h5; ⟨F', h1, a, b⟩
theorem fohas_nil (v : Int) (w : World) : Calls Tryz.prog 40 #[.pointer none, .int .i64 v] w fun e w' => e = .returned (.bool false) ∧ w' = w := by
  go_enter Tryz.func40, Tryz.ntmps40
  go_wp2
  go_ret
  exact ⟨rfl, rfl⟩
theorem fohas_any (h : Fd w F B G f) (v : Int) (hb : B64 v) : Calls Tryz.prog 40 #[.pointer (some ⟨B, 0, none⟩), .int .i64 v] w fun e w' => e = .returned (.bool (f.vi v != 0)) ∧ w' = w := by
  obtain ⟨x, y, u, v', h⟩ := h
  have c8 := h.cells.1
  have hl := (h.vlook hb).1
  generalize f.vi v = z at *
  clear h
  go_enter Tryz.func40, Tryz.ntmps40
  go_wp2
  go_ret
  exact ⟨rfl, rfl⟩
theorem fohasE_nil (v : Int) (w : World) : Calls Tryz.prog 102 #[.pointer none, .int .i64 v] w fun e w' => e = .returned (.bool false) ∧ w' = w := by
  go_enter Tryz.func102, Tryz.ntmps102
  go_wp2
  go_ret
  exact ⟨rfl, rfl⟩
theorem fohasE_any (h : Fd w F B G f) (v : Int) (hb : B64 v) : Calls Tryz.prog 102 #[.pointer (some ⟨B, 0, none⟩), .int .i64 v] w fun e w' => e = .returned (.bool (f.ei v != 0)) ∧ w' = w := by
  obtain ⟨x, y, u, v', h⟩ := h
  have c8 := h.cells.2.2.1
  have hl := (h.elook hb).1
  generalize f.ei v = z at *
  clear h
  go_enter Tryz.func102, Tryz.ntmps102
  go_wp2
  go_ret
  exact ⟨rfl, rfl⟩
theorem foright_any (a b : Int) (w : World) : Calls Tryz.prog 46 #[.int .i64 a, .int .i64 b] w fun e w' => e = .returned (.bool (okSL a b)) ∧ w' = w := by
  have hR : ∀ (p : Bool), p = okSL a b → (.returned (.bool p) : Ending) = .returned (.bool (okSL a b)) := fun p hp => by rw [hp]
  have HR := hid_mk hR
  clear hR
  by_cases h1 : 0 ≤ a
  · by_cases h2 : a ≤ 1099511627776
    · by_cases h3 : 0 ≤ b
      · have hv : okSL a b = decide (b ≤ 1099511627776) := by unfold okSL; simp [h1, h2, h3]
        go_enter Tryz.func46, Tryz.ntmps46
        go_wp2
        go_ret
        refine ⟨ret_of ?_, rfl⟩
        first | rfl | (rw [hv]; rfl)
      · have hv : okSL a b = false := by unfold okSL; simp [h1, h2, h3]
        go_enter Tryz.func46, Tryz.ntmps46
        go_wp2
        go_ret
        exact ⟨ret_of (by first | rfl | (rw [hv]; rfl)), rfl⟩
    · have hv : okSL a b = false := by unfold okSL; simp [h1, h2]
      go_enter Tryz.func46, Tryz.ntmps46
      go_wp2
      go_ret
      exact ⟨ret_of (by first | rfl | (rw [hv]; rfl)), rfl⟩
  · have hv : okSL a b = false := by unfold okSL; simp [h1]
    go_enter Tryz.func46, Tryz.ntmps46
    go_wp2
    go_ret
    exact ⟨ret_of (by first | rfl | (rw [hv]; rfl)), rfl⟩
theorem fosize_nil (v : Int) (w : World) : Calls Tryz.prog 37 #[.pointer none, .int .i64 v] w fun e w' => e = .returned (.int .i64 0) ∧ w' = w := by
  go_enter Tryz.func37, Tryz.ntmps37
  go_wp2
  go_ret
  exact ⟨rfl, rfl⟩
set_option maxHeartbeats 1600000 in
theorem fosize_any (h : Fd w F B G f) (v : Int) (hbv : B64 v) {k : Nat} (hw : f.Wf k) (hk : k ≤ 30000) : Calls Tryz.prog 37 #[.pointer (some ⟨B, 0, none⟩), .int .i64 v] w fun e w' => e = .returned (.int .i64 (f.total v).c) ∧ Below w.heap.size w w' := by
  unfold Fo.total
  obtain ⟨mx, my, mu, mv, h⟩ := h
  obtain ⟨Ft, hT, _⟩ := h.trees
  have hBl := hT.lt B hT.fb
  have glv : ∀ g : Grow w, (Instr.lookup 98 mx (.int .i64 v) false).run Tryz.prog g.w = .ok (.int .i64 (f.vi v)) g.w := fun g => ((h.below g.h).vlook hbv).1
  have g8 : ∀ g : Grow w, g.w.cell? ⟨B, 8, none⟩ = some mx := fun g => Grow.cell hBl h.cells.1 g
  have HC : Hid (∀ g : Grow w, Calls Tryz.prog 67 #[.pointer (some ⟨B, 0, none⟩), .int .i64 (f.vi v)] g.w fun e w' => e = .returned (.int .i64 (f.t.total (f.vi v)).c) ∧ Below g.w.heap.size g.w w') := fun g => fsize_any (hT.below g.h) _ hw.t.le hk
  generalize (f.t.total (f.vi v)).c = r at *
  generalize f.vi v = z at *
  clear h hT hw
  go_enter Tryz.func37, Tryz.ntmps37
  go_wp2_with fail
  have hne := Grow.ne w
  refine wp_region_grow (by kernel_rfl) (by kernel_rfl) ?_
  repeat (go_big_quiet_step ((go_at_call 67; exact grow_call (HC.out _))))
  refine wpQuiet_nil ?_
  rintro w7 ⟨⟨_, hb7⟩, rfl⟩
  have HB7 := hid_mk hb7
  clear hb7 g8 glv hne HC
  go_wp2
  go_ret
  exact ⟨rfl, HB7.out⟩
theorem fosum_nil (v : Int) (w : World) : Calls Tryz.prog 38 #[.pointer none, .int .i64 v] w fun e w' => e = .returned (.int .i64 0) ∧ w' = w := by
  go_enter Tryz.func38, Tryz.ntmps38
  go_wp2
  go_ret
  exact ⟨rfl, rfl⟩
set_option maxHeartbeats 1600000 in
theorem fosum_any (h : Fd w F B G f) (v : Int) (hbv : B64 v) {k : Nat} (hw : f.Wf k) (hk : k ≤ 30000) : Calls Tryz.prog 38 #[.pointer (some ⟨B, 0, none⟩), .int .i64 v] w fun e w' => e = .returned (.int .i64 (f.total v).s) ∧ Below w.heap.size w w' := by
  unfold Fo.total
  obtain ⟨mx, my, mu, mv, h⟩ := h
  obtain ⟨Ft, hT, _⟩ := h.trees
  have hBl := hT.lt B hT.fb
  have glv : ∀ g : Grow w, (Instr.lookup 98 mx (.int .i64 v) false).run Tryz.prog g.w = .ok (.int .i64 (f.vi v)) g.w := fun g => ((h.below g.h).vlook hbv).1
  have g8 : ∀ g : Grow w, g.w.cell? ⟨B, 8, none⟩ = some mx := fun g => Grow.cell hBl h.cells.1 g
  have HC : Hid (∀ g : Grow w, Calls Tryz.prog 68 #[.pointer (some ⟨B, 0, none⟩), .int .i64 (f.vi v)] g.w fun e w' => e = .returned (.int .i64 (f.t.total (f.vi v)).s) ∧ Below g.w.heap.size g.w w') := fun g => fsum_any (hT.below g.h) _ hw.t.le hk
  generalize (f.t.total (f.vi v)).s = r at *
  generalize f.vi v = z at *
  clear h hT hw
  go_enter Tryz.func38, Tryz.ntmps38
  go_wp2_with fail
  have hne := Grow.ne w
  refine wp_region_grow (by kernel_rfl) (by kernel_rfl) ?_
  repeat (go_big_quiet_step ((go_at_call 68; exact grow_call (HC.out _))))
  refine wpQuiet_nil ?_
  rintro w7 ⟨⟨_, hb7⟩, rfl⟩
  have HB7 := hid_mk hb7
  clear hb7 g8 glv hne HC
  go_wp2
  go_ret
  exact ⟨rfl, HB7.out⟩
theorem fosame_nil (a : Int) (b : Int) (w : World) : Calls Tryz.prog 36 #[.pointer none, .int .i64 a, .int .i64 b] w fun e w' => e = .returned (.bool false) ∧ Below w.heap.size w w' := by
  go_enter Tryz.func36, Tryz.ntmps36
  go_wp2_with fail
  have hne := Grow.ne w
  refine wp_region_grow (by kernel_rfl) (by kernel_rfl) ?_
  repeat (go_big_quiet_step (fail))
  refine wpQuiet_nil ?_
  rintro w7 ⟨⟨_, hb7⟩, rfl⟩
  have HB7 := hid_mk hb7
  clear hb7 hne
  go_wp2
  go_ret
  exact ⟨ret_of rfl, HB7.out⟩
set_option maxHeartbeats 1600000 in
theorem fosame_any (h : Fd w F B G f) (a : Int) (b : Int) (hba : B64 a) (hbb : B64 b) {k : Nat} (hw : f.Wf k) (hk : k ≤ 30000) : Calls Tryz.prog 36 #[.pointer (some ⟨B, 0, none⟩), .int .i64 a, .int .i64 b] w fun e w' => e = .returned (.bool (f.same a b)) ∧ Below w.heap.size w w' := by
  unfold Fo.same
  obtain ⟨mx, my, mu, mv, h⟩ := h
  obtain ⟨Ft, hT, _⟩ := h.trees
  have hBl := hT.lt B hT.fb
  have gla : ∀ g : Grow w, (Instr.lookup 98 mx (.int .i64 a) false).run Tryz.prog g.w = .ok (.int .i64 (f.vi a)) g.w := fun g => ((h.below g.h).vlook hba).1
  have glb : ∀ g : Grow w, (Instr.lookup 98 mx (.int .i64 b) false).run Tryz.prog g.w = .ok (.int .i64 (f.vi b)) g.w := fun g => ((h.below g.h).vlook hbb).1
  have g8 : ∀ g : Grow w, g.w.cell? ⟨B, 8, none⟩ = some mx := fun g => Grow.cell hBl h.cells.1 g
  have HC : Hid (∀ g : Grow w, Calls Tryz.prog 66 #[.pointer (some ⟨B, 0, none⟩), .int .i64 (f.vi a), .int .i64 (f.vi b)] g.w fun e w' => e = .returned (.bool (f.t.same (f.vi a) (f.vi b))) ∧ Below g.w.heap.size g.w w') := fun g => fsame_any (hT.below g.h) _ _ hw.t.le hk
  generalize f.t.same (f.vi a) (f.vi b) = r at *
  generalize f.vi a = za at *
  generalize f.vi b = zb at *
  clear h hT hw
  go_enter Tryz.func36, Tryz.ntmps36
  go_wp2_with fail
  have hne := Grow.ne w
  refine wp_region_grow (by kernel_rfl) (by kernel_rfl) ?_
  repeat (go_big_quiet_step ((go_at_call 66; exact grow_call (HC.out _))))
  refine wpQuiet_nil ?_
  rintro w7 ⟨⟨_, hb7⟩, rfl⟩
  have HB7 := hid_mk hb7
  clear hb7 g8 gla glb hne HC
  go_wp2
  go_ret
  exact ⟨ret_of rfl, HB7.out⟩
theorem foleast_nil (v : Int) (w : World) : Calls Tryz.prog 39 #[.pointer none, .int .i64 v] w fun e w' => e = .returned (.int .i64 (-1)) ∧ w' = w := by
  go_enter Tryz.func39, Tryz.ntmps39
  go_wp2_with fail
  refine (fohas_nil v w).mono ?_
  rintro e w1 ⟨rfl, rfl⟩
  go_wp2
  go_ret
  exact ⟨rfl, rfl⟩
set_option maxHeartbeats 1600000 in
theorem foleast_any (h : Fd w F B G f) (v : Int) (hbv : B64 v) {k : Nat} (hw : f.Wf k) (hk : k ≤ 30000) : Calls Tryz.prog 39 #[.pointer (some ⟨B, 0, none⟩), .int .i64 v] w fun e w' => e = .returned (.int .i64 (f.least v)) ∧ Below w.heap.size w w' := by
  have HH := hid_mk (fohas_any h v hbv)
  unfold Fo.least Fo.total
  by_cases hz : f.vi v = 0
  · rw [if_neg (by simp [hz])]
    rw [hz] at HH
    clear h hw hz
    go_enter Tryz.func39, Tryz.ntmps39
    go_wp2_with fail
    refine HH.out.mono ?_
    rintro e w1 ⟨rfl, rfl⟩
    go_wp2
    go_ret
    exact ⟨rfl, Below.refl _ _⟩
  rw [if_pos hz]
  have hz1 : (f.vi v != 0) = true := by simpa using hz
  obtain ⟨mx, my, mu, mv, h⟩ := h
  obtain ⟨Ft, hT, _⟩ := h.trees
  have hBl := hT.lt B hT.fb
  have GLV : Hid (∀ g : Grow w, (Instr.lookup 98 mx (.int .i64 v) false).run Tryz.prog g.w = .ok (.int .i64 (f.vi v)) g.w) := fun g => ((h.below g.h).vlook hbv).1
  have g8 : ∀ g : Grow w, g.w.cell? ⟨B, 8, none⟩ = some mx := fun g => Grow.cell hBl h.cells.1 g
  have HC : Hid (∀ g : Grow w, Calls Tryz.prog 69 #[.pointer (some ⟨B, 0, none⟩), .int .i64 (f.vi v)] g.w fun e w' => e = .returned (.int .i64 (f.t.total (f.vi v)).l) ∧ Below g.w.heap.size g.w w') := fun g => fleast_any (hT.below g.h) _ hw.t.le hk
  generalize (f.t.total (f.vi v)).l = r at *
  generalize f.vi v = z at *
  clear h hT hw
  go_enter Tryz.func39, Tryz.ntmps39
  go_wp2_with fail
  refine HH.out.mono ?_
  rintro e w1 ⟨rfl, rfl⟩
  rw [hz1]
  go_wp2_with fail
  have hne := Grow.ne w1
  have glv := GLV.out
  refine wp_region_grow (by kernel_rfl) (by kernel_rfl) ?_
  repeat (go_big_quiet_step ((go_at_call 69; exact grow_call (HC.out _))))
  refine wpQuiet_nil ?_
  rintro w7 ⟨⟨_, hb7⟩, rfl⟩
  have HB7 := hid_mk hb7
  clear hb7 g8 glv GLV hne HC HH
  go_wp2
  go_ret
  exact ⟨rfl, HB7.out⟩
theorem fofindV_nil (v : Int) (b : Int) (w : World) : Calls Tryz.prog 57 #[.pointer none, .int .i64 v, .int .u8 b] w fun e w' => e = .returned (.tuple #[.int .i64 0, .bool false]) ∧ w' = w := by
  go_enter Tryz.func57, Tryz.ntmps57
  go_wp2
  go_ret2
  exact ⟨rfl, rfl⟩
set_option maxHeartbeats 1600000 in
theorem fofindV_any (h : Fd w F B G f) (v : Int) (b : Int) (hbv : B64 v) {k : Nat} (hw : f.Wf k) (hk : k ≤ 30000) : Calls Tryz.prog 57 #[.pointer (some ⟨B, 0, none⟩), .int .i64 v, .int .u8 b] w fun e w' => e = .returned (.tuple #[.int .i64 (f.vo (f.findV v b)), .bool (decide (f.findV v b ≠ 0))]) ∧ Below w.heap.size w w' := by
  obtain ⟨mx, my, mu, mv, h⟩ := h
  obtain ⟨Ft, hT, _⟩ := h.trees
  have hBl := hT.lt B hT.fb
  have glv : ∀ g : Grow w, (Instr.lookup 98 mx (.int .i64 v) false).run Tryz.prog g.w = .ok (.int .i64 (f.vi v)) g.w := fun g => ((h.below g.h).vlook hbv).1
  have g8 : ∀ g : Grow w, g.w.cell? ⟨B, 8, none⟩ = some mx := fun g => Grow.cell hBl h.cells.1 g
  have HC : Hid (∀ g : Grow w, Calls Tryz.prog 84 #[.pointer (some ⟨B, 0, none⟩), .int .i64 (f.vi v), .int .u8 b] g.w fun e w' => e = .returned (.tuple #[.int .i64 (f.findV v b), .bool (decide (f.findV v b ≠ 0))]) ∧ Below g.w.heap.size g.w w') := fun g => ffindV_any (hT.below g.h) _ b (vmk_bd b) (hw.findV hk v b) hw.t.le hk
  have GLU : Hid (∀ g : Grow w, (Instr.lookup 98 my (.int .i64 (f.findV v b)) false).run Tryz.prog g.w = .ok (.int .i64 (f.vo (f.findV v b))) g.w) := fun g => ((h.below g.h).vlook (by have := hw.findV hk v b; unfold B64; omega)).2
  have g9 : ∀ g : Grow w, g.w.cell? ⟨B, 9, none⟩ = some my := fun g => Grow.cell hBl h.cells.2.1 g
  generalize decide (f.findV v b ≠ 0) = rb at *
  generalize f.vo (f.findV v b) = r2 at *
  generalize f.findV v b = r at *
  generalize f.vi v = z at *
  clear h hT hw
  go_enter Tryz.func57, Tryz.ntmps57
  go_wp2_with fail
  have hne := Grow.ne w
  refine wp_region_grow (by kernel_rfl) (by kernel_rfl) ?_
  repeat (go_big_quiet_step ((go_at_call 84; exact grow_call (HC.out _))))
  refine wpQuiet_nil ?_
  rintro w7 ⟨⟨_, hb7⟩, rfl⟩
  have HB7 := hid_mk hb7
  have c9 := g9 ⟨w7, hb7⟩
  have hlu := GLU.out ⟨w7, hb7⟩
  simp only at c9 hlu
  clear hb7 g8 g9 glv GLU hne HC
  go_wp2
  go_ret2
  exact ⟨ret_of rfl, HB7.out⟩
theorem fofindE_nil (v : Int) (b : Int) (w : World) : Calls Tryz.prog 82 #[.pointer none, .int .i64 v, .int .u8 b] w fun e w' => e = .returned (.tuple #[.int .i64 0, .bool false]) ∧ w' = w := by
  go_enter Tryz.func82, Tryz.ntmps82
  go_wp2
  go_ret2
  exact ⟨rfl, rfl⟩
set_option maxHeartbeats 1600000 in
theorem fofindE_any (h : Fd w F B G f) (v : Int) (b : Int) (hbv : B64 v) {k : Nat} (hw : f.Wf k) (hk : k ≤ 30000) : Calls Tryz.prog 82 #[.pointer (some ⟨B, 0, none⟩), .int .i64 v, .int .u8 b] w fun e w' => e = .returned (.tuple #[.int .i64 (f.eo (f.findE v b)), .bool (decide (f.findE v b ≠ 0))]) ∧ Below w.heap.size w w' := by
  obtain ⟨mx, my, mu, mv, h⟩ := h
  obtain ⟨Ft, hT, _⟩ := h.trees
  have hBl := hT.lt B hT.fb
  have glv : ∀ g : Grow w, (Instr.lookup 98 mx (.int .i64 v) false).run Tryz.prog g.w = .ok (.int .i64 (f.vi v)) g.w := fun g => ((h.below g.h).vlook hbv).1
  have g8 : ∀ g : Grow w, g.w.cell? ⟨B, 8, none⟩ = some mx := fun g => Grow.cell hBl h.cells.1 g
  have HC : Hid (∀ g : Grow w, Calls Tryz.prog 109 #[.pointer (some ⟨B, 0, none⟩), .int .i64 (f.vi v), .int .u8 b] g.w fun e w' => e = .returned (.tuple #[.int .i64 (f.findE v b), .bool (decide (f.findE v b ≠ 0))]) ∧ Below g.w.heap.size g.w w') := fun g => ffindE_any (hT.below g.h) _ b (emk_bd b) (hw.findE hk v b) hw.t.le hk
  have GLU : Hid (∀ g : Grow w, (Instr.lookup 98 mv (.int .i64 (f.findE v b)) false).run Tryz.prog g.w = .ok (.int .i64 (f.eo (f.findE v b))) g.w) := fun g => ((h.below g.h).elook (by have := hw.findE hk v b; unfold B64; omega)).2
  have g9 : ∀ g : Grow w, g.w.cell? ⟨B, 11, none⟩ = some mv := fun g => Grow.cell hBl h.cells.2.2.2 g
  generalize decide (f.findE v b ≠ 0) = rb at *
  generalize f.eo (f.findE v b) = r2 at *
  generalize f.findE v b = r at *
  generalize f.vi v = z at *
  clear h hT hw
  go_enter Tryz.func82, Tryz.ntmps82
  go_wp2_with fail
  have hne := Grow.ne w
  refine wp_region_grow (by kernel_rfl) (by kernel_rfl) ?_
  repeat (go_big_quiet_step ((go_at_call 109; exact grow_call (HC.out _))))
  refine wpQuiet_nil ?_
  rintro w7 ⟨⟨_, hb7⟩, rfl⟩
  have HB7 := hid_mk hb7
  have c9 := g9 ⟨w7, hb7⟩
  have hlu := GLU.out ⟨w7, hb7⟩
  simp only at c9 hlu
  clear hb7 g8 g9 glv GLU hne HC
  go_wp2
  go_ret2
  exact ⟨ret_of rfl, HB7.out⟩
theorem fomark_nil (v : Int) (b : Int) (w : World) : Calls Tryz.prog 65 #[.pointer none, .int .i64 v, .int .u8 b] w fun e w' => e = .returned (.int .i64 2) ∧ w' = w := by
  go_enter Tryz.func65, Tryz.ntmps65
  go_wp2
  go_ret
  exact ⟨rfl, rfl⟩
set_option maxHeartbeats 1600000 in
theorem fomark_any (h : Fd w F B G f) (v b : Int) (hbv : B64 v) {k : Nat} (hw : f.Wf k) (hk : k ≤ 30000) : Calls Tryz.prog 65 #[.pointer (some ⟨B, 0, none⟩), .int .i64 v, .int .u8 b] w fun e w' => ∃ F', e = .returned (.int .i64 (f.markR v b)) ∧ Fd w' F' B G (f.mark v b) ∧ Step F F' w w' := by
  unfold Fo.markR Fo.mark
  obtain ⟨mx, my, mu, mv, h⟩ := h
  obtain ⟨Ft, hT, hup⟩ := h.trees
  have c8 := h.cells.1
  have hl := (h.drew.vlook hbv).1
  have NZ : Hid (∀ w' F' G' t', FdX mx my mu mv w' F' B G' (f.wt t') → w'.cell? ⟨B, 8, none⟩ = some mx ∧ (Instr.lookup 98 mx (.int .i64 v) false).run Tryz.prog w' = .ok (.int .i64 (f.vi v)) w') := fun w' F' G' t' h' => ⟨h'.cells.1, (h'.vlook hbv).1⟩
  have HC : Hid (Calls Tryz.prog 90 #[.pointer (some ⟨B, 0, none⟩), .int .i64 (f.vi v), .int .u8 b] w.drew fun e w' => ∃ F', e = .returned (.int .i64 (f.t.markR (f.vi v) b)) ∧ FdX mx my mu mv w' F' B G (f.wt (f.t.mark (f.vi v) b)) ∧ Step F F' w w') := (fmark_any (hT.kept (W' := w.drew) (fun _ _ => rfl) (Nat.le_refl _)) _ b hw.t.le hk).mono fun e w' ⟨Ft', h1, h2, h3⟩ => let ⟨F', a, b⟩ := hup _ _ _ _ h2 (Step.undrew h3); ⟨F', h1, a, b⟩
  generalize f.t.mark (f.vi v) b = t' at *
  generalize f.t.markR (f.vi v) b = r at *
  generalize f.vi v = z at *
  clear h hT hup hw
  go_enter Tryz.func65, Tryz.ntmps65
  go_wp2_with fail
  go_region_held3 (fun w' => w'.cell? ⟨B, 8, none⟩ = some mx ∧ (Instr.lookup 98 mx (.int .i64 v) false).run Tryz.prog w' = .ok (.int .i64 z) w')
    (first | go_keep | with_reducible exact NZ.out _ _ _ _ hT3)
    (first | (go_at_call 90; refine HC.out.mono ?_; rintro e w3 ⟨F3, rfl, hT3, hS3⟩) | fail)
  have H3 : Hid (Fd w3 F3 B G (f.wt t')) := ⟨_, _, _, _, hT3⟩
  have S3 := hid_mk hS3
  clear hT3 hS3 HC NZ c8 hl
  go_wp2
  go_ret
  exact ⟨_, rfl, H3.out, S3.out⟩
theorem foemark_nil (v : Int) (b : Int) (w : World) : Calls Tryz.prog 79 #[.pointer none, .int .i64 v, .int .u8 b] w fun e w' => e = .returned (.int .i64 2) ∧ w' = w := by
  go_enter Tryz.func79, Tryz.ntmps79
  go_wp2
  go_ret
  exact ⟨rfl, rfl⟩
set_option maxHeartbeats 1600000 in
theorem foemark_any (h : Fd w F B G f) (v b : Int) (hbv : B64 v) {k : Nat} (hw : f.Wf k) (hk : k ≤ 30000) : Calls Tryz.prog 79 #[.pointer (some ⟨B, 0, none⟩), .int .i64 v, .int .u8 b] w fun e w' => ∃ F', e = .returned (.int .i64 (f.emarkR v b)) ∧ Fd w' F' B G (f.emark v b) ∧ Step F F' w w' := by
  unfold Fo.emarkR Fo.emark
  obtain ⟨mx, my, mu, mv, h⟩ := h
  obtain ⟨Ft, hT, hup⟩ := h.trees
  have c8 := h.cells.2.2.1
  have hl := (h.drew.elook hbv).1
  have NZ : Hid (∀ w' F' G' t', FdX mx my mu mv w' F' B G' (f.wt t') → w'.cell? ⟨B, 10, none⟩ = some mu ∧ (Instr.lookup 98 mu (.int .i64 v) false).run Tryz.prog w' = .ok (.int .i64 (f.ei v)) w') := fun w' F' G' t' h' => ⟨h'.cells.2.2.1, (h'.elook hbv).1⟩
  have HC : Hid (Calls Tryz.prog 104 #[.pointer (some ⟨B, 0, none⟩), .int .i64 (f.ei v), .int .u8 b] w.drew fun e w' => ∃ F', e = .returned (.int .i64 (f.t.emarkR (f.ei v) b)) ∧ FdX mx my mu mv w' F' B G (f.wt (f.t.emark (f.ei v) b)) ∧ Step F F' w w') := (femark_any (hT.kept (W' := w.drew) (fun _ _ => rfl) (Nat.le_refl _)) _ b hw.t.le hk).mono fun e w' ⟨Ft', h1, h2, h3⟩ => let ⟨F', a, b⟩ := hup _ _ _ _ h2 (Step.undrew h3); ⟨F', h1, a, b⟩
  generalize f.t.emark (f.ei v) b = t' at *
  generalize f.t.emarkR (f.ei v) b = r at *
  generalize f.ei v = z at *
  clear h hT hup hw
  go_enter Tryz.func79, Tryz.ntmps79
  go_wp2_with fail
  go_region_held3 (fun w' => w'.cell? ⟨B, 10, none⟩ = some mu ∧ (Instr.lookup 98 mu (.int .i64 v) false).run Tryz.prog w' = .ok (.int .i64 z) w')
    (first | go_keep | with_reducible exact NZ.out _ _ _ _ hT3)
    (first | (go_at_call 104; refine HC.out.mono ?_; rintro e w3 ⟨F3, rfl, hT3, hS3⟩) | fail)
  have H3 : Hid (Fd w3 F3 B G (f.wt t')) := ⟨_, _, _, _, hT3⟩
  have S3 := hid_mk hS3
  clear hT3 hS3 HC NZ c8 hl
  go_wp2
  go_ret
  exact ⟨_, rfl, H3.out, S3.out⟩
theorem fodrop_nil (v : Int) (w : World) : Calls Tryz.prog 28 #[.pointer none, .int .i64 v] w fun e w' => e = .returned (.int .i64 2) ∧ w' = w := by
  go_enter Tryz.func28, Tryz.ntmps28
  go_wp2
  go_ret
  exact ⟨rfl, rfl⟩
set_option maxHeartbeats 1600000 in
theorem fodrop_any (h : Fd w F B G f) (v : Int) (hbv : B64 v) {k : Nat} (hw : f.Wf k) (hk : k ≤ 30000) : Calls Tryz.prog 28 #[.pointer (some ⟨B, 0, none⟩), .int .i64 v] w fun e w' => ∃ F', e = .returned (.int .i64 (f.dropR v)) ∧ Fd w' F' B G (f.drop v) ∧ Step F F' w w' := by
  have HT : Hid (∀ w' F', Fd w' F' B G (f.wt (f.t.drop (f.vi v))) → f.dropR v = 0 → Calls Tryz.prog 50 #[.pointer (some ⟨B, 8, none⟩), .int .i64 v] w' fun e w2 => ∃ F2, e = .returned (.tuple #[]) ∧ Fd w2 F2 B G (f.drop v) ∧ Step F' F2 w' w2) := fun w' F' h' h0 => by
    have hz : f.vi v ≠ 0 := fun e => by unfold Fo.dropR To.dropR at h0; rw [e] at h0; simp [isA] at h0
    have := fvtake_any h' hbv (hw.v64 v) hz
    rw [show f.drop v = (f.wt (f.t.drop (f.vi v))).wv (updI f.vi v 0) (updI f.vo (f.vi v) 0) f.nv by unfold Fo.drop; rw [if_pos h0]]
    exact this
  have HE : Hid (f.dropR v ≠ 0 → f.wt (f.t.drop (f.vi v)) = f.drop v) := fun h0 => by
    have e1 : f.t.drop (f.vi v) = f.t := by
      unfold Fo.dropR To.dropR at h0
      unfold To.drop
      split
      · rename_i h1; rw [if_pos h1] at h0
        split
        · rename_i h2; rw [if_pos h2] at h0; exact absurd rfl h0
        · rfl
      · rfl
    unfold Fo.drop; rw [if_neg h0, e1]; rfl
  obtain ⟨mx, my, mu, mv, h⟩ := h
  obtain ⟨Ft, hT, hup⟩ := h.trees
  have c8 := h.cells.1
  have hl := (h.drew.vlook hbv).1
  have NZ : Hid (∀ w' F' G' t', FdX mx my mu mv w' F' B G' (f.wt t') → w'.cell? ⟨B, 8, none⟩ = some mx ∧ (Instr.lookup 98 mx (.int .i64 v) false).run Tryz.prog w' = .ok (.int .i64 (f.vi v)) w') := fun w' F' G' t' h' => ⟨h'.cells.1, (h'.vlook hbv).1⟩
  have HC : Hid (Calls Tryz.prog 49 #[.pointer (some ⟨B, 0, none⟩), .int .i64 (f.vi v)] w.drew fun e w' => ∃ F', e = .returned (.int .i64 (f.dropR v)) ∧ FdX mx my mu mv w' F' B G (f.wt (f.t.drop (f.vi v))) ∧ Step F F' w w') := (fdrop_any (hT.kept (W' := w.drew) (fun _ _ => rfl) (Nat.le_refl _)) _ hw.t.le hk).mono fun e w' ⟨Ft', h1, h2, h3⟩ => let ⟨F', a, b⟩ := hup _ _ _ _ h2 (Step.undrew h3); ⟨F', h1, a, b⟩
  generalize f.t.drop (f.vi v) = t' at *
  generalize f.drop v = f' at *
  generalize f.dropR v = r at *
  generalize f.vi v = z at *
  clear h hT hup hw
  by_cases hr : r = 0
  · subst hr
    go_enter Tryz.func28, Tryz.ntmps28
    go_wp2_with fail
    go_region_held3 (fun w' => w'.cell? ⟨B, 8, none⟩ = some mx ∧ (Instr.lookup 98 mx (.int .i64 v) false).run Tryz.prog w' = .ok (.int .i64 z) w')
      (first | go_keep | with_reducible exact NZ.out _ _ _ _ hT3)
      (first | (go_at_call 49; refine HC.out.mono ?_; rintro e w3 ⟨F3, rfl, hT3, hS3⟩) | fail)
    have H3 : Hid (Fd w3 F3 B G (f.wt t')) := ⟨_, _, _, _, hT3⟩
    have S3 := hid_mk hS3
    clear hT3 hS3 HC NZ c8 hl
    go_wp2_with fail
    refine (HT.out _ _ H3.out (by first | rfl | trivial)).mono ?_
    rintro e w4 ⟨F4, rfl, hT4, hS4⟩
    have H4 := hid_mk hT4
    have S4 := hid_mk (S3.out.trans hS4)
    clear hT4 hS4 H3 S3
    go_wp2
    go_ret
    exact ⟨_, rfl, H4.out, S4.out⟩
  · have hr1 : (r == 0) = false := by simpa using hr
    go_enter Tryz.func28, Tryz.ntmps28
    go_wp2_with fail
    go_region_held3 (fun w' => w'.cell? ⟨B, 8, none⟩ = some mx ∧ (Instr.lookup 98 mx (.int .i64 v) false).run Tryz.prog w' = .ok (.int .i64 z) w')
      (first | go_keep | with_reducible exact NZ.out _ _ _ _ hT3)
      (first | (go_at_call 49; refine HC.out.mono ?_; rintro e w3 ⟨F3, rfl, hT3, hS3⟩) | fail)
    have H3 : Hid (Fd w3 F3 B G f') := by rw [← HE.out hr]; exact ⟨_, _, _, _, hT3⟩
    have S3 := hid_mk hS3
    clear hT3 hS3 HC NZ c8 hl HE
    go_wp2
    go_ret
    exact ⟨_, rfl, H3.out, S3.out⟩
theorem focut_nil (v : Int) (w : World) : Calls Tryz.prog 54 #[.pointer none, .int .i64 v] w fun e w' => e = .returned (.int .i64 2) ∧ w' = w := by
  go_enter Tryz.func54, Tryz.ntmps54
  go_wp2
  go_ret
  exact ⟨rfl, rfl⟩
set_option maxHeartbeats 1600000 in
theorem focut_any (h : Fd w F B G f) (v : Int) (hbv : B64 v) {k : Nat} (hw : f.Wf k) (hk : k ≤ 30000) : Calls Tryz.prog 54 #[.pointer (some ⟨B, 0, none⟩), .int .i64 v] w fun e w' => ∃ F', e = .returned (.int .i64 (f.cutR v)) ∧ Fd w' F' B G (f.cut v) ∧ Step F F' w w' := by
  have HT : Hid (∀ w' F', Fd w' F' B G (f.wt (f.t.cut (f.ei v))) → f.cutR v = 0 → Calls Tryz.prog 50 #[.pointer (some ⟨B, 10, none⟩), .int .i64 v] w' fun e w2 => ∃ F2, e = .returned (.tuple #[]) ∧ Fd w2 F2 B G (f.cut v) ∧ Step F' F2 w' w2) := fun w' F' h' h0 => by
    have hz : f.ei v ≠ 0 := fun e => by unfold Fo.cutR To.cutR at h0; rw [e] at h0; simp [isA] at h0
    have := fetake_any h' hbv (hw.e64 v) hz
    rw [show f.cut v = (f.wt (f.t.cut (f.ei v))).we (updI f.ei v 0) (updI f.eo (f.ei v) 0) f.ne by unfold Fo.cut; rw [if_pos h0]]
    exact this
  have HE : Hid (f.cutR v ≠ 0 → f.wt (f.t.cut (f.ei v)) = f.cut v) := fun h0 => by
    have e1 : f.t.cut (f.ei v) = f.t := by
      unfold Fo.cutR To.cutR at h0
      unfold To.cut
      split
      · rename_i h1; rw [if_pos h1] at h0; exact absurd rfl h0
      · rfl
    unfold Fo.cut; rw [if_neg h0, e1]; rfl
  obtain ⟨mx, my, mu, mv, h⟩ := h
  obtain ⟨Ft, hT, hup⟩ := h.trees
  have c8 := h.cells.2.2.1
  have hl := (h.drew.elook hbv).1
  have NZ : Hid (∀ w' F' G' t', FdX mx my mu mv w' F' B G' (f.wt t') → w'.cell? ⟨B, 10, none⟩ = some mu ∧ (Instr.lookup 98 mu (.int .i64 v) false).run Tryz.prog w' = .ok (.int .i64 (f.ei v)) w') := fun w' F' G' t' h' => ⟨h'.cells.2.2.1, (h'.elook hbv).1⟩
  have HC : Hid (Calls Tryz.prog 81 #[.pointer (some ⟨B, 0, none⟩), .int .i64 (f.ei v)] w.drew fun e w' => ∃ F', e = .returned (.int .i64 (f.cutR v)) ∧ FdX mx my mu mv w' F' B G (f.wt (f.t.cut (f.ei v))) ∧ Step F F' w w') := (fcut_any (hT.kept (W' := w.drew) (fun _ _ => rfl) (Nat.le_refl _)) _ hw.t.le hk).mono fun e w' ⟨Ft', h1, h2, h3⟩ => let ⟨F', a, b⟩ := hup _ _ _ _ h2 (Step.undrew h3); ⟨F', h1, a, b⟩
  generalize f.t.cut (f.ei v) = t' at *
  generalize f.cut v = f' at *
  generalize f.cutR v = r at *
  generalize f.ei v = z at *
  clear h hT hup hw
  by_cases hr : r = 0
  · subst hr
    go_enter Tryz.func54, Tryz.ntmps54
    go_wp2_with fail
    go_region_held3 (fun w' => w'.cell? ⟨B, 10, none⟩ = some mu ∧ (Instr.lookup 98 mu (.int .i64 v) false).run Tryz.prog w' = .ok (.int .i64 z) w')
      (first | go_keep | with_reducible exact NZ.out _ _ _ _ hT3)
      (first | (go_at_call 81; refine HC.out.mono ?_; rintro e w3 ⟨F3, rfl, hT3, hS3⟩) | fail)
    have H3 : Hid (Fd w3 F3 B G (f.wt t')) := ⟨_, _, _, _, hT3⟩
    have S3 := hid_mk hS3
    clear hT3 hS3 HC NZ c8 hl
    go_wp2_with fail
    refine (HT.out _ _ H3.out (by first | rfl | trivial)).mono ?_
    rintro e w4 ⟨F4, rfl, hT4, hS4⟩
    have H4 := hid_mk hT4
    have S4 := hid_mk (S3.out.trans hS4)
    clear hT4 hS4 H3 S3
    go_wp2
    go_ret
    exact ⟨_, rfl, H4.out, S4.out⟩
  · have hr1 : (r == 0) = false := by simpa using hr
    go_enter Tryz.func54, Tryz.ntmps54
    go_wp2_with fail
    go_region_held3 (fun w' => w'.cell? ⟨B, 10, none⟩ = some mu ∧ (Instr.lookup 98 mu (.int .i64 v) false).run Tryz.prog w' = .ok (.int .i64 z) w')
      (first | go_keep | with_reducible exact NZ.out _ _ _ _ hT3)
      (first | (go_at_call 81; refine HC.out.mono ?_; rintro e w3 ⟨F3, rfl, hT3, hS3⟩) | fail)
    have H3 : Hid (Fd w3 F3 B G f') := by rw [← HE.out hr]; exact ⟨_, _, _, _, hT3⟩
    have S3 := hid_mk hS3
    clear hT3 hS3 HC NZ c8 hl HE
    go_wp2
    go_ret
    exact ⟨_, rfl, H3.out, S3.out⟩
theorem foadd_nil (v : Int) (a : Int) (b : Int) (w : World) : Calls Tryz.prog 27 #[.pointer none, .int .i64 v, .int .i64 a, .int .i64 b] w fun e w' => e = .returned (.int .i64 2) ∧ w' = w := by
  go_enter Tryz.func27, Tryz.ntmps27
  go_wp2
  go_ret
  exact ⟨rfl, rfl⟩
set_option maxHeartbeats 1600000 in
theorem foadd_any (h : Fd w F B G f) (v a b : Int) (hbv : B64 v) {k : Nat} (hw : f.Wf k) (hk : k ≤ 30000) : Calls Tryz.prog 27 #[.pointer (some ⟨B, 0, none⟩), .int .i64 v, .int .i64 a, .int .i64 b] w fun e w' => ∃ F', e = .returned (.int .i64 (f.addR v a b)) ∧ Fd w' F' B G (f.add v a b) ∧ Step F F' w w' := by
  have HH := hid_mk (fohas_any h v hbv)
  have HR := hid_mk (foright_any a b)
  have H0 := hid_mk h
  by_cases hz : f.vi v = 0
  · rw [hz] at HH
    cases hok : okSL a b with
    | false =>
      have e1 : f.addR v a b = 1 := by unfold Fo.addR; rw [if_neg (by simp [hz]), if_neg (by simp [hok])]
      have e2 : f.add v a b = f := by unfold Fo.add; rw [if_neg (by rw [e1]; omega)]
      rw [e1, e2]
      rw [hok] at HR
      clear h hw hz e1 e2 hok
      go_enter Tryz.func27, Tryz.ntmps27
      go_wp2_with fail
      refine HH.out.mono ?_
      rintro e w1 ⟨rfl, rfl⟩
      go_wp2_with fail
      refine (HR.out _).mono ?_
      rintro e w2 ⟨rfl, rfl⟩
      go_wp2
      go_ret
      exact ⟨_, rfl, H0.out, Step.refl _ _⟩
    | true =>
      have e1 : f.addR v a b = 0 := by unfold Fo.addR; rw [if_neg (by simp [hz]), if_pos hok]
      have e2 : f.add v a b = (f.wt (f.t.addV a b)).wv (updI f.vi v f.newV) (updI f.vo f.newV v) (f.nv + 1) := by unfold Fo.add; rw [if_pos e1]
      rw [e1, e2]
      rw [hok] at HR
      have hnv := hw.newV hk
      have HP : Hid (∀ w' F', Fd w' F' B G (f.wt (f.t.addV a b)) → Calls Tryz.prog 47 #[.pointer (some ⟨B, 8, none⟩), .int .i64 v, .int .i64 f.newV] w' fun e w2 => ∃ F2, e = .returned (.tuple #[]) ∧ Fd w2 F2 B G ((f.wt (f.t.addV a b)).wv (updI f.vi v f.newV) (updI f.vo f.newV v) (f.nv + 1)) ∧ Step F' F2 w' w2) := fun w' F' h' => fvput_any h' hbv (by unfold B64; omega) (Nat.le_trans hw.nv hk)
      obtain ⟨mx, my, mu, mv, h⟩ := h
      obtain ⟨Ft, hT, hup⟩ := h.trees
      have HC : Hid (Calls Tryz.prog 48 #[.pointer (some ⟨B, 0, none⟩), .int .i64 a, .int .i64 b] w.drew fun e w' => ∃ F', e = .returned (.int .i64 f.newV) ∧ Fd w' F' B G (f.wt (f.t.addV a b)) ∧ Step F F' w w') := (fvertex_any (hT.kept (W' := w.drew) (fun _ _ => rfl) (Nat.le_refl _)) a b hw.t.le hk).mono fun e w' ⟨Ft', h1, h2, h3⟩ => let ⟨F', a, b⟩ := hup _ _ _ _ h2 (Step.undrew h3); ⟨F', h1, ⟨_, _, _, _, a⟩, b⟩
      generalize (f.wt (f.t.addV a b)).wv (updI f.vi v f.newV) (updI f.vo f.newV v) (f.nv + 1) = f2 at *
      generalize f.wt (f.t.addV a b) = f1 at *
      generalize f.newV = r at *
      clear h hT hup hw hz e1 e2 hok H0 hnv
      go_enter Tryz.func27, Tryz.ntmps27
      go_wp2_with fail
      refine HH.out.mono ?_
      rintro e w1 ⟨rfl, rfl⟩
      go_wp2_with fail
      refine (HR.out _).mono ?_
      rintro e w2 ⟨rfl, rfl⟩
      go_wp2_with fail
      go_region_held3 (fun w' => True) (first | go_keep | trivial)
        (first
          | (go_at_call 47; refine (HP.out _ _ H3.out).mono ?_; rintro e w4 ⟨F4, rfl, hT4, hS4⟩)
          | (go_at_call 48; refine HC.out.mono ?_; rintro e w3 ⟨F3, rfl, hT3, hS3⟩; have H3 := hid_mk hT3)
          | fail)
      have H4 := hid_mk hT4
      have S4 := hid_mk (hS3.trans hS4)
      clear hT3 hS3 hT4 hS4 HC HP H3 HH HR
      go_wp2
      go_ret
      exact ⟨_, rfl, H4.out, S4.out⟩
  · have hz1 : (f.vi v != 0) = true := by simpa using hz
    have e1 : f.addR v a b = 5 := by unfold Fo.addR; rw [if_pos hz]
    have e2 : f.add v a b = f := by unfold Fo.add; rw [if_neg (by rw [e1]; omega)]
    rw [e1, e2]
    rw [hz1] at HH
    clear h hw hz hz1 e1 e2
    go_enter Tryz.func27, Tryz.ntmps27
    go_wp2_with fail
    refine HH.out.mono ?_
    rintro e w1 ⟨rfl, rfl⟩
    go_wp2
    go_ret
    exact ⟨_, rfl, H0.out, Step.refl _ _⟩
end
end Go.Proofs.YtcbgeahcnjamdabGreat
