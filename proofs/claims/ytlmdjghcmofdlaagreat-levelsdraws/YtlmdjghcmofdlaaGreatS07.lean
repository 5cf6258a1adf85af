/- Lemmas. -/
import Derived.Test.YtlmdjghcmofdlaaGreatProg
import Derived.Test.YtlmdjghcmofdlaaGreatS02
import Derived.Deep.AppendLies
import Derived.Test.YtlmdjghcmofdlaaGreatS03
set_option maxRecDepth 100000
set_option maxHeartbeats 64000000
namespace Go.Proofs.YtlmdjghcmofdlaaGreat.AN
open Go.RowKit
set_option linter.unusedVariables false
abbrev Ar (X : Hx) (d : Option Addr) (W : World) (F : Nat → Prop) (B G : Nat) (L : List Slt) (fr : List Int) : Prop := ArnX (fun v u => v :: u :: .pointer d :: X.ex) 0 1 X.T 169 13 W F B G L fr
variable {X : Hx} {d : Option Addr}
theorem infoS : (Tryz.prog.info? 169).map (fun i => (i.zero, i.size, i.bytes)) = some (some (.agg #[.int .i64 0, .int .i64 0, .int .i64 0, .int .u8 0, .int .i64 0, .int .i64 0, .int .i64 0, .int .u8 0, .int .i64 0, .int .u32 0, .int .i32 0, .int .i32 0, .int .i32 0, .bool false]), 14, 96) := by kernel_rfl
theorem infoN : (Tryz.prog.info? 21).map (fun i => (i.zero, i.size, i.bytes)) = some (some (.int .i32 0), 1, 4) := by kernel_rfl
theorem has_any {w : World} {F : Nat → Prop} {B G : Nat} {L : List Slt} {fr : List Int} (h : Ar X d w F B G L fr) (i : Int) (hi : -2147483648 ≤ i ∧ i ≤ 2147483647) (hL : L.length ≤ 2147483647) :
    Calls Tryz.prog 129 #[.pointer (some ⟨B, 0, none⟩), .int .i32 i] w fun e w' => e = .returned (.bool (isT L i)) ∧ w' = w := by
  by_cases hlo : 1 ≤ i
  · by_cases hhi : i ≤ L.length
    · obtain ⟨k, rfl⟩ : ∃ k : Nat, i = (k : Int) + 1 := ⟨(i - 1).toNat, by omega⟩
      obtain ⟨s, hs⟩ : ∃ s, L[k]? = some s := ⟨_, List.getElem?_eq_getElem (by omega)⟩
      obtain ⟨cap, hc⟩ := h.row (by omega)
      have h1 := (h.slot hs).2.2.1 13 (.bool s.2) (by have := h.wsl s (List.mem_of_getElem? hs); unfold slc; rw [List.getElem?_append_right (by omega), this]; rfl)
      have e1 : isT L ((k : Int) + 1) = s.2 := isT_at hs
      rw [e1]
      clear h hs e1
      generalize s.2 = b at *
      generalize L.length = n at *
      go_enter Tryz.func129, Tryz.ntmps129
      go_wp2
      go_ret
      exact ⟨rfl, rfl⟩
    · rw [isT_high (by omega)]
      obtain ⟨ao, cap, hc⟩ := h.head
      clear h
      generalize L.length = n at *
      go_enter Tryz.func129, Tryz.ntmps129
      go_wp2
      go_ret
      exact ⟨rfl, rfl⟩
  · rw [isT_low hlo]
    clear h
    go_enter Tryz.func129, Tryz.ntmps129
    go_wp2
    go_ret
    exact ⟨rfl, rfl⟩
theorem vacant_new {w : World} {F : Nat → Prop} {B G : Nat} {L : List Slt} (h : Ar X d w F B G L []) (hL : L.length < 2147483647) :
    Calls Tryz.prog 118 #[.pointer (some ⟨B, 0, none⟩)] w fun e w' => ∃ F' G', e = .returned (.int .i32 ((L.length : Int) + 1)) ∧ Ar X d w' F' B G' (L ++ [([.int .i64 0, .int .i64 0, .int .i64 0, .int .u8 0, .int .i64 0, .int .i64 0, .int .i64 0, .int .u8 0, .int .i64 0, .int .u32 0, .int .i32 0, .int .i32 0, .int .i32 0], false)]) [] ∧ Step F F' w w' := by
  obtain ⟨v, u, h1, h2, h3, h4, h5, h6⟩ := h.ex
  obtain ⟨ao, cu, rfl⟩ := h3.form
  obtain ⟨i0, hi, hz0, hz1, hz2⟩ := info_parts infoS
  have c0 := (h.ok.cells h1).1
  have c1 := (h.ok.cells h1).2
  obtain ⟨n, hn⟩ : ∃ n, n = L.length := ⟨_, rfl⟩
  have H2 : Hid (RowW (w.alloc (.cells #[.int .i64 0, .int .i64 0, .int .i64 0, .int .u8 0, .int .i64 0, .int .i64 0, .int .i64 0, .int .u8 0, .int .i64 0, .int .u32 0, .int .i32 0, .int .i32 0, .int .i32 0, .bool false] 169)) 169 14 v n (slcs L)) := by rw [hn]; exact h2.kept fun k hk => heap_alloc_old w _ k (h2.lt hk)
  have H : Hid (Ar X d w F B G L []) := h
  have H1 : Hid (Blk w B X.T ((fun v u => v :: u :: .pointer d :: X.ex) v (.slice ao ([] : List Int).length cu)).toArray) := h1
  have H3 : Hid (RowW w 21 1 (.slice ao ([] : List Int).length cu) ([] : List Int).length (i32s [])) := h3
  have H5 : Hid (∀ k, v.ownBlock = some k → k = G ∧ F k ∧ k ≠ B) := h5
  have HN : Hid (n = L.length) := hn
  rw [← hn] at hL ⊢
  clear h h1 h2 h3 h5 hn
  go_enter Tryz.func118, Tryz.ntmps118
  go_wp2_with (at_builtin; refine wpList_append_row _ rfl _ _ 80 rfl 169 i0 (.agg #[.int .i64 0, .int .i64 0, .int .i64 0, .int .u8 0, .int .i64 0, .int .i64 0, .int .i64 0, .int .u8 0, .int .i64 0, .int .u32 0, .int .i32 0, .int .i32 0, .int .i32 0, .bool false]) 14 96 Tryz.underlying80 hi hz0 hz1 hz2 rfl _ _ _ rfl H2.out ⟨w.heap.size, 0, none⟩ 1 1 [.int .i64 0, .int .i64 0, .int .i64 0, .int .u8 0, .int .i64 0, .int .i64 0, .int .i64 0, .int .u8 0, .int .i64 0, .int .u32 0, .int .i32 0, .int .i32 0, .int .i32 0, .bool false] rfl rfl (World.news_of_block (Blk.new w _ _)) (by simp [Value.oneCell']) (by omega) (by unfold maxLen; omega) (by omega) ?_)
  intro g cap w2 hown hgrow hat hlt
  obtain ⟨hb2, hA, hS⟩ := H.out.regrow (s := ([.int .i64 0, .int .i64 0, .int .i64 0, .int .u8 0, .int .i64 0, .int .i64 0, .int .i64 0, .int .u8 0, .int .i64 0, .int .u32 0, .int .i32 0, .int .i32 0, .int .i32 0], false)) H1.out H3.out h4 H5.out h6 (by rw [← HN.out]; exact hown) hgrow hat rfl
  rw [← HN.out] at hA hS
  have d0 := (H.out.ok.cells hb2).1
  have f0 := hb2.frozen 0
  have HA : Hid (Ar X d (w2.setCell ⟨B, 0, none⟩ (.slice (some ⟨g, 0, none⟩) (n + 1) cap)) (fun k => F k ∨ k = g) B g (L ++ [([.int .i64 0, .int .i64 0, .int .i64 0, .int .u8 0, .int .i64 0, .int .i64 0, .int .i64 0, .int .u8 0, .int .i64 0, .int .u32 0, .int .i32 0, .int .i32 0, .int .i32 0], false)]) []) := hA
  have HS : Hid (Step F (fun k => F k ∨ k = g) w (w2.setCell ⟨B, 0, none⟩ (.slice (some ⟨g, 0, none⟩) (n + 1) cap))) := hS
  clear hA hS hown hgrow hat h4 h6 hb2
  go_wp2
  go_ret
  exact ⟨_, _, ret_of (by go_num), HA.out, HS.out⟩
theorem vacant_old {w : World} {F : Nat → Prop} {B G : Nat} {L : List Slt} {fr : List Int} {f : Int} (h : Ar X d w F B G L (fr ++ [f])) (hl : fr.length ≤ 2147483647) :
    Calls Tryz.prog 118 #[.pointer (some ⟨B, 0, none⟩)] w fun e w' => e = .returned (.int .i32 f) ∧ Ar X d w' F B G L fr ∧ Step F F w w' := by
  obtain ⟨H, cap, c1, c2, h1, h2, h3, h4⟩ := h.unfree
  have f0 := h.froz 1
  obtain ⟨n, hn⟩ : ∃ n, n = fr.length := ⟨_, rfl⟩
  rw [← hn] at c1 c2 h1 h3 h4 hl
  have HA : Hid (Ar X d (w.setCell ⟨B, 1, none⟩ (.slice (some ⟨H, 0, none⟩) n cap)) F B G L fr) := h3
  have HS : Hid (Step F F w (w.setCell ⟨B, 1, none⟩ (.slice (some ⟨H, 0, none⟩) n cap))) := h4
  clear h h3 h4 hn
  go_enter Tryz.func118, Tryz.ntmps118
  go_wp2
  go_ret
  exact ⟨rfl, HA.out, HS.out⟩
theorem take_of (x : Nd) {w : World} {F : Nat → Prop} {B k : Nat} {L1 : List Slt} {fr1 : List Int} (hF : ∀ k, F k → k < w.heap.size) (hk : k < L1.length) (hL : L1.length ≤ 2147483647)
    (hvac : ∀ w0, Below w.heap.size w w0 → Calls Tryz.prog 118 #[.pointer (some ⟨B, 0, none⟩)] w0 fun e w' => ∃ F' G', e = .returned (.int .i32 ((k : Int) + 1)) ∧ Ar X d w' F' B G' L1 fr1 ∧ Step F F' w0 w') :
    Calls Tryz.prog 95 #[.pointer (some ⟨B, 0, none⟩), .agg #[.int .i64 x.own.c, .int .i64 x.own.s, .int .i64 x.own.l, .int .u8 x.own.m, .int .i64 x.sum.c, .int .i64 x.sum.s, .int .i64 x.sum.l, .int .u8 x.sum.m, .int .i64 x.size, .int .u32 x.pr, .int .i32 x.l, .int .i32 x.r, .int .i32 x.u]] w fun e w' => ∃ F' G', e = .returned (.int .i32 ((k : Int) + 1)) ∧ Ar X d w' F' B G' (L1.set k ([.int .i64 x.own.c, .int .i64 x.own.s, .int .i64 x.own.l, .int .u8 x.own.m, .int .i64 x.sum.c, .int .i64 x.sum.s, .int .i64 x.sum.l, .int .u8 x.sum.m, .int .i64 x.size, .int .u32 x.pr, .int .i32 x.l, .int .i32 x.r, .int .i32 x.u], true)) fr1 ∧ Step F F' w w' := by
  go_enter Tryz.func95, Tryz.ntmps95
  go_wp2_with fail
  have hb0 : Below w.heap.size w (w.alloc (.cells [.int .i64 x.own.c, .int .i64 x.own.s, .int .i64 x.own.l, .int .u8 x.own.m, .int .i64 x.sum.c, .int .i64 x.sum.s, .int .i64 x.sum.l, .int .u8 x.sum.m, .int .i64 x.size, .int .u32 x.pr, .int .i32 x.l, .int .i32 x.r, .int .i32 x.u].toArray 148)) := (Below.refl _ _).alloc (Nat.le_refl _) _
  refine (hvac _ hb0).mono ?_
  rintro e w1 ⟨F1, G1, rfl, hA, hS⟩
  have hX : Blk w1 w.heap.size 148 [.int .i64 x.own.c, .int .i64 x.own.s, .int .i64 x.own.l, .int .u8 x.own.m, .int .i64 x.sum.c, .int .i64 x.sum.s, .int .i64 x.sum.l, .int .u8 x.sum.m, .int .i64 x.size, .int .u32 x.pr, .int .i32 x.l, .int .i32 x.r, .int .i32 x.u].toArray := (hS.only.block w.heap.size (by simp) (fun hf => by have := hF _ hf; omega)).trans (Blk.new w _ _)
  have S0 : Hid (Step F F1 w w1) := (Step.of_below hb0).trans hS
  obtain ⟨cap, c0⟩ := hA.row (by omega)
  obtain ⟨u0, q0⟩ : ∃ u, w1.cell? ⟨G1, k * 14, none⟩ = some u := by simpa using hA.slotAt (j := 0) hk (by omega)
  have z0 : w1.frozen? ⟨G1, k * 14, none⟩ = false := hA.slotFz (by omega) _
  obtain ⟨u1, q1⟩ : ∃ u, w1.cell? ⟨G1, k * 14 + 1, none⟩ = some u := by simpa using hA.slotAt (j := 1) hk (by omega)
  have z1 : w1.frozen? ⟨G1, k * 14 + 1, none⟩ = false := hA.slotFz (by omega) _
  obtain ⟨u2, q2⟩ : ∃ u, w1.cell? ⟨G1, k * 14 + 2, none⟩ = some u := by simpa using hA.slotAt (j := 2) hk (by omega)
  have z2 : w1.frozen? ⟨G1, k * 14 + 2, none⟩ = false := hA.slotFz (by omega) _
  obtain ⟨u3, q3⟩ : ∃ u, w1.cell? ⟨G1, k * 14 + 3, none⟩ = some u := by simpa using hA.slotAt (j := 3) hk (by omega)
  have z3 : w1.frozen? ⟨G1, k * 14 + 3, none⟩ = false := hA.slotFz (by omega) _
  obtain ⟨u4, q4⟩ : ∃ u, w1.cell? ⟨G1, k * 14 + 4, none⟩ = some u := by simpa using hA.slotAt (j := 4) hk (by omega)
  have z4 : w1.frozen? ⟨G1, k * 14 + 4, none⟩ = false := hA.slotFz (by omega) _
  obtain ⟨u5, q5⟩ : ∃ u, w1.cell? ⟨G1, k * 14 + 5, none⟩ = some u := by simpa using hA.slotAt (j := 5) hk (by omega)
  have z5 : w1.frozen? ⟨G1, k * 14 + 5, none⟩ = false := hA.slotFz (by omega) _
  obtain ⟨u6, q6⟩ : ∃ u, w1.cell? ⟨G1, k * 14 + 6, none⟩ = some u := by simpa using hA.slotAt (j := 6) hk (by omega)
  have z6 : w1.frozen? ⟨G1, k * 14 + 6, none⟩ = false := hA.slotFz (by omega) _
  obtain ⟨u7, q7⟩ : ∃ u, w1.cell? ⟨G1, k * 14 + 7, none⟩ = some u := by simpa using hA.slotAt (j := 7) hk (by omega)
  have z7 : w1.frozen? ⟨G1, k * 14 + 7, none⟩ = false := hA.slotFz (by omega) _
  obtain ⟨u8, q8⟩ : ∃ u, w1.cell? ⟨G1, k * 14 + 8, none⟩ = some u := by simpa using hA.slotAt (j := 8) hk (by omega)
  have z8 : w1.frozen? ⟨G1, k * 14 + 8, none⟩ = false := hA.slotFz (by omega) _
  obtain ⟨u9, q9⟩ : ∃ u, w1.cell? ⟨G1, k * 14 + 9, none⟩ = some u := by simpa using hA.slotAt (j := 9) hk (by omega)
  have z9 : w1.frozen? ⟨G1, k * 14 + 9, none⟩ = false := hA.slotFz (by omega) _
  obtain ⟨u10, q10⟩ : ∃ u, w1.cell? ⟨G1, k * 14 + 10, none⟩ = some u := by simpa using hA.slotAt (j := 10) hk (by omega)
  have z10 : w1.frozen? ⟨G1, k * 14 + 10, none⟩ = false := hA.slotFz (by omega) _
  obtain ⟨u11, q11⟩ : ∃ u, w1.cell? ⟨G1, k * 14 + 11, none⟩ = some u := by simpa using hA.slotAt (j := 11) hk (by omega)
  have z11 : w1.frozen? ⟨G1, k * 14 + 11, none⟩ = false := hA.slotFz (by omega) _
  obtain ⟨u12, q12⟩ : ∃ u, w1.cell? ⟨G1, k * 14 + 12, none⟩ = some u := by simpa using hA.slotAt (j := 12) hk (by omega)
  have z12 : w1.frozen? ⟨G1, k * 14 + 12, none⟩ = false := hA.slotFz (by omega) _
  obtain ⟨u13, q13⟩ : ∃ u, w1.cell? ⟨G1, k * 14 + 13, none⟩ = some u := by simpa using hA.slotAt (j := 13) hk (by omega)
  have z13 : w1.frozen? ⟨G1, k * 14 + 13, none⟩ = false := hA.slotFz (by omega) _
  have HF : Hid (F1 G1) := (hA.slotF (by omega)).1
  have HA : Hid (Ar X d w1 F1 B G1 L1 fr1) := hA
  have HK : Hid (L1[k]? = some (L1[k])) := List.getElem?_eq_getElem hk
  have Hk : Hid (k < L1.length) := hk
  obtain ⟨Y, hY⟩ : ∃ Y, Y = w.heap.size := ⟨_, rfl⟩
  rw [← hY] at hX
  have hYG : Hid (Y ≠ G1) := fun e => by
    rcases hS.ext G1 HF.out with h' | h'
    · have := hF _ h'; omega
    · simp at h'; omega
  have y0 := hX.at (j := 0) rfl
  have y1 := hX.at (j := 1) rfl
  have y2 := hX.at (j := 2) rfl
  have y3 := hX.at (j := 3) rfl
  have y4 := hX.at (j := 4) rfl
  have y5 := hX.at (j := 5) rfl
  have y6 := hX.at (j := 6) rfl
  have y7 := hX.at (j := 7) rfl
  have y8 := hX.at (j := 8) rfl
  have y9 := hX.at (j := 9) rfl
  have y10 := hX.at (j := 10) rfl
  have y11 := hX.at (j := 11) rfl
  have y12 := hX.at (j := 12) rfl
  have g0 : ∀ g : Grow w1, g.w.cell? ⟨B, 0, none⟩ = some (.slice (some ⟨G1, 0, none⟩) L1.length cap) := fun g => Grow.cell hA.blt c0 g
  have gy0 : ∀ g : Grow w1, g.w.cell? ⟨Y, 0, none⟩ = some (.int .i64 x.own.c) := fun g => Grow.cell (cell_lt y0) y0 g
  have gy1 : ∀ g : Grow w1, g.w.cell? ⟨Y, 1, none⟩ = some (.int .i64 x.own.s) := fun g => Grow.cell (cell_lt y1) y1 g
  have gy2 : ∀ g : Grow w1, g.w.cell? ⟨Y, 2, none⟩ = some (.int .i64 x.own.l) := fun g => Grow.cell (cell_lt y2) y2 g
  have gy3 : ∀ g : Grow w1, g.w.cell? ⟨Y, 3, none⟩ = some (.int .u8 x.own.m) := fun g => Grow.cell (cell_lt y3) y3 g
  have gy4 : ∀ g : Grow w1, g.w.cell? ⟨Y, 4, none⟩ = some (.int .i64 x.sum.c) := fun g => Grow.cell (cell_lt y4) y4 g
  have gy5 : ∀ g : Grow w1, g.w.cell? ⟨Y, 5, none⟩ = some (.int .i64 x.sum.s) := fun g => Grow.cell (cell_lt y5) y5 g
  have gy6 : ∀ g : Grow w1, g.w.cell? ⟨Y, 6, none⟩ = some (.int .i64 x.sum.l) := fun g => Grow.cell (cell_lt y6) y6 g
  have gy7 : ∀ g : Grow w1, g.w.cell? ⟨Y, 7, none⟩ = some (.int .u8 x.sum.m) := fun g => Grow.cell (cell_lt y7) y7 g
  have gy8 : ∀ g : Grow w1, g.w.cell? ⟨Y, 8, none⟩ = some (.int .i64 x.size) := fun g => Grow.cell (cell_lt y8) y8 g
  have gy9 : ∀ g : Grow w1, g.w.cell? ⟨Y, 9, none⟩ = some (.int .u32 x.pr) := fun g => Grow.cell (cell_lt y9) y9 g
  have gy10 : ∀ g : Grow w1, g.w.cell? ⟨Y, 10, none⟩ = some (.int .i32 x.l) := fun g => Grow.cell (cell_lt y10) y10 g
  have gy11 : ∀ g : Grow w1, g.w.cell? ⟨Y, 11, none⟩ = some (.int .i32 x.r) := fun g => Grow.cell (cell_lt y11) y11 g
  have gy12 : ∀ g : Grow w1, g.w.cell? ⟨Y, 12, none⟩ = some (.int .i32 x.u) := fun g => Grow.cell (cell_lt y12) y12 g
  have hne := Grow.ne w1
  clear hvac hb0 hS hA
  have HL : Hid (∃ n, n = L1.length) := ⟨_, rfl⟩
  generalize hn : L1.length = n at g0 c0 hL
  rw [hn] at hk
  clear hn
  rw [← hY]
  clear hY
  go_wp2
  refine wp_region_tail 9 (by kernel_rfl) (by kernel_rfl) (by kernel_rfl) ?_
  simp only [stillAt, stillOp, List.set_cons_succ, List.set_cons_zero, List.getElem?_cons_succ, List.getElem?_cons_zero, Option.getD_some, List.drop_succ_cons, List.drop_zero]
  repeat (go_big_quiet_step (fail))
  refine wpQuiet_nil ?_
  rintro w3 ⟨⟨_, hb3⟩, rfl⟩
  have hA3 := HA.out.below hb3
  have S3 := S0.out.trans (Step.of_below (F := F1) hb3)
  have HE : Hid (Ar X d (putAll w3 G1 (k * 14) (slc ([.int .i64 x.own.c, .int .i64 x.own.s, .int .i64 x.own.l, .int .u8 x.own.m, .int .i64 x.sum.c, .int .i64 x.sum.s, .int .i64 x.sum.l, .int .u8 x.sum.m, .int .i64 x.size, .int .u32 x.pr, .int .i32 x.l, .int .i32 x.r, .int .i32 x.u], true))) F1 B G1 (L1.set k ([.int .i64 x.own.c, .int .i64 x.own.s, .int .i64 x.own.l, .int .u8 x.own.m, .int .i64 x.sum.c, .int .i64 x.sum.s, .int .i64 x.sum.l, .int .u8 x.sum.m, .int .i64 x.size, .int .u32 x.pr, .int .i32 x.l, .int .i32 x.r, .int .i32 x.u], true)) fr1) := hA3.putAll (s' := ([.int .i64 x.own.c, .int .i64 x.own.s, .int .i64 x.own.l, .int .u8 x.own.m, .int .i64 x.sum.c, .int .i64 x.sum.s, .int .i64 x.sum.l, .int .u8 x.sum.m, .int .i64 x.size, .int .u32 x.pr, .int .i32 x.l, .int .i32 x.r, .int .i32 x.u], true)) HK.out rfl
  have HE2 : Hid (Step F F1 w (putAll w3 G1 (k * 14) (slc ([.int .i64 x.own.c, .int .i64 x.own.s, .int .i64 x.own.l, .int .u8 x.own.m, .int .i64 x.sum.c, .int .i64 x.sum.s, .int .i64 x.sum.l, .int .u8 x.sum.m, .int .i64 x.size, .int .u32 x.pr, .int .i32 x.l, .int .i32 x.r, .int .i32 x.u], true)))) := S3.trans (step_putAll HF.out _ _ _)
  obtain ⟨t0, r0⟩ : ∃ u, w3.cell? ⟨G1, k * 14, none⟩ = some u := by simpa using hA3.slotAt (j := 0) Hk.out (by omega)
  have s0 : w3.frozen? ⟨G1, k * 14, none⟩ = false := hA3.slotFz (by have := Hk.out; omega) _
  obtain ⟨t1, r1⟩ : ∃ u, w3.cell? ⟨G1, k * 14 + 1, none⟩ = some u := by simpa using hA3.slotAt (j := 1) Hk.out (by omega)
  have s1 : w3.frozen? ⟨G1, k * 14 + 1, none⟩ = false := hA3.slotFz (by have := Hk.out; omega) _
  obtain ⟨t2, r2⟩ : ∃ u, w3.cell? ⟨G1, k * 14 + 2, none⟩ = some u := by simpa using hA3.slotAt (j := 2) Hk.out (by omega)
  have s2 : w3.frozen? ⟨G1, k * 14 + 2, none⟩ = false := hA3.slotFz (by have := Hk.out; omega) _
  obtain ⟨t3, r3⟩ : ∃ u, w3.cell? ⟨G1, k * 14 + 3, none⟩ = some u := by simpa using hA3.slotAt (j := 3) Hk.out (by omega)
  have s3 : w3.frozen? ⟨G1, k * 14 + 3, none⟩ = false := hA3.slotFz (by have := Hk.out; omega) _
  obtain ⟨t4, r4⟩ : ∃ u, w3.cell? ⟨G1, k * 14 + 4, none⟩ = some u := by simpa using hA3.slotAt (j := 4) Hk.out (by omega)
  have s4 : w3.frozen? ⟨G1, k * 14 + 4, none⟩ = false := hA3.slotFz (by have := Hk.out; omega) _
  obtain ⟨t5, r5⟩ : ∃ u, w3.cell? ⟨G1, k * 14 + 5, none⟩ = some u := by simpa using hA3.slotAt (j := 5) Hk.out (by omega)
  have s5 : w3.frozen? ⟨G1, k * 14 + 5, none⟩ = false := hA3.slotFz (by have := Hk.out; omega) _
  obtain ⟨t6, r6⟩ : ∃ u, w3.cell? ⟨G1, k * 14 + 6, none⟩ = some u := by simpa using hA3.slotAt (j := 6) Hk.out (by omega)
  have s6 : w3.frozen? ⟨G1, k * 14 + 6, none⟩ = false := hA3.slotFz (by have := Hk.out; omega) _
  obtain ⟨t7, r7⟩ : ∃ u, w3.cell? ⟨G1, k * 14 + 7, none⟩ = some u := by simpa using hA3.slotAt (j := 7) Hk.out (by omega)
  have s7 : w3.frozen? ⟨G1, k * 14 + 7, none⟩ = false := hA3.slotFz (by have := Hk.out; omega) _
  obtain ⟨t8, r8⟩ : ∃ u, w3.cell? ⟨G1, k * 14 + 8, none⟩ = some u := by simpa using hA3.slotAt (j := 8) Hk.out (by omega)
  have s8 : w3.frozen? ⟨G1, k * 14 + 8, none⟩ = false := hA3.slotFz (by have := Hk.out; omega) _
  obtain ⟨t9, r9⟩ : ∃ u, w3.cell? ⟨G1, k * 14 + 9, none⟩ = some u := by simpa using hA3.slotAt (j := 9) Hk.out (by omega)
  have s9 : w3.frozen? ⟨G1, k * 14 + 9, none⟩ = false := hA3.slotFz (by have := Hk.out; omega) _
  obtain ⟨t10, r10⟩ : ∃ u, w3.cell? ⟨G1, k * 14 + 10, none⟩ = some u := by simpa using hA3.slotAt (j := 10) Hk.out (by omega)
  have s10 : w3.frozen? ⟨G1, k * 14 + 10, none⟩ = false := hA3.slotFz (by have := Hk.out; omega) _
  obtain ⟨t11, r11⟩ : ∃ u, w3.cell? ⟨G1, k * 14 + 11, none⟩ = some u := by simpa using hA3.slotAt (j := 11) Hk.out (by omega)
  have s11 : w3.frozen? ⟨G1, k * 14 + 11, none⟩ = false := hA3.slotFz (by have := Hk.out; omega) _
  obtain ⟨t12, r12⟩ : ∃ u, w3.cell? ⟨G1, k * 14 + 12, none⟩ = some u := by simpa using hA3.slotAt (j := 12) Hk.out (by omega)
  have s12 : w3.frozen? ⟨G1, k * 14 + 12, none⟩ = false := hA3.slotFz (by have := Hk.out; omega) _
  obtain ⟨t13, r13⟩ : ∃ u, w3.cell? ⟨G1, k * 14 + 13, none⟩ = some u := by simpa using hA3.slotAt (j := 13) Hk.out (by omega)
  have s13 : w3.frozen? ⟨G1, k * 14 + 13, none⟩ = false := hA3.slotFz (by have := Hk.out; omega) _
  clear hA3 S3 hb3 HA S0
  go_wp2
  go_ret
  exact ⟨_, _, rfl, HE.out, HE2.out⟩
theorem take_new (x : Nd) {w : World} {F : Nat → Prop} {B G : Nat} {L : List Slt} (h : Ar X d w F B G L []) (hL : L.length < 2147483647) :
    Calls Tryz.prog 95 #[.pointer (some ⟨B, 0, none⟩), .agg #[.int .i64 x.own.c, .int .i64 x.own.s, .int .i64 x.own.l, .int .u8 x.own.m, .int .i64 x.sum.c, .int .i64 x.sum.s, .int .i64 x.sum.l, .int .u8 x.sum.m, .int .i64 x.size, .int .u32 x.pr, .int .i32 x.l, .int .i32 x.r, .int .i32 x.u]] w fun e w' => ∃ F' G', e = .returned (.int .i32 ((L.length : Int) + 1)) ∧ Ar X d w' F' B G' (L ++ [([.int .i64 x.own.c, .int .i64 x.own.s, .int .i64 x.own.l, .int .u8 x.own.m, .int .i64 x.sum.c, .int .i64 x.sum.s, .int .i64 x.sum.l, .int .u8 x.sum.m, .int .i64 x.size, .int .u32 x.pr, .int .i32 x.l, .int .i32 x.r, .int .i32 x.u], true)]) [] ∧ Step F F' w w' := by
  have hs : (L ++ [(([.int .i64 0, .int .i64 0, .int .i64 0, .int .u8 0, .int .i64 0, .int .i64 0, .int .i64 0, .int .u8 0, .int .i64 0, .int .u32 0, .int .i32 0, .int .i32 0, .int .i32 0], false) : Slt)]).set L.length ([.int .i64 x.own.c, .int .i64 x.own.s, .int .i64 x.own.l, .int .u8 x.own.m, .int .i64 x.sum.c, .int .i64 x.sum.s, .int .i64 x.sum.l, .int .u8 x.sum.m, .int .i64 x.size, .int .u32 x.pr, .int .i32 x.l, .int .i32 x.r, .int .i32 x.u], true) = L ++ [([.int .i64 x.own.c, .int .i64 x.own.s, .int .i64 x.own.l, .int .u8 x.own.m, .int .i64 x.sum.c, .int .i64 x.sum.s, .int .i64 x.sum.l, .int .u8 x.sum.m, .int .i64 x.size, .int .u32 x.pr, .int .i32 x.l, .int .i32 x.r, .int .i32 x.u], true)] := by rw [List.set_append_right _ _ (Nat.le_refl _), Nat.sub_self]; rfl
  rw [← hs]
  exact take_of x h.lt (by simp) (by simp; omega) (fun w0 hb => vacant_new (h.below hb) hL)
theorem take_old (x : Nd) {w : World} {F : Nat → Prop} {B G : Nat} {L : List Slt} {fr : List Int} {f : Int} (h : Ar X d w F B G L (fr ++ [f])) (hl : fr.length ≤ 2147483647) (hL : L.length ≤ 2147483647) :
    Calls Tryz.prog 95 #[.pointer (some ⟨B, 0, none⟩), .agg #[.int .i64 x.own.c, .int .i64 x.own.s, .int .i64 x.own.l, .int .u8 x.own.m, .int .i64 x.sum.c, .int .i64 x.sum.s, .int .i64 x.sum.l, .int .u8 x.sum.m, .int .i64 x.size, .int .u32 x.pr, .int .i32 x.l, .int .i32 x.r, .int .i32 x.u]] w fun e w' => ∃ F' G', e = .returned (.int .i32 f) ∧ Ar X d w' F' B G' (L.set (f - 1).toNat ([.int .i64 x.own.c, .int .i64 x.own.s, .int .i64 x.own.l, .int .u8 x.own.m, .int .i64 x.sum.c, .int .i64 x.sum.s, .int .i64 x.sum.l, .int .u8 x.sum.m, .int .i64 x.size, .int .u32 x.pr, .int .i32 x.l, .int .i32 x.r, .int .i32 x.u], true)) fr ∧ Step F F' w w' := by
  obtain ⟨h1, h2⟩ := h.fr f (by simp)
  obtain ⟨k, rfl⟩ : ∃ k : Nat, f = (k : Int) + 1 := ⟨(f - 1).toNat, by omega⟩
  rw [show ((k : Int) + 1 - 1).toNat = k by omega]
  exact take_of x h.lt (by omega) hL (fun w0 hb => (vacant_old (h.below hb) hl).mono fun e w' ⟨h1, h2, h3⟩ => ⟨_, _, h1, h2, h3⟩)
theorem free_yes {w : World} {F : Nat → Prop} {B G k : Nat} {L : List Slt} {fr : List Int} (h : Ar X d w F B G L fr) (hT : isT L ((k : Int) + 1) = true) (hk : k < L.length) (hL : L.length ≤ 2147483647) (hl : fr.length ≤ 2147483647) :
    Calls Tryz.prog 105 #[.pointer (some ⟨B, 0, none⟩), .int .i32 ((k : Int) + 1)] w fun e w' => ∃ F', e = .returned (.bool true) ∧ Ar X d w' F' B G (L.set k ([.int .i64 0, .int .i64 0, .int .i64 0, .int .u8 0, .int .i64 0, .int .i64 0, .int .i64 0, .int .u8 0, .int .i64 0, .int .u32 0, .int .i32 0, .int .i32 0, .int .i32 0], false)) (fr ++ [(k : Int) + 1]) ∧ Step F F' w w' := by
  obtain ⟨i0, hi, hz0, hz1, hz2⟩ := info_parts infoN
  have HV := has_any h ((k : Int) + 1) (by omega) hL
  rw [hT] at HV
  obtain ⟨cap0, c0⟩ := h.row (by omega)
  obtain ⟨u0, q0⟩ : ∃ u, w.cell? ⟨G, k * 14, none⟩ = some u := by simpa using h.slotAt (j := 0) hk (by omega)
  have z0 : w.frozen? ⟨G, k * 14, none⟩ = false := h.slotFz (by omega) _
  obtain ⟨u1, q1⟩ : ∃ u, w.cell? ⟨G, k * 14 + 1, none⟩ = some u := by simpa using h.slotAt (j := 1) hk (by omega)
  have z1 : w.frozen? ⟨G, k * 14 + 1, none⟩ = false := h.slotFz (by omega) _
  obtain ⟨u2, q2⟩ : ∃ u, w.cell? ⟨G, k * 14 + 2, none⟩ = some u := by simpa using h.slotAt (j := 2) hk (by omega)
  have z2 : w.frozen? ⟨G, k * 14 + 2, none⟩ = false := h.slotFz (by omega) _
  obtain ⟨u3, q3⟩ : ∃ u, w.cell? ⟨G, k * 14 + 3, none⟩ = some u := by simpa using h.slotAt (j := 3) hk (by omega)
  have z3 : w.frozen? ⟨G, k * 14 + 3, none⟩ = false := h.slotFz (by omega) _
  obtain ⟨u4, q4⟩ : ∃ u, w.cell? ⟨G, k * 14 + 4, none⟩ = some u := by simpa using h.slotAt (j := 4) hk (by omega)
  have z4 : w.frozen? ⟨G, k * 14 + 4, none⟩ = false := h.slotFz (by omega) _
  obtain ⟨u5, q5⟩ : ∃ u, w.cell? ⟨G, k * 14 + 5, none⟩ = some u := by simpa using h.slotAt (j := 5) hk (by omega)
  have z5 : w.frozen? ⟨G, k * 14 + 5, none⟩ = false := h.slotFz (by omega) _
  obtain ⟨u6, q6⟩ : ∃ u, w.cell? ⟨G, k * 14 + 6, none⟩ = some u := by simpa using h.slotAt (j := 6) hk (by omega)
  have z6 : w.frozen? ⟨G, k * 14 + 6, none⟩ = false := h.slotFz (by omega) _
  obtain ⟨u7, q7⟩ : ∃ u, w.cell? ⟨G, k * 14 + 7, none⟩ = some u := by simpa using h.slotAt (j := 7) hk (by omega)
  have z7 : w.frozen? ⟨G, k * 14 + 7, none⟩ = false := h.slotFz (by omega) _
  obtain ⟨u8, q8⟩ : ∃ u, w.cell? ⟨G, k * 14 + 8, none⟩ = some u := by simpa using h.slotAt (j := 8) hk (by omega)
  have z8 : w.frozen? ⟨G, k * 14 + 8, none⟩ = false := h.slotFz (by omega) _
  obtain ⟨u9, q9⟩ : ∃ u, w.cell? ⟨G, k * 14 + 9, none⟩ = some u := by simpa using h.slotAt (j := 9) hk (by omega)
  have z9 : w.frozen? ⟨G, k * 14 + 9, none⟩ = false := h.slotFz (by omega) _
  obtain ⟨u10, q10⟩ : ∃ u, w.cell? ⟨G, k * 14 + 10, none⟩ = some u := by simpa using h.slotAt (j := 10) hk (by omega)
  have z10 : w.frozen? ⟨G, k * 14 + 10, none⟩ = false := h.slotFz (by omega) _
  obtain ⟨u11, q11⟩ : ∃ u, w.cell? ⟨G, k * 14 + 11, none⟩ = some u := by simpa using h.slotAt (j := 11) hk (by omega)
  have z11 : w.frozen? ⟨G, k * 14 + 11, none⟩ = false := h.slotFz (by omega) _
  obtain ⟨u12, q12⟩ : ∃ u, w.cell? ⟨G, k * 14 + 12, none⟩ = some u := by simpa using h.slotAt (j := 12) hk (by omega)
  have z12 : w.frozen? ⟨G, k * 14 + 12, none⟩ = false := h.slotFz (by omega) _
  obtain ⟨u13, q13⟩ : ∃ u, w.cell? ⟨G, k * 14 + 13, none⟩ = some u := by simpa using h.slotAt (j := 13) hk (by omega)
  have z13 : w.frozen? ⟨G, k * 14 + 13, none⟩ = false := h.slotFz (by omega) _
  have HF : Hid (F G) := (h.slotF (by omega)).1
  have HE : Ar X d ((((((((((((((w.setCell ⟨G, k * 14, none⟩ (.int .i64 0)).setCell ⟨G, k * 14 + 1, none⟩ (.int .i64 0)).setCell ⟨G, k * 14 + 2, none⟩ (.int .i64 0)).setCell ⟨G, k * 14 + 3, none⟩ (.int .u8 0)).setCell ⟨G, k * 14 + 4, none⟩ (.int .i64 0)).setCell ⟨G, k * 14 + 5, none⟩ (.int .i64 0)).setCell ⟨G, k * 14 + 6, none⟩ (.int .i64 0)).setCell ⟨G, k * 14 + 7, none⟩ (.int .u8 0)).setCell ⟨G, k * 14 + 8, none⟩ (.int .i64 0)).setCell ⟨G, k * 14 + 9, none⟩ (.int .u32 0)).setCell ⟨G, k * 14 + 10, none⟩ (.int .i32 0)).setCell ⟨G, k * 14 + 11, none⟩ (.int .i32 0)).setCell ⟨G, k * 14 + 12, none⟩ (.int .i32 0)).setCell ⟨G, k * 14 + 13, none⟩ (.bool false)) F B G (L.set k ([.int .i64 0, .int .i64 0, .int .i64 0, .int .u8 0, .int .i64 0, .int .i64 0, .int .i64 0, .int .u8 0, .int .i64 0, .int .u32 0, .int .i32 0, .int .i32 0, .int .i32 0], false)) fr := h.putAll (s' := ([.int .i64 0, .int .i64 0, .int .i64 0, .int .u8 0, .int .i64 0, .int .i64 0, .int .i64 0, .int .u8 0, .int .i64 0, .int .u32 0, .int .i32 0, .int .i32 0, .int .i32 0], false)) (List.getElem?_eq_getElem hk) rfl
  have HE2 : Hid (Step F F w ((((((((((((((w.setCell ⟨G, k * 14, none⟩ (.int .i64 0)).setCell ⟨G, k * 14 + 1, none⟩ (.int .i64 0)).setCell ⟨G, k * 14 + 2, none⟩ (.int .i64 0)).setCell ⟨G, k * 14 + 3, none⟩ (.int .u8 0)).setCell ⟨G, k * 14 + 4, none⟩ (.int .i64 0)).setCell ⟨G, k * 14 + 5, none⟩ (.int .i64 0)).setCell ⟨G, k * 14 + 6, none⟩ (.int .i64 0)).setCell ⟨G, k * 14 + 7, none⟩ (.int .u8 0)).setCell ⟨G, k * 14 + 8, none⟩ (.int .i64 0)).setCell ⟨G, k * 14 + 9, none⟩ (.int .u32 0)).setCell ⟨G, k * 14 + 10, none⟩ (.int .i32 0)).setCell ⟨G, k * 14 + 11, none⟩ (.int .i32 0)).setCell ⟨G, k * 14 + 12, none⟩ (.int .i32 0)).setCell ⟨G, k * 14 + 13, none⟩ (.bool false))) := step_putAll HF.out w (k * 14) (slc ([.int .i64 0, .int .i64 0, .int .i64 0, .int .u8 0, .int .i64 0, .int .i64 0, .int .i64 0, .int .u8 0, .int .i64 0, .int .u32 0, .int .i32 0, .int .i32 0, .int .i32 0], false))
  have hlen : (L.set k ([.int .i64 0, .int .i64 0, .int .i64 0, .int .u8 0, .int .i64 0, .int .i64 0, .int .i64 0, .int .u8 0, .int .i64 0, .int .u32 0, .int .i32 0, .int .i32 0, .int .i32 0], false)).length = L.length := by simp
  obtain ⟨v, u, h1, h2, h3, h4, h5, h6⟩ := HE.ex
  have b1 := (HE.ok.cells h1).2
  have H3 : Hid (RowW (((((((((((((((w.setCell ⟨G, k * 14, none⟩ (.int .i64 0)).setCell ⟨G, k * 14 + 1, none⟩ (.int .i64 0)).setCell ⟨G, k * 14 + 2, none⟩ (.int .i64 0)).setCell ⟨G, k * 14 + 3, none⟩ (.int .u8 0)).setCell ⟨G, k * 14 + 4, none⟩ (.int .i64 0)).setCell ⟨G, k * 14 + 5, none⟩ (.int .i64 0)).setCell ⟨G, k * 14 + 6, none⟩ (.int .i64 0)).setCell ⟨G, k * 14 + 7, none⟩ (.int .u8 0)).setCell ⟨G, k * 14 + 8, none⟩ (.int .i64 0)).setCell ⟨G, k * 14 + 9, none⟩ (.int .u32 0)).setCell ⟨G, k * 14 + 10, none⟩ (.int .i32 0)).setCell ⟨G, k * 14 + 11, none⟩ (.int .i32 0)).setCell ⟨G, k * 14 + 12, none⟩ (.int .i32 0)).setCell ⟨G, k * 14 + 13, none⟩ (.bool false)).alloc (.cells #[.int .i32 ((k : Int) + 1)] 21)) 21 1 u fr.length (i32s fr)) := h3.kept fun q hq => heap_alloc_old _ _ q (h3.lt hq)
  have HX : Hid (Blk (((((((((((((((w.setCell ⟨G, k * 14, none⟩ (.int .i64 0)).setCell ⟨G, k * 14 + 1, none⟩ (.int .i64 0)).setCell ⟨G, k * 14 + 2, none⟩ (.int .i64 0)).setCell ⟨G, k * 14 + 3, none⟩ (.int .u8 0)).setCell ⟨G, k * 14 + 4, none⟩ (.int .i64 0)).setCell ⟨G, k * 14 + 5, none⟩ (.int .i64 0)).setCell ⟨G, k * 14 + 6, none⟩ (.int .i64 0)).setCell ⟨G, k * 14 + 7, none⟩ (.int .u8 0)).setCell ⟨G, k * 14 + 8, none⟩ (.int .i64 0)).setCell ⟨G, k * 14 + 9, none⟩ (.int .u32 0)).setCell ⟨G, k * 14 + 10, none⟩ (.int .i32 0)).setCell ⟨G, k * 14 + 11, none⟩ (.int .i32 0)).setCell ⟨G, k * 14 + 12, none⟩ (.int .i32 0)).setCell ⟨G, k * 14 + 13, none⟩ (.bool false)).alloc (.cells #[.int .i32 ((k : Int) + 1)] 21)) w.heap.size 21 #[.int .i32 ((k : Int) + 1)]) := by show Blk _ _ _ _; simpa using Blk.new ((((((((((((((w.setCell ⟨G, k * 14, none⟩ (.int .i64 0)).setCell ⟨G, k * 14 + 1, none⟩ (.int .i64 0)).setCell ⟨G, k * 14 + 2, none⟩ (.int .i64 0)).setCell ⟨G, k * 14 + 3, none⟩ (.int .u8 0)).setCell ⟨G, k * 14 + 4, none⟩ (.int .i64 0)).setCell ⟨G, k * 14 + 5, none⟩ (.int .i64 0)).setCell ⟨G, k * 14 + 6, none⟩ (.int .i64 0)).setCell ⟨G, k * 14 + 7, none⟩ (.int .u8 0)).setCell ⟨G, k * 14 + 8, none⟩ (.int .i64 0)).setCell ⟨G, k * 14 + 9, none⟩ (.int .u32 0)).setCell ⟨G, k * 14 + 10, none⟩ (.int .i32 0)).setCell ⟨G, k * 14 + 11, none⟩ (.int .i32 0)).setCell ⟨G, k * 14 + 12, none⟩ (.int .i32 0)).setCell ⟨G, k * 14 + 13, none⟩ (.bool false)) 21 #[.int .i32 ((k : Int) + 1)]
  have HA : Hid (Ar X d ((((((((((((((w.setCell ⟨G, k * 14, none⟩ (.int .i64 0)).setCell ⟨G, k * 14 + 1, none⟩ (.int .i64 0)).setCell ⟨G, k * 14 + 2, none⟩ (.int .i64 0)).setCell ⟨G, k * 14 + 3, none⟩ (.int .u8 0)).setCell ⟨G, k * 14 + 4, none⟩ (.int .i64 0)).setCell ⟨G, k * 14 + 5, none⟩ (.int .i64 0)).setCell ⟨G, k * 14 + 6, none⟩ (.int .i64 0)).setCell ⟨G, k * 14 + 7, none⟩ (.int .u8 0)).setCell ⟨G, k * 14 + 8, none⟩ (.int .i64 0)).setCell ⟨G, k * 14 + 9, none⟩ (.int .u32 0)).setCell ⟨G, k * 14 + 10, none⟩ (.int .i32 0)).setCell ⟨G, k * 14 + 11, none⟩ (.int .i32 0)).setCell ⟨G, k * 14 + 12, none⟩ (.int .i32 0)).setCell ⟨G, k * 14 + 13, none⟩ (.bool false)) F B G (L.set k ([.int .i64 0, .int .i64 0, .int .i64 0, .int .u8 0, .int .i64 0, .int .i64 0, .int .i64 0, .int .u8 0, .int .i64 0, .int .u32 0, .int .i32 0, .int .i32 0, .int .i32 0], false)) fr) := HE
  have P1 : Hid (Blk ((((((((((((((w.setCell ⟨G, k * 14, none⟩ (.int .i64 0)).setCell ⟨G, k * 14 + 1, none⟩ (.int .i64 0)).setCell ⟨G, k * 14 + 2, none⟩ (.int .i64 0)).setCell ⟨G, k * 14 + 3, none⟩ (.int .u8 0)).setCell ⟨G, k * 14 + 4, none⟩ (.int .i64 0)).setCell ⟨G, k * 14 + 5, none⟩ (.int .i64 0)).setCell ⟨G, k * 14 + 6, none⟩ (.int .i64 0)).setCell ⟨G, k * 14 + 7, none⟩ (.int .u8 0)).setCell ⟨G, k * 14 + 8, none⟩ (.int .i64 0)).setCell ⟨G, k * 14 + 9, none⟩ (.int .u32 0)).setCell ⟨G, k * 14 + 10, none⟩ (.int .i32 0)).setCell ⟨G, k * 14 + 11, none⟩ (.int .i32 0)).setCell ⟨G, k * 14 + 12, none⟩ (.int .i32 0)).setCell ⟨G, k * 14 + 13, none⟩ (.bool false)) B X.T ((fun v u => v :: u :: .pointer d :: X.ex) v u).toArray) := h1
  have P2 : Hid (RowW ((((((((((((((w.setCell ⟨G, k * 14, none⟩ (.int .i64 0)).setCell ⟨G, k * 14 + 1, none⟩ (.int .i64 0)).setCell ⟨G, k * 14 + 2, none⟩ (.int .i64 0)).setCell ⟨G, k * 14 + 3, none⟩ (.int .u8 0)).setCell ⟨G, k * 14 + 4, none⟩ (.int .i64 0)).setCell ⟨G, k * 14 + 5, none⟩ (.int .i64 0)).setCell ⟨G, k * 14 + 6, none⟩ (.int .i64 0)).setCell ⟨G, k * 14 + 7, none⟩ (.int .u8 0)).setCell ⟨G, k * 14 + 8, none⟩ (.int .i64 0)).setCell ⟨G, k * 14 + 9, none⟩ (.int .u32 0)).setCell ⟨G, k * 14 + 10, none⟩ (.int .i32 0)).setCell ⟨G, k * 14 + 11, none⟩ (.int .i32 0)).setCell ⟨G, k * 14 + 12, none⟩ (.int .i32 0)).setCell ⟨G, k * 14 + 13, none⟩ (.bool false)) 169 (13 + 1) v (L.set k ([.int .i64 0, .int .i64 0, .int .i64 0, .int .u8 0, .int .i64 0, .int .i64 0, .int .i64 0, .int .u8 0, .int .i64 0, .int .u32 0, .int .i32 0, .int .i32 0, .int .i32 0], false)).length (slcs (L.set k ([.int .i64 0, .int .i64 0, .int .i64 0, .int .u8 0, .int .i64 0, .int .i64 0, .int .i64 0, .int .u8 0, .int .i64 0, .int .u32 0, .int .i32 0, .int .i32 0, .int .i32 0], false)))) := h2
  have P3 : Hid (RowW ((((((((((((((w.setCell ⟨G, k * 14, none⟩ (.int .i64 0)).setCell ⟨G, k * 14 + 1, none⟩ (.int .i64 0)).setCell ⟨G, k * 14 + 2, none⟩ (.int .i64 0)).setCell ⟨G, k * 14 + 3, none⟩ (.int .u8 0)).setCell ⟨G, k * 14 + 4, none⟩ (.int .i64 0)).setCell ⟨G, k * 14 + 5, none⟩ (.int .i64 0)).setCell ⟨G, k * 14 + 6, none⟩ (.int .i64 0)).setCell ⟨G, k * 14 + 7, none⟩ (.int .u8 0)).setCell ⟨G, k * 14 + 8, none⟩ (.int .i64 0)).setCell ⟨G, k * 14 + 9, none⟩ (.int .u32 0)).setCell ⟨G, k * 14 + 10, none⟩ (.int .i32 0)).setCell ⟨G, k * 14 + 11, none⟩ (.int .i32 0)).setCell ⟨G, k * 14 + 12, none⟩ (.int .i32 0)).setCell ⟨G, k * 14 + 13, none⟩ (.bool false)) 21 1 u fr.length (i32s fr)) := h3
  have P4 : Hid (Apart v u) := h4
  have P5 : Hid (∀ k, v.ownBlock = some k → k = G ∧ F k ∧ k ≠ B) := h5
  have P6 : Hid (∀ k, u.ownBlock = some k → F k ∧ k ≠ B) := h6
  have HL : Hid ((L.set k ([.int .i64 0, .int .i64 0, .int .i64 0, .int .u8 0, .int .i64 0, .int .i64 0, .int .i64 0, .int .u8 0, .int .i64 0, .int .u32 0, .int .i32 0, .int .i32 0, .int .i32 0], false)).length = L.length) := hlen
  obtain ⟨n, hn⟩ : ∃ n, n = fr.length := ⟨_, rfl⟩
  have HN : Hid (n = fr.length) := hn
  rw [← hn] at hl H3
  have HkL : Hid (k < L.length) := hk
  clear h h1 h2 h3 h4 h5 h6 HE hlen hT hn
  generalize hnL : L.length = nL at c0 hk hL
  clear hnL
  go_enter Tryz.func105, Tryz.ntmps105
  go_wp2_with fail
  refine HV.mono ?_
  rintro e w0 ⟨rfl, rfl⟩
  clear HV
  go_wp2_with (at_builtin; refine wpList_append_row _ rfl _ _ 81 rfl 21 i0 (.int .i32 0) 1 4 Tryz.underlying81 hi hz0 hz1 hz2 rfl _ _ _ rfl H3.out ⟨w0.heap.size, 0, none⟩ 1 1 [.int .i32 ((k : Int) + 1)] rfl rfl (World.news_of_block HX.out) (by simp [Value.oneCell']) (by omega) (by unfold maxLen; omega) (by omega) ?_)
  intro g cap w2 hown hgrow hat hlt
  obtain ⟨hb2, hA, hS⟩ := HA.out.refree (f := (k : Int) + 1) P1.out P2.out P3.out P4.out P5.out P6.out (by rw [← HN.out]; exact hown) hgrow (by simpa using hat) (by rw [HL.out]; have := HkL.out; omega)
  rw [← HN.out] at hA hS
  have d0 := (HA.out.ok.cells hb2).2
  have f0 := hb2.frozen 1
  have X1 := HE2.out.trans hS
  have HA2 : Hid (Ar X d (w2.setCell ⟨B, 1, none⟩ (.slice (some ⟨g, 0, none⟩) (n + 1) cap)) (fun k => F k ∨ k = g) B G (L.set k ([.int .i64 0, .int .i64 0, .int .i64 0, .int .u8 0, .int .i64 0, .int .i64 0, .int .i64 0, .int .u8 0, .int .i64 0, .int .u32 0, .int .i32 0, .int .i32 0, .int .i32 0], false)) (fr ++ [(k : Int) + 1])) := hA
  have HS : Hid (Step F (fun k => F k ∨ k = g) w0 (w2.setCell ⟨B, 1, none⟩ (.slice (some ⟨g, 0, none⟩) (n + 1) cap))) := X1
  clear hA hS X1 hown hgrow hat hb2 HA P1 P2 P3
  go_wp2
  go_ret
  exact ⟨_, rfl, HA2.out, HS.out⟩
theorem at_yes {w : World} {F : Nat → Prop} {B G k : Nat} {L : List Slt} {fr : List Int} (h : Ar X d w F B G L fr) (hT : isT L ((k : Int) + 1) = true) (hk : k < L.length) (hL : L.length ≤ 2147483647) :
    Calls Tryz.prog 137 #[.pointer (some ⟨B, 0, none⟩), .int .i32 ((k : Int) + 1)] w fun e w' => e = .returned (.pointer (some ⟨G, k * 14, none⟩)) ∧ w' = w := by
  have HV := has_any h ((k : Int) + 1) (by omega) hL
  rw [hT] at HV
  obtain ⟨cap0, c0⟩ := h.row (by omega)
  clear h hT
  generalize L.length = nL at *
  go_enter Tryz.func137, Tryz.ntmps137
  go_wp2_with fail
  refine HV.mono ?_
  rintro e w0 ⟨rfl, rfl⟩
  clear HV
  go_wp2
  go_ret
  exact ⟨rfl, rfl⟩
theorem at_no {w : World} {F : Nat → Prop} {B G : Nat} {L : List Slt} {fr : List Int} (h : Ar X d w F B G L fr) {i : Int} (hi : -2147483648 ≤ i ∧ i ≤ 2147483647) (hT : isT L i = false) (hL : L.length ≤ 2147483647) :
    Calls Tryz.prog 137 #[.pointer (some ⟨B, 0, none⟩), .int .i32 i] w fun e w' => e = .returned (.pointer none) ∧ w' = w := by
  have HV := has_any h i hi hL
  rw [hT] at HV
  clear h hT
  go_enter Tryz.func137, Tryz.ntmps137
  go_wp2_with fail
  refine HV.mono ?_
  rintro e w0 ⟨rfl, rfl⟩
  clear HV
  go_wp2
  go_ret
  exact ⟨rfl, rfl⟩
theorem take_any (x : Nd) {w : World} {F : Nat → Prop} {B G : Nat} {L : List Slt} {fr : List Int} (h : Ar X d w F B G L fr) (hl : fr.length ≤ 2147483647) (hL : L.length < 2147483647) :
    Calls Tryz.prog 95 #[.pointer (some ⟨B, 0, none⟩), .agg #[.int .i64 x.own.c, .int .i64 x.own.s, .int .i64 x.own.l, .int .u8 x.own.m, .int .i64 x.sum.c, .int .i64 x.sum.s, .int .i64 x.sum.l, .int .u8 x.sum.m, .int .i64 x.size, .int .u32 x.pr, .int .i32 x.l, .int .i32 x.r, .int .i32 x.u]] w fun e w' => ∃ F' G', e = .returned (.int .i32 (takeI L fr)) ∧ Ar X d w' F' B G' (takeL L fr ([.int .i64 x.own.c, .int .i64 x.own.s, .int .i64 x.own.l, .int .u8 x.own.m, .int .i64 x.sum.c, .int .i64 x.sum.s, .int .i64 x.sum.l, .int .u8 x.sum.m, .int .i64 x.size, .int .u32 x.pr, .int .i32 x.l, .int .i32 x.r, .int .i32 x.u], true)) fr.dropLast ∧ Step F F' w w' := by
  rcases List.eq_nil_or_concat fr with rfl | ⟨fr', f, rfl⟩
  · exact take_new x h hL
  · rw [List.concat_eq_append] at h hl ⊢
    rw [takeI_snoc, takeL_snoc, List.dropLast_concat]
    exact take_old x h (by simp at hl; omega) (by omega)
theorem free_at {w : World} {F : Nat → Prop} {B G : Nat} {L : List Slt} {fr : List Int} (h : Ar X d w F B G L fr) (i : Int) (hT : isT L i = true) (hL : L.length ≤ 2147483647) (hl : fr.length ≤ 2147483647) :
    Calls Tryz.prog 105 #[.pointer (some ⟨B, 0, none⟩), .int .i32 i] w fun e w' => ∃ F', e = .returned (.bool true) ∧ Ar X d w' F' B G (L.set (i - 1).toNat ([.int .i64 0, .int .i64 0, .int .i64 0, .int .u8 0, .int .i64 0, .int .i64 0, .int .i64 0, .int .u8 0, .int .i64 0, .int .u32 0, .int .i32 0, .int .i32 0, .int .i32 0], false)) (fr ++ [i]) ∧ Step F F' w w' := by
  obtain ⟨k, x, rfl, hk⟩ := isT_iff.1 hT
  rw [show ((k : Int) + 1 - 1).toNat = k by omega]
  exact free_yes h hT (List.getElem?_eq_some_iff.1 hk).1 hL hl
theorem at_at {w : World} {F : Nat → Prop} {B G : Nat} {L : List Slt} {fr : List Int} (h : Ar X d w F B G L fr) (i : Int) (hT : isT L i = true) (hL : L.length ≤ 2147483647) :
    Calls Tryz.prog 137 #[.pointer (some ⟨B, 0, none⟩), .int .i32 i] w fun e w' => e = .returned (.pointer (some ⟨G, (i - 1).toNat * 14, none⟩)) ∧ w' = w := by
  obtain ⟨k, x, rfl, hk⟩ := isT_iff.1 hT
  rw [show ((k : Int) + 1 - 1).toNat = k by omega]
  exact at_yes h hT (List.getElem?_eq_some_iff.1 hk).1 hL
end Go.Proofs.YtlmdjghcmofdlaaGreat.AN
namespace Go.Proofs.YtlmdjghcmofdlaaGreat
open Go.RowKit
set_option linter.unusedVariables false
variable {Xh : Hx}
def ndc (x : Nd) : List Value := [.int .i64 x.own.c, .int .i64 x.own.s, .int .i64 x.own.l, .int .u8 x.own.m, .int .i64 x.sum.c, .int .i64 x.sum.s, .int .i64 x.sum.l, .int .u8 x.sum.m, .int .i64 x.size, .int .u32 x.pr, .int .i32 x.l, .int .i32 x.r, .int .i32 x.u]
def zeV : Vl := ⟨0, 0, 0, 0⟩
def zeN : Nd := ⟨zeV, zeV, 0, 0, 0, 0, 0⟩
abbrev Nt := Nd × Bool
def slN (N : List Nt) : List Slt := N.map fun p => (ndc p.1, p.2)
def nd (N : List Nt) (i : Int) : Nd := if 1 ≤ i then (N.getD (i - 1).toNat (zeN, false)).1 else zeN
def tk (N : List Nt) (i : Int) : Bool := isT (slN N) i
def loc (i : Int) : Nat := (i - 1).toNat * 14
def setN (N : List Nt) (i : Int) (n : Nd) : List Nt := N.set (i - 1).toNat (n, true)
theorem slN_len (N : List Nt) : (slN N).length = N.length := by simp [slN]
theorem tk_iff {N : List Nt} {i : Int} : tk N i = true ↔ 1 ≤ i ∧ i ≤ N.length ∧ N[(i - 1).toNat]? = some (nd N i, true) := by
  unfold tk
  rw [isT_iff]
  constructor
  · rintro ⟨k, x, rfl, h⟩
    unfold slN at h
    rw [List.getElem?_map] at h
    rw [show ((k : Int) + 1 - 1).toNat = k by omega]
    cases hk : N[k]? with
    | none => rw [hk] at h; cases h
    | some p =>
      rw [hk] at h
      obtain ⟨n, b⟩ := p
      simp at h
      have := (List.getElem?_eq_some_iff.1 hk).1
      refine ⟨by omega, by omega, ?_⟩
      unfold nd
      rw [if_pos (by omega), show ((k : Int) + 1 - 1).toNat = k by omega, List.getD_eq_getElem?_getD, hk, h.2]
      rfl
  · rintro ⟨h1, h2, h3⟩
    refine ⟨(i - 1).toNat, ndc (nd N i), by omega, ?_⟩
    unfold slN
    rw [List.getElem?_map, h3]
    rfl
theorem tk_ne {N : List Nt} {i : Int} (h : tk N i = true) : i ≠ 0 := by have := (tk_iff.1 h).1; omega
theorem setN_len (N : List Nt) (i : Int) (n : Nd) : (setN N i n).length = N.length := by simp [setN]
theorem slN_setN (N : List Nt) (i : Int) (n : Nd) : slN (setN N i n) = (slN N).set (i - 1).toNat (ndc n, true) := by simp [slN, setN, List.map_set]
theorem nd_setN {N : List Nt} {i : Int} (n : Nd) (h : tk N i = true) : nd (setN N i n) = upd (nd N) i n := by
  obtain ⟨h1, h2, h3⟩ := tk_iff.1 h
  funext j
  unfold upd setN
  simp only [nd]
  by_cases hj : 1 ≤ j
  · rw [if_pos hj, if_pos hj, List.getD_eq_getElem?_getD, List.getD_eq_getElem?_getD, List.getElem?_set]
    by_cases e : j = i
    · subst e
      rw [if_pos rfl, if_pos rfl, if_pos (by omega)]
      rfl
    · rw [if_neg e, if_neg (by omega)]
  · rw [if_neg hj, if_neg hj, if_neg (by omega)]
theorem tk_setN {N : List Nt} {i : Int} (n : Nd) (h : tk N i = true) (j : Int) : tk (setN N i n) j = tk N j := by
  rw [Bool.eq_iff_iff]
  obtain ⟨h1, h2, h3⟩ := tk_iff.1 h
  have hn := nd_setN n h
  constructor
  · intro h'
    obtain ⟨a1, a2, a3⟩ := tk_iff.1 h'
    by_cases e : j = i
    · rw [e]; exact h
    · refine tk_iff.2 ⟨a1, by rw [setN_len] at a2; exact a2, ?_⟩
      rw [hn, upd_ne _ _ e] at a3
      unfold setN at a3
      rwa [List.getElem?_set_ne (by omega)] at a3
  · intro h'
    obtain ⟨a1, a2, a3⟩ := tk_iff.1 h'
    refine tk_iff.2 ⟨a1, by rw [setN_len]; exact a2, ?_⟩
    rw [hn]
    unfold setN
    by_cases e : j = i
    · subst e; rw [List.getElem?_set_self (by omega), upd_at]
    · rw [List.getElem?_set_ne (by omega), upd_ne _ _ e]; exact a3
def Frs (Xh : Hx) (d : Option Addr) (W : World) (F : Nat → Prop) (B G : Nat) (N : List Nt) (fr : List Int) : Prop := AN.Ar Xh d W F B G (slN N) fr
section
variable {d : Option Addr} {W W' : World} {F F' : Nat → Prop} {B G : Nat} {N : List Nt} {fr : List Int}
theorem Frs.arn (h : Frs Xh d W F B G N fr) : AN.Ar Xh d W F B G (slN N) fr := h
theorem Frs.below (h : Frs Xh d W F B G N fr) (hb : Below W.heap.size W W') : Frs Xh d W' F B G N fr := ArnX.below h hb
theorem Frs.kept (h : Frs Xh d W F B G N fr) (hb : ∀ k, F k → W'.heap[k]? = W.heap[k]?) (hs : W.heap.size ≤ W'.heap.size) : Frs Xh d W' F B G N fr := ArnX.kept h hb hs
theorem Frs.lt (h : Frs Xh d W F B G N fr) : ∀ k, F k → k < W.heap.size := ArnX.lt h
theorem Frs.at (h : Frs Xh d W F B G N fr) {i : Int} (hi : tk N i = true) {j : Nat} {u : Value} (hj : (ndc (nd N i))[j]? = some u) : W.cell? ⟨G, loc i + j, none⟩ = some u := by
  obtain ⟨h1, h2, h3⟩ := tk_iff.1 hi
  have hs : (slN N)[(i - 1).toNat]? = some (ndc (nd N i), true) := by unfold slN; rw [List.getElem?_map, h3]; rfl
  exact (h.slot hs).2.2.1 j u (by unfold slc; rw [List.getElem?_append_left (List.getElem?_eq_some_iff.1 hj).1]; exact hj)
theorem Frs.fz (h : Frs Xh d W F B G N fr) {i : Int} (hi : tk N i = true) (j : Nat) : W.frozen? ⟨G, j, none⟩ = false := by
  obtain ⟨h1, h2, h3⟩ := tk_iff.1 hi
  have hs : (slN N)[(i - 1).toNat]? = some (ndc (nd N i), true) := by unfold slN; rw [List.getElem?_map, h3]; rfl
  exact (h.slot hs).2.2.2 j
theorem Frs.g (h : Frs Xh d W F B G N fr) {i : Int} (hi : tk N i = true) : F G ∧ G ≠ B := by
  obtain ⟨h1, h2, h3⟩ := tk_iff.1 hi
  exact h.slotF (by rw [slN_len]; omega)
theorem Frs.put (h : Frs Xh d W F B G N fr) {i : Int} (hi : tk N i = true) {j : Nat} {u : Value} {n : Nd} (hj : j < 13) (hn : ndc n = (ndc (nd N i)).set j u) : Frs Xh d (W.setCell ⟨G, loc i + j, none⟩ u) F B G (setN N i n) fr ∧ Step F F W (W.setCell ⟨G, loc i + j, none⟩ u) := by
  obtain ⟨h1, h2, h3⟩ := tk_iff.1 hi
  have hs : (slN N)[(i - 1).toNat]? = some (ndc (nd N i), true) := by unfold slN; rw [List.getElem?_map, h3]; rfl
  refine ⟨?_, ArnX.step_set h (h.g hi).1 _ _⟩
  unfold Frs
  rw [slN_setN]
  exact ArnX.put h hs (by omega) (by unfold slc; simp only; rw [hn, List.set_append_left _ _ (by simp [ndc]; omega)]) rfl
theorem setN_setN (N : List Nt) (i : Int) (n m : Nd) : setN (setN N i n) i m = setN N i m := by simp [setN]
theorem Frs.put' (h : Frs Xh d W F B G N fr) {i : Int} (hi : tk N i = true) {n0 n : Nd} (j : Nat) {u : Value} (hj : j < 13) (hs : Frs Xh d W' F B G (setN N i n0) fr) (hst : Step F F W W') (hn : ndc n = (ndc n0).set j u) :
    Frs Xh d (W'.setCell ⟨G, loc i + j, none⟩ u) F B G (setN N i n) fr ∧ Step F F W (W'.setCell ⟨G, loc i + j, none⟩ u) := by
  have hi' : tk (setN N i n0) i = true := by rw [tk_setN n0 hi]; exact hi
  have hnd : nd (setN N i n0) i = n0 := by rw [nd_setN n0 hi, upd_at]
  obtain ⟨h1, h2⟩ := hs.put hi' (j := j) (u := u) (n := n) hj (by rw [hnd]; exact hn)
  rw [setN_setN] at h1
  exact ⟨h1, hst.trans h2⟩
theorem Frs.putOwn (h : Frs Xh d W F B G N fr) {i : Int} (hi : tk N i = true) (v : Vl) : Frs Xh d ((((W.setCell ⟨G, loc i, none⟩ (.int .i64 v.c)).setCell ⟨G, loc i + 1, none⟩ (.int .i64 v.s)).setCell ⟨G, loc i + 2, none⟩ (.int .i64 v.l)).setCell ⟨G, loc i + 3, none⟩ (.int .u8 v.m)) F B G (setN N i ((nd N i).wo v)) fr ∧
    Step F F W ((((W.setCell ⟨G, loc i, none⟩ (.int .i64 v.c)).setCell ⟨G, loc i + 1, none⟩ (.int .i64 v.s)).setCell ⟨G, loc i + 2, none⟩ (.int .i64 v.l)).setCell ⟨G, loc i + 3, none⟩ (.int .u8 v.m)) := by
  obtain ⟨a1, b1⟩ := h.put hi (j := 0) (u := .int .i64 v.c) (n := (nd N i).wo ⟨v.c, (nd N i).own.s, (nd N i).own.l, (nd N i).own.m⟩) (by omega) rfl
  obtain ⟨a2, b2⟩ := h.put' hi 1 (u := .int .i64 v.s) (n := (nd N i).wo ⟨v.c, v.s, (nd N i).own.l, (nd N i).own.m⟩) (by omega) a1 b1 rfl
  obtain ⟨a3, b3⟩ := h.put' hi 2 (u := .int .i64 v.l) (n := (nd N i).wo ⟨v.c, v.s, v.l, (nd N i).own.m⟩) (by omega) a2 b2 rfl
  exact h.put' hi 3 (u := .int .u8 v.m) (n := (nd N i).wo v) (by omega) a3 b3 rfl
theorem Frs.putSum (h : Frs Xh d W F B G N fr) {i : Int} (hi : tk N i = true) (v : Vl) : Frs Xh d ((((W.setCell ⟨G, loc i + 4, none⟩ (.int .i64 v.c)).setCell ⟨G, loc i + 5, none⟩ (.int .i64 v.s)).setCell ⟨G, loc i + 6, none⟩ (.int .i64 v.l)).setCell ⟨G, loc i + 7, none⟩ (.int .u8 v.m)) F B G (setN N i ((nd N i).ws (nd N i).size v)) fr ∧
    Step F F W ((((W.setCell ⟨G, loc i + 4, none⟩ (.int .i64 v.c)).setCell ⟨G, loc i + 5, none⟩ (.int .i64 v.s)).setCell ⟨G, loc i + 6, none⟩ (.int .i64 v.l)).setCell ⟨G, loc i + 7, none⟩ (.int .u8 v.m)) := by
  obtain ⟨a1, b1⟩ := h.put hi (j := 4) (u := .int .i64 v.c) (n := (nd N i).ws (nd N i).size ⟨v.c, (nd N i).sum.s, (nd N i).sum.l, (nd N i).sum.m⟩) (by omega) rfl
  obtain ⟨a2, b2⟩ := h.put' hi 5 (u := .int .i64 v.s) (n := (nd N i).ws (nd N i).size ⟨v.c, v.s, (nd N i).sum.l, (nd N i).sum.m⟩) (by omega) a1 b1 rfl
  obtain ⟨a3, b3⟩ := h.put' hi 6 (u := .int .i64 v.l) (n := (nd N i).ws (nd N i).size ⟨v.c, v.s, v.l, (nd N i).sum.m⟩) (by omega) a2 b2 rfl
  exact h.put' hi 7 (u := .int .u8 v.m) (n := (nd N i).ws (nd N i).size v) (by omega) a3 b3 rfl
theorem Frs.dcell (h : Frs Xh d W F B G N fr) : W.cell? ⟨B, 2, none⟩ = some (.pointer d) := by
  obtain ⟨v, u, h1, _⟩ := h.ex
  exact h1.at (by simp)
structure Keeps (A : Int → Prop) (N N' : List Nt) : Prop where
  len : N'.length = N.length
  tk : ∀ i, tk N' i = tk N i
  own : ∀ i, (nd N' i).own = (nd N i).own
  out : ∀ i, ¬ A i → nd N' i = nd N i
theorem Keeps.refl (A : Int → Prop) (N : List Nt) : Keeps A N N := ⟨rfl, fun _ => rfl, fun _ => rfl, fun _ _ => rfl⟩
theorem Keeps.trans {A : Int → Prop} {N N1 N2 : List Nt} (h : Keeps A N N1) (k : Keeps A N1 N2) : Keeps A N N2 :=
  ⟨k.len.trans h.len, fun i => (k.tk i).trans (h.tk i), fun i => (k.own i).trans (h.own i), fun i hi => (k.out i hi).trans (h.out i hi)⟩
theorem Keeps.mono {A A' : Int → Prop} {N N' : List Nt} (h : Keeps A N N') (hA : ∀ i, A i → A' i) : Keeps A' N N' := ⟨h.len, h.tk, h.own, fun i hi => h.out i (fun h' => hi (hA i h'))⟩
end
end Go.Proofs.YtlmdjghcmofdlaaGreat
