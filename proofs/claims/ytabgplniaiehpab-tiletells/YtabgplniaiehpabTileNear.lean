/- place.Near's function, one by one, over rounds that may write what they like but its boxes (by tools/gen_tilenear.py). -/
import Derived.Test.YtabgplniaiehpabPlaceCore
import Derived.Test.YtabgplniaiehpabIterZ
namespace Go.Proofs.Ytabgplniaiehpab.Pl
open Go.RowKit Go.Shelf
attribute [local go_sem] Oper.semAt_some
set_option linter.unusedVariables false
/-- Two boxes: a size and a number. -/
def Bx2 (B C : Nat) (W H c : Int) (w : World) : Prop := Blk w B 23 #[.int .i64 W, .int .i64 H] ∧ Blk w C 3 #[.int .i64 c]
theorem Bx2.below {B C : Nat} {W H c : Int} {w w' : World} (h : Bx2 B C W H c w) (k : Below w.heap.size w w') : Bx2 B C W H c w' := ⟨h.1.below k, h.2.below k⟩
theorem Bx2.cells {B C : Nat} {W H c : Int} {w : World} (h : Bx2 B C W H c w) : w.cell? ⟨B, 0, none⟩ = some (.int .i64 W) ∧ w.cell? ⟨B, 1, none⟩ = some (.int .i64 H) ∧ w.cell? ⟨C, 0, none⟩ = some (.int .i64 c) :=
  ⟨h.1.cells2.1, h.1.cells2.2, h.2.cell1⟩
theorem Bx2.keep {B C X Z : Nat} {W H c : Int} {w w' : World} (h : Bx2 B C W H c w) (k : BK X Z w w') (hB : X ≤ B ∧ B < Z) (hC : X ≤ C ∧ C < Z) : Bx2 B C W H c w' := ⟨(k.same B hB.1 hB.2).trans h.1, (k.same C hC.1 hC.2).trans h.2⟩
theorem bx2_own (B C : Nat) (W H c : Int) (X : Nat) : OwnFrom X (fun (_ : List Int) w => Bx2 B C W H c w) := OwnFrom.and (Own.from (blk_own _ _ (fun _ => _)) _) (Own.from (blk_own _ _ (fun _ => _)) _)
theorem bx2_new (w : World) (W H c : Int) : Bx2 w.heap.size (w.heap.size + 1) W H c ((w.alloc (.cells #[.int .i64 W, .int .i64 H] 23)).alloc (.cells #[.int .i64 c] 3)) := by
  have h2 := Blk.new (w.alloc (.cells #[.int .i64 W, .int .i64 H] 23)) 3 #[.int .i64 c]
  rw [World.size_alloc] at h2
  exact ⟨(Blk.new w _ _).alloc _, h2⟩
abbrev tnearF (B C : Nat) : Value := .func (.func 36) #[] #[.pointer (some ⟨B, 0, none⟩), .pointer (some ⟨C, 0, none⟩)]
theorem tnearF_nil (a b : Nat) (w : World) : (binOp BinOp.eql 33 (tnearF a b) Value.nilFunc).run Try.prog w = .ok (.bool false) w := by kernel_rfl
set_option maxHeartbeats 400000 in
theorem tnear_ab (W H c : Int) (w : World) : Calls Try.prog 24 #[sz W H, .int .i64 c] w fun e w' => ∃ B C, e = .returned (tnearF B C) ∧ Bx2 B C W H c w' ∧ w.heap.size ≤ B ∧ w.heap.size ≤ C ∧ Below w.heap.size w w' := by
  go_enter Try.func24, Try.ntmps24
  go_wp2
  go_ret
  exact ⟨_, _, rfl, bx2_new w W H c, Nat.le_refl _, by omega, ((Below.refl _ _).alloc (Nat.le_refl _) _).alloc (by simp) _⟩
theorem tnear_in {W H c : Int} (h : inB W H c = true) : nearL W H c = (if 0 < c / W then [c - W] else []) ++ ((if 0 < c % W then [c - 1] else []) ++ ((if c % W < W - 1 then [c + 1] else []) ++ (if c / W < H - 1 then [c + W] else []))) := by
  unfold nearL; rw [if_pos h]; simp only [List.append_assoc]
set_option maxRecDepth 100000 in
set_option maxHeartbeats 2000000 in
theorem tnear1_no (n : Nat) (hn : 4 ≤ n) (B C : Nat) (W H c : Int) (w : World) (hh0 : Bx2 B C W H c w) (hi : inB W H c = false) :
    SeqZ Fence.wide n Try.prog 36 #[.pointer (some ⟨B, 0, none⟩), .pointer (some ⟨C, 0, none⟩)] (fun x : Int => #[.int .i64 x]) (Bx2 B C W H c) (AllOf (nearL W H c)) (PartOf (nearL W H c)) 4 w := fun l J Jx X hR hX hJ hJx hl1 hl2 hY h0 => by
  have hhX := hh0.below hX
  obtain ⟨c0, c1, c2⟩ := hhX.cells
  have HJ : Hid (∀ Z, OwnFrom X.heap.size (J Z)) := hJ
  have HR : Hid (∀ Z pre W0, J Z pre W0 → Bx2 B C W H c W0) := hR
  obtain ⟨Z, hZ⟩ : ∃ Z, Z = X.heap.size := ⟨_, rfl⟩
  have H0 : Hid (J Z [] X) := h0 Z
  have HI : Hid (inB W H c = false) := hi
  clear hh0 hhX hX hJ hJx hY h0 hR hi
  refine callsIn_of_wp Try.func36 rfl trivial ?_ rfl
  simp only [Try.ntmps36, List.size_toArray, List.length_cons, List.length_nil, Nat.reduceAdd, Nat.reduceSub, Array.replicate_succ, Array.replicate_zero, List.push_toArray, List.append_toArray, List.nil_append, List.cons_append]
  gi_wp2_with fail
  refine ⟨trivial, fun _ => by omega, ?_⟩
  refine (callsIn_wide.2 (at_no _ _ _ _ HI.out)).mono ?_
  rintro e w1 ⟨rfl, hb1⟩
  have HX1 := hid_mk (OwnFrom.below (HJ.out Z) H0.out hb1)
  clear hb1
  gi_wp2
  refine bodyPost_ret (results_none rfl _ _ _) rfl ?_
  exact ⟨⟨_, rfl⟩, .inl ⟨Z, [], by show _ = _; unfold nearL; rw [HI.out]; rfl, HX1.out⟩⟩
set_option maxRecDepth 100000 in
set_option maxHeartbeats 16000000 in
theorem tnear1_yes (n : Nat) (hn : 4 ≤ n) (B C : Nat) (W H c : Int) (w : World) (hh0 : Bx2 B C W H c w) (hi : inB W H c = true) :
    SeqZ Fence.wide n Try.prog 36 #[.pointer (some ⟨B, 0, none⟩), .pointer (some ⟨C, 0, none⟩)] (fun x : Int => #[.int .i64 x]) (Bx2 B C W H c) (AllOf (nearL W H c)) (PartOf (nearL W H c)) 4 w := fun l J Jx X hR hX hJ hJx hl1 hl2 hY h0 => by
  have hhX := hh0.below hX
  obtain ⟨c0, c1, c2⟩ := hhX.cells
  have HJ : Hid (∀ Z, OwnFrom X.heap.size (J Z)) := hJ
  have HR : Hid (∀ Z pre W0, J Z pre W0 → Bx2 B C W H c W0) := hR
  obtain ⟨Z, hZ⟩ : ∃ Z, Z = X.heap.size := ⟨_, rfl⟩
  have H0 : Hid (J Z [] X) := h0 Z
  obtain ⟨a1, a2, a3, a4, a5, a6, a7, a8, a9, a10, _⟩ := at_bd hi
  have HYY : Hid (∀ pre x W1, Z ≤ W1.heap.size → J Z pre W1 → pre.length < 4 ∧ PartOf (nearL W H c) (pre ++ [x]) → YieldAt Fence.wide (n - 1) Try.prog l #[.int .i64 x] W1 fun e W' => (e = .returned (.bool true) ∧ J Z (pre ++ [x]) W' ∧ BK X.heap.size Z W1 W') ∨ (e = .returned (.bool false) ∧ Jx Z (pre ++ [x]) W' ∧ BK X.heap.size Z W1 W')) := fun pre x W1 h1 h2 h3 => hY Z pre x W1 (by omega) h1 h2 h3
  have HI : Hid (inB W H c = true) := hi
  clear hJ hJx hY h0 hR hi
  refine callsIn_of_wp Try.func36 rfl trivial ?_ rfl
  simp only [Try.ntmps36, List.size_toArray, List.length_cons, List.length_nil, Nat.reduceAdd, Nat.reduceSub, Array.replicate_succ, Array.replicate_zero, List.push_toArray, List.append_toArray, List.nil_append, List.cons_append]
  gi_wp2_with fail
  refine ⟨trivial, fun _ => by omega, ?_⟩
  refine (callsIn_wide.2 (at_yes _ _ _ _ HI.out)).mono ?_
  rintro e X0 ⟨rfl, hb1⟩
  obtain ⟨c00, c01, c02⟩ := (hhX.below hb1).cells
  have hX0 := OwnFrom.below (HJ.out Z) H0.out hb1
  have zX0 : Z ≤ X0.heap.size := by rw [hZ]; exact hb1.size
  clear hh0 hhX hX c0 c1 c2 hb1 hZ H0 HJ
  by_cases p1 : 0 < c / W
  · obtain ⟨f1, t1, a1, b1, hy1, hR1⟩ := HYY.out [] (c - W) X0 zX0 hX0 ⟨by simp, ⟨((if 0 < c % W then [c - 1] else []) ++ ((if c % W < W - 1 then [c + 1] else []) ++ (if c / W < H - 1 then [c + W] else []))), by rw [tnear_in HI.out, if_pos (show 0 < c / W from by omega)]; rfl⟩⟩
    gi_wp2
    repeat (refine ⟨fun _ h => (by cases h), ?_⟩; gi_wp2)
    refine ⟨fun _ => by omega, hR1.mono ?_⟩
    rintro e X1 (⟨rfl, hX1, k1⟩ | ⟨rfl, hx1, k1⟩)
    · obtain ⟨c10, c11, c12⟩ := (HR.out _ _ _ hX1).cells
      have zX1 := Nat.le_trans zX0 k1.size
      clear hy1 hR1 k1
      by_cases p2 : 0 < c % W
      · obtain ⟨f2, t2, a2, b2, hy2, hR2⟩ := HYY.out [c - W] (c - 1) X1 zX1 hX1 ⟨by simp, ⟨((if c % W < W - 1 then [c + 1] else []) ++ (if c / W < H - 1 then [c + W] else [])), by rw [tnear_in HI.out, if_pos (show 0 < c / W from by omega), if_pos (show 0 < c % W from by omega)]; rfl⟩⟩
        gi_wp2
        repeat (refine ⟨fun _ h => (by cases h), ?_⟩; gi_wp2)
        refine ⟨fun _ => by omega, hR2.mono ?_⟩
        rintro e X2 (⟨rfl, hX2, k2⟩ | ⟨rfl, hx2, k2⟩)
        · obtain ⟨c20, c21, c22⟩ := (HR.out _ _ _ hX2).cells
          have zX2 := Nat.le_trans zX1 k2.size
          clear hy2 hR2 k2
          by_cases p3 : c % W < W - 1
          · obtain ⟨f3, t3, a3, b3, hy3, hR3⟩ := HYY.out [c - W, c - 1] (c + 1) X2 zX2 hX2 ⟨by simp, ⟨(if c / W < H - 1 then [c + W] else []), by rw [tnear_in HI.out, if_pos (show 0 < c / W from by omega), if_pos (show 0 < c % W from by omega), if_pos (show c % W < W - 1 from by omega)]; rfl⟩⟩
            gi_wp2
            repeat (refine ⟨fun _ h => (by cases h), ?_⟩; gi_wp2)
            refine ⟨fun _ => by omega, hR3.mono ?_⟩
            rintro e X3 (⟨rfl, hX3, k3⟩ | ⟨rfl, hx3, k3⟩)
            · obtain ⟨c30, c31, c32⟩ := (HR.out _ _ _ hX3).cells
              have zX3 := Nat.le_trans zX2 k3.size
              clear hy3 hR3 k3
              by_cases p4 : c / W < H - 1
              · obtain ⟨f4, t4, a4, b4, hy4, hR4⟩ := HYY.out [c - W, c - 1, c + 1] (c + W) X3 zX3 hX3 ⟨by simp, ⟨[], by rw [tnear_in HI.out, if_pos (show 0 < c / W from by omega), if_pos (show 0 < c % W from by omega), if_pos (show c % W < W - 1 from by omega), if_pos (show c / W < H - 1 from by omega)]; rfl⟩⟩
                gi_wp2
                repeat (refine ⟨fun _ h => (by cases h), ?_⟩; gi_wp2)
                refine ⟨fun _ => by omega, hR4.mono ?_⟩
                rintro e X4 (⟨rfl, hX4, k4⟩ | ⟨rfl, hx4, k4⟩)
                · obtain ⟨c40, c41, c42⟩ := (HR.out _ _ _ hX4).cells
                  have zX4 := Nat.le_trans zX3 k4.size
                  clear hy4 hR4 k4
                  gi_wp2
                  repeat (refine ⟨fun _ h => (by cases h), ?_⟩; gi_wp2)
                  go_end0
                  exact ⟨⟨_, rfl⟩, .inl ⟨Z, _, (by show _ = _; rw [tnear_in HI.out, if_pos (show 0 < c / W from by omega), if_pos (show 0 < c % W from by omega), if_pos (show c % W < W - 1 from by omega), if_pos (show c / W < H - 1 from by omega)]; rfl), hX4⟩⟩
                · gi_wp2
                  go_end0
                  exact ⟨⟨_, rfl⟩, .inr ⟨Z, _, ⟨[], by rw [tnear_in HI.out, if_pos (show 0 < c / W from by omega), if_pos (show 0 < c % W from by omega), if_pos (show c % W < W - 1 from by omega), if_pos (show c / W < H - 1 from by omega)]; rfl⟩, hx4⟩⟩
              · have d4 : decide (c / W < H - 1) = false := by simpa using p4
                gi_wp2
                repeat (refine ⟨fun _ h => (by cases h), ?_⟩; gi_wp2)
                go_end0
                exact ⟨⟨_, rfl⟩, .inl ⟨Z, _, (by show _ = _; rw [tnear_in HI.out, if_pos (show 0 < c / W from by omega), if_pos (show 0 < c % W from by omega), if_pos (show c % W < W - 1 from by omega), if_neg (show ¬ c / W < H - 1 from by omega)]; rfl), hX3⟩⟩
            · gi_wp2
              refine bodyPost_ret (results_none rfl _ _ _) rfl ?_
              exact ⟨⟨_, rfl⟩, .inr ⟨Z, _, ⟨(if c / W < H - 1 then [c + W] else []), by rw [tnear_in HI.out, if_pos (show 0 < c / W from by omega), if_pos (show 0 < c % W from by omega), if_pos (show c % W < W - 1 from by omega)]; rfl⟩, hx3⟩⟩
          · have d3 : decide (c % W < W - 1) = false := by simpa using p3
            by_cases p4 : c / W < H - 1
            · obtain ⟨f4, t4, a4, b4, hy4, hR4⟩ := HYY.out [c - W, c - 1] (c + W) X2 zX2 hX2 ⟨by simp, ⟨[], by rw [tnear_in HI.out, if_pos (show 0 < c / W from by omega), if_pos (show 0 < c % W from by omega), if_neg (show ¬ c % W < W - 1 from by omega), if_pos (show c / W < H - 1 from by omega)]; rfl⟩⟩
              gi_wp2
              repeat (refine ⟨fun _ h => (by cases h), ?_⟩; gi_wp2)
              refine ⟨fun _ => by omega, hR4.mono ?_⟩
              rintro e X4 (⟨rfl, hX4, k4⟩ | ⟨rfl, hx4, k4⟩)
              · obtain ⟨c40, c41, c42⟩ := (HR.out _ _ _ hX4).cells
                have zX4 := Nat.le_trans zX2 k4.size
                clear hy4 hR4 k4
                gi_wp2
                repeat (refine ⟨fun _ h => (by cases h), ?_⟩; gi_wp2)
                go_end0
                exact ⟨⟨_, rfl⟩, .inl ⟨Z, _, (by show _ = _; rw [tnear_in HI.out, if_pos (show 0 < c / W from by omega), if_pos (show 0 < c % W from by omega), if_neg (show ¬ c % W < W - 1 from by omega), if_pos (show c / W < H - 1 from by omega)]; rfl), hX4⟩⟩
              · gi_wp2
                go_end0
                exact ⟨⟨_, rfl⟩, .inr ⟨Z, _, ⟨[], by rw [tnear_in HI.out, if_pos (show 0 < c / W from by omega), if_pos (show 0 < c % W from by omega), if_neg (show ¬ c % W < W - 1 from by omega), if_pos (show c / W < H - 1 from by omega)]; rfl⟩, hx4⟩⟩
            · have d4 : decide (c / W < H - 1) = false := by simpa using p4
              gi_wp2
              repeat (refine ⟨fun _ h => (by cases h), ?_⟩; gi_wp2)
              go_end0
              exact ⟨⟨_, rfl⟩, .inl ⟨Z, _, (by show _ = _; rw [tnear_in HI.out, if_pos (show 0 < c / W from by omega), if_pos (show 0 < c % W from by omega), if_neg (show ¬ c % W < W - 1 from by omega), if_neg (show ¬ c / W < H - 1 from by omega)]; rfl), hX2⟩⟩
        · gi_wp2
          refine bodyPost_ret (results_none rfl _ _ _) rfl ?_
          exact ⟨⟨_, rfl⟩, .inr ⟨Z, _, ⟨((if c % W < W - 1 then [c + 1] else []) ++ (if c / W < H - 1 then [c + W] else [])), by rw [tnear_in HI.out, if_pos (show 0 < c / W from by omega), if_pos (show 0 < c % W from by omega)]; rfl⟩, hx2⟩⟩
      · have d2 : decide (0 < c % W) = false := by simpa using p2
        by_cases p3 : c % W < W - 1
        · obtain ⟨f3, t3, a3, b3, hy3, hR3⟩ := HYY.out [c - W] (c + 1) X1 zX1 hX1 ⟨by simp, ⟨(if c / W < H - 1 then [c + W] else []), by rw [tnear_in HI.out, if_pos (show 0 < c / W from by omega), if_neg (show ¬ 0 < c % W from by omega), if_pos (show c % W < W - 1 from by omega)]; rfl⟩⟩
          gi_wp2
          repeat (refine ⟨fun _ h => (by cases h), ?_⟩; gi_wp2)
          refine ⟨fun _ => by omega, hR3.mono ?_⟩
          rintro e X3 (⟨rfl, hX3, k3⟩ | ⟨rfl, hx3, k3⟩)
          · obtain ⟨c30, c31, c32⟩ := (HR.out _ _ _ hX3).cells
            have zX3 := Nat.le_trans zX1 k3.size
            clear hy3 hR3 k3
            by_cases p4 : c / W < H - 1
            · obtain ⟨f4, t4, a4, b4, hy4, hR4⟩ := HYY.out [c - W, c + 1] (c + W) X3 zX3 hX3 ⟨by simp, ⟨[], by rw [tnear_in HI.out, if_pos (show 0 < c / W from by omega), if_neg (show ¬ 0 < c % W from by omega), if_pos (show c % W < W - 1 from by omega), if_pos (show c / W < H - 1 from by omega)]; rfl⟩⟩
              gi_wp2
              repeat (refine ⟨fun _ h => (by cases h), ?_⟩; gi_wp2)
              refine ⟨fun _ => by omega, hR4.mono ?_⟩
              rintro e X4 (⟨rfl, hX4, k4⟩ | ⟨rfl, hx4, k4⟩)
              · obtain ⟨c40, c41, c42⟩ := (HR.out _ _ _ hX4).cells
                have zX4 := Nat.le_trans zX3 k4.size
                clear hy4 hR4 k4
                gi_wp2
                repeat (refine ⟨fun _ h => (by cases h), ?_⟩; gi_wp2)
                go_end0
                exact ⟨⟨_, rfl⟩, .inl ⟨Z, _, (by show _ = _; rw [tnear_in HI.out, if_pos (show 0 < c / W from by omega), if_neg (show ¬ 0 < c % W from by omega), if_pos (show c % W < W - 1 from by omega), if_pos (show c / W < H - 1 from by omega)]; rfl), hX4⟩⟩
              · gi_wp2
                go_end0
                exact ⟨⟨_, rfl⟩, .inr ⟨Z, _, ⟨[], by rw [tnear_in HI.out, if_pos (show 0 < c / W from by omega), if_neg (show ¬ 0 < c % W from by omega), if_pos (show c % W < W - 1 from by omega), if_pos (show c / W < H - 1 from by omega)]; rfl⟩, hx4⟩⟩
            · have d4 : decide (c / W < H - 1) = false := by simpa using p4
              gi_wp2
              repeat (refine ⟨fun _ h => (by cases h), ?_⟩; gi_wp2)
              go_end0
              exact ⟨⟨_, rfl⟩, .inl ⟨Z, _, (by show _ = _; rw [tnear_in HI.out, if_pos (show 0 < c / W from by omega), if_neg (show ¬ 0 < c % W from by omega), if_pos (show c % W < W - 1 from by omega), if_neg (show ¬ c / W < H - 1 from by omega)]; rfl), hX3⟩⟩
          · gi_wp2
            refine bodyPost_ret (results_none rfl _ _ _) rfl ?_
            exact ⟨⟨_, rfl⟩, .inr ⟨Z, _, ⟨(if c / W < H - 1 then [c + W] else []), by rw [tnear_in HI.out, if_pos (show 0 < c / W from by omega), if_neg (show ¬ 0 < c % W from by omega), if_pos (show c % W < W - 1 from by omega)]; rfl⟩, hx3⟩⟩
        · have d3 : decide (c % W < W - 1) = false := by simpa using p3
          by_cases p4 : c / W < H - 1
          · obtain ⟨f4, t4, a4, b4, hy4, hR4⟩ := HYY.out [c - W] (c + W) X1 zX1 hX1 ⟨by simp, ⟨[], by rw [tnear_in HI.out, if_pos (show 0 < c / W from by omega), if_neg (show ¬ 0 < c % W from by omega), if_neg (show ¬ c % W < W - 1 from by omega), if_pos (show c / W < H - 1 from by omega)]; rfl⟩⟩
            gi_wp2
            repeat (refine ⟨fun _ h => (by cases h), ?_⟩; gi_wp2)
            refine ⟨fun _ => by omega, hR4.mono ?_⟩
            rintro e X4 (⟨rfl, hX4, k4⟩ | ⟨rfl, hx4, k4⟩)
            · obtain ⟨c40, c41, c42⟩ := (HR.out _ _ _ hX4).cells
              have zX4 := Nat.le_trans zX1 k4.size
              clear hy4 hR4 k4
              gi_wp2
              repeat (refine ⟨fun _ h => (by cases h), ?_⟩; gi_wp2)
              go_end0
              exact ⟨⟨_, rfl⟩, .inl ⟨Z, _, (by show _ = _; rw [tnear_in HI.out, if_pos (show 0 < c / W from by omega), if_neg (show ¬ 0 < c % W from by omega), if_neg (show ¬ c % W < W - 1 from by omega), if_pos (show c / W < H - 1 from by omega)]; rfl), hX4⟩⟩
            · gi_wp2
              go_end0
              exact ⟨⟨_, rfl⟩, .inr ⟨Z, _, ⟨[], by rw [tnear_in HI.out, if_pos (show 0 < c / W from by omega), if_neg (show ¬ 0 < c % W from by omega), if_neg (show ¬ c % W < W - 1 from by omega), if_pos (show c / W < H - 1 from by omega)]; rfl⟩, hx4⟩⟩
          · have d4 : decide (c / W < H - 1) = false := by simpa using p4
            gi_wp2
            repeat (refine ⟨fun _ h => (by cases h), ?_⟩; gi_wp2)
            go_end0
            exact ⟨⟨_, rfl⟩, .inl ⟨Z, _, (by show _ = _; rw [tnear_in HI.out, if_pos (show 0 < c / W from by omega), if_neg (show ¬ 0 < c % W from by omega), if_neg (show ¬ c % W < W - 1 from by omega), if_neg (show ¬ c / W < H - 1 from by omega)]; rfl), hX1⟩⟩
    · gi_wp2
      refine bodyPost_ret (results_none rfl _ _ _) rfl ?_
      exact ⟨⟨_, rfl⟩, .inr ⟨Z, _, ⟨((if 0 < c % W then [c - 1] else []) ++ ((if c % W < W - 1 then [c + 1] else []) ++ (if c / W < H - 1 then [c + W] else []))), by rw [tnear_in HI.out, if_pos (show 0 < c / W from by omega)]; rfl⟩, hx1⟩⟩
  · have d1 : decide (0 < c / W) = false := by simpa using p1
    by_cases p2 : 0 < c % W
    · obtain ⟨f2, t2, a2, b2, hy2, hR2⟩ := HYY.out [] (c - 1) X0 zX0 hX0 ⟨by simp, ⟨((if c % W < W - 1 then [c + 1] else []) ++ (if c / W < H - 1 then [c + W] else [])), by rw [tnear_in HI.out, if_neg (show ¬ 0 < c / W from by omega), if_pos (show 0 < c % W from by omega)]; rfl⟩⟩
      gi_wp2
      repeat (refine ⟨fun _ h => (by cases h), ?_⟩; gi_wp2)
      refine ⟨fun _ => by omega, hR2.mono ?_⟩
      rintro e X2 (⟨rfl, hX2, k2⟩ | ⟨rfl, hx2, k2⟩)
      · obtain ⟨c20, c21, c22⟩ := (HR.out _ _ _ hX2).cells
        have zX2 := Nat.le_trans zX0 k2.size
        clear hy2 hR2 k2
        by_cases p3 : c % W < W - 1
        · obtain ⟨f3, t3, a3, b3, hy3, hR3⟩ := HYY.out [c - 1] (c + 1) X2 zX2 hX2 ⟨by simp, ⟨(if c / W < H - 1 then [c + W] else []), by rw [tnear_in HI.out, if_neg (show ¬ 0 < c / W from by omega), if_pos (show 0 < c % W from by omega), if_pos (show c % W < W - 1 from by omega)]; rfl⟩⟩
          gi_wp2
          repeat (refine ⟨fun _ h => (by cases h), ?_⟩; gi_wp2)
          refine ⟨fun _ => by omega, hR3.mono ?_⟩
          rintro e X3 (⟨rfl, hX3, k3⟩ | ⟨rfl, hx3, k3⟩)
          · obtain ⟨c30, c31, c32⟩ := (HR.out _ _ _ hX3).cells
            have zX3 := Nat.le_trans zX2 k3.size
            clear hy3 hR3 k3
            by_cases p4 : c / W < H - 1
            · obtain ⟨f4, t4, a4, b4, hy4, hR4⟩ := HYY.out [c - 1, c + 1] (c + W) X3 zX3 hX3 ⟨by simp, ⟨[], by rw [tnear_in HI.out, if_neg (show ¬ 0 < c / W from by omega), if_pos (show 0 < c % W from by omega), if_pos (show c % W < W - 1 from by omega), if_pos (show c / W < H - 1 from by omega)]; rfl⟩⟩
              gi_wp2
              repeat (refine ⟨fun _ h => (by cases h), ?_⟩; gi_wp2)
              refine ⟨fun _ => by omega, hR4.mono ?_⟩
              rintro e X4 (⟨rfl, hX4, k4⟩ | ⟨rfl, hx4, k4⟩)
              · obtain ⟨c40, c41, c42⟩ := (HR.out _ _ _ hX4).cells
                have zX4 := Nat.le_trans zX3 k4.size
                clear hy4 hR4 k4
                gi_wp2
                repeat (refine ⟨fun _ h => (by cases h), ?_⟩; gi_wp2)
                go_end0
                exact ⟨⟨_, rfl⟩, .inl ⟨Z, _, (by show _ = _; rw [tnear_in HI.out, if_neg (show ¬ 0 < c / W from by omega), if_pos (show 0 < c % W from by omega), if_pos (show c % W < W - 1 from by omega), if_pos (show c / W < H - 1 from by omega)]; rfl), hX4⟩⟩
              · gi_wp2
                go_end0
                exact ⟨⟨_, rfl⟩, .inr ⟨Z, _, ⟨[], by rw [tnear_in HI.out, if_neg (show ¬ 0 < c / W from by omega), if_pos (show 0 < c % W from by omega), if_pos (show c % W < W - 1 from by omega), if_pos (show c / W < H - 1 from by omega)]; rfl⟩, hx4⟩⟩
            · have d4 : decide (c / W < H - 1) = false := by simpa using p4
              gi_wp2
              repeat (refine ⟨fun _ h => (by cases h), ?_⟩; gi_wp2)
              go_end0
              exact ⟨⟨_, rfl⟩, .inl ⟨Z, _, (by show _ = _; rw [tnear_in HI.out, if_neg (show ¬ 0 < c / W from by omega), if_pos (show 0 < c % W from by omega), if_pos (show c % W < W - 1 from by omega), if_neg (show ¬ c / W < H - 1 from by omega)]; rfl), hX3⟩⟩
          · gi_wp2
            refine bodyPost_ret (results_none rfl _ _ _) rfl ?_
            exact ⟨⟨_, rfl⟩, .inr ⟨Z, _, ⟨(if c / W < H - 1 then [c + W] else []), by rw [tnear_in HI.out, if_neg (show ¬ 0 < c / W from by omega), if_pos (show 0 < c % W from by omega), if_pos (show c % W < W - 1 from by omega)]; rfl⟩, hx3⟩⟩
        · have d3 : decide (c % W < W - 1) = false := by simpa using p3
          by_cases p4 : c / W < H - 1
          · obtain ⟨f4, t4, a4, b4, hy4, hR4⟩ := HYY.out [c - 1] (c + W) X2 zX2 hX2 ⟨by simp, ⟨[], by rw [tnear_in HI.out, if_neg (show ¬ 0 < c / W from by omega), if_pos (show 0 < c % W from by omega), if_neg (show ¬ c % W < W - 1 from by omega), if_pos (show c / W < H - 1 from by omega)]; rfl⟩⟩
            gi_wp2
            repeat (refine ⟨fun _ h => (by cases h), ?_⟩; gi_wp2)
            refine ⟨fun _ => by omega, hR4.mono ?_⟩
            rintro e X4 (⟨rfl, hX4, k4⟩ | ⟨rfl, hx4, k4⟩)
            · obtain ⟨c40, c41, c42⟩ := (HR.out _ _ _ hX4).cells
              have zX4 := Nat.le_trans zX2 k4.size
              clear hy4 hR4 k4
              gi_wp2
              repeat (refine ⟨fun _ h => (by cases h), ?_⟩; gi_wp2)
              go_end0
              exact ⟨⟨_, rfl⟩, .inl ⟨Z, _, (by show _ = _; rw [tnear_in HI.out, if_neg (show ¬ 0 < c / W from by omega), if_pos (show 0 < c % W from by omega), if_neg (show ¬ c % W < W - 1 from by omega), if_pos (show c / W < H - 1 from by omega)]; rfl), hX4⟩⟩
            · gi_wp2
              go_end0
              exact ⟨⟨_, rfl⟩, .inr ⟨Z, _, ⟨[], by rw [tnear_in HI.out, if_neg (show ¬ 0 < c / W from by omega), if_pos (show 0 < c % W from by omega), if_neg (show ¬ c % W < W - 1 from by omega), if_pos (show c / W < H - 1 from by omega)]; rfl⟩, hx4⟩⟩
          · have d4 : decide (c / W < H - 1) = false := by simpa using p4
            gi_wp2
            repeat (refine ⟨fun _ h => (by cases h), ?_⟩; gi_wp2)
            go_end0
            exact ⟨⟨_, rfl⟩, .inl ⟨Z, _, (by show _ = _; rw [tnear_in HI.out, if_neg (show ¬ 0 < c / W from by omega), if_pos (show 0 < c % W from by omega), if_neg (show ¬ c % W < W - 1 from by omega), if_neg (show ¬ c / W < H - 1 from by omega)]; rfl), hX2⟩⟩
      · gi_wp2
        refine bodyPost_ret (results_none rfl _ _ _) rfl ?_
        exact ⟨⟨_, rfl⟩, .inr ⟨Z, _, ⟨((if c % W < W - 1 then [c + 1] else []) ++ (if c / W < H - 1 then [c + W] else [])), by rw [tnear_in HI.out, if_neg (show ¬ 0 < c / W from by omega), if_pos (show 0 < c % W from by omega)]; rfl⟩, hx2⟩⟩
    · have d2 : decide (0 < c % W) = false := by simpa using p2
      by_cases p3 : c % W < W - 1
      · obtain ⟨f3, t3, a3, b3, hy3, hR3⟩ := HYY.out [] (c + 1) X0 zX0 hX0 ⟨by simp, ⟨(if c / W < H - 1 then [c + W] else []), by rw [tnear_in HI.out, if_neg (show ¬ 0 < c / W from by omega), if_neg (show ¬ 0 < c % W from by omega), if_pos (show c % W < W - 1 from by omega)]; rfl⟩⟩
        gi_wp2
        repeat (refine ⟨fun _ h => (by cases h), ?_⟩; gi_wp2)
        refine ⟨fun _ => by omega, hR3.mono ?_⟩
        rintro e X3 (⟨rfl, hX3, k3⟩ | ⟨rfl, hx3, k3⟩)
        · obtain ⟨c30, c31, c32⟩ := (HR.out _ _ _ hX3).cells
          have zX3 := Nat.le_trans zX0 k3.size
          clear hy3 hR3 k3
          by_cases p4 : c / W < H - 1
          · obtain ⟨f4, t4, a4, b4, hy4, hR4⟩ := HYY.out [c + 1] (c + W) X3 zX3 hX3 ⟨by simp, ⟨[], by rw [tnear_in HI.out, if_neg (show ¬ 0 < c / W from by omega), if_neg (show ¬ 0 < c % W from by omega), if_pos (show c % W < W - 1 from by omega), if_pos (show c / W < H - 1 from by omega)]; rfl⟩⟩
            gi_wp2
            repeat (refine ⟨fun _ h => (by cases h), ?_⟩; gi_wp2)
            refine ⟨fun _ => by omega, hR4.mono ?_⟩
            rintro e X4 (⟨rfl, hX4, k4⟩ | ⟨rfl, hx4, k4⟩)
            · obtain ⟨c40, c41, c42⟩ := (HR.out _ _ _ hX4).cells
              have zX4 := Nat.le_trans zX3 k4.size
              clear hy4 hR4 k4
              gi_wp2
              repeat (refine ⟨fun _ h => (by cases h), ?_⟩; gi_wp2)
              go_end0
              exact ⟨⟨_, rfl⟩, .inl ⟨Z, _, (by show _ = _; rw [tnear_in HI.out, if_neg (show ¬ 0 < c / W from by omega), if_neg (show ¬ 0 < c % W from by omega), if_pos (show c % W < W - 1 from by omega), if_pos (show c / W < H - 1 from by omega)]; rfl), hX4⟩⟩
            · gi_wp2
              go_end0
              exact ⟨⟨_, rfl⟩, .inr ⟨Z, _, ⟨[], by rw [tnear_in HI.out, if_neg (show ¬ 0 < c / W from by omega), if_neg (show ¬ 0 < c % W from by omega), if_pos (show c % W < W - 1 from by omega), if_pos (show c / W < H - 1 from by omega)]; rfl⟩, hx4⟩⟩
          · have d4 : decide (c / W < H - 1) = false := by simpa using p4
            gi_wp2
            repeat (refine ⟨fun _ h => (by cases h), ?_⟩; gi_wp2)
            go_end0
            exact ⟨⟨_, rfl⟩, .inl ⟨Z, _, (by show _ = _; rw [tnear_in HI.out, if_neg (show ¬ 0 < c / W from by omega), if_neg (show ¬ 0 < c % W from by omega), if_pos (show c % W < W - 1 from by omega), if_neg (show ¬ c / W < H - 1 from by omega)]; rfl), hX3⟩⟩
        · gi_wp2
          refine bodyPost_ret (results_none rfl _ _ _) rfl ?_
          exact ⟨⟨_, rfl⟩, .inr ⟨Z, _, ⟨(if c / W < H - 1 then [c + W] else []), by rw [tnear_in HI.out, if_neg (show ¬ 0 < c / W from by omega), if_neg (show ¬ 0 < c % W from by omega), if_pos (show c % W < W - 1 from by omega)]; rfl⟩, hx3⟩⟩
      · have d3 : decide (c % W < W - 1) = false := by simpa using p3
        by_cases p4 : c / W < H - 1
        · obtain ⟨f4, t4, a4, b4, hy4, hR4⟩ := HYY.out [] (c + W) X0 zX0 hX0 ⟨by simp, ⟨[], by rw [tnear_in HI.out, if_neg (show ¬ 0 < c / W from by omega), if_neg (show ¬ 0 < c % W from by omega), if_neg (show ¬ c % W < W - 1 from by omega), if_pos (show c / W < H - 1 from by omega)]; rfl⟩⟩
          gi_wp2
          repeat (refine ⟨fun _ h => (by cases h), ?_⟩; gi_wp2)
          refine ⟨fun _ => by omega, hR4.mono ?_⟩
          rintro e X4 (⟨rfl, hX4, k4⟩ | ⟨rfl, hx4, k4⟩)
          · obtain ⟨c40, c41, c42⟩ := (HR.out _ _ _ hX4).cells
            have zX4 := Nat.le_trans zX0 k4.size
            clear hy4 hR4 k4
            gi_wp2
            repeat (refine ⟨fun _ h => (by cases h), ?_⟩; gi_wp2)
            go_end0
            exact ⟨⟨_, rfl⟩, .inl ⟨Z, _, (by show _ = _; rw [tnear_in HI.out, if_neg (show ¬ 0 < c / W from by omega), if_neg (show ¬ 0 < c % W from by omega), if_neg (show ¬ c % W < W - 1 from by omega), if_pos (show c / W < H - 1 from by omega)]; rfl), hX4⟩⟩
          · gi_wp2
            go_end0
            exact ⟨⟨_, rfl⟩, .inr ⟨Z, _, ⟨[], by rw [tnear_in HI.out, if_neg (show ¬ 0 < c / W from by omega), if_neg (show ¬ 0 < c % W from by omega), if_neg (show ¬ c % W < W - 1 from by omega), if_pos (show c / W < H - 1 from by omega)]; rfl⟩, hx4⟩⟩
        · have d4 : decide (c / W < H - 1) = false := by simpa using p4
          gi_wp2
          repeat (refine ⟨fun _ h => (by cases h), ?_⟩; gi_wp2)
          go_end0
          exact ⟨⟨_, rfl⟩, .inl ⟨Z, _, (by show _ = _; rw [tnear_in HI.out, if_neg (show ¬ 0 < c / W from by omega), if_neg (show ¬ 0 < c % W from by omega), if_neg (show ¬ c % W < W - 1 from by omega), if_neg (show ¬ c / W < H - 1 from by omega)]; rfl), hX0⟩⟩
theorem tnear1_z (n : Nat) (hn : 4 ≤ n) (B C : Nat) (W H c : Int) (w : World) (hh : Bx2 B C W H c w) :
    SeqZ Fence.wide n Try.prog 36 #[.pointer (some ⟨B, 0, none⟩), .pointer (some ⟨C, 0, none⟩)] (fun x : Int => #[.int .i64 x]) (Bx2 B C W H c) (AllOf (nearL W H c)) (PartOf (nearL W H c)) 4 w := by
  cases hi : inB W H c with
  | false => exact tnear1_no n hn B C W H c w hh hi
  | true => exact tnear1_yes n hn B C W H c w hh hi
end Go.Proofs.Ytabgplniaiehpab.Pl
