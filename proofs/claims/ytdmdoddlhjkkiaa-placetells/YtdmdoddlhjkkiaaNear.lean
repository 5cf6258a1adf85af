/- Contracts of place.Near, of the function that it hands back, and of place.Beside. -/
import Derived.Test.YtdmdoddlhjkkiaaCore
namespace Go.Proofs.Ytdmdoddlhjkkiaa
open Go.RowKit Go.Shelf
attribute [local go_sem] Oper.semAt_some

/-- The function that Near hands back, over its two boxes. -/
abbrev nearF (B C : Nat) : Value := .func (.func 22) #[] #[.pointer (some ⟨B, 0, none⟩), .pointer (some ⟨C, 0, none⟩)]

set_option maxHeartbeats 400000 in
theorem near_any (W H c : Int) (w : World) : Calls Try.prog 11 #[sz W H, .int .i64 c] w fun e w' => e = .returned (nearF w.heap.size (w.heap.size + 1)) ∧ w' = (w.alloc (.cells #[.int .i64 W, .int .i64 H] 23)).alloc (.cells #[.int .i64 c] 3) := by
  go_enter Try.func11, Try.ntmps11
  go_wp2
  go_ret
  exact ⟨rfl, rfl⟩

/-- The two boxes lie as they lay. -/
def Kept2 (B C : Nat) (W W' : World) : Prop := W'.heap[B]? = W.heap[B]? ∧ W'.heap[C]? = W.heap[C]?
theorem kept2_t {B C : Nat} {X Y Z : World} (h : Kept2 B C X Y) (k : Kept2 B C Y Z) : Kept2 B C X Z := ⟨k.1.trans h.1, k.2.trans h.2⟩
theorem kept2_b {B C n : Nat} (hB : B < n) (hC : C < n) (W : World) (l : Nat) (o o' : Obj) (hl : n ≤ l) (_ : W.heap[l]? = some o) (_ : o.isCells = false) (_ : o.isWalk = false) : Kept2 B C W (W.putObj l o') :=
  ⟨World.putObj_heap_other (by omega), World.putObj_heap_other (by omega)⟩

/-- What the two boxes hold. -/
def Has2 (B C : Nat) (W H c : Int) (w : World) : Prop := w.heap[B]? = some (.cells #[.int .i64 W, .int .i64 H] 23 (0, 0)) ∧ w.heap[C]? = some (.cells #[.int .i64 c] 3 (0, 0))
theorem Has2.kept {B C : Nat} {W H c : Int} {w w' : World} (h : Has2 B C W H c w) (k : Kept2 B C w w') : Has2 B C W H c w' := ⟨k.1.trans h.1, k.2.trans h.2⟩
theorem Has2.below {B C : Nat} {W H c : Int} {w w' : World} (h : Has2 B C W H c w) (k : Below w.heap.size w w') : Has2 B C W H c w' :=
  ⟨(k.block B (Array.getElem?_eq_some_iff.1 h.1).1).trans h.1, (k.block C (Array.getElem?_eq_some_iff.1 h.2).1).trans h.2⟩
theorem Has2.cells {B C : Nat} {W H c : Int} {w : World} (h : Has2 B C W H c w) : w.cell? ⟨B, 0, none⟩ = some (.int .i64 W) ∧ w.cell? ⟨B, 1, none⟩ = some (.int .i64 H) ∧ w.cell? ⟨C, 0, none⟩ = some (.int .i64 c) := by
  refine ⟨?_, ?_, ?_⟩ <;> simp [World.cell?, h.1, h.2]

theorem nearL_in {W H c : Int} (h : inB W H c = true) : nearL W H c = (if 0 < c / W then [c - W] else []) ++ ((if 0 < c % W then [c - 1] else []) ++ ((if c % W < W - 1 then [c + 1] else []) ++ (if c / W < H - 1 then [c + W] else []))) := by
  unfold nearL; rw [if_pos h]; simp only [List.append_assoc]

set_option maxRecDepth 100000 in
set_option maxHeartbeats 2000000 in
theorem near1_no (n : Nat) (hn : 1 ≤ n) (B C : Nat) (W H c : Int) (w : World) (hh : Has2 B C W H c w) (hi : inB W H c = false) :
    SeqStopsK Fence.wide n Try.prog 22 #[.pointer (some ⟨B, 0, none⟩), .pointer (some ⟨C, 0, none⟩)] (fun x : Int => #[.int .i64 x]) (Kept2 B C) (AllOf (nearL W H c)) (PartOf (nearL W H c)) 4 w := fun l J Jx X hX hJ hJx hY h0 => by
  obtain ⟨c0, c1, c2⟩ := (hh.below hX).cells
  refine callsIn_of_wp Try.func22 rfl trivial ?_ rfl
  simp only [Try.ntmps22, List.size_toArray, List.length_cons, List.length_nil, Nat.reduceAdd, Nat.reduceSub, Array.replicate_succ, Array.replicate_zero, List.push_toArray, List.append_toArray, List.nil_append, List.cons_append]
  have HI : Hid (inB W H c = false) := hi; clear hi
  gi_wp2_with fail
  refine ⟨trivial, ?_⟩
  refine (callsIn_wide.2 (at_no _ _ _ _ HI.out)).mono ?_
  rintro e w1 ⟨rfl, hb1⟩
  gi_wp2
  refine bodyPost_ret (results_none rfl _ _ _) rfl ?_
  exact ⟨⟨_, rfl⟩, .inl ⟨[], by show _ = _; unfold nearL; rw [HI.out]; rfl, abides_below hJ hb1 h0⟩⟩

set_option maxRecDepth 100000 in
set_option maxHeartbeats 8000000 in
theorem near1_yes (n : Nat) (hn : 1 ≤ n) (B C : Nat) (W H c : Int) (w : World) (hh0 : Has2 B C W H c w) (hi : inB W H c = true) :
    SeqStopsK Fence.wide n Try.prog 22 #[.pointer (some ⟨B, 0, none⟩), .pointer (some ⟨C, 0, none⟩)] (fun x : Int => #[.int .i64 x]) (Kept2 B C) (AllOf (nearL W H c)) (PartOf (nearL W H c)) 4 w := fun l J Jx X hX hJ hJx hY h0 => by
  have hhX := hh0.below hX
  obtain ⟨c0, c1, c2⟩ := hhX.cells
  obtain ⟨a1, a2, a3, a4, a5, a6, a7, a8, a9, a10, _⟩ := at_bd hi
  refine callsIn_of_wp Try.func22 rfl trivial ?_ rfl
  simp only [Try.ntmps22, List.size_toArray, List.length_cons, List.length_nil, Nat.reduceAdd, Nat.reduceSub, Array.replicate_succ, Array.replicate_zero, List.push_toArray, List.append_toArray, List.nil_append, List.cons_append]
  have HI : Hid (inB W H c = true) := hi; clear hi
  gi_wp2_with fail
  refine ⟨trivial, ?_⟩
  refine (callsIn_wide.2 (at_yes _ _ _ _ HI.out)).mono ?_
  rintro e X0 ⟨rfl, hb1⟩
  have hh := hhX.below hb1
  obtain ⟨c00, c01, c02⟩ := hh.cells
  have hX0 := abides_below hJ hb1 h0
  clear hh0 hhX hX c0 c1 c2 hb1 h0 hJ hJx
  by_cases p1 : 0 < c / W
  · obtain ⟨f1, t1, a1, b1, hy1, hR1⟩ := hY [] (c - W) X0 hX0 (by simp)
    gi_wp2
    repeat (refine ⟨fun _ h => (by cases h), ?_⟩; gi_wp2)
    refine hR1.mono ?_
    rintro e X1 (⟨rfl, hX1, k1⟩ | ⟨rfl, hx1⟩)
    · have hh1 := hh.kept k1
      obtain ⟨c10, c11, c12⟩ := hh1.cells
      clear hy1 hR1
      by_cases p2 : 0 < c % W
      · obtain ⟨f2, t2, a2, b2, hy2, hR2⟩ := hY [c - W] (c - 1) X1 hX1 (by simp)
        gi_wp2
        repeat (refine ⟨fun _ h => (by cases h), ?_⟩; gi_wp2)
        refine hR2.mono ?_
        rintro e X2 (⟨rfl, hX2, k2⟩ | ⟨rfl, hx2⟩)
        · have hh2 := hh1.kept k2
          obtain ⟨c20, c21, c22⟩ := hh2.cells
          clear hy2 hR2
          by_cases p3 : c % W < W - 1
          · obtain ⟨f3, t3, a3, b3, hy3, hR3⟩ := hY [c - W, c - 1] (c + 1) X2 hX2 (by simp)
            gi_wp2
            repeat (refine ⟨fun _ h => (by cases h), ?_⟩; gi_wp2)
            refine hR3.mono ?_
            rintro e X3 (⟨rfl, hX3, k3⟩ | ⟨rfl, hx3⟩)
            · have hh3 := hh2.kept k3
              obtain ⟨c30, c31, c32⟩ := hh3.cells
              clear hy3 hR3
              by_cases p4 : c / W < H - 1
              · obtain ⟨f4, t4, a4, b4, hy4, hR4⟩ := hY [c - W, c - 1, c + 1] (c + W) X3 hX3 (by simp)
                gi_wp2
                repeat (refine ⟨fun _ h => (by cases h), ?_⟩; gi_wp2)
                refine hR4.mono ?_
                rintro e X4 (⟨rfl, hX4, k4⟩ | ⟨rfl, hx4⟩)
                · have hh4 := hh3.kept k4
                  obtain ⟨c40, c41, c42⟩ := hh4.cells
                  clear hy4 hR4
                  gi_wp2
                  repeat (refine ⟨fun _ h => (by cases h), ?_⟩; gi_wp2)
                  go_end0
                  exact ⟨⟨_, rfl⟩, .inl ⟨_, (by show _ = _; rw [nearL_in HI.out, if_pos (show 0 < c / W from by omega), if_pos (show 0 < c % W from by omega), if_pos (show c % W < W - 1 from by omega), if_pos (show c / W < H - 1 from by omega)]; rfl), hX4⟩⟩
                · gi_wp2
                  go_end0
                  exact ⟨⟨_, rfl⟩, .inr ⟨_, ⟨[], by rw [nearL_in HI.out, if_pos (show 0 < c / W from by omega), if_pos (show 0 < c % W from by omega), if_pos (show c % W < W - 1 from by omega), if_pos (show c / W < H - 1 from by omega)]; rfl⟩, hx4⟩⟩
              · have d4 : decide (c / W < H - 1) = false := by simpa using p4
                gi_wp2
                repeat (refine ⟨fun _ h => (by cases h), ?_⟩; gi_wp2)
                go_end0
                exact ⟨⟨_, rfl⟩, .inl ⟨_, (by show _ = _; rw [nearL_in HI.out, if_pos (show 0 < c / W from by omega), if_pos (show 0 < c % W from by omega), if_pos (show c % W < W - 1 from by omega), if_neg (show ¬ c / W < H - 1 from by omega)]; rfl), hX3⟩⟩
            · gi_wp2
              refine bodyPost_ret (results_none rfl _ _ _) rfl ?_
              exact ⟨⟨_, rfl⟩, .inr ⟨_, ⟨(if c / W < H - 1 then [c + W] else []), by rw [nearL_in HI.out, if_pos (show 0 < c / W from by omega), if_pos (show 0 < c % W from by omega), if_pos (show c % W < W - 1 from by omega)]; rfl⟩, hx3⟩⟩
          · have d3 : decide (c % W < W - 1) = false := by simpa using p3
            by_cases p4 : c / W < H - 1
            · obtain ⟨f4, t4, a4, b4, hy4, hR4⟩ := hY [c - W, c - 1] (c + W) X2 hX2 (by simp)
              gi_wp2
              repeat (refine ⟨fun _ h => (by cases h), ?_⟩; gi_wp2)
              refine hR4.mono ?_
              rintro e X4 (⟨rfl, hX4, k4⟩ | ⟨rfl, hx4⟩)
              · have hh4 := hh2.kept k4
                obtain ⟨c40, c41, c42⟩ := hh4.cells
                clear hy4 hR4
                gi_wp2
                repeat (refine ⟨fun _ h => (by cases h), ?_⟩; gi_wp2)
                go_end0
                exact ⟨⟨_, rfl⟩, .inl ⟨_, (by show _ = _; rw [nearL_in HI.out, if_pos (show 0 < c / W from by omega), if_pos (show 0 < c % W from by omega), if_neg (show ¬ c % W < W - 1 from by omega), if_pos (show c / W < H - 1 from by omega)]; rfl), hX4⟩⟩
              · gi_wp2
                go_end0
                exact ⟨⟨_, rfl⟩, .inr ⟨_, ⟨[], by rw [nearL_in HI.out, if_pos (show 0 < c / W from by omega), if_pos (show 0 < c % W from by omega), if_neg (show ¬ c % W < W - 1 from by omega), if_pos (show c / W < H - 1 from by omega)]; rfl⟩, hx4⟩⟩
            · have d4 : decide (c / W < H - 1) = false := by simpa using p4
              gi_wp2
              repeat (refine ⟨fun _ h => (by cases h), ?_⟩; gi_wp2)
              go_end0
              exact ⟨⟨_, rfl⟩, .inl ⟨_, (by show _ = _; rw [nearL_in HI.out, if_pos (show 0 < c / W from by omega), if_pos (show 0 < c % W from by omega), if_neg (show ¬ c % W < W - 1 from by omega), if_neg (show ¬ c / W < H - 1 from by omega)]; rfl), hX2⟩⟩
        · gi_wp2
          refine bodyPost_ret (results_none rfl _ _ _) rfl ?_
          exact ⟨⟨_, rfl⟩, .inr ⟨_, ⟨((if c % W < W - 1 then [c + 1] else []) ++ (if c / W < H - 1 then [c + W] else [])), by rw [nearL_in HI.out, if_pos (show 0 < c / W from by omega), if_pos (show 0 < c % W from by omega)]; rfl⟩, hx2⟩⟩
      · have d2 : decide (0 < c % W) = false := by simpa using p2
        by_cases p3 : c % W < W - 1
        · obtain ⟨f3, t3, a3, b3, hy3, hR3⟩ := hY [c - W] (c + 1) X1 hX1 (by simp)
          gi_wp2
          repeat (refine ⟨fun _ h => (by cases h), ?_⟩; gi_wp2)
          refine hR3.mono ?_
          rintro e X3 (⟨rfl, hX3, k3⟩ | ⟨rfl, hx3⟩)
          · have hh3 := hh1.kept k3
            obtain ⟨c30, c31, c32⟩ := hh3.cells
            clear hy3 hR3
            by_cases p4 : c / W < H - 1
            · obtain ⟨f4, t4, a4, b4, hy4, hR4⟩ := hY [c - W, c + 1] (c + W) X3 hX3 (by simp)
              gi_wp2
              repeat (refine ⟨fun _ h => (by cases h), ?_⟩; gi_wp2)
              refine hR4.mono ?_
              rintro e X4 (⟨rfl, hX4, k4⟩ | ⟨rfl, hx4⟩)
              · have hh4 := hh3.kept k4
                obtain ⟨c40, c41, c42⟩ := hh4.cells
                clear hy4 hR4
                gi_wp2
                repeat (refine ⟨fun _ h => (by cases h), ?_⟩; gi_wp2)
                go_end0
                exact ⟨⟨_, rfl⟩, .inl ⟨_, (by show _ = _; rw [nearL_in HI.out, if_pos (show 0 < c / W from by omega), if_neg (show ¬ 0 < c % W from by omega), if_pos (show c % W < W - 1 from by omega), if_pos (show c / W < H - 1 from by omega)]; rfl), hX4⟩⟩
              · gi_wp2
                go_end0
                exact ⟨⟨_, rfl⟩, .inr ⟨_, ⟨[], by rw [nearL_in HI.out, if_pos (show 0 < c / W from by omega), if_neg (show ¬ 0 < c % W from by omega), if_pos (show c % W < W - 1 from by omega), if_pos (show c / W < H - 1 from by omega)]; rfl⟩, hx4⟩⟩
            · have d4 : decide (c / W < H - 1) = false := by simpa using p4
              gi_wp2
              repeat (refine ⟨fun _ h => (by cases h), ?_⟩; gi_wp2)
              go_end0
              exact ⟨⟨_, rfl⟩, .inl ⟨_, (by show _ = _; rw [nearL_in HI.out, if_pos (show 0 < c / W from by omega), if_neg (show ¬ 0 < c % W from by omega), if_pos (show c % W < W - 1 from by omega), if_neg (show ¬ c / W < H - 1 from by omega)]; rfl), hX3⟩⟩
          · gi_wp2
            refine bodyPost_ret (results_none rfl _ _ _) rfl ?_
            exact ⟨⟨_, rfl⟩, .inr ⟨_, ⟨(if c / W < H - 1 then [c + W] else []), by rw [nearL_in HI.out, if_pos (show 0 < c / W from by omega), if_neg (show ¬ 0 < c % W from by omega), if_pos (show c % W < W - 1 from by omega)]; rfl⟩, hx3⟩⟩
        · have d3 : decide (c % W < W - 1) = false := by simpa using p3
          by_cases p4 : c / W < H - 1
          · obtain ⟨f4, t4, a4, b4, hy4, hR4⟩ := hY [c - W] (c + W) X1 hX1 (by simp)
            gi_wp2
            repeat (refine ⟨fun _ h => (by cases h), ?_⟩; gi_wp2)
            refine hR4.mono ?_
            rintro e X4 (⟨rfl, hX4, k4⟩ | ⟨rfl, hx4⟩)
            · have hh4 := hh1.kept k4
              obtain ⟨c40, c41, c42⟩ := hh4.cells
              clear hy4 hR4
              gi_wp2
              repeat (refine ⟨fun _ h => (by cases h), ?_⟩; gi_wp2)
              go_end0
              exact ⟨⟨_, rfl⟩, .inl ⟨_, (by show _ = _; rw [nearL_in HI.out, if_pos (show 0 < c / W from by omega), if_neg (show ¬ 0 < c % W from by omega), if_neg (show ¬ c % W < W - 1 from by omega), if_pos (show c / W < H - 1 from by omega)]; rfl), hX4⟩⟩
            · gi_wp2
              go_end0
              exact ⟨⟨_, rfl⟩, .inr ⟨_, ⟨[], by rw [nearL_in HI.out, if_pos (show 0 < c / W from by omega), if_neg (show ¬ 0 < c % W from by omega), if_neg (show ¬ c % W < W - 1 from by omega), if_pos (show c / W < H - 1 from by omega)]; rfl⟩, hx4⟩⟩
          · have d4 : decide (c / W < H - 1) = false := by simpa using p4
            gi_wp2
            repeat (refine ⟨fun _ h => (by cases h), ?_⟩; gi_wp2)
            go_end0
            exact ⟨⟨_, rfl⟩, .inl ⟨_, (by show _ = _; rw [nearL_in HI.out, if_pos (show 0 < c / W from by omega), if_neg (show ¬ 0 < c % W from by omega), if_neg (show ¬ c % W < W - 1 from by omega), if_neg (show ¬ c / W < H - 1 from by omega)]; rfl), hX1⟩⟩
    · gi_wp2
      refine bodyPost_ret (results_none rfl _ _ _) rfl ?_
      exact ⟨⟨_, rfl⟩, .inr ⟨_, ⟨((if 0 < c % W then [c - 1] else []) ++ ((if c % W < W - 1 then [c + 1] else []) ++ (if c / W < H - 1 then [c + W] else []))), by rw [nearL_in HI.out, if_pos (show 0 < c / W from by omega)]; rfl⟩, hx1⟩⟩
  · have d1 : decide (0 < c / W) = false := by simpa using p1
    by_cases p2 : 0 < c % W
    · obtain ⟨f2, t2, a2, b2, hy2, hR2⟩ := hY [] (c - 1) X0 hX0 (by simp)
      gi_wp2
      repeat (refine ⟨fun _ h => (by cases h), ?_⟩; gi_wp2)
      refine hR2.mono ?_
      rintro e X2 (⟨rfl, hX2, k2⟩ | ⟨rfl, hx2⟩)
      · have hh2 := hh.kept k2
        obtain ⟨c20, c21, c22⟩ := hh2.cells
        clear hy2 hR2
        by_cases p3 : c % W < W - 1
        · obtain ⟨f3, t3, a3, b3, hy3, hR3⟩ := hY [c - 1] (c + 1) X2 hX2 (by simp)
          gi_wp2
          repeat (refine ⟨fun _ h => (by cases h), ?_⟩; gi_wp2)
          refine hR3.mono ?_
          rintro e X3 (⟨rfl, hX3, k3⟩ | ⟨rfl, hx3⟩)
          · have hh3 := hh2.kept k3
            obtain ⟨c30, c31, c32⟩ := hh3.cells
            clear hy3 hR3
            by_cases p4 : c / W < H - 1
            · obtain ⟨f4, t4, a4, b4, hy4, hR4⟩ := hY [c - 1, c + 1] (c + W) X3 hX3 (by simp)
              gi_wp2
              repeat (refine ⟨fun _ h => (by cases h), ?_⟩; gi_wp2)
              refine hR4.mono ?_
              rintro e X4 (⟨rfl, hX4, k4⟩ | ⟨rfl, hx4⟩)
              · have hh4 := hh3.kept k4
                obtain ⟨c40, c41, c42⟩ := hh4.cells
                clear hy4 hR4
                gi_wp2
                repeat (refine ⟨fun _ h => (by cases h), ?_⟩; gi_wp2)
                go_end0
                exact ⟨⟨_, rfl⟩, .inl ⟨_, (by show _ = _; rw [nearL_in HI.out, if_neg (show ¬ 0 < c / W from by omega), if_pos (show 0 < c % W from by omega), if_pos (show c % W < W - 1 from by omega), if_pos (show c / W < H - 1 from by omega)]; rfl), hX4⟩⟩
              · gi_wp2
                go_end0
                exact ⟨⟨_, rfl⟩, .inr ⟨_, ⟨[], by rw [nearL_in HI.out, if_neg (show ¬ 0 < c / W from by omega), if_pos (show 0 < c % W from by omega), if_pos (show c % W < W - 1 from by omega), if_pos (show c / W < H - 1 from by omega)]; rfl⟩, hx4⟩⟩
            · have d4 : decide (c / W < H - 1) = false := by simpa using p4
              gi_wp2
              repeat (refine ⟨fun _ h => (by cases h), ?_⟩; gi_wp2)
              go_end0
              exact ⟨⟨_, rfl⟩, .inl ⟨_, (by show _ = _; rw [nearL_in HI.out, if_neg (show ¬ 0 < c / W from by omega), if_pos (show 0 < c % W from by omega), if_pos (show c % W < W - 1 from by omega), if_neg (show ¬ c / W < H - 1 from by omega)]; rfl), hX3⟩⟩
          · gi_wp2
            refine bodyPost_ret (results_none rfl _ _ _) rfl ?_
            exact ⟨⟨_, rfl⟩, .inr ⟨_, ⟨(if c / W < H - 1 then [c + W] else []), by rw [nearL_in HI.out, if_neg (show ¬ 0 < c / W from by omega), if_pos (show 0 < c % W from by omega), if_pos (show c % W < W - 1 from by omega)]; rfl⟩, hx3⟩⟩
        · have d3 : decide (c % W < W - 1) = false := by simpa using p3
          by_cases p4 : c / W < H - 1
          · obtain ⟨f4, t4, a4, b4, hy4, hR4⟩ := hY [c - 1] (c + W) X2 hX2 (by simp)
            gi_wp2
            repeat (refine ⟨fun _ h => (by cases h), ?_⟩; gi_wp2)
            refine hR4.mono ?_
            rintro e X4 (⟨rfl, hX4, k4⟩ | ⟨rfl, hx4⟩)
            · have hh4 := hh2.kept k4
              obtain ⟨c40, c41, c42⟩ := hh4.cells
              clear hy4 hR4
              gi_wp2
              repeat (refine ⟨fun _ h => (by cases h), ?_⟩; gi_wp2)
              go_end0
              exact ⟨⟨_, rfl⟩, .inl ⟨_, (by show _ = _; rw [nearL_in HI.out, if_neg (show ¬ 0 < c / W from by omega), if_pos (show 0 < c % W from by omega), if_neg (show ¬ c % W < W - 1 from by omega), if_pos (show c / W < H - 1 from by omega)]; rfl), hX4⟩⟩
            · gi_wp2
              go_end0
              exact ⟨⟨_, rfl⟩, .inr ⟨_, ⟨[], by rw [nearL_in HI.out, if_neg (show ¬ 0 < c / W from by omega), if_pos (show 0 < c % W from by omega), if_neg (show ¬ c % W < W - 1 from by omega), if_pos (show c / W < H - 1 from by omega)]; rfl⟩, hx4⟩⟩
          · have d4 : decide (c / W < H - 1) = false := by simpa using p4
            gi_wp2
            repeat (refine ⟨fun _ h => (by cases h), ?_⟩; gi_wp2)
            go_end0
            exact ⟨⟨_, rfl⟩, .inl ⟨_, (by show _ = _; rw [nearL_in HI.out, if_neg (show ¬ 0 < c / W from by omega), if_pos (show 0 < c % W from by omega), if_neg (show ¬ c % W < W - 1 from by omega), if_neg (show ¬ c / W < H - 1 from by omega)]; rfl), hX2⟩⟩
      · gi_wp2
        refine bodyPost_ret (results_none rfl _ _ _) rfl ?_
        exact ⟨⟨_, rfl⟩, .inr ⟨_, ⟨((if c % W < W - 1 then [c + 1] else []) ++ (if c / W < H - 1 then [c + W] else [])), by rw [nearL_in HI.out, if_neg (show ¬ 0 < c / W from by omega), if_pos (show 0 < c % W from by omega)]; rfl⟩, hx2⟩⟩
    · have d2 : decide (0 < c % W) = false := by simpa using p2
      by_cases p3 : c % W < W - 1
      · obtain ⟨f3, t3, a3, b3, hy3, hR3⟩ := hY [] (c + 1) X0 hX0 (by simp)
        gi_wp2
        repeat (refine ⟨fun _ h => (by cases h), ?_⟩; gi_wp2)
        refine hR3.mono ?_
        rintro e X3 (⟨rfl, hX3, k3⟩ | ⟨rfl, hx3⟩)
        · have hh3 := hh.kept k3
          obtain ⟨c30, c31, c32⟩ := hh3.cells
          clear hy3 hR3
          by_cases p4 : c / W < H - 1
          · obtain ⟨f4, t4, a4, b4, hy4, hR4⟩ := hY [c + 1] (c + W) X3 hX3 (by simp)
            gi_wp2
            repeat (refine ⟨fun _ h => (by cases h), ?_⟩; gi_wp2)
            refine hR4.mono ?_
            rintro e X4 (⟨rfl, hX4, k4⟩ | ⟨rfl, hx4⟩)
            · have hh4 := hh3.kept k4
              obtain ⟨c40, c41, c42⟩ := hh4.cells
              clear hy4 hR4
              gi_wp2
              repeat (refine ⟨fun _ h => (by cases h), ?_⟩; gi_wp2)
              go_end0
              exact ⟨⟨_, rfl⟩, .inl ⟨_, (by show _ = _; rw [nearL_in HI.out, if_neg (show ¬ 0 < c / W from by omega), if_neg (show ¬ 0 < c % W from by omega), if_pos (show c % W < W - 1 from by omega), if_pos (show c / W < H - 1 from by omega)]; rfl), hX4⟩⟩
            · gi_wp2
              go_end0
              exact ⟨⟨_, rfl⟩, .inr ⟨_, ⟨[], by rw [nearL_in HI.out, if_neg (show ¬ 0 < c / W from by omega), if_neg (show ¬ 0 < c % W from by omega), if_pos (show c % W < W - 1 from by omega), if_pos (show c / W < H - 1 from by omega)]; rfl⟩, hx4⟩⟩
          · have d4 : decide (c / W < H - 1) = false := by simpa using p4
            gi_wp2
            repeat (refine ⟨fun _ h => (by cases h), ?_⟩; gi_wp2)
            go_end0
            exact ⟨⟨_, rfl⟩, .inl ⟨_, (by show _ = _; rw [nearL_in HI.out, if_neg (show ¬ 0 < c / W from by omega), if_neg (show ¬ 0 < c % W from by omega), if_pos (show c % W < W - 1 from by omega), if_neg (show ¬ c / W < H - 1 from by omega)]; rfl), hX3⟩⟩
        · gi_wp2
          refine bodyPost_ret (results_none rfl _ _ _) rfl ?_
          exact ⟨⟨_, rfl⟩, .inr ⟨_, ⟨(if c / W < H - 1 then [c + W] else []), by rw [nearL_in HI.out, if_neg (show ¬ 0 < c / W from by omega), if_neg (show ¬ 0 < c % W from by omega), if_pos (show c % W < W - 1 from by omega)]; rfl⟩, hx3⟩⟩
      · have d3 : decide (c % W < W - 1) = false := by simpa using p3
        by_cases p4 : c / W < H - 1
        · obtain ⟨f4, t4, a4, b4, hy4, hR4⟩ := hY [] (c + W) X0 hX0 (by simp)
          gi_wp2
          repeat (refine ⟨fun _ h => (by cases h), ?_⟩; gi_wp2)
          refine hR4.mono ?_
          rintro e X4 (⟨rfl, hX4, k4⟩ | ⟨rfl, hx4⟩)
          · have hh4 := hh.kept k4
            obtain ⟨c40, c41, c42⟩ := hh4.cells
            clear hy4 hR4
            gi_wp2
            repeat (refine ⟨fun _ h => (by cases h), ?_⟩; gi_wp2)
            go_end0
            exact ⟨⟨_, rfl⟩, .inl ⟨_, (by show _ = _; rw [nearL_in HI.out, if_neg (show ¬ 0 < c / W from by omega), if_neg (show ¬ 0 < c % W from by omega), if_neg (show ¬ c % W < W - 1 from by omega), if_pos (show c / W < H - 1 from by omega)]; rfl), hX4⟩⟩
          · gi_wp2
            go_end0
            exact ⟨⟨_, rfl⟩, .inr ⟨_, ⟨[], by rw [nearL_in HI.out, if_neg (show ¬ 0 < c / W from by omega), if_neg (show ¬ 0 < c % W from by omega), if_neg (show ¬ c % W < W - 1 from by omega), if_pos (show c / W < H - 1 from by omega)]; rfl⟩, hx4⟩⟩
        · have d4 : decide (c / W < H - 1) = false := by simpa using p4
          gi_wp2
          repeat (refine ⟨fun _ h => (by cases h), ?_⟩; gi_wp2)
          go_end0
          exact ⟨⟨_, rfl⟩, .inl ⟨_, (by show _ = _; rw [nearL_in HI.out, if_neg (show ¬ 0 < c / W from by omega), if_neg (show ¬ 0 < c % W from by omega), if_neg (show ¬ c % W < W - 1 from by omega), if_neg (show ¬ c / W < H - 1 from by omega)]; rfl), hX0⟩⟩

end Go.Proofs.Ytdmdoddlhjkkiaa
