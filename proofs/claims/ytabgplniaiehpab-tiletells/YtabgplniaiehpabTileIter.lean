/- Layer 12 (tile): a tile's cells, one by one; the tiles beside one, one by one. -/
import Derived.Test.YtabgplniaiehpabTileNear
import Derived.Test.YtabgplniaiehpabTileCore
namespace Go.Proofs.Ytabgplniaiehpab.Pl
open Go.RowKit Go.Shelf
attribute [local go_sem] Oper.semAt_some
set_option linter.unusedVariables false
theorem span_pre {f : Int} {k n : Nat} (h : k ≤ n) : spanL f k <+: spanL f n := by
  induction h with
  | refl => exact List.prefix_rfl
  | step _ ih => rw [span_succ]; exact ih.trans (List.prefix_append _ _)
theorem rect_pre {W x y : Int} {w k n : Nat} (h : k ≤ n) : rectL W x y w k <+: rectL W x y w n := by
  induction h with
  | refl => exact List.prefix_rfl
  | step _ ih => rw [rect_succ]; exact ih.trans (List.prefix_append _ _)
theorem rect_part {W x y f : Int} {w r h k : Nat} (hr : r < h) (hk : k ≤ w) (hf : f = (y + r) * W + x) : rectL W x y w r ++ spanL f k <+: rectL W x y w h := by
  subst hf
  refine List.IsPrefix.trans ?_ (rect_pre (show r + 1 ≤ h from hr))
  rw [rect_succ]
  exact List.prefix_append_right_inj _ |>.2 (span_pre hk)

/-- The function that Cells hands back, over its boxes. -/
abbrev cellsF (B C : Nat) : Value := .func (.func 31) #[] #[.pointer (some ⟨B, 0, none⟩), .pointer (some ⟨C, 0, none⟩)]
theorem cellsF_nil (a b : Nat) (w : World) : (binOp BinOp.eql 33 (cellsF a b) Value.nilFunc).run Try.prog w = .ok (.bool false) w := by kernel_rfl
set_option maxHeartbeats 400000 in
theorem cells_ab (W H c : Int) (w : World) : Calls Try.prog 17 #[sz W H, .int .i64 c] w fun e w' => ∃ B C, e = .returned (cellsF B C) ∧ Bx2 B C W H c w' ∧ w.heap.size ≤ B ∧ w.heap.size ≤ C ∧ Below w.heap.size w w' := by
  go_enter Try.func17, Try.ntmps17
  go_wp2
  go_ret
  exact ⟨_, _, rfl, bx2_new w W H c, Nat.le_refl _, by omega, ((Below.refl _ _).alloc (Nat.le_refl _) _).alloc (by simp) _⟩
set_option maxRecDepth 100000 in
set_option maxHeartbeats 3200000 in
theorem cells1_z (n : Nat) (hn : 4 ≤ n) (B C : Nat) (W H t : Int) (w : World) (hh0 : Bx2 B C W H t w) :
    SeqZ Fence.wide n Try.prog 31 #[.pointer (some ⟨B, 0, none⟩), .pointer (some ⟨C, 0, none⟩)] (fun x : Int => #[.int .i64 x]) (Bx2 B C W H t) (AllOf (cellsL W H t)) (PartOf (cellsL W H t)) (cellsL W H t).length w := fun l J Jx X hR hX hJ hJx hl1 hl2 hY h0 => by
  have hhX := hh0.below hX
  obtain ⟨c0, c1, c2⟩ := hhX.cells
  have HJ : Hid (∀ Z, OwnFrom X.heap.size (J Z)) := hJ
  have HR : Hid (∀ Z pre W0, J Z pre W0 → Bx2 B C W H t W0) := hR
  obtain ⟨Z, hZ⟩ : ∃ Z, Z = X.heap.size := ⟨_, rfl⟩
  have H0 : Hid (J Z [] X) := h0 Z
  obtain ⟨L, hLe⟩ : ∃ L, L = cellsL W H t := ⟨_, rfl⟩
  rw [← hLe] at hY ⊢
  have HYY : Hid (∀ pre x W1, Z ≤ W1.heap.size → J Z pre W1 → PartOf L (pre ++ [x]) → YieldAt Fence.wide (n - 1) Try.prog l #[.int .i64 x] W1 fun e W' => (e = .returned (.bool true) ∧ J Z (pre ++ [x]) W' ∧ BK X.heap.size Z W1 W') ∨ (e = .returned (.bool false) ∧ Jx Z (pre ++ [x]) W' ∧ BK X.heap.size Z W1 W')) := fun pre x W1 h1 h2 h3 => hY Z pre x W1 (by omega) h1 h2 ⟨by have := List.IsPrefix.length_le h3; simp at this; omega, h3⟩
  have HBX := hid_mk (fun W' => box_any W H t W')
  -- the numbers
  obtain ⟨x, hx⟩ : ∃ x, x = bxN W H t := ⟨_, rfl⟩
  obtain ⟨y, hy⟩ : ∃ y, y = byN W H t := ⟨_, rfl⟩
  obtain ⟨bw, hbw⟩ : ∃ bw : Nat, (bw : Int) = bwN W H t := ⟨(bwN W H t).toNat, by unfold bwN; split <;> (try (rename_i h; have := (box_bd h).2.2.2.2.2.2.1; unfold bwN at this; rw [if_pos h] at this)) <;> omega⟩
  obtain ⟨bh, hbh⟩ : ∃ bh : Nat, (bh : Int) = bhN W H t := ⟨(bhN W H t).toNat, by unfold bhN; split <;> (try (rename_i h; have := (box_bd h).2.2.2.2.2.2.2.2.1; unfold bhN at this; rw [if_pos h] at this)) <;> omega⟩
  have hL : L = rectL W x y bw bh := by rw [hLe]; unfold cellsL; rw [← hx, ← hy, ← hbw, ← hbh]; simp
  have hbd : 0 ≤ y ∧ y ≤ 4096 ∧ bh ≤ 8 ∧ bw ≤ 8 := by
    rw [hy]
    cases ht : tileB W H t with
    | true => obtain ⟨b1, b2, b3, b4, b5, b6, b7, b8, b9, b10, b11, b12, _⟩ := box_bd ht; omega
    | false => obtain ⟨e1, e2, e3, e4⟩ := box_no ht; omega
  have HIX : Hid (∀ (r : Nat) (W' : World), r < bh → ∃ f, f = (y + (r : Int)) * W + x ∧ 0 ≤ f ∧ f < 4194304 ∧ Calls Try.prog 26 #[sz W H, .int .i64 x, .int .i64 (y + (r : Int))] W' fun e w' => e = .returned (.tuple #[.int .i64 f, .bool true]) ∧ Below W'.heap.size W' w') := fun r W' hr => by
    have ht : tileB W H t = true := by
      cases ht : tileB W H t with
      | true => rfl
      | false => have := (box_no ht).2.2.2; omega
    obtain ⟨b1, b2, b3, b4, b5, b6, b7, b8, b9, b10, b11, b12, _⟩ := box_bd ht
    have hat : atB W H x (y + (r : Int)) = true := atB_iff.2 ⟨tileB_rt ht, by omega, by omega, by omega, by omega⟩
    have := index_any W H x (y + (r : Int)) W'
    have hi := at_bd (idxN_in hat).1
    have e1 : idxN W H x (y + (r : Int)) = (y + (r : Int)) * W + x := by unfold idxN; rw [if_pos hat]
    rw [hat] at this
    rw [e1] at this hi
    exact ⟨_, rfl, hi.2.2.2.2.1, hi.2.2.2.2.2.1, this⟩
  rw [← hx, ← hy, ← hbw, ← hbh] at HBX
  obtain ⟨tb, htb⟩ : ∃ tb, tb = tileB W H t := ⟨_, rfl⟩
  rw [← htb] at HBX
  have HLL := hid_mk hL
  clear hbw hbh hx hy htb hL hLe hJ hJx hY h0 hR
  refine callsIn_of_wp_marks Try.func31 rfl trivial ?_ rfl
  simp only [Try.ntmps31, List.size_toArray, List.length_cons, List.length_nil, Nat.reduceAdd, Nat.reduceSub, Array.replicate_succ, Array.replicate_zero, List.push_toArray, List.append_toArray, List.nil_append, List.cons_append]
  gi_wp2_with fail
  refine ⟨trivial, fun _ => by omega, ?_⟩
  refine (callsIn_wide.2 (HBX.out X)).mono ?_
  rintro e X0 ⟨rfl, hb1⟩
  have HX0 : Hid (J Z [] X0) := OwnFrom.below (HJ.out Z) H0.out hb1
  have zX0 : Z ≤ X0.heap.size := by rw [hZ]; exact hb1.size
  clear hh0 hhX hX c0 c1 c2 hb1 hZ H0 HBX
  gi_wp2
  gi_loopw [23] (fun vr wr => ∃ r : Nat, r ≤ bh ∧ vr = .int .i64 r ∧ Hid (J Z (rectL W x y bw r) wr) ∧ Z ≤ wr.heap.size) (fun vr _ => bh - (intOf vr).toNat)
  case atStart => exact ⟨0, Nat.zero_le _, rfl, HX0.out, zX0⟩
  case round =>
    clear HX0 zX0
    obtain ⟨r, hr, rfl, HJr, hZr⟩ := hrel
    by_cases hlt : r < bh
    · obtain ⟨c0, c1, c2⟩ := (HR.out _ _ _ HJr.out).cells
      obtain ⟨f, hf, f0, f1, hIX⟩ := HIX.out r wr hlt
      have HF := hid_mk hf
      have hri : (r : Int) < (bh : Int) := by omega
      clear hf
      gi_wp2_with fail
      refine ⟨trivial, fun _ => by omega, ?_⟩
      refine (callsIn_wide.2 hIX).mono ?_
      rintro e w1 ⟨rfl, hb1⟩
      have HJ1 : Hid (J Z (rectL W x y bw r) w1) := OwnFrom.below (HJ.out Z) HJr.out hb1
      have hZ1 := Nat.le_trans hZr hb1.size
      clear hb1 hIX HJr c0 c1 c2
      generalize wr = wo at *
      gi_wp2
      gi_loopw [36] (fun vk wr => ∃ k : Nat, k ≤ bw ∧ vk = .int .i64 k ∧ Hid (J Z (rectL W x y bw r ++ spanL f k) wr) ∧ Z ≤ wr.heap.size) (fun vk _ => bw - (intOf vk).toNat)
      case atStart => exact ⟨0, Nat.zero_le _, rfl, by show J Z (_ ++ []) _; rw [List.append_nil]; exact HJ1.out, hZ1⟩
      case round =>
        clear HJ1 hZ1
        obtain ⟨k, hk, rfl, HJk, hZk⟩ := hrel
        by_cases hlk : k < bw
        · have hki : (k : Int) < (bw : Int) := by omega
          have hsn : (rectL W x y bw r ++ spanL f k) ++ [f + (k : Int)] = rectL W x y bw r ++ spanL f (k + 1) := by rw [span_succ, List.append_assoc]
          obtain ⟨g1, t1, a1, b1, hy1, hR1⟩ := HYY.out _ (f + (k : Int)) wr hZk HJk.out (by rw [hsn, HLL.out]; exact rect_part hlt hlk HF.out)
          rw [hsn] at hR1
          gi_wp2
          repeat (refine ⟨fun _ h => (by cases h), ?_⟩; gi_wp2)
          refine ⟨fun _ => by omega, hR1.mono ?_⟩
          rintro e X3 (⟨rfl, hX3, k3⟩ | ⟨rfl, hx3, k3⟩)
          · have HJ3 := hid_mk hX3
            have hZ3 : Z ≤ X3.heap.size := Nat.le_trans hZk k3.size
            clear hX3 k3 hy1 hR1 HJk hsn
            gi_wp2
            go_roundw
            case rel => exact ⟨k + 1, by omega, by go_num, HJ3.out, hZ3⟩
            case measure => simp [intOf]; omega
          · have HPt : Hid (PartOf L (rectL W x y bw r ++ spanL f (k + 1))) := by rw [HLL.out]; exact rect_part hlt hlk HF.out
            have HX3 := hid_mk hx3
            clear k3 hy1 hR1 HJk hsn hx3
            gi_wp2
            refine ⟨.tuple #[], ?_, ⟨_, rfl⟩, .inr ⟨_, _, HPt.out, HX3.out⟩⟩
            simp [results, Try.f31, go_sem]
        · obtain rfl : k = bw := by omega
          have HJ4 : Hid (J Z (rectL W x y k (r + 1)) wr) := by rw [rect_succ, ← HF.out]; exact HJk.out
          clear HJk
          gi_wp2
          go_roundw
          case rel => exact ⟨r + 1, by omega, by go_num, HJ4.out, hZk⟩
          case measure => simp [intOf]; omega
    · obtain rfl : r = bh := by omega
      have HJ4 : Hid (J Z L wr) := by rw [HLL.out]; exact HJr.out
      clear HJr
      gi_wp2
      refine ⟨.tuple #[], ?_, ⟨_, rfl⟩, .inl ⟨_, _, rfl, HJ4.out⟩⟩
      simp [results, Try.f31, go_sem]

/-- The function that Beside hands back, over its boxes. -/
abbrev tbesF (B C : Nat) : Value := .func (.func 32) #[] #[.pointer (some ⟨B, 0, none⟩), .pointer (some ⟨C, 0, none⟩)]
theorem tbesF_nil (a b : Nat) (w : World) : (binOp BinOp.eql 33 (tbesF a b) Value.nilFunc).run Try.prog w = .ok (.bool false) w := by kernel_rfl
set_option maxHeartbeats 400000 in
theorem tbes_ab (W H c : Int) (w : World) : Calls Try.prog 20 #[sz W H, .int .i64 c] w fun e w' => ∃ B C, e = .returned (tbesF B C) ∧ Bx2 B C W H c w' ∧ w.heap.size ≤ B ∧ w.heap.size ≤ C ∧ Below w.heap.size w w' := by
  go_enter Try.func20, Try.ntmps20
  go_wp2
  go_ret
  exact ⟨_, _, rfl, bx2_new w W H c, Nat.le_refl _, by omega, ((Below.refl _ _).alloc (Nat.le_refl _) _).alloc (by simp) _⟩
end Go.Proofs.Ytabgplniaiehpab.Pl
