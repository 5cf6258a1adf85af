/- Contract of place.Beside. -/
import Derived.Test.YtdmdoddlhjkkiaaNear
import Derived.RangeFuncFrom
namespace Go.Proofs.Ytdmdoddlhjkkiaa
open Go.RowKit Go.Shelf
attribute [local go_sem] Oper.semAt_some

theorem near1_stops (n : Nat) (hn : 1 ≤ n) (B C : Nat) (W H c : Int) (w : World) (hh : Has2 B C W H c w) :
    SeqStopsK Fence.wide n Try.prog 22 #[.pointer (some ⟨B, 0, none⟩), .pointer (some ⟨C, 0, none⟩)] (fun x : Int => #[.int .i64 x]) (Kept2 B C) (AllOf (nearL W H c)) (PartOf (nearL W H c)) 4 w := by
  cases hi : inB W H c with
  | false => exact near1_no n hn B C W H c w hh hi
  | true => exact near1_yes n hn B C W H c w hh hi

/-- The boxes that Near has laid. -/
theorem has2_new (w : World) (W H c : Int) : Has2 w.heap.size (w.heap.size + 1) W H c ((w.alloc (.cells #[.int .i64 W, .int .i64 H] 23)).alloc (.cells #[.int .i64 c] 3)) := by
  refine ⟨(Below.heap_alloc _ _ _ (by simp)).trans (World.alloc_heap_new w _), ?_⟩
  have := World.alloc_heap_new (w.alloc (.cells #[.int .i64 W, .int .i64 H] 23)) (.cells #[.int .i64 c] 3)
  rwa [World.size_alloc] at this

set_option maxRecDepth 100000 in
set_option maxHeartbeats 2000000 in
theorem beside_any (W H a b : Int) (w : World) : Calls Try.prog 13 #[sz W H, .int .i64 a, .int .i64 b] w fun e w' => e = .returned (.bool (decide (b ∈ nearL W H a))) ∧ Below w.heap.size w w' := by
  refine (callsIn_wide (n := 9)).1 ?_
  refine callsIn_of_wp_marks Try.func13 rfl trivial ?_ rfl
  simp only [Try.ntmps13, List.size_toArray, List.length_cons, List.length_nil, Nat.reduceAdd, Nat.reduceSub, Array.replicate_succ, Array.replicate_zero, List.push_toArray, List.append_toArray, List.nil_append, List.cons_append]
  gi_wp2_with (refine ⟨trivial, ?_⟩; gi_at_call 11; refine (callsIn_wide.2 (near_any _ _ _ _)).mono ?_; rintro e w' ⟨rfl, rfl⟩)
  have hZ := has2_new (((w.alloc (.cells #[.int .i64 W, .int .i64 H] 23)).alloc (.cells #[.int .i64 b] 3)).alloc (.cells #[.bool false] 4)) W H a
  have hb := (((Boxed.new (w.alloc (.cells #[.int .i64 W, .int .i64 H] 23)) 3 (.int .i64 b)).alloc (.cells #[.bool false] 4)).alloc (.cells #[.int .i64 W, .int .i64 H] 23)).alloc (.cells #[.int .i64 a] 3)
  have hr := ((Boxed.new ((w.alloc (.cells #[.int .i64 W, .int .i64 H] 23)).alloc (.cells #[.int .i64 b] 3)) 4 (.bool false)).alloc (.cells #[.int .i64 W, .int .i64 H] 23)).alloc (.cells #[.int .i64 a] 3)
  simp only [World.size_alloc] at hZ hb hr
  have hB0 : Below w.heap.size w (((((w.alloc (.cells #[.int .i64 W, .int .i64 H] 23)).alloc (.cells #[.int .i64 b] 3)).alloc (.cells #[.bool false] 4)).alloc (.cells #[.int .i64 W, .int .i64 H] 23)).alloc (.cells #[.int .i64 a] 3)) :=
    (((((Below.refl _ w).alloc (Nat.le_refl _) _).alloc (by simp) _).alloc (by simp <;> omega) _).alloc (by simp <;> omega) _).alloc (by simp <;> omega) _
  refine wpIn_rangeFunc_ownF rfl (by omega) (gf := 22) (lb := #[.pointer (some ⟨w.heap.size + 1 + 1 + 1, 0, none⟩), .pointer (some ⟨w.heap.size + 1 + 1 + 1 + 1, 0, none⟩)]) rfl trivial (enters_of Try.func22 (by kernel_rfl) rfl)
    (near1_stops _ (by omega) _ _ W H a _ hZ) (fun h k => kept2_t h k) (kept2_b (by simp <;> omega) (by simp)) (Below.refl _ _) (fun _ => rfl)
    (fun pre W' => ((∀ y ∈ pre, y ≠ b) ∧ Boxed W' (w.heap.size + 1) 3 (.int .i64 b) ∧ Boxed W' (w.heap.size + 1 + 1) 4 (.bool false)) ∧ Below w.heap.size w W')
    (fun c pre W' => (c = .ret ∧ b ∈ pre ∧ Boxed W' (w.heap.size + 1 + 1) 4 (.bool true)) ∧ Below w.heap.size w W')
    (OwnFrom.and (Own.from (fun s A B row hs hg hr => ⟨hs.1, boxed_own _ _ (fun _ : Unit => _) () A B row hs.2.1 hg hr, boxed_own _ _ (fun _ : Unit => _) () A B row hs.2.2 hg hr⟩) _) (ownFrom_below (Nat.le_refl _) (by simp <;> omega)))
    (fun c => OwnFrom.and (Own.from (fun s A B row hs hg hr => ⟨hs.1, hs.2.1, boxed_own _ _ (fun _ : Unit => _) () A B row hs.2.2 hg hr⟩) _) (ownFrom_below (Nat.le_refl _) (by simp <;> omega)))
    ⟨⟨by simp, hb, hr⟩, hB0⟩
    (fun x => { tmps := #[sz W H, .int .i64 a, .int .i64 b, .pointer (some ⟨w.heap.size, 0, none⟩), undef, .pointer (some ⟨w.heap.size + 1, 0, none⟩), .pointer (some ⟨w.heap.size + 1 + 1, 0, none⟩), .int .i64 x, sz W H, .int .i64 a, nearF (w.heap.size + 1 + 1 + 1) (w.heap.size + 1 + 1 + 1 + 1), .int .i64 x, undef, undef, undef], defers := [] }) ?assign ?body ?done ?stop
  case assign =>
    intro l x X K hK
    gi_wp2
    exact hK
  case body =>
    rintro l pre x X ⟨⟨hp, hb1, hr1⟩, hB⟩ _
    have c1 := hb1.cell
    have c2 := hr1.cell
    have f2 := hr1.frozen
    gi_wp2
    · rename_i hx
      obtain rfl : x = b := eq_of_beq hx
      exact ⟨KeepsOthers.setCell _ _ _, ⟨rfl, List.mem_append.2 (.inr (by simp)), hr1.set _⟩, hB.setCell (p := ⟨w.heap.size + 1 + 1, 0, none⟩) (by simp <;> omega) _⟩
    · rename_i hx
      exact ⟨KeepsOthers.refl _, ⟨rfl, rfl⟩, ⟨fun y hy => (List.mem_append.1 hy).elim (hp y) (fun e e' => by simp at e; subst e; subst e'; simp at hx), hb1, hr1⟩, hB⟩
  case done =>
    rintro D ys X hD rfl ⟨⟨hne, _, hr1⟩, hB⟩ hK
    have c2 := hr1.cell
    have f2 := hr1.frozen
    gi_wp2
    have hK' := (KeepsOthers.setCell X ⟨w.heap.size + 1 + 1, 0, none⟩ (.bool false)).same D _ hK rfl
    refine ⟨by simp, .inl ⟨_, _, rfl, run_takeDeferred hK', ?_⟩⟩
    have hc5 := cell_kept (hr1.set (.bool false)).cell (grownBy_putObj' _ D (.deferred none)) (fun r e => by cases e; exact ⟨_, hK', rfl⟩)
    refine ⟨.bool false, ?_, by rw [decide_eq_false (fun h => hne b h rfl)], (hB.setCell (p := ⟨w.heap.size + 1 + 1, 0, none⟩) (by simp <;> omega) _).trans (belowK_b (w := w) (Nat.le_refl _) _ D _ _ (by simp at hD; omega) hK' rfl rfl)⟩
    simp [results, Try.f13, go_sem, hc5]
  case stop =>
    rintro D c pre X hD hpre ⟨⟨rfl, hin, hr1⟩, hB⟩ hK
    gi_wp2
    refine ⟨by simp, .inl ⟨_, _, rfl, run_takeDeferred hK, ?_⟩⟩
    have hc5 := cell_kept hr1.cell (grownBy_putObj' _ D (.deferred none)) (fun r e => by cases e; exact ⟨_, hK, rfl⟩)
    refine ⟨.bool true, ?_, by rw [decide_eq_true ((show pre <+: nearL W H a from hpre).subset hin)], hB.trans (belowK_b (w := w) (Nat.le_refl _) X D _ _ (by simp at hD; omega) hK rfl rfl)⟩
    simp [results, Try.f13, go_sem, hc5]

/-- What Near hands back is not nil. -/
theorem nearF_nil (B C : Nat) (w : World) : (binOp BinOp.eql 29 (nearF B C) Value.nilFunc).run Try.prog w = .ok (.bool false) w := by kernel_rfl
/-- Near, its world kept out of sight. -/
theorem near_ab (W H c : Int) (w : World) : Calls Try.prog 11 #[sz W H, .int .i64 c] w fun e w' => ∃ B C, e = .returned (nearF B C) ∧ Has2 B C W H c w' ∧ w.heap.size ≤ B ∧ w.heap.size ≤ C ∧ Below w.heap.size w w' := by
  refine (near_any W H c w).mono ?_
  rintro e w' ⟨rfl, rfl⟩
  exact ⟨_, _, rfl, has2_new w W H c, Nat.le_refl _, by omega, ((Below.refl _ w).alloc (Nat.le_refl _) _).alloc (by simp) _⟩

end Go.Proofs.Ytdmdoddlhjkkiaa
