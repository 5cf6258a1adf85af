/- Contracts of the statements' own helpers example and awake. -/
import Derived.Test.YtdeoajoekilegabTerrMeth
namespace Go.Proofs.Ytdeoajoekilegab
open Go.RowKit
set_option linter.unusedVariables false

def exL : List Kd := [(1, 3), (5, 2), (9, 0)]
theorem exL_wk : Wk exL := by intro x hx; simp only [exL, List.mem_cons, List.not_mem_nil, or_false] at hx; rcases hx with rfl | rfl | rfl <;> decide

set_option maxHeartbeats 400000 in
theorem example_any (w : World) : Calls Try.prog 9 #[] w fun e w' => e = .returned (.slice (some ⟨w.heap.size, 0, none⟩) exL.length 3) ∧
    w' = w.alloc (.cells #[.int .i64 1, .int .u8 3, .int .i64 5, .int .u8 2, .int .i64 9, .int .u8 0] 25) := by
  go_enter Try.func9, Try.ntmps9
  go_wp2
  go_ret
  exact ⟨rfl, rfl⟩
theorem example_at (w : World) : ∀ i, i < exL.length → (w.alloc (.cells #[.int .i64 1, .int .u8 3, .int .i64 5, .int .u8 2, .int .i64 9, .int .u8 0] 25)).cell? ⟨w.heap.size, 0 + i * 2, none⟩ = some (.int .i64 (kAt exL i).1) ∧
    (w.alloc (.cells #[.int .i64 1, .int .u8 3, .int .i64 5, .int .u8 2, .int .i64 9, .int .u8 0] 25)).cell? ⟨w.heap.size, 0 + i * 2 + 1, none⟩ = some (.int .u8 (kAt exL i).2) := by
  intro i hi
  have h := Blk.new w 25 #[.int .i64 1, .int .u8 3, .int .i64 5, .int .u8 2, .int .i64 9, .int .u8 0]
  match i, hi with
  | 0, _ | 1, _ | 2, _ => exact ⟨h.at rfl, h.at rfl⟩

set_option maxRecDepth 100000 in
set_option maxHeartbeats 2000000 in
theorem awake_any (w : World) : Calls Try.prog 4 #[] w fun e w' => e = .returned (.bool true) ∧ Below w.heap.size w w' := by
  go_enter Try.func4, Try.ntmps4
  go_wp2_with fail
  refine (example_any _).mono ?_
  rintro e w0 ⟨rfl, rfl⟩
  go_wp2_with fail
  refine (new_yes w.heap.size 0 3 exL 2 _ (example_at w) exL_wk (by decide +kernel)).mono ?_
  rintro e w1 ⟨B, rfl, ht1, hb1⟩
  have hBl : Below w.heap.size w w1 := below_step (below_new (Below.refl _ _) (Nat.le_refl _) _) hb1 (Nat.le_refl _)
  have T1 : Hid (TabV w1 (.pointer (some ⟨B, 0, none⟩)) exL 2) := .inr ⟨_, B, rfl, ht1⟩
  clear ht1 hb1
  go_wp2_with fail
  refine (least_any T1.out 1).mono ?_
  rintro e w2 ⟨rfl, rfl⟩
  rw [show leastN exL 2 1 = 1 from by decide +kernel]
  go_wp2_with fail
  refine (kinds_any T1.out).mono ?_
  rintro e w2 ⟨rfl, rfl⟩
  rw [show exL.length = 3 from rfl]
  go_wp2_with fail
  refine (classes_any T1.out).mono ?_
  rintro e w2 ⟨rfl, rfl⟩
  go_wp2_with fail
  refine (may_any T1.out 0 0).mono ?_
  rintro e w2 ⟨rfl, hb2⟩
  have T2 : Hid (TabV w2 (.pointer (some ⟨B, 0, none⟩)) exL 2) := T1.out.below hb2
  rw [show mayB exL 2 0 0 = true from by decide +kernel]
  go_wp2_with fail
  refine (may_any T2.out 0 1).mono ?_
  rintro e w3 ⟨rfl, hb3⟩
  have T3 : Hid (TabV w3 (.pointer (some ⟨B, 0, none⟩)) exL 2) := T2.out.below hb3
  rw [show mayB exL 2 0 1 = false from by decide +kernel]
  go_wp2_with fail
  refine (cost_any T3.out 1).mono ?_
  rintro e w4 ⟨rfl, rfl⟩
  rw [show costN exL 1 = 5 from by decide +kernel]
  go_wp2_with fail
  refine (all_any T3.out).mono ?_
  rintro e w5 ⟨ao, cap, rfl, _, _, hb5⟩
  rw [show exL.length = 3 from rfl]
  go_wp2
  go_ret
  exact ⟨rfl, below_step (below_step (below_step hBl hb2 (Nat.le_refl _)) hb3 (Nat.le_refl _)) hb5 (Nat.le_refl _)⟩

end Go.Proofs.Ytdeoajoekilegab
