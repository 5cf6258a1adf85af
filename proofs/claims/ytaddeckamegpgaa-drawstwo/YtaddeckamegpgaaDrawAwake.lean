/- The document's Draw; the law's awake. -/
import Derived.Test.YtaddeckamegpgaaDrawNew
namespace Go.Proofs.Ytaddeckamegpgaa
open Go.RowKit
set_option linter.unusedVariables false

/-- Draw of any list is the number that draws of it draw. -/
theorem draw_any (ao : Option Addr) (n cap : Nat) (xs : List Int) (i : Nat) (w : World) (hn : xs.length = n) (hnb : n < 9223372036854775807) (hk : UAt w ao xs) (hw : Wu xs) (hi : i < 9223372036854775807) :
    Calls Try.prog 12 #[.slice ao n cap, .int .i64 i] w fun e w' => e = .returned (.int .u32 (drawN xs i)) ∧ w' = w := by
  subst hn
  by_cases h : i < xs.length
  · rcases hk with rfl | ⟨b, off, rfl, hk⟩
    · simp at h
    · exact draw_in b off xs.length cap i (lAt xs i) w (by omega) hnb (by omega) (by simpa using hk i h) (hw.at i).1 (hw.at i).2
  · unfold drawN
    rw [lAt_out (by omega)]
    exact draw_out ao xs.length cap i w (by omega) (by omega) (by omega)

theorem one_at {W : World} {g : Nat} {x : Int} (h : Blk W g 30 #[.int .u32 x]) : UAt W (some ⟨g, 0, none⟩) [x] :=
  .inr ⟨g, 0, rfl, fun i hi => by obtain rfl : i = 0 := (by simpa using hi); exact h.cell1⟩

set_option maxHeartbeats 800000 in
theorem dawake_any (w : World) : Calls Try.prog 9 #[] w fun e w' => e = .returned (.bool true) ∧ Below w.heap.size w w' := by
  have HW : Hid (Wu [7]) := fun x hx => by simp at hx; omega
  go_enter Try.func9, Try.ntmps9
  go_wp2_with fail
  refine (dnew_yes _ 1 1 [7] _ rfl (one_at (Blk.new w _ _)) HW.out (by omega)).mono ?_
  rintro e w1 ⟨B, G, rfl, hB, hG, hD, hb⟩
  simp at hB hG
  have hb1 := below_step ((Below.refl w.heap.size w).alloc (Nat.le_refl _) _) hb (Nat.le_refl _)
  have HD : Hid (Drw w1 B G [7] 0) := hD
  clear hD hb
  go_wp2_with fail
  refine (next_any HD.out (by omega)).mono ?_
  rintro e w2 ⟨rfl, hD, hu⟩
  have hb2 := hb1.trans ((hu.mono hb1.size).below (by omega))
  have HD2 : Hid (Drw w2 B G [7] 1) := hD
  clear HD hD hu hb1
  go_wp2_with fail
  refine (next_any HD2.out (by omega)).mono ?_
  rintro e w3 ⟨rfl, hD, hu⟩
  have hb3 := hb2.trans ((hu.mono hb2.size).below (by omega))
  have HD3 : Hid (Drw w3 B G [7] 2) := hD
  clear HD2 hD hu hb2
  go_wp2_with fail
  refine (draw_any _ 1 1 [7] 0 _ rfl (by omega) (one_at (Blk.new w3 _ _)) HW.out (by omega)).mono ?_
  rintro e w4 ⟨rfl, rfl⟩
  generalize drawN [7] 0 = d0
  go_wp2_with fail
  have hu5 : UAt ((w3.alloc (.cells #[.int .u32 7] 30)).alloc (.cells #[.int .u32 7] 30)) (some ⟨w3.heap.size + 1, 0, none⟩) [7] := by
    have := one_at (Blk.new (w3.alloc (.cells #[.int .u32 7] 30)) _ #[.int .u32 7])
    simpa using this
  refine (draw_any _ 1 1 [7] 1 _ rfl (by omega) hu5 HW.out (by omega)).mono ?_
  rintro e w5 ⟨rfl, rfl⟩
  generalize drawN [7] 1 = d1
  have hb5 := below_new (below_new hb3 (Nat.le_refl _) (.cells #[.int .u32 7] 30)) (Nat.le_refl _) (.cells #[.int .u32 7] 30)
  have HD5 : Hid (Drw ((w3.alloc (.cells #[.int .u32 7] 30)).alloc (.cells #[.int .u32 7] 30)) B G [7] 2) := HD3.out.below (((Below.refl _ _).alloc (Nat.le_refl _) _).alloc (by simp) _)
  go_wp2_with fail
  refine (dlen_any HD5.out).mono ?_
  rintro e w6 ⟨rfl, rfl⟩
  go_wp2
  go_ret
  exact ⟨rfl, hb5⟩
end Go.Proofs.Ytaddeckamegpgaa
