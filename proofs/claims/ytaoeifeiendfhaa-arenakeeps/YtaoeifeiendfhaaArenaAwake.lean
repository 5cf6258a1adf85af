/- The law's awake. -/
import Derived.Test.YtaoeifeiendfhaaArenaStr
namespace Go.Proofs.Ytaoeifeiendfhaa
open Go.RowKit
set_option linter.unusedVariables false

set_option maxRecDepth 100000 in
set_option maxHeartbeats 1600000 in
theorem aawake_any (w : World) : Calls Try.prog 9 #[] w fun e w' => e = .returned (.bool true) ∧ Below w.heap.size w w' := by
  go_enter Try.func9, Try.ntmps9
  go_wp2_with fail
  refine (AS.new_any w).mono ?_
  rintro e w1 ⟨rfl, hA, hb1⟩
  obtain ⟨B, hB⟩ : ∃ B, B = w.heap.size := ⟨_, rfl⟩
  have hBw : w.heap.size ≤ B := by omega
  rw [← hB] at hA ⊢
  clear hB
  have hF : ∀ k, (fun k => k = B) k → w.heap.size ≤ k := fun k hk => by cases hk; exact hBw
  have A1 : Hid (AS.Ar w1 (fun k => k = B) B 0 [] []) := hA
  clear hA
  go_wp2_with fail
  refine (AS.take_new ⟨#[97]⟩ A1.out (by simp)).mono ?_
  rintro e w2 ⟨F2, G2, rfl, hA, hS2⟩
  have A2 : Hid (AS.Ar w2 F2 B G2 [([.string ⟨#[97]⟩], true)] []) := hA
  clear hA A1
  go_wp2_with fail
  refine (AS.take_new ⟨#[98]⟩ A2.out (by simp)).mono ?_
  rintro e w3 ⟨F3, G3, rfl, hA, hS⟩
  have hS3 := hS2.trans hS
  have A3 : Hid (AS.Ar w3 F3 B G3 [([.string ⟨#[97]⟩], true), ([.string ⟨#[98]⟩], true)] []) := hA
  clear hA hS hS2 A2
  go_wp2_with fail
  refine (AS.free_at A3.out 1 rfl (by simp) (by simp)).mono ?_
  rintro e w4 ⟨F4, rfl, hA, hS⟩
  have hS4 := hS3.trans hS
  have A4 : Hid (AS.Ar w4 F4 B G3 [([.string ⟨#[]⟩], false), ([.string ⟨#[98]⟩], true)] ([] ++ [1])) := hA
  clear hA hS hS3 A3
  go_wp2_with fail
  refine (AS.take_old ⟨#[99]⟩ A4.out (by simp) (by simp)).mono ?_
  rintro e w5 ⟨F5, G5, rfl, hA, hS⟩
  have hS5 := hS4.trans hS
  have A5 : Hid (AS.Ar w5 F5 B G5 [([.string ⟨#[99]⟩], true), ([.string ⟨#[98]⟩], true)] []) := hA
  clear hA hS hS4 A4
  go_wp2_with fail
  refine (AS.at_at A5.out 1 rfl (by simp)).mono ?_
  rintro e w6 ⟨rfl, rfl⟩
  have c0 : w6.cell? ⟨G5, 0, none⟩ = some (.string ⟨#[99]⟩) := by simpa using (A5.out.slot (k := 0) rfl).2.2.1 0 _ rfl
  rw [show ((1 : Int) - 1).toNat * 2 = 0 from rfl]
  go_wp2_with fail
  refine (AS.len_any A5.out (by simp) (by simp)).mono ?_
  rintro e w7 ⟨rfl, nq, rfl⟩
  have A7 : Hid (AS.Ar (w6.drewN nq) F5 B G5 [([.string ⟨#[99]⟩], true), ([.string ⟨#[98]⟩], true)] []) := A5.out.drewN nq
  have hb7 := (hS5.drewN nq).start hb1 (Nat.le_refl _) hF
  go_wp2_with fail
  refine (AS.slots_any A7.out).mono ?_
  rintro e w8 ⟨rfl, rfl⟩
  go_wp2
  go_ret
  exact ⟨rfl, hb7⟩
end Go.Proofs.Ytaoeifeiendfhaa
