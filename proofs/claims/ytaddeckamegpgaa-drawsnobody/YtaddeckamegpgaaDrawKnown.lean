/- The walks of DrawsKnown and DrawsNobody. -/
import Derived.Test.YtaddeckamegpgaaDrawAwake
import Derived.Laws.MakeOwn
namespace Go.Proofs.Ytaddeckamegpgaa
open Go.RowKit
set_option linter.unusedVariables false

def uRow (xs : List Int) : Array Value := (us xs).toArray
theorem made_cells (z : Value) (n : Nat) : madeCells #[z] n = Array.replicate n z := by
  apply Array.ext
  · simp [madeCells]
  · intro i h1 h2
    simp [madeCells, Nat.mod_one]
/-- make([]uint32, n). -/
theorem make_u32 (m : Nat) (hm : m ≤ 4194304) (w : World) : (Instr.makeSlice 26 (.int .i64 m) (.int .i64 m)).run Try.prog w = .ok (.slice (some ⟨w.heap.size, 0, none⟩) m m) (w.alloc (.cells (uRow (List.replicate m 0)) 30)) := by
  obtain ⟨i0, hi, hz0, hz1, hz2⟩ := info_parts Try.infoW
  have h := run_make (P := Try.prog) w 26 30 i0 (.int .u32 0) Try.underlying26 hi hz0 .i64 .i64 m m (by omega) (by omega) (by rw [hz2]; omega) (by omega)
  rw [h, hz1]
  simp only [Int.toNat_natCast, Nat.mul_one]
  rw [show uRow (List.replicate m 0) = Array.replicate m (Value.int .u32 0) from by unfold uRow us; rw [List.map_replicate, List.toArray_replicate], ← made_cells]
  rfl
theorem uRow_at {W : World} {g : Nat} {xs : List Int} (h : Blk W g 30 (uRow xs)) : UAt W (some ⟨g, 0, none⟩) xs :=
  .inr ⟨g, 0, rfl, fun i hi => by rw [Nat.zero_add]; exact h.at (by unfold uRow; rw [List.getElem?_toArray]; exact us_at hi)⟩

set_option maxHeartbeats 800000 in
theorem dknown_walk (w : World) : Calls Try.prog 3 #[] w fun e w' => e = .returned (.bool true) ∧ Below w.heap.size w w' := by
  have h1 := fun w => make_u32 4097 (by omega) w
  have h2 := fun w => make_u32 4096 (by omega) w
  have HW : Hid (Wu (List.replicate 4096 0)) := fun x hx => by rw [List.eq_of_mem_replicate hx]; omega
  have HN : Hid ((List.replicate 4096 (0 : Int)).length = 4096) := List.length_replicate
  generalize List.replicate 4097 (0 : Int) = L1 at *
  generalize List.replicate 4096 (0 : Int) = L2 at *
  rw [show ((4097 : Nat) : Int) = 4097 from rfl] at h1
  rw [show ((4096 : Nat) : Int) = 4096 from rfl] at h2
  go_enter Try.func3, Try.ntmps3
  go_wp2_with fail
  refine (dnew_no _ 4097 4097 _ (by omega) (by omega)).mono ?_
  rintro e w1 ⟨rfl, rfl⟩
  have hb1 := (Below.refl w.heap.size w).alloc (Nat.le_refl _) (.cells (uRow L1) 30)
  generalize w.alloc (.cells (uRow L1) 30) = w1 at *
  go_wp2_with fail
  have hb2 := below_new hb1 (Nat.le_refl _) (.cells (uRow L2) 30)
  refine (dnew_yes _ 4096 4096 L2 _ HN.out (uRow_at (Blk.new w1 _ _)) HW.out (by omega)).mono ?_
  rintro e w2 ⟨B, G, rfl, hB, hG, hD, hb⟩
  have hb3 := below_step hb2 hb (Nat.le_refl _)
  have HD : Hid (Drw w2 B G L2 0) := hD
  clear hD hb hB hG
  go_wp2_with fail
  refine (dawake_any _).mono ?_
  rintro e w3 ⟨rfl, hb⟩
  have hb4 := below_step hb3 hb (Nat.le_refl _)
  have HD3 : Hid (Drw w3 B G L2 0) := HD.out.below hb
  clear hb HD
  go_wp2_with fail
  refine (dlen_any HD3.out).mono ?_
  rintro e w6 ⟨rfl, rfl⟩
  go_wp2
  go_ret
  exact ⟨rfl, hb4⟩

set_option maxHeartbeats 800000 in
theorem dnobody_walk (n : Int) (w : World) (hn : 0 ≤ n ∧ n ≤ 65535) : Calls Try.prog 5 #[.int .u16 n] w fun e w' => e = .returned (.bool true) ∧ Below w.heap.size w w' := by
  go_enter Try.func5, Try.ntmps5
  go_wp2_with fail
  refine (dawake_any _).mono ?_
  rintro e w1 ⟨rfl, hb1⟩
  have hs1 := hb1.size
  go_wp2
  have hbN := below_new hb1 (Nat.le_refl _) (.cells #[.slice none 0 0, .int .i64 0] 35)
  have HD : Hid (Drw (w1.alloc (.cells #[.slice none 0 0, .int .i64 0] 35)) w1.heap.size w1.heap.size [] 0) := ⟨⟨none, 0, Blk.new w1 _ _, .inl rfl⟩, fun x hx => (by cases hx), by simp, by simp⟩
  have HW : Hid (Wu []) := fun x hx => (by cases hx)
  go_loopw [5] (fun i wr => ∃ k : Nat, (k : Int) ≤ n % 300 ∧ i = .int .i64 k ∧ Hid (Drw wr w1.heap.size w1.heap.size [] k) ∧ Below w.heap.size w wr) (fun i _ => (n % 300).toNat - (intOf i).toNat)
  case atStart => exact ⟨0, by omega, rfl, HD, hbN⟩
  case round =>
    clear HD hbN
    obtain ⟨k, hk, rfl, HD, hB⟩ := hrel
    by_cases hlt : (k : Int) < n % 300
    · go_wp2_with fail
      refine (next_nil _).mono ?_
      rintro e w2 ⟨rfl, rfl⟩
      go_wp2_with fail
      refine (next_any HD.out (by omega)).mono ?_
      rintro e w3 ⟨rfl, hD, hu⟩
      have HD3 : Hid (Drw w3 w1.heap.size w1.heap.size [] (k + 1)) := hD
      have hB3 := hB.trans ((hu.mono hB.size).below hs1)
      clear hD hu HD hB
      go_wp2_with fail
      refine (draw_any none 0 0 [] k _ rfl (by omega) (.inl rfl) HW.out (by omega)).mono ?_
      rintro e w4 ⟨rfl, rfl⟩
      generalize drawN [] k = d
      go_wp2
      go_roundw
      case rel => exact ⟨k + 1, by omega, by go_num, HD3, hB3⟩
      case measure => simp [intOf]; omega
    · have hke : (k : Int) = n % 300 := by omega
      have hke' : ((k : Int) == n % 300) = true := by simpa using hke
      clear hke
      go_wp2_with fail
      refine (dlen_nil _).mono ?_
      rintro e w2 ⟨rfl, rfl⟩
      go_wp2_with fail
      refine (dlen_any HD.out).mono ?_
      rintro e w2 ⟨rfl, rfl⟩
      go_wp2
      go_ret
      exact ⟨rfl, hB⟩
end Go.Proofs.Ytaddeckamegpgaa
