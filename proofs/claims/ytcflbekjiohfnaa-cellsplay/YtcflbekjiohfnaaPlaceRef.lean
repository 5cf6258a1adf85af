/- Contracts of the document's own answers for layer 1 (tidewalkref01): Cells, At, Away, Near. -/
import Derived.Test.YtcflbekjiohfnaaKit
import Derived.Test.YtcflbekjiohfnaaPlaceCore
import Derived.Test.YtcflbekjiohfnaaPlacePlainFour
import Derived.Maps.AppendAt
namespace Go.Proofs.Ytcflbekjiohfnaa.Pl
open Go.RowKit

theorem Try.info3 : (Try.prog.info? 3).map (fun i => (i.zero, i.size, i.bytes)) = some (some (.int .i64 0), 1, 8) := by kernel_rfl

theorem below_append {n base : Nat} {a w w1 : World} {ty size k : Nat} {v : Value} {xs : List Value} (hB : Below n a w) (hn : n ≤ w.heap.size) (hb : n ≤ base) (hown : w.ownsRow base ty size v k xs) (hg : w.grownBy w1 v.ownBlock) : Below n a w1 :=
  hB.grown hg hn (fun j ej => by
    rcases hown.2 with ⟨rfl, _⟩ | ⟨g, cap, cur, rfl, hle, _⟩
    · simp [Value.ownBlock] at ej
    · simp [Value.ownBlock] at ej; omega)
theorem _root_.Go.Proofs.Ytcflbekjiohfnaa.Blk.laidOn {base B : Nat} {w w1 : World} {ty size k : Nat} {v : Value} {xs : List Value} {t : TypeId} {cs : Array Value} (h : Blk w B t cs) (hB : B < base) (hown : w.ownsRow base ty size v k xs) (hg : w.grownBy w1 v.ownBlock) : Blk w1 B t cs :=
  h.kept hg (fun ej => by
    rcases hown.2 with ⟨rfl, _⟩ | ⟨g, cap, cur, rfl, hle, _⟩
    · simp [Value.ownBlock] at ej
    · simp [Value.ownBlock] at ej; omega)

set_option maxHeartbeats 1000000 in
theorem rcells_any (W H : Int) (w : World) : Calls Try.prog 17 #[sz W H] w fun e w' => e = .returned (.int .i64 (cellsN W H)) ∧ Below w.heap.size w w' := by
  have no : rt W H = false → cellsN W H = 0 := fun h => by unfold cellsN; rw [h]; rfl
  have yes : rt W H = true → cellsN W H = W * H := fun h => by unfold cellsN; rw [h]; rfl
  by_cases h1 : W < 1
  · rw [no (by cases hr : rt W H with | false => rfl | true => have := rt_iff.1 hr; omega)]
    clear no yes
    go_enter Try.func17, Try.ntmps17
    go_wp2
    go_ret
    exact ⟨rfl, (Below.refl _ _).alloc (Nat.le_refl _) _⟩
  have d1 : decide (W < 1) = false := by simpa using h1
  by_cases h2 : H < 1
  · rw [no (by cases hr : rt W H with | false => rfl | true => have := rt_iff.1 hr; omega)]
    clear no yes
    go_enter Try.func17, Try.ntmps17
    go_wp2
    go_ret
    exact ⟨rfl, (Below.refl _ _).alloc (Nat.le_refl _) _⟩
  have d2 : decide (H < 1) = false := by simpa using h2
  by_cases h3 : 4096 < W
  · rw [no (by cases hr : rt W H with | false => rfl | true => have := rt_iff.1 hr; omega)]
    clear no yes
    go_enter Try.func17, Try.ntmps17
    go_wp2
    go_ret
    exact ⟨rfl, (Below.refl _ _).alloc (Nat.le_refl _) _⟩
  have d3 : decide (4096 < W) = false := by simpa using h3
  by_cases h4 : 4096 < H
  · rw [no (by cases hr : rt W H with | false => rfl | true => have := rt_iff.1 hr; omega)]
    clear no yes
    go_enter Try.func17, Try.ntmps17
    go_wp2
    go_ret
    exact ⟨rfl, (Below.refl _ _).alloc (Nat.le_refl _) _⟩
  have d4 : decide (4096 < H) = false := by simpa using h4
  have hm := mul_bd (by omega : 1 ≤ W) (by omega) (by omega : 1 ≤ H) (by omega)
  by_cases h5 : 4194304 < W * H
  · rw [no (by cases hr : rt W H with | false => rfl | true => have := rt_iff.1 hr; omega)]
    clear no yes
    go_enter Try.func17, Try.ntmps17
    go_wp2
    go_ret
    exact ⟨rfl, (Below.refl _ _).alloc (Nat.le_refl _) _⟩
  have d5 : decide (4194304 < W * H) = false := by simpa using h5
  rw [yes (rt_iff.2 ⟨by omega, by omega, by omega, by omega, by omega⟩)]
  clear no yes
  go_enter Try.func17, Try.ntmps17
  go_wp2
  go_ret
  exact ⟨rfl, (Below.refl _ _).alloc (Nat.le_refl _) _⟩

theorem rcells_as {W H N : Int} (w : World) (h : cellsN W H = N) : Calls Try.prog 17 #[sz W H] w fun e w' => e = .returned (.int .i64 N) ∧ Below w.heap.size w w' := by
  rw [← h]; exact rcells_any W H w

set_option maxHeartbeats 1000000 in
theorem rat_no (W H c : Int) (w : World) (h : inB W H c = false) : Calls Try.prog 58 #[sz W H, .int .i64 c] w fun e w' => e = .returned (.tuple #[.int .i64 0, .int .i64 0, .bool false]) ∧ Below w.heap.size w w' := by
  by_cases h1 : c < 0
  · clear h
    go_enter Try.func58, Try.ntmps58
    go_wp2
    go_ret3
    exact ⟨rfl, (Below.refl _ _).alloc (Nat.le_refl _) _⟩
  · have d1 : decide (c < 0) = false := by simpa using h1
    obtain ⟨N, hN⟩ : ∃ N, cellsN W H = N := ⟨_, rfl⟩
    have h2 : N ≤ c := by
      by_cases h3 : c < N
      · have : inB W H c = true := by unfold inB; rw [hN]; exact blw_iff.2 ⟨by omega, h3⟩
        rw [this] at h; cases h
      · omega
    have HN : Hid (cellsN W H = N) := hN; clear hN h
    go_enter Try.func58, Try.ntmps58
    go_wp2_with fail
    refine (rcells_as _ HN.out).mono ?_
    rintro e w1 ⟨rfl, hb⟩
    go_wp2
    go_ret3
    exact ⟨rfl, ((Below.refl _ _).alloc (Nat.le_refl _) _).trans (hb.mono (by simp))⟩

set_option maxHeartbeats 1000000 in
theorem rat_yes (W H c : Int) (w : World) (h : inB W H c = true) : Calls Try.prog 58 #[sz W H, .int .i64 c] w fun e w' => e = .returned (.tuple #[.int .i64 (c % W), .int .i64 (c / W), .bool true]) ∧ Below w.heap.size w w' := by
  obtain ⟨a1, a2, a3, a4, a5, a6, a7, a8, a9, a10, a11⟩ := at_bd h
  have d1 : decide (c < 0) = false := by simp; omega
  have hN : cellsN W H = W * H := by unfold cellsN; rw [(inB_iff.1 h).1]; rfl
  have hlt := (inB_iff.1 h).2.2
  have hm := mul_bd a1 a2 a3 a4
  have d2 : decide (W * H ≤ c) = false := by simp; omega
  have HX : Hid (c - c / W * W = c % W) := by show _ = _; omega
  have b1 : 0 ≤ c / W * W := Int.mul_nonneg a9 (by omega)
  have b2 : c / W * W ≤ c := by omega
  have HN : Hid (cellsN W H = W * H) := hN
  clear hN h a11
  go_enter Try.func58, Try.ntmps58
  go_wp2_with fail
  refine (rcells_as _ HN.out).mono ?_
  rintro e w1 ⟨rfl, hb⟩
  obtain ⟨hc, hf⟩ := bcell hb
  go_wp2
  go_quiet (fail)
  go_wp2
  go_ret3
  exact ⟨ret_of (by rw [← HX.out]; rfl), below_drewN (((Below.refl _ _).alloc (Nat.le_refl _) _).trans (hb.mono (by simp))) _⟩

/-- What a list of ints is in memory. -/
abbrev intsV (l : List Int) : List Value := l.map (Value.int .i64)

end Go.Proofs.Ytcflbekjiohfnaa.Pl
