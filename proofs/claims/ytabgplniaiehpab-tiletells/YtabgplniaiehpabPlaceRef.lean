/- Contracts of the document's own answers for layer 1 (tidewalkref01): Cells, At, Away, Near. -/
import Derived.Test.YtabgplniaiehpabKit
import Derived.Test.YtabgplniaiehpabPlaceCore
import Derived.Test.YtabgplniaiehpabPlacePlainFour
import Derived.Maps.AppendAt
namespace Go.Proofs.Ytabgplniaiehpab.Pl
open Go.RowKit

theorem Try.info3 : (Try.prog.info? 3).map (fun i => (i.zero, i.size, i.bytes)) = some (some (.int .i64 0), 1, 8) := by kernel_rfl

theorem below_append {n base : Nat} {a w w1 : World} {ty size k : Nat} {v : Value} {xs : List Value} (hB : Below n a w) (hn : n ≤ w.heap.size) (hb : n ≤ base) (hown : w.ownsRow base ty size v k xs) (hg : w.grownBy w1 v.ownBlock) : Below n a w1 :=
  hB.grown hg hn (fun j ej => by
    rcases hown.2 with ⟨rfl, _⟩ | ⟨g, cap, cur, rfl, hle, _⟩
    · simp [Value.ownBlock] at ej
    · simp [Value.ownBlock] at ej; omega)
theorem _root_.Go.Proofs.Ytabgplniaiehpab.Blk.laidOn {base B : Nat} {w w1 : World} {ty size k : Nat} {v : Value} {xs : List Value} {t : TypeId} {cs : Array Value} (h : Blk w B t cs) (hB : B < base) (hown : w.ownsRow base ty size v k xs) (hg : w.grownBy w1 v.ownBlock) : Blk w1 B t cs :=
  h.kept hg (fun ej => by
    rcases hown.2 with ⟨rfl, _⟩ | ⟨g, cap, cur, rfl, hle, _⟩
    · simp [Value.ownBlock] at ej
    · simp [Value.ownBlock] at ej; omega)

set_option maxHeartbeats 1000000 in
theorem rcells_any (W H : Int) (w : World) : Calls Try.prog 9 #[sz W H] w fun e w' => e = .returned (.int .i64 (cellsN W H)) ∧ Below w.heap.size w w' := by
  have no : rt W H = false → cellsN W H = 0 := fun h => by unfold cellsN; rw [h]; rfl
  have yes : rt W H = true → cellsN W H = W * H := fun h => by unfold cellsN; rw [h]; rfl
  by_cases h1 : W < 1
  · rw [no (by cases hr : rt W H with | false => rfl | true => have := rt_iff.1 hr; omega)]
    clear no yes
    go_enter Try.func9, Try.ntmps9
    go_wp2
    go_ret
    exact ⟨rfl, (Below.refl _ _).alloc (Nat.le_refl _) _⟩
  have d1 : decide (W < 1) = false := by simpa using h1
  by_cases h2 : H < 1
  · rw [no (by cases hr : rt W H with | false => rfl | true => have := rt_iff.1 hr; omega)]
    clear no yes
    go_enter Try.func9, Try.ntmps9
    go_wp2
    go_ret
    exact ⟨rfl, (Below.refl _ _).alloc (Nat.le_refl _) _⟩
  have d2 : decide (H < 1) = false := by simpa using h2
  by_cases h3 : 4096 < W
  · rw [no (by cases hr : rt W H with | false => rfl | true => have := rt_iff.1 hr; omega)]
    clear no yes
    go_enter Try.func9, Try.ntmps9
    go_wp2
    go_ret
    exact ⟨rfl, (Below.refl _ _).alloc (Nat.le_refl _) _⟩
  have d3 : decide (4096 < W) = false := by simpa using h3
  by_cases h4 : 4096 < H
  · rw [no (by cases hr : rt W H with | false => rfl | true => have := rt_iff.1 hr; omega)]
    clear no yes
    go_enter Try.func9, Try.ntmps9
    go_wp2
    go_ret
    exact ⟨rfl, (Below.refl _ _).alloc (Nat.le_refl _) _⟩
  have d4 : decide (4096 < H) = false := by simpa using h4
  have hm := mul_bd (by omega : 1 ≤ W) (by omega) (by omega : 1 ≤ H) (by omega)
  by_cases h5 : 4194304 < W * H
  · rw [no (by cases hr : rt W H with | false => rfl | true => have := rt_iff.1 hr; omega)]
    clear no yes
    go_enter Try.func9, Try.ntmps9
    go_wp2
    go_ret
    exact ⟨rfl, (Below.refl _ _).alloc (Nat.le_refl _) _⟩
  have d5 : decide (4194304 < W * H) = false := by simpa using h5
  rw [yes (rt_iff.2 ⟨by omega, by omega, by omega, by omega, by omega⟩)]
  clear no yes
  go_enter Try.func9, Try.ntmps9
  go_wp2
  go_ret
  exact ⟨rfl, (Below.refl _ _).alloc (Nat.le_refl _) _⟩

theorem rcells_as {W H N : Int} (w : World) (h : cellsN W H = N) : Calls Try.prog 9 #[sz W H] w fun e w' => e = .returned (.int .i64 N) ∧ Below w.heap.size w w' := by
  rw [← h]; exact rcells_any W H w

set_option maxHeartbeats 1000000 in
theorem rat_no (W H c : Int) (w : World) (h : inB W H c = false) : Calls Try.prog 19 #[sz W H, .int .i64 c] w fun e w' => e = .returned (.tuple #[.int .i64 0, .int .i64 0, .bool false]) ∧ Below w.heap.size w w' := by
  by_cases h1 : c < 0
  · clear h
    go_enter Try.func19, Try.ntmps19
    go_wp2
    go_ret3
    exact ⟨rfl, (Below.refl _ _).alloc (Nat.le_refl _) _⟩
  · have d1 : decide (c < 0) = false := by simpa using h1
    obtain ⟨N, hN⟩ : ∃ N, cellsN W H = N := ⟨_, rfl⟩
    have h2 : N ≤ c := by
      by_cases h3 : c < N
      · have : inB W H c = true := by unfold inB; rw [hN]; exact blw_iff.2 ⟨by omega, h3⟩
        rw [this] at h; cases h
      · omega
    have HN : Hid (cellsN W H = N) := hN; clear hN h
    go_enter Try.func19, Try.ntmps19
    go_wp2_with fail
    refine (rcells_as _ HN.out).mono ?_
    rintro e w1 ⟨rfl, hb⟩
    go_wp2
    go_ret3
    exact ⟨rfl, ((Below.refl _ _).alloc (Nat.le_refl _) _).trans (hb.mono (by simp))⟩

set_option maxHeartbeats 1000000 in
theorem rat_yes (W H c : Int) (w : World) (h : inB W H c = true) : Calls Try.prog 19 #[sz W H, .int .i64 c] w fun e w' => e = .returned (.tuple #[.int .i64 (c % W), .int .i64 (c / W), .bool true]) ∧ Below w.heap.size w w' := by
  obtain ⟨a1, a2, a3, a4, a5, a6, a7, a8, a9, a10, a11⟩ := at_bd h
  have d1 : decide (c < 0) = false := by simp; omega
  have hN : cellsN W H = W * H := by unfold cellsN; rw [(inB_iff.1 h).1]; rfl
  have hlt := (inB_iff.1 h).2.2
  have hm := mul_bd a1 a2 a3 a4
  have d2 : decide (W * H ≤ c) = false := by simp; omega
  have HX : Hid (c - c / W * W = c % W) := by show _ = _; omega
  have b1 : 0 ≤ c / W * W := Int.mul_nonneg a9 (by omega)
  have b2 : c / W * W ≤ c := by omega
  have HN : Hid (cellsN W H = W * H) := hN
  clear hN h a11
  go_enter Try.func19, Try.ntmps19
  go_wp2_with fail
  refine (rcells_as _ HN.out).mono ?_
  rintro e w1 ⟨rfl, hb⟩
  obtain ⟨hc, hf⟩ := bcell hb
  go_wp2
  go_quiet (fail)
  go_wp2
  go_ret3
  exact ⟨ret_of (by rw [← HX.out]; rfl), below_drewN (((Below.refl _ _).alloc (Nat.le_refl _) _).trans (hb.mono (by simp))) _⟩

set_option maxHeartbeats 1000000 in
theorem raway_ff (W H a b : Int) (w : World) (ha : inB W H a = false) (hb : inB W H b = false) : Calls Try.prog 30 #[sz W H, .int .i64 a, .int .i64 b] w fun e w' => e = .returned (.int .i64 (awayN W H a b)) ∧ Below w.heap.size w w' := by
  rw [away_no1 ha]
  have HA : Hid (inB W H a = false) := ha; clear ha
  have HB : Hid (inB W H b = false) := hb; clear hb
  go_enter Try.func30, Try.ntmps30
  go_wp2_with fail
  refine (rat_no _ _ _ _ HA.out).mono ?_
  rintro e w1 ⟨rfl, hb1⟩
  obtain ⟨hc, hf⟩ := bcell hb1
  go_wp2_with fail
  refine (rat_no _ _ _ _ HB.out).mono ?_
  rintro e w2 ⟨rfl, hb2⟩
  go_wp2
  go_ret
  exact ⟨rfl, (((Below.refl _ _).alloc (Nat.le_refl _) _).trans (hb1.mono (by simp))).trans (hb2.mono (by have := hb1.size; simp at this; omega))⟩

set_option maxHeartbeats 1000000 in
theorem raway_ft (W H a b : Int) (w : World) (ha : inB W H a = false) (hb : inB W H b = true) : Calls Try.prog 30 #[sz W H, .int .i64 a, .int .i64 b] w fun e w' => e = .returned (.int .i64 (awayN W H a b)) ∧ Below w.heap.size w w' := by
  rw [away_no1 ha]
  have HA : Hid (inB W H a = false) := ha; clear ha
  have HB : Hid (inB W H b = true) := hb; clear hb
  go_enter Try.func30, Try.ntmps30
  go_wp2_with fail
  refine (rat_no _ _ _ _ HA.out).mono ?_
  rintro e w1 ⟨rfl, hb1⟩
  obtain ⟨hc, hf⟩ := bcell hb1
  go_wp2_with fail
  refine (rat_yes _ _ _ _ HB.out).mono ?_
  rintro e w2 ⟨rfl, hb2⟩
  go_wp2
  go_ret
  exact ⟨rfl, (((Below.refl _ _).alloc (Nat.le_refl _) _).trans (hb1.mono (by simp))).trans (hb2.mono (by have := hb1.size; simp at this; omega))⟩

set_option maxHeartbeats 1000000 in
theorem raway_tf (W H a b : Int) (w : World) (ha : inB W H a = true) (hb : inB W H b = false) : Calls Try.prog 30 #[sz W H, .int .i64 a, .int .i64 b] w fun e w' => e = .returned (.int .i64 (awayN W H a b)) ∧ Below w.heap.size w w' := by
  rw [away_no2 hb]
  have HA : Hid (inB W H a = true) := ha; clear ha
  have HB : Hid (inB W H b = false) := hb; clear hb
  go_enter Try.func30, Try.ntmps30
  go_wp2_with fail
  refine (rat_yes _ _ _ _ HA.out).mono ?_
  rintro e w1 ⟨rfl, hb1⟩
  obtain ⟨hc, hf⟩ := bcell hb1
  go_wp2_with fail
  refine (rat_no _ _ _ _ HB.out).mono ?_
  rintro e w2 ⟨rfl, hb2⟩
  go_wp2
  go_ret
  exact ⟨rfl, (((Below.refl _ _).alloc (Nat.le_refl _) _).trans (hb1.mono (by simp))).trans (hb2.mono (by have := hb1.size; simp at this; omega))⟩

set_option maxHeartbeats 1000000 in
theorem raway_tt (W H a b : Int) (w : World) (ha : inB W H a = true) (hb : inB W H b = true) : Calls Try.prog 30 #[sz W H, .int .i64 a, .int .i64 b] w fun e w' => e = .returned (.int .i64 (awayN W H a b)) ∧ Below w.heap.size w w' := by
  have hz := away_of ha hb
  rw [hz]
  clear hz
  obtain ⟨a1, a2, a3, a4, _, _, a7, a8, a9, a10, _⟩ := at_bd ha
  obtain ⟨_, _, _, _, _, _, b7, b8, b9, b10, _⟩ := at_bd hb
  have HA : Hid (inB W H a = true) := ha; clear ha
  have HB : Hid (inB W H b = true) := hb; clear hb
  by_cases hx : a % W - b % W < 0
  · by_cases hy : a / W - b / W < 0
    · have px : apartN (a % W) (b % W) = -(a % W - b % W) := by unfold apartN; omega
      have py : apartN (a / W) (b / W) = -(a / W - b / W) := by unfold apartN; omega
      rw [px, py]
      clear px py
      go_enter Try.func30, Try.ntmps30
      go_wp2_with fail
      refine (rat_yes _ _ _ _ HA.out).mono ?_
      rintro e w1 ⟨rfl, hb1⟩
      obtain ⟨hc, hf⟩ := bcell hb1
      go_wp2_with fail
      refine (rat_yes _ _ _ _ HB.out).mono ?_
      rintro e w2 ⟨rfl, hb2⟩
      go_wp2
      go_ret
      exact ⟨rfl, (((Below.refl _ _).alloc (Nat.le_refl _) _).trans (hb1.mono (by simp))).trans (hb2.mono (by have := hb1.size; simp at this; omega))⟩
    · have px : apartN (a % W) (b % W) = -(a % W - b % W) := by unfold apartN; omega
      have py : apartN (a / W) (b / W) = a / W - b / W := by unfold apartN; omega
      rw [px, py]
      clear px py
      go_enter Try.func30, Try.ntmps30
      go_wp2_with fail
      refine (rat_yes _ _ _ _ HA.out).mono ?_
      rintro e w1 ⟨rfl, hb1⟩
      obtain ⟨hc, hf⟩ := bcell hb1
      go_wp2_with fail
      refine (rat_yes _ _ _ _ HB.out).mono ?_
      rintro e w2 ⟨rfl, hb2⟩
      go_wp2
      go_ret
      exact ⟨rfl, (((Below.refl _ _).alloc (Nat.le_refl _) _).trans (hb1.mono (by simp))).trans (hb2.mono (by have := hb1.size; simp at this; omega))⟩
  · by_cases hy : a / W - b / W < 0
    · have px : apartN (a % W) (b % W) = a % W - b % W := by unfold apartN; omega
      have py : apartN (a / W) (b / W) = -(a / W - b / W) := by unfold apartN; omega
      rw [px, py]
      clear px py
      go_enter Try.func30, Try.ntmps30
      go_wp2_with fail
      refine (rat_yes _ _ _ _ HA.out).mono ?_
      rintro e w1 ⟨rfl, hb1⟩
      obtain ⟨hc, hf⟩ := bcell hb1
      go_wp2_with fail
      refine (rat_yes _ _ _ _ HB.out).mono ?_
      rintro e w2 ⟨rfl, hb2⟩
      go_wp2
      go_ret
      exact ⟨rfl, (((Below.refl _ _).alloc (Nat.le_refl _) _).trans (hb1.mono (by simp))).trans (hb2.mono (by have := hb1.size; simp at this; omega))⟩
    · have px : apartN (a % W) (b % W) = a % W - b % W := by unfold apartN; omega
      have py : apartN (a / W) (b / W) = a / W - b / W := by unfold apartN; omega
      rw [px, py]
      clear px py
      go_enter Try.func30, Try.ntmps30
      go_wp2_with fail
      refine (rat_yes _ _ _ _ HA.out).mono ?_
      rintro e w1 ⟨rfl, hb1⟩
      obtain ⟨hc, hf⟩ := bcell hb1
      go_wp2_with fail
      refine (rat_yes _ _ _ _ HB.out).mono ?_
      rintro e w2 ⟨rfl, hb2⟩
      go_wp2
      go_ret
      exact ⟨rfl, (((Below.refl _ _).alloc (Nat.le_refl _) _).trans (hb1.mono (by simp))).trans (hb2.mono (by have := hb1.size; simp at this; omega))⟩

theorem raway_any (W H a b : Int) (w : World) : Calls Try.prog 30 #[sz W H, .int .i64 a, .int .i64 b] w fun e w' => e = .returned (.int .i64 (awayN W H a b)) ∧ Below w.heap.size w w' := by
  cases ha : inB W H a with
  | false =>
    cases hb : inB W H b with
    | false => exact raway_ff W H a b w ha hb
    | true => exact raway_ft W H a b w ha hb
  | true =>
    cases hb : inB W H b with
    | false => exact raway_tf W H a b w ha hb
    | true => exact raway_tt W H a b w ha hb
theorem raway_as {W H a b N : Int} (w : World) (h : awayN W H a b = N) : Calls Try.prog 30 #[sz W H, .int .i64 a, .int .i64 b] w fun e w' => e = .returned (.int .i64 N) ∧ Below w.heap.size w w' := by
  rw [← h]; exact raway_any W H a b w

/-- What a list of ints is in memory. -/
abbrev intsV (l : List Int) : List Value := l.map (Value.int .i64)

set_option maxRecDepth 100000 in
set_option maxHeartbeats 8000000 in
theorem rnear_yes (W H c : Int) (w : World) (hi : inB W H c = true) : Calls Try.prog 33 #[sz W H, .int .i64 c] w fun e w' => ∃ v, e = .returned v ∧ w'.ownsRow (w.heap.size + 1) 3 1 v (nearL W H c).length (intsV (nearL W H c)) ∧ Below w.heap.size w w' := by
  obtain ⟨a1, a2, a3, a4, a5, a6, a7, a8, a9, a10, _⟩ := at_bd hi
  have HI : Hid (inB W H c = true) := hi; clear hi
  obtain ⟨i0, hi0, hz0, hz1, hz2⟩ := info_parts Try.info3
  go_enter Try.func33, Try.ntmps33
  go_wp2_with fail
  refine (rat_yes _ _ _ _ HI.out).mono ?_
  rintro e w1 ⟨rfl, hb1⟩
  have z1 := (Blk.new w 23 #[.int .i64 W, .int .i64 H]).below hb1
  have B1 := below_step (below_new (Below.refl _ w) (Nat.le_refl _) _) hb1 (Nat.le_refl _)
  have o1 := World.ownsRow_nil w1 (w.heap.size + 1) 3 1
  obtain ⟨q10, q11⟩ := z1.cells2
  clear hb1
  by_cases p1 : 0 < c / W
  · go_wp2_with (at_builtin; refine wpList_append_own _ rfl _ _ 30 rfl (w.heap.size + 1) 3 i0 (.int .i64 0) 1 8 Try.underlying30 hi0 hz0 hz1 hz2 rfl (by decide) _ _ _ rfl (o1.alloc _) ⟨w1.heap.size, 0, none⟩ 1 1 [.int .i64 (c - W)] rfl rfl (cell_one_new _ _ _) ?c2x1 ?c3x1 ?c4x1 ?c5x1 ?_)
    try case c2x1 => simp [Value.oneCell']
    try case c3x1 => simp [maxLen]
    try case c4x1 => simp
    case c5x1 => have := z1.lt; simp; omega
    intro v2 w2 o2 g2 _
    have z2 := (z1.alloc (.cells #[.int .i64 (c - W)] 3)).laidOn (Nat.lt_succ_self _) (o1.alloc _) g2
    have B2 := below_append (below_new B1 (Nat.le_refl _) (.cells #[.int .i64 (c - W)] 3)) (by have := z1.lt; simp; omega) (Nat.le_succ _) (o1.alloc _) g2
    obtain ⟨q20, q21⟩ := z2.cells2
    clear g2
    by_cases p2 : 0 < c % W
    · go_wp2_with (at_builtin; refine wpList_append_own _ rfl _ _ 30 rfl (w.heap.size + 1) 3 i0 (.int .i64 0) 1 8 Try.underlying30 hi0 hz0 hz1 hz2 rfl (by decide) _ _ _ rfl (o2.alloc _) ⟨w2.heap.size, 0, none⟩ 1 1 [.int .i64 (c - 1)] rfl rfl (cell_one_new _ _ _) ?c2x2 ?c3x2 ?c4x2 ?c5x2 ?_)
      try case c2x2 => simp [Value.oneCell']
      try case c3x2 => simp [maxLen]
      try case c4x2 => simp
      case c5x2 => have := z2.lt; simp; omega
      intro v3 w3 o3 g3 _
      have z3 := (z2.alloc (.cells #[.int .i64 (c - 1)] 3)).laidOn (Nat.lt_succ_self _) (o2.alloc _) g3
      have B3 := below_append (below_new B2 (Nat.le_refl _) (.cells #[.int .i64 (c - 1)] 3)) (by have := z2.lt; simp; omega) (Nat.le_succ _) (o2.alloc _) g3
      obtain ⟨q30, q31⟩ := z3.cells2
      clear g3
      by_cases p3 : c % W < W - 1
      · go_wp2_with (at_builtin; refine wpList_append_own _ rfl _ _ 30 rfl (w.heap.size + 1) 3 i0 (.int .i64 0) 1 8 Try.underlying30 hi0 hz0 hz1 hz2 rfl (by decide) _ _ _ rfl (o3.alloc _) ⟨w3.heap.size, 0, none⟩ 1 1 [.int .i64 (c + 1)] rfl rfl (cell_one_new _ _ _) ?c2x3 ?c3x3 ?c4x3 ?c5x3 ?_)
        try case c2x3 => simp [Value.oneCell']
        try case c3x3 => simp [maxLen]
        try case c4x3 => simp
        case c5x3 => have := z3.lt; simp; omega
        intro v4 w4 o4 g4 _
        have z4 := (z3.alloc (.cells #[.int .i64 (c + 1)] 3)).laidOn (Nat.lt_succ_self _) (o3.alloc _) g4
        have B4 := below_append (below_new B3 (Nat.le_refl _) (.cells #[.int .i64 (c + 1)] 3)) (by have := z3.lt; simp; omega) (Nat.le_succ _) (o3.alloc _) g4
        obtain ⟨q40, q41⟩ := z4.cells2
        clear g4
        by_cases p4 : c / W < H - 1
        · go_wp2_with (at_builtin; refine wpList_append_own _ rfl _ _ 30 rfl (w.heap.size + 1) 3 i0 (.int .i64 0) 1 8 Try.underlying30 hi0 hz0 hz1 hz2 rfl (by decide) _ _ _ rfl (o4.alloc _) ⟨w4.heap.size, 0, none⟩ 1 1 [.int .i64 (c + W)] rfl rfl (cell_one_new _ _ _) ?c2x4 ?c3x4 ?c4x4 ?c5x4 ?_)
          try case c2x4 => simp [Value.oneCell']
          try case c3x4 => simp [maxLen]
          try case c4x4 => simp
          case c5x4 => have := z4.lt; simp; omega
          intro v5 w5 o5 g5 _
          have z5 := (z4.alloc (.cells #[.int .i64 (c + W)] 3)).laidOn (Nat.lt_succ_self _) (o4.alloc _) g5
          have B5 := below_append (below_new B4 (Nat.le_refl _) (.cells #[.int .i64 (c + W)] 3)) (by have := z4.lt; simp; omega) (Nat.le_succ _) (o4.alloc _) g5
          obtain ⟨q50, q51⟩ := z5.cells2
          clear g5
          go_wp2
          go_ret
          refine ⟨v5, rfl, ?_, B5⟩
          rw [show nearL W H c = [c - W, c - 1, c + 1, c + W] from by unfold nearL; rw [if_pos HI.out, if_pos (show 0 < c / W from by omega), if_pos (show 0 < c % W from by omega), if_pos (show c % W < W - 1 from by omega), if_pos (show c / W < H - 1 from by omega)]; rfl]
          exact o5
        · have d4 : decide (c / W < H - 1) = false := by simpa using p4
          go_wp2
          go_ret
          refine ⟨v4, rfl, ?_, B4⟩
          rw [show nearL W H c = [c - W, c - 1, c + 1] from by unfold nearL; rw [if_pos HI.out, if_pos (show 0 < c / W from by omega), if_pos (show 0 < c % W from by omega), if_pos (show c % W < W - 1 from by omega), if_neg (show ¬ c / W < H - 1 from by omega)]; rfl]
          exact o4
      · have d3 : decide (c % W < W - 1) = false := by simpa using p3
        by_cases p4 : c / W < H - 1
        · go_wp2_with (at_builtin; refine wpList_append_own _ rfl _ _ 30 rfl (w.heap.size + 1) 3 i0 (.int .i64 0) 1 8 Try.underlying30 hi0 hz0 hz1 hz2 rfl (by decide) _ _ _ rfl (o3.alloc _) ⟨w3.heap.size, 0, none⟩ 1 1 [.int .i64 (c + W)] rfl rfl (cell_one_new _ _ _) ?c2x5 ?c3x5 ?c4x5 ?c5x5 ?_)
          try case c2x5 => simp [Value.oneCell']
          try case c3x5 => simp [maxLen]
          try case c4x5 => simp
          case c5x5 => have := z3.lt; simp; omega
          intro v4 w4 o4 g4 _
          have z4 := (z3.alloc (.cells #[.int .i64 (c + W)] 3)).laidOn (Nat.lt_succ_self _) (o3.alloc _) g4
          have B4 := below_append (below_new B3 (Nat.le_refl _) (.cells #[.int .i64 (c + W)] 3)) (by have := z3.lt; simp; omega) (Nat.le_succ _) (o3.alloc _) g4
          obtain ⟨q40, q41⟩ := z4.cells2
          clear g4
          go_wp2
          go_ret
          refine ⟨v4, rfl, ?_, B4⟩
          rw [show nearL W H c = [c - W, c - 1, c + W] from by unfold nearL; rw [if_pos HI.out, if_pos (show 0 < c / W from by omega), if_pos (show 0 < c % W from by omega), if_neg (show ¬ c % W < W - 1 from by omega), if_pos (show c / W < H - 1 from by omega)]; rfl]
          exact o4
        · have d4 : decide (c / W < H - 1) = false := by simpa using p4
          go_wp2
          go_ret
          refine ⟨v3, rfl, ?_, B3⟩
          rw [show nearL W H c = [c - W, c - 1] from by unfold nearL; rw [if_pos HI.out, if_pos (show 0 < c / W from by omega), if_pos (show 0 < c % W from by omega), if_neg (show ¬ c % W < W - 1 from by omega), if_neg (show ¬ c / W < H - 1 from by omega)]; rfl]
          exact o3
    · have d2 : decide (0 < c % W) = false := by simpa using p2
      by_cases p3 : c % W < W - 1
      · go_wp2_with (at_builtin; refine wpList_append_own _ rfl _ _ 30 rfl (w.heap.size + 1) 3 i0 (.int .i64 0) 1 8 Try.underlying30 hi0 hz0 hz1 hz2 rfl (by decide) _ _ _ rfl (o2.alloc _) ⟨w2.heap.size, 0, none⟩ 1 1 [.int .i64 (c + 1)] rfl rfl (cell_one_new _ _ _) ?c2x6 ?c3x6 ?c4x6 ?c5x6 ?_)
        try case c2x6 => simp [Value.oneCell']
        try case c3x6 => simp [maxLen]
        try case c4x6 => simp
        case c5x6 => have := z2.lt; simp; omega
        intro v3 w3 o3 g3 _
        have z3 := (z2.alloc (.cells #[.int .i64 (c + 1)] 3)).laidOn (Nat.lt_succ_self _) (o2.alloc _) g3
        have B3 := below_append (below_new B2 (Nat.le_refl _) (.cells #[.int .i64 (c + 1)] 3)) (by have := z2.lt; simp; omega) (Nat.le_succ _) (o2.alloc _) g3
        obtain ⟨q30, q31⟩ := z3.cells2
        clear g3
        by_cases p4 : c / W < H - 1
        · go_wp2_with (at_builtin; refine wpList_append_own _ rfl _ _ 30 rfl (w.heap.size + 1) 3 i0 (.int .i64 0) 1 8 Try.underlying30 hi0 hz0 hz1 hz2 rfl (by decide) _ _ _ rfl (o3.alloc _) ⟨w3.heap.size, 0, none⟩ 1 1 [.int .i64 (c + W)] rfl rfl (cell_one_new _ _ _) ?c2x7 ?c3x7 ?c4x7 ?c5x7 ?_)
          try case c2x7 => simp [Value.oneCell']
          try case c3x7 => simp [maxLen]
          try case c4x7 => simp
          case c5x7 => have := z3.lt; simp; omega
          intro v4 w4 o4 g4 _
          have z4 := (z3.alloc (.cells #[.int .i64 (c + W)] 3)).laidOn (Nat.lt_succ_self _) (o3.alloc _) g4
          have B4 := below_append (below_new B3 (Nat.le_refl _) (.cells #[.int .i64 (c + W)] 3)) (by have := z3.lt; simp; omega) (Nat.le_succ _) (o3.alloc _) g4
          obtain ⟨q40, q41⟩ := z4.cells2
          clear g4
          go_wp2
          go_ret
          refine ⟨v4, rfl, ?_, B4⟩
          rw [show nearL W H c = [c - W, c + 1, c + W] from by unfold nearL; rw [if_pos HI.out, if_pos (show 0 < c / W from by omega), if_neg (show ¬ 0 < c % W from by omega), if_pos (show c % W < W - 1 from by omega), if_pos (show c / W < H - 1 from by omega)]; rfl]
          exact o4
        · have d4 : decide (c / W < H - 1) = false := by simpa using p4
          go_wp2
          go_ret
          refine ⟨v3, rfl, ?_, B3⟩
          rw [show nearL W H c = [c - W, c + 1] from by unfold nearL; rw [if_pos HI.out, if_pos (show 0 < c / W from by omega), if_neg (show ¬ 0 < c % W from by omega), if_pos (show c % W < W - 1 from by omega), if_neg (show ¬ c / W < H - 1 from by omega)]; rfl]
          exact o3
      · have d3 : decide (c % W < W - 1) = false := by simpa using p3
        by_cases p4 : c / W < H - 1
        · go_wp2_with (at_builtin; refine wpList_append_own _ rfl _ _ 30 rfl (w.heap.size + 1) 3 i0 (.int .i64 0) 1 8 Try.underlying30 hi0 hz0 hz1 hz2 rfl (by decide) _ _ _ rfl (o2.alloc _) ⟨w2.heap.size, 0, none⟩ 1 1 [.int .i64 (c + W)] rfl rfl (cell_one_new _ _ _) ?c2x8 ?c3x8 ?c4x8 ?c5x8 ?_)
          try case c2x8 => simp [Value.oneCell']
          try case c3x8 => simp [maxLen]
          try case c4x8 => simp
          case c5x8 => have := z2.lt; simp; omega
          intro v3 w3 o3 g3 _
          have z3 := (z2.alloc (.cells #[.int .i64 (c + W)] 3)).laidOn (Nat.lt_succ_self _) (o2.alloc _) g3
          have B3 := below_append (below_new B2 (Nat.le_refl _) (.cells #[.int .i64 (c + W)] 3)) (by have := z2.lt; simp; omega) (Nat.le_succ _) (o2.alloc _) g3
          obtain ⟨q30, q31⟩ := z3.cells2
          clear g3
          go_wp2
          go_ret
          refine ⟨v3, rfl, ?_, B3⟩
          rw [show nearL W H c = [c - W, c + W] from by unfold nearL; rw [if_pos HI.out, if_pos (show 0 < c / W from by omega), if_neg (show ¬ 0 < c % W from by omega), if_neg (show ¬ c % W < W - 1 from by omega), if_pos (show c / W < H - 1 from by omega)]; rfl]
          exact o3
        · have d4 : decide (c / W < H - 1) = false := by simpa using p4
          go_wp2
          go_ret
          refine ⟨v2, rfl, ?_, B2⟩
          rw [show nearL W H c = [c - W] from by unfold nearL; rw [if_pos HI.out, if_pos (show 0 < c / W from by omega), if_neg (show ¬ 0 < c % W from by omega), if_neg (show ¬ c % W < W - 1 from by omega), if_neg (show ¬ c / W < H - 1 from by omega)]; rfl]
          exact o2
  · have d1 : decide (0 < c / W) = false := by simpa using p1
    by_cases p2 : 0 < c % W
    · go_wp2_with (at_builtin; refine wpList_append_own _ rfl _ _ 30 rfl (w.heap.size + 1) 3 i0 (.int .i64 0) 1 8 Try.underlying30 hi0 hz0 hz1 hz2 rfl (by decide) _ _ _ rfl (o1.alloc _) ⟨w1.heap.size, 0, none⟩ 1 1 [.int .i64 (c - 1)] rfl rfl (cell_one_new _ _ _) ?c2x9 ?c3x9 ?c4x9 ?c5x9 ?_)
      try case c2x9 => simp [Value.oneCell']
      try case c3x9 => simp [maxLen]
      try case c4x9 => simp
      case c5x9 => have := z1.lt; simp; omega
      intro v2 w2 o2 g2 _
      have z2 := (z1.alloc (.cells #[.int .i64 (c - 1)] 3)).laidOn (Nat.lt_succ_self _) (o1.alloc _) g2
      have B2 := below_append (below_new B1 (Nat.le_refl _) (.cells #[.int .i64 (c - 1)] 3)) (by have := z1.lt; simp; omega) (Nat.le_succ _) (o1.alloc _) g2
      obtain ⟨q20, q21⟩ := z2.cells2
      clear g2
      by_cases p3 : c % W < W - 1
      · go_wp2_with (at_builtin; refine wpList_append_own _ rfl _ _ 30 rfl (w.heap.size + 1) 3 i0 (.int .i64 0) 1 8 Try.underlying30 hi0 hz0 hz1 hz2 rfl (by decide) _ _ _ rfl (o2.alloc _) ⟨w2.heap.size, 0, none⟩ 1 1 [.int .i64 (c + 1)] rfl rfl (cell_one_new _ _ _) ?c2x10 ?c3x10 ?c4x10 ?c5x10 ?_)
        try case c2x10 => simp [Value.oneCell']
        try case c3x10 => simp [maxLen]
        try case c4x10 => simp
        case c5x10 => have := z2.lt; simp; omega
        intro v3 w3 o3 g3 _
        have z3 := (z2.alloc (.cells #[.int .i64 (c + 1)] 3)).laidOn (Nat.lt_succ_self _) (o2.alloc _) g3
        have B3 := below_append (below_new B2 (Nat.le_refl _) (.cells #[.int .i64 (c + 1)] 3)) (by have := z2.lt; simp; omega) (Nat.le_succ _) (o2.alloc _) g3
        obtain ⟨q30, q31⟩ := z3.cells2
        clear g3
        by_cases p4 : c / W < H - 1
        · go_wp2_with (at_builtin; refine wpList_append_own _ rfl _ _ 30 rfl (w.heap.size + 1) 3 i0 (.int .i64 0) 1 8 Try.underlying30 hi0 hz0 hz1 hz2 rfl (by decide) _ _ _ rfl (o3.alloc _) ⟨w3.heap.size, 0, none⟩ 1 1 [.int .i64 (c + W)] rfl rfl (cell_one_new _ _ _) ?c2x11 ?c3x11 ?c4x11 ?c5x11 ?_)
          try case c2x11 => simp [Value.oneCell']
          try case c3x11 => simp [maxLen]
          try case c4x11 => simp
          case c5x11 => have := z3.lt; simp; omega
          intro v4 w4 o4 g4 _
          have z4 := (z3.alloc (.cells #[.int .i64 (c + W)] 3)).laidOn (Nat.lt_succ_self _) (o3.alloc _) g4
          have B4 := below_append (below_new B3 (Nat.le_refl _) (.cells #[.int .i64 (c + W)] 3)) (by have := z3.lt; simp; omega) (Nat.le_succ _) (o3.alloc _) g4
          obtain ⟨q40, q41⟩ := z4.cells2
          clear g4
          go_wp2
          go_ret
          refine ⟨v4, rfl, ?_, B4⟩
          rw [show nearL W H c = [c - 1, c + 1, c + W] from by unfold nearL; rw [if_pos HI.out, if_neg (show ¬ 0 < c / W from by omega), if_pos (show 0 < c % W from by omega), if_pos (show c % W < W - 1 from by omega), if_pos (show c / W < H - 1 from by omega)]; rfl]
          exact o4
        · have d4 : decide (c / W < H - 1) = false := by simpa using p4
          go_wp2
          go_ret
          refine ⟨v3, rfl, ?_, B3⟩
          rw [show nearL W H c = [c - 1, c + 1] from by unfold nearL; rw [if_pos HI.out, if_neg (show ¬ 0 < c / W from by omega), if_pos (show 0 < c % W from by omega), if_pos (show c % W < W - 1 from by omega), if_neg (show ¬ c / W < H - 1 from by omega)]; rfl]
          exact o3
      · have d3 : decide (c % W < W - 1) = false := by simpa using p3
        by_cases p4 : c / W < H - 1
        · go_wp2_with (at_builtin; refine wpList_append_own _ rfl _ _ 30 rfl (w.heap.size + 1) 3 i0 (.int .i64 0) 1 8 Try.underlying30 hi0 hz0 hz1 hz2 rfl (by decide) _ _ _ rfl (o2.alloc _) ⟨w2.heap.size, 0, none⟩ 1 1 [.int .i64 (c + W)] rfl rfl (cell_one_new _ _ _) ?c2x12 ?c3x12 ?c4x12 ?c5x12 ?_)
          try case c2x12 => simp [Value.oneCell']
          try case c3x12 => simp [maxLen]
          try case c4x12 => simp
          case c5x12 => have := z2.lt; simp; omega
          intro v3 w3 o3 g3 _
          have z3 := (z2.alloc (.cells #[.int .i64 (c + W)] 3)).laidOn (Nat.lt_succ_self _) (o2.alloc _) g3
          have B3 := below_append (below_new B2 (Nat.le_refl _) (.cells #[.int .i64 (c + W)] 3)) (by have := z2.lt; simp; omega) (Nat.le_succ _) (o2.alloc _) g3
          obtain ⟨q30, q31⟩ := z3.cells2
          clear g3
          go_wp2
          go_ret
          refine ⟨v3, rfl, ?_, B3⟩
          rw [show nearL W H c = [c - 1, c + W] from by unfold nearL; rw [if_pos HI.out, if_neg (show ¬ 0 < c / W from by omega), if_pos (show 0 < c % W from by omega), if_neg (show ¬ c % W < W - 1 from by omega), if_pos (show c / W < H - 1 from by omega)]; rfl]
          exact o3
        · have d4 : decide (c / W < H - 1) = false := by simpa using p4
          go_wp2
          go_ret
          refine ⟨v2, rfl, ?_, B2⟩
          rw [show nearL W H c = [c - 1] from by unfold nearL; rw [if_pos HI.out, if_neg (show ¬ 0 < c / W from by omega), if_pos (show 0 < c % W from by omega), if_neg (show ¬ c % W < W - 1 from by omega), if_neg (show ¬ c / W < H - 1 from by omega)]; rfl]
          exact o2
    · have d2 : decide (0 < c % W) = false := by simpa using p2
      by_cases p3 : c % W < W - 1
      · go_wp2_with (at_builtin; refine wpList_append_own _ rfl _ _ 30 rfl (w.heap.size + 1) 3 i0 (.int .i64 0) 1 8 Try.underlying30 hi0 hz0 hz1 hz2 rfl (by decide) _ _ _ rfl (o1.alloc _) ⟨w1.heap.size, 0, none⟩ 1 1 [.int .i64 (c + 1)] rfl rfl (cell_one_new _ _ _) ?c2x13 ?c3x13 ?c4x13 ?c5x13 ?_)
        try case c2x13 => simp [Value.oneCell']
        try case c3x13 => simp [maxLen]
        try case c4x13 => simp
        case c5x13 => have := z1.lt; simp; omega
        intro v2 w2 o2 g2 _
        have z2 := (z1.alloc (.cells #[.int .i64 (c + 1)] 3)).laidOn (Nat.lt_succ_self _) (o1.alloc _) g2
        have B2 := below_append (below_new B1 (Nat.le_refl _) (.cells #[.int .i64 (c + 1)] 3)) (by have := z1.lt; simp; omega) (Nat.le_succ _) (o1.alloc _) g2
        obtain ⟨q20, q21⟩ := z2.cells2
        clear g2
        by_cases p4 : c / W < H - 1
        · go_wp2_with (at_builtin; refine wpList_append_own _ rfl _ _ 30 rfl (w.heap.size + 1) 3 i0 (.int .i64 0) 1 8 Try.underlying30 hi0 hz0 hz1 hz2 rfl (by decide) _ _ _ rfl (o2.alloc _) ⟨w2.heap.size, 0, none⟩ 1 1 [.int .i64 (c + W)] rfl rfl (cell_one_new _ _ _) ?c2x14 ?c3x14 ?c4x14 ?c5x14 ?_)
          try case c2x14 => simp [Value.oneCell']
          try case c3x14 => simp [maxLen]
          try case c4x14 => simp
          case c5x14 => have := z2.lt; simp; omega
          intro v3 w3 o3 g3 _
          have z3 := (z2.alloc (.cells #[.int .i64 (c + W)] 3)).laidOn (Nat.lt_succ_self _) (o2.alloc _) g3
          have B3 := below_append (below_new B2 (Nat.le_refl _) (.cells #[.int .i64 (c + W)] 3)) (by have := z2.lt; simp; omega) (Nat.le_succ _) (o2.alloc _) g3
          obtain ⟨q30, q31⟩ := z3.cells2
          clear g3
          go_wp2
          go_ret
          refine ⟨v3, rfl, ?_, B3⟩
          rw [show nearL W H c = [c + 1, c + W] from by unfold nearL; rw [if_pos HI.out, if_neg (show ¬ 0 < c / W from by omega), if_neg (show ¬ 0 < c % W from by omega), if_pos (show c % W < W - 1 from by omega), if_pos (show c / W < H - 1 from by omega)]; rfl]
          exact o3
        · have d4 : decide (c / W < H - 1) = false := by simpa using p4
          go_wp2
          go_ret
          refine ⟨v2, rfl, ?_, B2⟩
          rw [show nearL W H c = [c + 1] from by unfold nearL; rw [if_pos HI.out, if_neg (show ¬ 0 < c / W from by omega), if_neg (show ¬ 0 < c % W from by omega), if_pos (show c % W < W - 1 from by omega), if_neg (show ¬ c / W < H - 1 from by omega)]; rfl]
          exact o2
      · have d3 : decide (c % W < W - 1) = false := by simpa using p3
        by_cases p4 : c / W < H - 1
        · go_wp2_with (at_builtin; refine wpList_append_own _ rfl _ _ 30 rfl (w.heap.size + 1) 3 i0 (.int .i64 0) 1 8 Try.underlying30 hi0 hz0 hz1 hz2 rfl (by decide) _ _ _ rfl (o1.alloc _) ⟨w1.heap.size, 0, none⟩ 1 1 [.int .i64 (c + W)] rfl rfl (cell_one_new _ _ _) ?c2x15 ?c3x15 ?c4x15 ?c5x15 ?_)
          try case c2x15 => simp [Value.oneCell']
          try case c3x15 => simp [maxLen]
          try case c4x15 => simp
          case c5x15 => have := z1.lt; simp; omega
          intro v2 w2 o2 g2 _
          have z2 := (z1.alloc (.cells #[.int .i64 (c + W)] 3)).laidOn (Nat.lt_succ_self _) (o1.alloc _) g2
          have B2 := below_append (below_new B1 (Nat.le_refl _) (.cells #[.int .i64 (c + W)] 3)) (by have := z1.lt; simp; omega) (Nat.le_succ _) (o1.alloc _) g2
          obtain ⟨q20, q21⟩ := z2.cells2
          clear g2
          go_wp2
          go_ret
          refine ⟨v2, rfl, ?_, B2⟩
          rw [show nearL W H c = [c + W] from by unfold nearL; rw [if_pos HI.out, if_neg (show ¬ 0 < c / W from by omega), if_neg (show ¬ 0 < c % W from by omega), if_neg (show ¬ c % W < W - 1 from by omega), if_pos (show c / W < H - 1 from by omega)]; rfl]
          exact o2
        · have d4 : decide (c / W < H - 1) = false := by simpa using p4
          go_wp2
          go_ret
          refine ⟨.slice none 0 0, rfl, ?_, B1⟩
          rw [show nearL W H c = [] from by unfold nearL; rw [if_pos HI.out, if_neg (show ¬ 0 < c / W from by omega), if_neg (show ¬ 0 < c % W from by omega), if_neg (show ¬ c % W < W - 1 from by omega), if_neg (show ¬ c / W < H - 1 from by omega)]; rfl]
          exact o1

set_option maxHeartbeats 1000000 in
theorem rnear_no (W H c : Int) (w : World) (hi : inB W H c = false) : Calls Try.prog 33 #[sz W H, .int .i64 c] w fun e w' => ∃ v, e = .returned v ∧ w'.ownsRow (w.heap.size + 1) 3 1 v (nearL W H c).length (intsV (nearL W H c)) ∧ Below w.heap.size w w' := by
  rw [near_no hi]
  have HI : Hid (inB W H c = false) := hi; clear hi
  go_enter Try.func33, Try.ntmps33
  go_wp2_with fail
  refine (rat_no _ _ _ _ HI.out).mono ?_
  rintro e w1 ⟨rfl, hb1⟩
  go_wp2
  go_ret
  exact ⟨_, rfl, World.ownsRow_nil _ _ _ _, below_step (below_new (Below.refl _ w) (Nat.le_refl _) _) hb1 (Nat.le_refl _)⟩

theorem rnear_any (W H c : Int) (w : World) : Calls Try.prog 33 #[sz W H, .int .i64 c] w fun e w' => ∃ v, e = .returned v ∧ w'.ownsRow (w.heap.size + 1) 3 1 v (nearL W H c).length (intsV (nearL W H c)) ∧ Below w.heap.size w w' := by
  cases hi : inB W H c with
  | false => exact rnear_no W H c w hi
  | true => exact rnear_yes W H c w hi

end Go.Proofs.Ytabgplniaiehpab.Pl
