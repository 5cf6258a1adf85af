/- Contracts of a table's methods: of one that New made, of a bare one, of none. -/
import Derived.Test.YtcflbekjiohfnaaTerrNew
namespace Go.Proofs.Ytcflbekjiohfnaa
open Go.RowKit
set_option linter.unusedVariables false

/-- What a pointer to a table leads to; nil: no kinds, no classes. -/
def TabV (W : World) (p : Value) (ks : List Kd) (cl : Int) : Prop := (p = .pointer none ∧ ks = [] ∧ cl = 0) ∨ ∃ F B, p = .pointer (some ⟨B, 0, none⟩) ∧ Tab W F B ks cl
theorem TabV.below {W W' : World} {p : Value} {ks : List Kd} {cl : Int} (h : TabV W p ks cl) (hb : Below W.heap.size W W') : TabV W' p ks cl := by
  rcases h with h | ⟨F, B, e, h⟩
  · exact .inl h
  · exact .inr ⟨F, B, e, h.below hb⟩
theorem TabV.facts {W : World} {p : Value} {ks : List Kd} {cl : Int} (h : TabV W p ks cl) : Wk ks ∧ ks.length ≤ 16 ∧ 0 ≤ cl ∧ cl ≤ 8 := by
  rcases h with ⟨_, rfl, rfl⟩ | ⟨F, B, e, h⟩
  · exact ⟨fun x hx => (by cases hx), by simp, by omega, by omega⟩
  · exact ⟨h.wk, h.n1, h.c0, h.c1⟩

set_option maxHeartbeats 400000 in
theorem kinds_any {p : Value} {ks : List Kd} {cl : Int} {w : World} (h : TabV w p ks cl) : Calls Try.prog 47 #[p] w fun e w' => e = .returned (.int .i64 ks.length) ∧ w' = w := by
  rcases h with ⟨rfl, rfl, rfl⟩ | ⟨F, B, rfl, h⟩
  · go_enter Try.func47, Try.ntmps47
    go_wp2
    go_ret
    exact ⟨rfl, rfl⟩
  · obtain ⟨ao, cap, h1, h2, _⟩ := h.ex
    have c0 : w.cell? ⟨B, 0, none⟩ = some (.slice ao ks.length cap) := h1.at (j := 0) rfl
    go_enter Try.func47, Try.ntmps47
    go_wp2
    go_ret
    exact ⟨rfl, rfl⟩

set_option maxHeartbeats 400000 in
theorem classes_any {p : Value} {ks : List Kd} {cl : Int} {w : World} (h : TabV w p ks cl) : Calls Try.prog 67 #[p] w fun e w' => e = .returned (.int .i64 cl) ∧ w' = w := by
  rcases h with ⟨rfl, rfl, rfl⟩ | ⟨F, B, rfl, h⟩
  · go_enter Try.func67, Try.ntmps67
    go_wp2
    go_ret
    exact ⟨rfl, rfl⟩
  · obtain ⟨ao, cap, h1, h2, _⟩ := h.ex
    have c0 : w.cell? ⟨B, 1, none⟩ = some (.int .i64 cl) := h1.at (j := 1) rfl
    go_enter Try.func67, Try.ntmps67
    go_wp2
    go_ret
    exact ⟨rfl, rfl⟩

set_option maxHeartbeats 400000 in
theorem hasClass_any {p : Value} {ks : List Kd} {cl : Int} {w : World} (h : TabV w p ks cl) (c : Int) : Calls Try.prog 59 #[p, .int .i64 c] w fun e w' => e = .returned (.bool (hasN cl c)) ∧ w' = w := by
  have H : Hid (TabV w p ks cl) := h
  clear h
  by_cases c1 : 0 ≤ c
  · go_enter Try.func59, Try.ntmps59
    go_wp2_with fail
    refine (classes_any H.out).mono ?_
    rintro e w1 ⟨rfl, rfl⟩
    go_wp2
    go_ret
    exact ⟨ret_of (congrArg Value.bool (by simp [hasN, c1])), rfl⟩
  · have hd : decide (0 ≤ c) = false := by simpa using c1
    go_enter Try.func59, Try.ntmps59
    go_wp2
    go_ret
    exact ⟨ret_of (congrArg Value.bool (show _ = hasN cl c from by unfold hasN; rw [hd]; rfl)), rfl⟩

set_option maxHeartbeats 400000 in
theorem hasKind_any {p : Value} {ks : List Kd} {cl : Int} {w : World} (h : TabV w p ks cl) (c : Int) : Calls Try.prog 60 #[p, .int .i64 c] w fun e w' => e = .returned (.bool (hasN ks.length c)) ∧ w' = w := by
  have H : Hid (TabV w p ks cl) := h
  clear h
  by_cases c1 : 0 ≤ c
  · go_enter Try.func60, Try.ntmps60
    go_wp2_with fail
    refine (kinds_any H.out).mono ?_
    rintro e w1 ⟨rfl, rfl⟩
    go_wp2
    go_ret
    exact ⟨ret_of (congrArg Value.bool (by simp [hasN, c1])), rfl⟩
  · have hd : decide (0 ≤ c) = false := by simpa using c1
    go_enter Try.func60, Try.ntmps60
    go_wp2
    go_ret
    exact ⟨ret_of (congrArg Value.bool (show _ = hasN ks.length c from by unfold hasN; rw [hd]; rfl)), rfl⟩

set_option maxHeartbeats 400000 in
theorem cost_any {p : Value} {ks : List Kd} {cl : Int} {w : World} (h : TabV w p ks cl) (k : Int) : Calls Try.prog 45 #[p, .int .i64 k] w fun e w' => e = .returned (.int .i64 (costN ks k)) ∧ w' = w := by
  have H : Hid (TabV w p ks cl) := h
  cases hh : hasN ks.length k with
  | false =>
    have HH : Hid (hasN ks.length k = false) := hh
    clear h hh
    go_enter Try.func45, Try.ntmps45
    go_wp2_with fail
    refine (hasKind_any H.out _).mono ?_
    rintro e w1 ⟨rfl, rfl⟩
    rw [HH.out]
    go_wp2
    go_ret
    exact ⟨ret_of (congrArg (Value.int IntKind.i64) (show _ = costN ks k from by unfold costN; rw [HH.out]; rfl)), rfl⟩
  | true =>
    have HH : Hid (hasN ks.length k = true) := hh
    obtain ⟨k0, k1⟩ := hasN_iff.1 hh
    rcases h with ⟨_, rfl, _⟩ | ⟨F, B, rfl, h⟩
    · simp at k1; omega
    · obtain ⟨ao, cap, h1, h2, _⟩ := h.ex
      have c0 : w.cell? ⟨B, 0, none⟩ = some (.slice ao ks.length cap) := h1.at (j := 0) rfl
      have n1 := h.n1
      rcases h2 with rfl | ⟨b, off, rfl, h2⟩
      · simp at k1; omega
      · have c1 := (h2 k.toNat (by omega)).1
        clear h hh h1 h2
        go_enter Try.func45, Try.ntmps45
        go_wp2_with fail
        refine (hasKind_any H.out _).mono ?_
        rintro e w1 ⟨rfl, rfl⟩
        rw [HH.out]
        go_wp2
        go_ret
        exact ⟨ret_of (congrArg (Value.int IntKind.i64) (show _ = costN ks k from by unfold costN; rw [HH.out]; rfl)), rfl⟩

set_option maxHeartbeats 400000 in
theorem may_any {p : Value} {ks : List Kd} {cl : Int} {w : World} (h : TabV w p ks cl) (c k : Int) : Calls Try.prog 43 #[p, .int .i64 c, .int .i64 k] w fun e w' => e = .returned (.bool (mayB ks cl c k)) ∧ Below w.heap.size w w' := by
  have H : Hid (TabV w p ks cl) := h
  cases hc : hasN cl c with
  | false =>
    have HC : Hid (hasN cl c = false) := hc
    clear h hc
    go_enter Try.func43, Try.ntmps43
    go_wp2_with fail
    refine (hasClass_any H.out _).mono ?_
    rintro e w1 ⟨rfl, rfl⟩
    rw [HC.out]
    go_wp2
    go_ret
    exact ⟨ret_of (congrArg Value.bool (show _ = mayB ks cl c k from by unfold mayB; rw [HC.out]; rfl)), Below.refl _ _⟩
  | true =>
    have HC : Hid (hasN cl c = true) := hc
    obtain ⟨k2, k3⟩ := hasN_iff.1 hc
    cases hh : hasN ks.length k with
    | false =>
      have HH : Hid (hasN ks.length k = false) := hh
      clear h hh hc
      go_enter Try.func43, Try.ntmps43
      go_wp2_with fail
      refine (hasClass_any H.out _).mono ?_
      rintro e w1 ⟨rfl, rfl⟩
      rw [HC.out]
      go_wp2_with fail
      refine (hasKind_any H.out _).mono ?_
      rintro e w1 ⟨rfl, rfl⟩
      rw [HH.out]
      go_wp2
      go_ret
      exact ⟨ret_of (congrArg Value.bool (show _ = mayB ks cl c k from by unfold mayB; rw [HC.out, HH.out]; rfl)), Below.refl _ _⟩
    | true =>
      have HH : Hid (hasN ks.length k = true) := hh
      obtain ⟨k0, k1⟩ := hasN_iff.1 hh
      rcases h with ⟨_, rfl, _⟩ | ⟨F, B, rfl, h⟩
      · simp at k1; omega
      · obtain ⟨ao, cap, h1, h2, _⟩ := h.ex
        have c0 : w.cell? ⟨B, 0, none⟩ = some (.slice ao ks.length cap) := h1.at (j := 0) rfl
        have n1 := h.n1
        have m1 := h.c1
        have hwk := h.wk.at (i := k.toNat) (by omega)
        rcases h2 with rfl | ⟨b, off, rfl, h2⟩
        · simp at k1; omega
        · obtain ⟨c1, c2⟩ := h2 k.toNat (by omega)
          clear h hh hc h1 h2
          go_enter Try.func43, Try.ntmps43
          go_wp2_with fail
          refine (hasClass_any H.out _).mono ?_
          rintro e w1 ⟨rfl, rfl⟩
          rw [HC.out]
          go_wp2_with fail
          refine (hasKind_any H.out _).mono ?_
          rintro e w1 ⟨rfl, rfl⟩
          rw [HH.out]
          go_wp2_with fail
          refine (stands_any (kAt ks k.toNat) c _ k2 (by omega) hwk).mono ?_
          rintro e w1 ⟨rfl, hb⟩
          go_wp2
          go_ret
          exact ⟨ret_of (congrArg Value.bool (show _ = mayB ks cl c k from by unfold mayB; rw [HC.out, HH.out]; rfl)), hb⟩

end Go.Proofs.Ytcflbekjiohfnaa
