/- Layer 7 (tour): the contracts of its own small functions. -/
import Derived.Test.YtpbnhbpkfdhedaaTourBase
import Derived.Deep.RegionHeld3
namespace Go.Proofs.Ytpbnhbpkfdhedaa
open Go.RowKit
set_option linter.unusedVariables false
theorem hid_mk {p : Prop} (h : p) : Hid p := h
theorem Bd.i32 {i : Int} (h : Bd i) : -2147483648 ≤ i ∧ i ≤ 2147483647 := by unfold Bd at h; omega
def smallB (n : Int) : Bool := decide (-2147483648 ≤ n ∧ n ≤ 2147483647)
theorem wrap32_in {n : Int} (h : -2147483648 ≤ n ∧ n ≤ 2147483647) : IntKind.i32.wrap n = n := by simp [IntKind.wrap, IntKind.bits, IntKind.signed]; omega
theorem wrap32_bd (n : Int) : -2147483648 ≤ IntKind.i32.wrap n ∧ IntKind.i32.wrap n ≤ 2147483647 := by simp [IntKind.wrap, IntKind.bits, IntKind.signed]; omega
set_option maxHeartbeats 400000 in
theorem small_any (n : Int) (w : World) : Calls Try.prog 106 #[.int .i64 n] w fun e w' => e = .returned (.bool (smallB n)) ∧ w' = w := by
  by_cases h : -2147483648 ≤ n ∧ n ≤ 2147483647
  · have h1 := wrap32_in h
    rw [show smallB n = true from decide_eq_true h]
    go_enter Try.func106, Try.ntmps106
    go_wp2
    go_ret
    refine ⟨ret_of ?_, rfl⟩
    simp
  · have hb := wrap32_bd n
    rw [show smallB n = false from decide_eq_false h]
    go_enter Try.func106, Try.ntmps106
    go_wp2
    go_ret
    refine ⟨ret_of ?_, rfl⟩
    unfold wrap64 wrap32
    simp
    omega
section
variable {w : World} {F : Nat → Prop} {B G : Nat} {t : To}
set_option maxHeartbeats 400000 in
theorem fitem_any (h : Tf w F B G t) (v : Int) (hl : t.v.length ≤ 100000) : Calls Try.prog 73 #[.pointer (some ⟨B, 0, none⟩), .int .i64 v] w fun e w' => e = .returned (.int .i32 (t.item v)) ∧ w' = w := by
  cases hv : isA t.v v with
  | true =>
    rw [To.item_yes hv]
    obtain ⟨GV, hA, hc⟩ := tf_vat h v hv hl
    have hb := isA_bd hv
    have hw := wrap32_in (n := v) (by omega)
    have hS := small_any v w
    rw [show smallB v = true from decide_eq_true (by omega)] at hS
    have H : Hid (Tf w F B G t) := h
    have HS := hid_mk hS
    have HA := hid_mk hA
    clear h hv hA hb hS
    generalize (v - 1).toNat * 2 = o at *
    generalize atA 0 t.v v = x at *
    go_enter Try.func73, Try.ntmps73
    go_wp2_with fail
    refine HS.out.mono ?_
    rintro e w1 ⟨rfl, rfl⟩
    go_wp2_with fail
    refine HA.out.mono ?_
    rintro e w1 ⟨rfl, rfl⟩
    go_wp2
    go_ret
    exact ⟨rfl, rfl⟩
  | false =>
    rw [To.item_no hv]
    by_cases hs : -2147483648 ≤ v ∧ v ≤ 2147483647
    · have hA := tf_vat_no h v hs hv hl
      have hw := wrap32_in hs
      have hS := small_any v w
      rw [show smallB v = true from decide_eq_true hs] at hS
      have HS := hid_mk hS
      have HA := hid_mk hA
      clear h hv hA hs hS
      go_enter Try.func73, Try.ntmps73
      go_wp2_with fail
      refine HS.out.mono ?_
      rintro e w1 ⟨rfl, rfl⟩
      go_wp2_with fail
      refine HA.out.mono ?_
      rintro e w1 ⟨rfl, rfl⟩
      go_wp2
      go_ret
      exact ⟨rfl, rfl⟩
    · have hS := small_any v w
      rw [show smallB v = false from decide_eq_false hs] at hS
      have HS := hid_mk hS
      clear h hv hs hS
      go_enter Try.func73, Try.ntmps73
      go_wp2_with fail
      refine HS.out.mono ?_
      rintro e w1 ⟨rfl, rfl⟩
      go_wp2
      go_ret
      exact ⟨rfl, rfl⟩
set_option maxHeartbeats 400000 in
theorem fitem_nil (v : Int) (w : World) : Calls Try.prog 73 #[.pointer none, .int .i64 v] w fun e w' => e = .returned (.int .i32 0) ∧ w' = w := by
  go_enter Try.func73, Try.ntmps73
  go_wp2
  go_ret
  exact ⟨rfl, rfl⟩
theorem Tf.drew (h : Tf w F B G t) : Tf w.drew F B G t := h.kept (fun _ _ => rfl) (Nat.le_refl _)
theorem Step.undrew {F' : Nat → Prop} {w' : World} (h : Step F F' w.drew w') : Step F F' w w' := ⟨⟨h.only.os, h.only.tape, h.only.output, h.only.size, h.only.block⟩, h.ext⟩
/-- Where an edge lies. -/
def eloc (n : Int) : Nat := (n - 1).toNat * 5
set_option maxHeartbeats 400000 in
theorem fedge_yes (h : Tf w F B G t) (n : Int) (hn : isA t.e n = true) (hl : t.e.length ≤ 100000) : Calls Try.prog 79 #[.pointer (some ⟨B, 0, none⟩), .int .i64 n] w fun e w' => e = .returned (.pointer (some ⟨G, eloc n, none⟩)) ∧ w' = w := by
  have hA := tf_eat h n hn hl
  have hb := isA_bd hn
  have hw := wrap32_in (n := n) (by omega)
  have hS := small_any n w
  rw [show smallB n = true from decide_eq_true (by omega)] at hS
  have HS := hid_mk hS
  rw [show (n - 1).toNat * 5 = eloc n from rfl] at hA
  have HA := hid_mk hA
  clear h hn hA hb hS
  go_enter Try.func79, Try.ntmps79
  go_wp2_with fail
  refine HS.out.mono ?_
  rintro e w1 ⟨rfl, rfl⟩
  go_wp2_with fail
  refine HA.out.mono ?_
  rintro e w1 ⟨rfl, rfl⟩
  go_wp2
  go_ret
  exact ⟨rfl, rfl⟩
set_option maxHeartbeats 400000 in
theorem fedge_no (h : Tf w F B G t) (n : Int) (hn : isA t.e n = false) (hl : t.e.length ≤ 100000) : Calls Try.prog 79 #[.pointer (some ⟨B, 0, none⟩), .int .i64 n] w fun e w' => e = .returned (.pointer none) ∧ w' = w := by
  by_cases hs : -2147483648 ≤ n ∧ n ≤ 2147483647
  · have hA := tf_eat_no h n hs hn hl
    have hw := wrap32_in hs
    have hS := small_any n w
    rw [show smallB n = true from decide_eq_true hs] at hS
    have HS := hid_mk hS
    have HA := hid_mk hA
    clear h hn hA hs hS
    go_enter Try.func79, Try.ntmps79
    go_wp2_with fail
    refine HS.out.mono ?_
    rintro e w1 ⟨rfl, rfl⟩
    go_wp2_with fail
    refine HA.out.mono ?_
    rintro e w1 ⟨rfl, rfl⟩
    go_wp2
    go_ret
    exact ⟨rfl, rfl⟩
  · have hS := small_any n w
    rw [show smallB n = false from decide_eq_false hs] at hS
    have HS := hid_mk hS
    clear h hn hs hS
    go_enter Try.func79, Try.ntmps79
    go_wp2_with fail
    refine HS.out.mono ?_
    rintro e w1 ⟨rfl, rfl⟩
    go_wp2
    go_ret
    exact ⟨rfl, rfl⟩
set_option maxHeartbeats 400000 in
theorem fedge_nil (n : Int) (w : World) : Calls Try.prog 79 #[.pointer none, .int .i64 n] w fun e w' => e = .returned (.pointer none) ∧ w' = w := by
  go_enter Try.func79, Try.ntmps79
  go_wp2
  go_ret
  exact ⟨rfl, rfl⟩
/-- What a sequence holds are items' numbers. -/
theorem Tf.mems (h : Tf w F B G t) {i j : Int} (hj : j ∈ t.s.S i) : Bd j := by
  obtain ⟨X, Ft, hT, _⟩ := h.treap
  have h1 : isK t.s.K j = true := hT.mem.2 (by rw [hT.same hj]; exact hj)
  have := isK_bd h1
  have := hT.klen
  unfold Bd; omega
theorem Tf.head (h : Tf w F B G t) (i : Int) : -2147483648 ≤ (t.s.S i).headD 0 ∧ (t.s.S i).headD 0 ≤ 2147483647 := by
  cases hS : t.s.S i with
  | nil => simp
  | cons a l => exact (h.mems (i := i) (j := a) (by rw [hS]; simp)).i32
theorem Tf.nx (h : Tf w F B G t) (i : Int) : -2147483648 ≤ nxS (t.s.S i) i ∧ nxS (t.s.S i) i ≤ 2147483647 := by
  unfold nxS
  split
  · cases hS : (t.s.S i).drop ((t.s.S i).idxOf i + 1) with
    | nil => simp
    | cons a l => exact (h.mems (i := i) (j := a) (List.mem_of_mem_drop (by rw [hS]; simp))).i32
  · omega
set_option maxHeartbeats 400000 in
theorem fturn_any (h : Tf w F B G t) (i : Int) (hb : -2147483648 ≤ i ∧ i ≤ 2147483647) : Calls Try.prog 109 #[.pointer (some ⟨B, 0, none⟩), .int .i32 i] w fun e w' => ∃ F', e = .returned (.tuple #[]) ∧ Tf w' F' B G (t.ws (t.s.turn i)) ∧ Step F F' w w' := by
  have H : Hid (Tf w F B G t) := h
  have hh := h.head i
  have hF := tf_first h i hb
  obtain ⟨q, hq⟩ : ∃ q, q = (t.s.S i).headD 0 := ⟨_, rfl⟩
  rw [← hq] at hh hF
  have HQ := hid_mk hq
  have HF := hid_mk hF
  clear h hF hq
  go_enter Try.func109, Try.ntmps109
  go_wp2_with fail
  refine HF.out.mono ?_
  rintro e w1 ⟨rfl, rfl⟩
  go_wp2_with fail
  refine (tf_cut H.out i hb).mono ?_
  rintro e w2 ⟨F2, rfl, h2, s2⟩
  have H2 : Hid (Tf w2 F2 B G (t.ws (t.s.cut i))) := h2
  have S2 : Hid (Step F F2 w1 w2) := s2
  clear h2 s2 H HF
  go_wp2_with fail
  refine (tf_join H2.out i q hb hh).mono ?_
  rintro e w3 ⟨F3, rfl, h3, s3⟩
  have H3 : Hid (Tf w3 F3 B G (t.ws (t.s.turn i))) := by show Tf _ _ _ _ (t.ws ((t.s.cut i).join i _)); rw [← HQ.out]; exact h3
  have S3 : Hid (Step F F3 w1 w3) := S2.out.trans s3
  clear h3 s3 H2 S2
  go_wp2
  go_returns
  exact ⟨_, rfl, H3.out, S3.out⟩
end
end Go.Proofs.Ytpbnhbpkfdhedaa
