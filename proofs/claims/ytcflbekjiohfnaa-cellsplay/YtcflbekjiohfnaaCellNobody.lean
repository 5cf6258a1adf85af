/- The walk of CellsNobody. -/
import Derived.Test.YtcflbekjiohfnaaCellAwake
namespace Go.Proofs.Ytcflbekjiohfnaa
open Go.RowKit
set_option linter.unusedVariables false

theorem hasN_none (x : Int) : hasN (([] : List Int).length : Int) x = false := by
  cases hh : hasN (([] : List Int).length : Int) x with
  | false => rfl
  | true => have := hasN_iff.1 hh; simp at this; omega
theorem hasN_none' (x : Int) : hasN (([] : List Kd).length : Int) x = false := hasN_none x

set_option maxRecDepth 100000 in
set_option maxHeartbeats 800000 in
theorem kindsOf_none (B R cap : Nat) (w : World) : Calls Try.prog 39 #[.pointer (some ⟨B, 0, none⟩), .slice (some ⟨R, 0, none⟩) 0 cap] w fun e w' => ∃ A, e = .returned (.slice (some ⟨A, 0, none⟩) 0 0) ∧ Below w.heap.size w w' := by
  have hmk : (Instr.makeSlice 61 (.int .i64 0) (.int .i64 0)).run Try.prog w = .ok (.slice (some ⟨w.heap.size, 0, none⟩) 0 0) (w.alloc (.cells (rowOf (List.replicate 0 0)) 5)) := make_u8 0 (by omega) w
  go_enter Try.func39, Try.ntmps39
  go_wp2
  refine wp_loop_rounds 1 ?_
  rw [rounds_succ]
  go_wp2
  go_ret
  exact ⟨_, rfl, (Below.refl _ _).alloc (Nat.le_refl _) _⟩

set_option maxRecDepth 100000 in
set_option maxHeartbeats 800000 in
/-- A batch of none is done, whatever the grid. -/
theorem batch_none {w : World} {B : Nat} {ks : List Kd} {cl : Int} {L : List Int} (h : GV w (.pointer (some ⟨B, 0, none⟩)) ks cl L) (ao : Option Addr) (cap : Nat) :
    Calls Try.prog 13 #[.pointer (some ⟨B, 0, none⟩), .slice ao 0 cap] w fun e w' => e = .returned (.tuple #[.slice none 0 0, .int .i64 0]) ∧ Below w.heap.size w w' := by
  have H : Hid (GV w (.pointer (some ⟨B, 0, none⟩)) ks cl L) := h
  clear h
  go_enter Try.func13, Try.ntmps13
  go_wp2_with fail
  refine (refuses_any H.out ao cap [] (by simp) (.inl rfl)).mono ?_
  rintro e w1 ⟨rfl, hb1⟩
  rw [show errB (ks.length : Int) (L.length : Int) [] = 0 from by simp [errB]]
  go_wp2_with fail
  refine (touched_any ao cap [] w1 (by simp) (.inl rfl)).mono ?_
  rintro e w2 ⟨R, capR, rfl, hR1, hR2, HRc, hb2⟩
  rw [show (touchedL []).length = 0 from by have := touched_len []; simpa using this]
  have hB2 : Below w.heap.size w w2 := below_step hb1 hb2 (Nat.le_refl _)
  clear HRc
  go_wp2_with fail
  refine (kindsOf_none B R capR w2).mono ?_
  rintro e w3 ⟨A, rfl, hb3⟩
  have hB3 : Below w.heap.size w w3 := below_step hB2 hb3 (Nat.le_refl _)
  clear hb1 hb2 hb3 hB2
  go_wp2
  refine wp_loop_rounds 1 ?_
  rw [rounds_succ]
  go_wp2
  refine wp_loop_rounds 1 ?_
  rw [rounds_succ]
  go_wp2
  go_ret2
  exact ⟨rfl, hB3⟩

/-- A bare grid. -/
theorem bare_grd (w : World) : Grd (w.alloc (.cells #[.int .i64 0, .int .i64 0, .pointer none, .slice none 0 0] 63)) w.heap.size 0 0 (.pointer none) [] 0 none [] :=
  ⟨Blk.new w 63 _, .inl ⟨rfl, rfl, rfl⟩, .inl ⟨rfl, rfl⟩, fun x hx => (by cases hx), by simp⟩
theorem errB_bare {es : List Ed} (h : es ≠ []) : errB (([] : List Kd).length : Int) (([] : List Int).length : Int) es = 7 := by
  rw [errB_eq, if_pos]
  cases es with
  | nil => exact absurd rfl h
  | cons e es => simp only [List.any_cons, hasN_none']; rfl

set_option maxRecDepth 100000 in
set_option maxHeartbeats 4000000 in
theorem nobody_walk (c cls k : Int) (ao : Option Addr) (cap : Nat) (es : List Ed) (w : World) (he : EAt w ao es) :
    Calls Try.prog 5 #[.int .i64 c, .int .i64 cls, .int .i64 k, .slice ao es.length cap] w fun e w' => e = .returned (.bool true) ∧ Below w.heap.size w w' := by
  have HE : Hid (EAt w ao es) := he
  clear he
  by_cases hgr : 100 < es.length
  · generalize es.length = n at *
    go_enter Try.func5, Try.ntmps5
    go_wp2_with fail
    refine (awake_any _).mono ?_
    rintro e w1 ⟨rfl, hb1⟩
    go_wp2
    go_ret
    exact ⟨rfl, hb1⟩
  · obtain ⟨n, hn⟩ : ∃ n, es.length = n := ⟨_, rfl⟩
    have HN : Hid (es.length = n) := hn
    rw [hn] at hgr
    rw [hn]
    have HEm : Hid (n = 0 → es = []) := fun e => List.length_eq_zero_iff.1 (by rw [HN.out]; exact e)
    clear hn
    have e1 : hasN (([] : List Int).length : Int) c = false := hasN_none c
    have HC : Hid (hasN (([] : List Int).length : Int) c = false) := e1
    have HM : Hid (gmayN [] 0 [] cls c = false) := by show _ = _; unfold gmayN; rw [HC.out]; rfl
    have HS : Hid (gcostN [] [] c = 0) := by show _ = _; unfold gcostN; rw [HC.out]; rfl
    have HG : Hid (getN [] c = 0) := by show _ = _; unfold getN; rw [HC.out]; rfl
    have H7 : Hid (errS (([] : List Kd).length : Int) (([] : List Int).length : Int) c k = 7) := by show _ = _; unfold errS; rw [hasN_none']; rfl
    have HF : Hid (errF (([] : List Kd).length : Int) 0 0 c c cls k k = 7) := by show _ = _; unfold errF; rw [hasN_none']; rfl
    clear e1
    have GN : Hid (∀ W : World, GV W (.pointer none) [] 0 []) := fun W => .inl ⟨rfl, rfl, rfl, rfl⟩
    go_enter Try.func5, Try.ntmps5
    go_wp2_with fail
    refine (awake_any _).mono ?_
    rintro e w1 ⟨rfl, hb1⟩
    go_wp2_with fail
    refine (get_any (GN.out _) c).mono ?_
    rintro e w2 ⟨rfl, rfl⟩
    rw [HC.out, HG.out]
    go_wp2_with fail
    refine (set_nil c k _).mono ?_
    rintro e w3 ⟨rfl, rfl⟩
    go_wp2_with fail
    refine (fill_nil c c cls k k _).mono ?_
    rintro e w4 ⟨rfl, rfl⟩
    go_wp2_with fail
    refine (batch_nil _ _).mono ?_
    rintro e w5 ⟨rfl, hb5⟩
    have hB5 : Below w.heap.size w w5 := below_step hb1 hb5 (Nat.le_refl _)
    clear hb1 hb5
    go_wp2_with fail
    refine (gmay_any (GN.out _) cls c).mono ?_
    rintro e w6 ⟨rfl, hb6⟩
    rw [HM.out]
    have hB6 : Below w.heap.size w w6 := below_step hB5 hb6 (Nat.le_refl _)
    clear hb6 hB5
    go_wp2_with fail
    refine (gcost_any (GN.out _) c).mono ?_
    rintro e w7 ⟨rfl, rfl⟩
    rw [HS.out]
    go_wp2_with fail
    refine (size_nil _).mono ?_
    rintro e w8 ⟨rfl, hb8⟩
    have hB8 : Below w.heap.size w w8 := below_step hB6 hb8 (Nat.le_refl _)
    clear hb8 hB6
    go_wp2_with fail
    refine (table_nil _).mono ?_
    rintro e w9 ⟨rfl, rfl⟩
    go_wp2_with fail
    refine (twin_nil _).mono ?_
    rintro e w10 ⟨rfl, rfl⟩
    obtain ⟨X, hX⟩ : ∃ X, X = w10.alloc (.cells #[.int .i64 0, .int .i64 0, .pointer none, .slice none 0 0] 63) := ⟨_, rfl⟩
    obtain ⟨B, hBe⟩ : ∃ B, B = w10.heap.size := ⟨_, rfl⟩
    have hXg : Grd X B 0 0 (.pointer none) [] 0 none [] := by rw [hX, hBe]; exact bare_grd w10
    have hXb : Below w.heap.size w X := by rw [hX]; exact below_new hB8 (Nat.le_refl _) _
    have XG : Hid (Grd X B 0 0 (.pointer none) [] 0 none []) := hXg
    have XV : Hid (GV X (.pointer (some ⟨B, 0, none⟩)) [] 0 []) := .inr ⟨B, 0, 0, _, _, rfl, hXg⟩
    clear hXg
    go_wp2_with fail
    rw [← hX, ← hBe]
    clear hX hBe hB8
    refine (get_any XV.out c).mono ?_
    rintro e w11 ⟨rfl, rfl⟩
    rw [HC.out, HG.out]
    go_wp2_with fail
    refine (set_no XV.out (by simp) c k (by rw [H7.out]; decide)).mono ?_
    rintro e w12 ⟨rfl, rfl⟩
    rw [H7.out]
    go_wp2_with fail
    refine (fill_no XG.out c c cls k k (by rw [HF.out]; decide)).mono ?_
    rintro e w13 ⟨rfl, hb13⟩
    rw [HF.out]
    have hB13 : Below w.heap.size w w13 := below_step hXb hb13 (Nat.le_refl _)
    have XV13 : Hid (GV w13 (.pointer (some ⟨B, 0, none⟩)) [] 0 []) := XV.out.below hb13
    clear hb13 hXb
    by_cases hz : n = 0
    · subst hz
      go_wp2_with fail
      refine (batch_none XV13.out ao cap).mono ?_
      rintro e w14 ⟨rfl, hb14⟩
      have hB14 : Below w.heap.size w w14 := below_step hB13 hb14 (Nat.le_refl _)
      have XV14 : Hid (GV w14 (.pointer (some ⟨B, 0, none⟩)) [] 0 []) := XV13.out.below hb14
      clear hb14 hB13
      go_wp2_with fail
      refine (gnew_bare 1 1 (.pointer none) 0 _ (.inl ⟨rfl, rfl, rfl⟩) (by decide +kernel)).mono ?_
      rintro e w15 ⟨rfl, hb15⟩
      have hB15 : Below w.heap.size w w15 := below_step hB14 hb15 (Nat.le_refl _)
      have XV15 : Hid (GV w15 (.pointer (some ⟨B, 0, none⟩)) [] 0 []) := XV14.out.below hb15
      clear hb15 hB14
      go_wp2_with fail
      refine (gmay_any XV15.out cls c).mono ?_
      rintro e w16 ⟨rfl, hb16⟩
      rw [HM.out]
      have hB16 : Below w.heap.size w w16 := below_step hB15 hb16 (Nat.le_refl _)
      have XV16 : Hid (GV w16 (.pointer (some ⟨B, 0, none⟩)) [] 0 []) := XV15.out.below hb16
      clear hb16 hB15
      go_wp2_with fail
      refine (gcost_any XV16.out c).mono ?_
      rintro e w17 ⟨rfl, rfl⟩
      rw [HS.out]
      go_wp2
      go_ret
      exact ⟨rfl, hB16⟩
    · have hz' : ((n : Int) == 0) = false := by simp; omega
      have H8 : Hid (errB (([] : List Kd).length : Int) (([] : List Int).length : Int) es = 7) := errB_bare (fun e => hz (by rw [← HN.out, e]; rfl))
      have HB : Hid (Calls Try.prog 13 #[.pointer (some ⟨B, 0, none⟩), .slice ao n cap] w13 fun e w' => e = .returned (.tuple #[.slice none 0 0, .int .i64 7]) ∧ Below w13.heap.size w13 w') := by
        have := batch_no XV13.out ao cap es (by rw [HN.out]; omega) (HE.out.below hB13) (by rw [H8.out]; decide)
        rw [H8.out, HN.out] at this
        exact this
      go_wp2_with fail
      refine Calls.mono HB.out ?_
      rintro e w14 ⟨rfl, hb14⟩
      have hB14 : Below w.heap.size w w14 := below_step hB13 hb14 (Nat.le_refl _)
      have XV14 : Hid (GV w14 (.pointer (some ⟨B, 0, none⟩)) [] 0 []) := XV13.out.below hb14
      clear hb14 hB13 HB
      go_wp2_with fail
      refine (gnew_bare 1 1 (.pointer none) 0 _ (.inl ⟨rfl, rfl, rfl⟩) (by decide +kernel)).mono ?_
      rintro e w15 ⟨rfl, hb15⟩
      have hB15 : Below w.heap.size w w15 := below_step hB14 hb15 (Nat.le_refl _)
      have XV15 : Hid (GV w15 (.pointer (some ⟨B, 0, none⟩)) [] 0 []) := XV14.out.below hb15
      clear hb15 hB14
      go_wp2_with fail
      refine (gmay_any XV15.out cls c).mono ?_
      rintro e w16 ⟨rfl, hb16⟩
      rw [HM.out]
      have hB16 : Below w.heap.size w w16 := below_step hB15 hb16 (Nat.le_refl _)
      have XV16 : Hid (GV w16 (.pointer (some ⟨B, 0, none⟩)) [] 0 []) := XV15.out.below hb16
      clear hb16 hB15
      go_wp2_with fail
      refine (gcost_any XV16.out c).mono ?_
      rintro e w17 ⟨rfl, rfl⟩
      rw [HS.out]
      go_wp2
      go_ret
      exact ⟨rfl, hB16⟩
end Go.Proofs.Ytcflbekjiohfnaa
