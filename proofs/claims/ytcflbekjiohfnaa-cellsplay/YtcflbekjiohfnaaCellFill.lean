/- hasRectangle, Fill. -/
import Derived.Test.YtcflbekjiohfnaaCellPaint
namespace Go.Proofs.Ytcflbekjiohfnaa
open Go.RowKit
set_option linter.unusedVariables false

def rectB (zw zh x y a b : Int) : Bool := Pl.atB zw zh x y && (decide (1 ≤ a) && (decide (a ≤ zw - x) && (decide (1 ≤ b) && decide (b ≤ zh - y))))
theorem rectB_iff {zw zh x y a b : Int} : rectB zw zh x y a b = true ↔ Pl.atB zw zh x y = true ∧ 1 ≤ a ∧ a ≤ zw - x ∧ 1 ≤ b ∧ b ≤ zh - y := by simp [rectB]
/-- What Fill tells. -/
def errF (nk zw zh x y a b k : Int) : Int := if hasN nk k then (if rectB zw zh x y a b then 0 else 6) else 7

set_option maxRecDepth 100000 in
set_option maxHeartbeats 1600000 in
theorem hasRect_any {w : World} {B : Nat} {zw zh : Int} {tp : Value} {ks : List Kd} {cl : Int} {ko : Option Addr} {L : List Int} (h : Grd w B zw zh tp ks cl ko L) (x y a b : Int) :
    Calls Try.prog 35 #[.pointer (some ⟨B, 0, none⟩), .int .i64 x, .int .i64 y, .int .i64 a, .int .i64 b] w fun e w' => e = .returned (.bool (rectB zw zh x y a b)) ∧ Below w.heap.size w w' := by
  have c0 : w.cell? ⟨B, 0, none⟩ = some (.int .i64 zw) := h.blk.at (j := 0) rfl
  have c1 : w.cell? ⟨B, 1, none⟩ = some (.int .i64 zh) := h.blk.at (j := 1) rfl
  have hlt := h.blk.lt
  clear h
  cases ha : Pl.atB zw zh x y with
  | false =>
    have HA : Hid (Pl.atB zw zh x y = false) := ha
    clear ha
    go_enter Try.func35, Try.ntmps35
    go_wp2_with fail
    refine (Pl.index_any zw zh x y _).mono ?_
    rintro e w1 ⟨rfl, hb⟩
    rw [HA.out]
    go_wp2
    go_ret
    exact ⟨ret_of (congrArg Value.bool (show _ = rectB zw zh x y a b from by unfold rectB; rw [HA.out]; rfl)), hb⟩
  | true =>
    have HA : Hid (Pl.atB zw zh x y = true) := ha
    obtain ⟨hr, x0, x1, y0, y1⟩ := Pl.atB_iff.1 ha
    obtain ⟨z1, z2, z3, z4, _⟩ := Pl.rt_iff.1 hr
    clear ha hr
    by_cases e1 : 1 ≤ a
    · by_cases e2 : a ≤ zw - x
      · by_cases e3 : 1 ≤ b
        · go_enter Try.func35, Try.ntmps35
          go_wp2_with fail
          refine (Pl.index_any zw zh x y _).mono ?_
          rintro e w1 ⟨rfl, hb⟩
          rw [HA.out]
          have c0' := (hb.cell (p := ⟨B, 0, none⟩) hlt).trans c0
          have c1' := (hb.cell (p := ⟨B, 1, none⟩) hlt).trans c1
          go_wp2
          go_ret
          exact ⟨ret_of (congrArg Value.bool (show _ = rectB zw zh x y a b from by unfold rectB; rw [HA.out]; simp [e1, e2, e3])), hb⟩
        · have e3' : decide (1 ≤ b) = false := by simpa using e3
          go_enter Try.func35, Try.ntmps35
          go_wp2_with fail
          refine (Pl.index_any zw zh x y _).mono ?_
          rintro e w1 ⟨rfl, hb⟩
          rw [HA.out]
          have c0' := (hb.cell (p := ⟨B, 0, none⟩) hlt).trans c0
          have c1' := (hb.cell (p := ⟨B, 1, none⟩) hlt).trans c1
          go_wp2
          go_ret
          exact ⟨ret_of (congrArg Value.bool (show _ = rectB zw zh x y a b from by unfold rectB; rw [HA.out, e3']; simp)), hb⟩
      · have e2' : decide (a ≤ zw - x) = false := by simpa using e2
        go_enter Try.func35, Try.ntmps35
        go_wp2_with fail
        refine (Pl.index_any zw zh x y _).mono ?_
        rintro e w1 ⟨rfl, hb⟩
        rw [HA.out]
        have c0' := (hb.cell (p := ⟨B, 0, none⟩) hlt).trans c0
        have c1' := (hb.cell (p := ⟨B, 1, none⟩) hlt).trans c1
        go_wp2
        go_ret
        exact ⟨ret_of (congrArg Value.bool (show _ = rectB zw zh x y a b from by unfold rectB; rw [HA.out, e2']; simp)), hb⟩
    · have e1' : decide (1 ≤ a) = false := by simpa using e1
      go_enter Try.func35, Try.ntmps35
      go_wp2_with fail
      refine (Pl.index_any zw zh x y _).mono ?_
      rintro e w1 ⟨rfl, hb⟩
      rw [HA.out]
      go_wp2
      go_ret
      exact ⟨ret_of (congrArg Value.bool (show _ = rectB zw zh x y a b from by unfold rectB; rw [HA.out, e1']; simp)), hb⟩

set_option maxHeartbeats 400000 in
theorem fill_nil (x y a b k : Int) (w : World) : Calls Try.prog 12 #[.pointer none, .int .i64 x, .int .i64 y, .int .i64 a, .int .i64 b, .int .i64 k] w fun e w' => e = .returned (.tuple #[.slice none 0 0, .int .i64 2]) ∧ w' = w := by
  go_enter Try.func12, Try.ntmps12
  go_wp2
  go_ret2
  exact ⟨rfl, rfl⟩

set_option maxHeartbeats 400000 in
theorem fill_no {w : World} {B : Nat} {zw zh : Int} {tp : Value} {ks : List Kd} {cl : Int} {ko : Option Addr} {L : List Int} (h : Grd w B zw zh tp ks cl ko L) (x y a b k : Int) (he : errF ks.length zw zh x y a b k ≠ 0) :
    Calls Try.prog 12 #[.pointer (some ⟨B, 0, none⟩), .int .i64 x, .int .i64 y, .int .i64 a, .int .i64 b, .int .i64 k] w fun e w' => e = .returned (.tuple #[.slice none 0 0, .int .i64 (errF ks.length zw zh x y a b k)]) ∧ Below w.heap.size w w' := by
  have HG : Hid (Grd w B zw zh tp ks cl ko L) := h
  have H : Hid (GV w (.pointer (some ⟨B, 0, none⟩)) ks cl L) := .inr ⟨B, zw, zh, tp, ko, rfl, h⟩
  clear h
  cases hk : hasN ks.length k with
  | false =>
    have HK : Hid (hasN ks.length k = false) := hk
    have e7 : errF ks.length zw zh x y a b k = 7 := by unfold errF; rw [hk]; rfl
    rw [e7]
    clear he hk e7
    go_enter Try.func12, Try.ntmps12
    go_wp2_with fail
    refine (ghasKind_any H.out _).mono ?_
    rintro e w1 ⟨rfl, rfl⟩
    rw [HK.out]
    go_wp2
    go_ret2
    exact ⟨rfl, Below.refl _ _⟩
  | true =>
    have HK : Hid (hasN ks.length k = true) := hk
    cases hc : rectB zw zh x y a b with
    | true => exact absurd (by unfold errF; rw [hk, hc]; rfl) he
    | false =>
      have HC : Hid (rectB zw zh x y a b = false) := hc
      have e6 : errF ks.length zw zh x y a b k = 6 := by unfold errF; rw [hk, hc]; rfl
      rw [e6]
      clear he hk e6 hc
      go_enter Try.func12, Try.ntmps12
      go_wp2_with fail
      refine (ghasKind_any H.out _).mono ?_
      rintro e w1 ⟨rfl, rfl⟩
      rw [HK.out]
      go_wp2_with fail
      refine (hasRect_any HG.out x y a b).mono ?_
      rintro e w1 ⟨rfl, hb⟩
      rw [HC.out]
      go_wp2
      go_ret2
      exact ⟨rfl, hb⟩

set_option maxRecDepth 100000 in
set_option maxHeartbeats 1600000 in
theorem fill_yes {w : World} {F : Nat → Prop} {B K T : Nat} {zw zh : Int} {ks : List Kd} {cl : Int} {L : List Int} (h : Own w F B K T zw zh ks cl L) (x y k : Int) (a b : Nat) (he : errF ks.length zw zh x y a b k = 0) :
    Calls Try.prog 12 #[.pointer (some ⟨B, 0, none⟩), .int .i64 x, .int .i64 y, .int .i64 a, .int .i64 b, .int .i64 k] w fun e w' => ∃ v, e = .returned (.tuple #[v, .int .i64 0]) ∧ IS w' w.heap.size v (diffs L (puts L (rectE zw x y a k b))) ∧ Own w' F B K T zw zh ks cl (puts L (rectE zw x y a k b)) ∧ But w.heap.size K w w' := by
  have hk : hasN ks.length k = true := by
    unfold errF at he; split at he
    · assumption
    · omega
  have hc : rectB zw zh x y a b = true := by
    unfold errF at he; rw [if_pos hk] at he; split at he
    · assumption
    · omega
  have HK : Hid (hasN ks.length k = true) := hk
  have HC : Hid (rectB zw zh x y a b = true) := hc
  obtain ⟨k0, k1⟩ := hasN_iff.1 hk
  obtain ⟨hat, a1, a2, b1, b2⟩ := rectB_iff.1 hc
  obtain ⟨hr, x0, x1, y0, y1⟩ := Pl.atB_iff.1 hat
  obtain ⟨z1, z2, z3, z4, _⟩ := Pl.rt_iff.1 hr
  have HR : Hid (Pl.rt zw zh = true) := hr
  have HG : Hid (GV w (.pointer (some ⟨B, 0, none⟩)) ks cl L) := h.gv
  have HO : Hid (Own w F B K T zw zh ks cl L) := h
  have hBlt := h.blk.lt
  have hKlt := h.row.lt
  have hne := h.ne
  have g0 : w.cell? ⟨B, 0, none⟩ = some (.int .i64 zw) := h.blk.at (j := 0) rfl
  have g1 : w.cell? ⟨B, 1, none⟩ = some (.int .i64 zh) := h.blk.at (j := 1) rfl
  clear h he hk hc hat hr
  go_enter Try.func12, Try.ntmps12
  go_wp2_with fail
  refine (ghasKind_any HG.out _).mono ?_
  rintro e w0 ⟨rfl, rfl⟩
  rw [HK.out]
  go_wp2_with fail
  refine (hasRect_any HO.out.grd x y a b).mono ?_
  rintro e w1 ⟨rfl, hb1⟩
  rw [HC.out]
  go_wp2
  go_loopw [14, 35] (fun s i wr => ∃ (j : Nat) (sv : Value), sv = s ∧ j ≤ b ∧ i = .int .i64 j ∧ Hid (IS wr w0.heap.size sv (diffs L (puts L (rectE zw x y a k j)))) ∧ Hid (Own wr F B K T zw zh ks cl (puts L (rectE zw x y a k j))) ∧ But w0.heap.size K w0 wr) (fun _ i _ => b - (intOf i).toNat)
  case atStart => exact ⟨0, _, rfl, Nat.zero_le _, rfl, by show IS _ _ _ _; rw [show puts L (rectE zw x y a k 0) = L from rfl, diffs_self]; exact IS.nil _ _, HO.out.below hb1, Below.but K hb1⟩
  case round =>
    obtain ⟨j, s, hs, hjn, rfl, HI, HW, hBut⟩ := hrel
    subst hs
    have hsz := hBut.size
    by_cases hlt : j < b
    · have g0r := (hBut.cell (o := 0) hBlt hne).trans g0
      have g1r := (hBut.cell (o := 1) hBlt hne).trans g1
      have hrow := rect_row_lt (zw := zw) (zh := zh) (x := x) (y := y) (w := a) (j := j) (h := b) (by omega) x0 y0 (by omega) (by omega) hlt
      have HL : Hid ((L.length : Int) = zw * zh) := HO.out.len
      have HX : Hid (Pl.idxN zw zh x (y + j) = (y + j) * zw + x ∧ Pl.atB zw zh x (y + j) = true) := by
        have hb : Pl.atB zw zh x (y + j) = true := Pl.atB_iff.2 ⟨HR.out, x0, x1, by omega, by omega⟩
        exact ⟨by unfold Pl.idxN; rw [if_pos hb], hb⟩
      have HN : Hid (puts L (rectE zw x y a k (j + 1)) = puts (puts L (rectE zw x y a k j)) (rowE ((y + j) * zw + x) k a)) := by
        show _ = _
        rw [rectE_succ, puts_append]
      have HAg : Hid (∀ i : Nat, (y + j) * zw + x ≤ i → lAt (puts L (rectE zw x y a k j)) i = lAt L i) := fun i hi => lAt_puts_out i _ _ (fun e he => by
        have := rectE_ahead (by omega) x0 y0 (by omega) he
        omega)
      have hrl : (y + j) * zw + x + a ≤ zw * zh := hrow.2
      have hr0 := hrow.1
      generalize hf : (y + j) * zw + x = f at *
      clear hrow hf
      go_wp2_with fail
      refine (Pl.index_any zw zh x (y + j) _).mono ?_
      rintro e w2 ⟨rfl, hb2⟩
      rw [HX.out.1, HX.out.2]
      have HW2 : Hid (Own w2 F B K T zw zh ks cl (puts L (rectE zw x y a k j))) := HW.out.below hb2
      have HI2 : Hid (IS w2 w0.heap.size s (diffs L (puts L (rectE zw x y a k j)))) := HI.out.below hb2
      have hBut2 : But w0.heap.size K w0 w2 := hBut.step (Below.but K hb2) (Nat.le_refl _)
      clear HW HI hBut
      go_wp2_with fail
      refine (paint_any HW2.out hBlt hKlt HO.out.fb hBut2.size s HI2.out (puts_len _ _) f k a hr0 (by rw [puts_len, HL.out]; exact hrl) k0 k1 HAg.out).mono ?_
      rintro e w3 ⟨v', rfl, hI3, hO3, hBut3⟩
      have HI3 : Hid (IS w3 w0.heap.size v' (diffs L (puts L (rectE zw x y a k (j + 1))))) := by show IS _ _ _ _; rw [HN.out]; exact hI3
      have HW3 : Hid (Own w3 F B K T zw zh ks cl (puts L (rectE zw x y a k (j + 1)))) := by show Own _ _ _ _ _ _ _ _ _ _; rw [HN.out]; exact hO3
      have hBut4 := hBut2.trans hBut3
      clear hI3 hO3 hBut3
      go_wp2
      go_roundw
      case rel => exact ⟨j + 1, _, rfl, by omega, by go_num, HI3, HW3, hBut4⟩
      case measure => simp [intOf]; omega
    · have hje : j = b := by omega
      subst hje
      go_wp2
      go_ret2
      exact ⟨s, rfl, HI.out, HW.out, hBut⟩
end Go.Proofs.Ytcflbekjiohfnaa
