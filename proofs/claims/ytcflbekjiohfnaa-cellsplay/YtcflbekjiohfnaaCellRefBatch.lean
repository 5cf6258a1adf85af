/- The document's machine of layer 3: Batch. -/
import Derived.Test.YtcflbekjiohfnaaCellRefTwo
namespace Go.Proofs.Ytcflbekjiohfnaa
open Go.RowKit
set_option linter.unusedVariables false

theorem hasN_neg {n x : Int} (h : x < 0) : hasN n x = false := by
  cases hh : hasN n x with
  | false => rfl
  | true => have := hasN_iff.1 hh; omega
theorem hasN_pos {n x : Int} (h : ¬ x < 0) : (!hasN n x) = decide (n ≤ x) := by
  by_cases h1 : n ≤ x
  · rw [show hasN n x = false from by
      cases hh : hasN n x with
      | false => rfl
      | true => have := hasN_iff.1 hh; omega, show decide (n ≤ x) = true by simpa using h1]; rfl
  · rw [hasN_iff.2 ⟨by omega, by omega⟩, show decide (n ≤ x) = false by simpa using h1]; rfl
theorem diffs_len_eq {L L' : List Int} : diffs L L' = diffsTo L L' L.length := rfl

set_option maxRecDepth 100000 in
set_option maxHeartbeats 4000000 in
theorem rbatch_any {w : World} {base RB kn kc : Nat} {zw zh cl : Int} {ao : Option Addr} {L : List Int} (h : RG w base RB zw zh (.slice ao kn kc) cl L) (eo : Option Addr) (ec n : Nat) (es : List Ed) (hn : es.length = n) (hn2 : n ≤ 60000) (he : EAt w eo es) (hoff : EOff eo es RB) (hb : base ≤ w.heap.size) (hkn : kn ≤ 16) :
    Calls Try.prog 41 #[.pointer (some ⟨RB, 0, none⟩), .slice eo n ec] w fun e w' => ∃ v, e = .returned (.tuple #[v, .int .i64 (errB kn L.length es)]) ∧ IS w' w.heap.size v (diffs L (batL kn L es)) ∧ RG w' base RB zw zh (.slice ao kn kc) cl (batL kn L es) ∧ But w.heap.size RB w w' := by
  have HG : Hid (RG w base RB zw zh (.slice ao kn kc) cl L) := h
  obtain ⟨lb, lc, hblk, h2, h3, h4, h5⟩ := h.ex
  have hRB := hblk.lt
  have c1 : w.cell? ⟨RB, 2, none⟩ = some (.slice ao kn kc) := hblk.at (j := 2) rfl
  have c4 : w.cell? ⟨RB, 4, none⟩ = some (.slice (some ⟨lb, 0, none⟩) L.length lc) := hblk.at (j := 4) rfl
  have hl1 := h.l1
  have hl2 := h.l2
  have HR : Hid (RowC w lb L) := h5
  have HBk : Hid (Blk w RB 53 (refCells zw zh (.slice ao kn kc) cl (.slice (some ⟨lb, 0, none⟩) L.length lc))) := hblk
  have HE : Hid (EAt w eo es) := he
  have HF : Hid (EOff eo es RB) := hoff
  have HN : Hid (es.length = n) := hn
  have HErr : Hid (errB kn L.length es = if es.any (fun e => !hasN kn e.2) then 7 else if es.any (fun e => !hasN L.length e.1) then 6 else if 65536 < es.length then 9 else 0) := errB_eq _ _ _
  have HBat : Hid (errB kn L.length es ≠ 0 → batL kn L es = L) := fun hh => by unfold batL; rw [if_neg hh]
  have HBat0 : Hid (errB kn L.length es = 0 → batL kn L es = puts L es) := fun hh => by unfold batL; rw [if_pos hh]
  have HMl : Hid (L.length = L.length) := rfl
  have HCi : Hid (errB kn L.length es = 0 → ∀ e ∈ es, 0 ≤ e.1 ∧ e.1 < L.length) := fun hh => (errB_zero hh).2.1
  obtain ⟨i0, hi, hz0, hz1, hz2⟩ := info_parts Try.infoI
  clear h hblk h5 he hoff hn
  obtain ⟨r, hr⟩ : ∃ r, errB kn L.length es = r := ⟨_, rfl⟩
  rw [hr]
  rw [hr] at HErr HBat HBat0 HCi
  clear hr
  obtain ⟨M, hM⟩ : ∃ M, L.length = M := ⟨_, rfl⟩
  have HM : Hid (L.length = M) := hM
  rw [hM] at c4 hl1 hl2 HErr HBk HCi
  clear hM
  go_enter Try.func41, Try.ntmps41
  go_wp2
  go_loopw [6, 7, 8] (fun a b i wr => ∃ (k : Nat) (f1 f2 : Bool), a = .bool f1 ∧ b = .bool f2 ∧ i = .int .i64 k ∧ k ≤ n ∧ Hid (f1 = (es.take k).any (fun e => !hasN kn e.2)) ∧ Hid (f2 = (es.take k).any (fun e => !hasN M e.1)) ∧ Below w.heap.size w wr) (fun _ _ i _ => n - (intOf i).toNat)
  case atStart => exact ⟨0, false, false, rfl, rfl, rfl, Nat.zero_le _, (show false = (es.take 0).any _ by simp), (show false = (es.take 0).any _ by simp), Below.refl _ _⟩
  case round =>
    obtain ⟨k, f1, f2, rfl, rfl, rfl, hkn', F1, F2, hB⟩ := hrel
    by_cases hlt : k < n
    · rcases HE.out.below hB with h | ⟨b, off, rfl, hc⟩
      · have := HN.out; rw [h] at this; simp at this; omega
      · obtain ⟨e0, e1⟩ := hc k (by rw [HN.out]; exact hlt)
        have S1 : Hid ((es.take (k + 1)).any (fun e => !hasN kn e.2) = (f1 || !hasN kn (eAt es k).2)) := by show _ = _; rw [F1.out]; exact any_snoc _ (by rw [HN.out]; exact hlt)
        have S2 : Hid ((es.take (k + 1)).any (fun e => !hasN M e.1) = (f2 || !hasN M (eAt es k).1)) := by show _ = _; rw [F2.out]; exact any_snoc _ (by rw [HN.out]; exact hlt)
        have c1r := (hB.cell (p := ⟨RB, 2, none⟩) hRB).trans c1
        have c4r := (hB.cell (p := ⟨RB, 4, none⟩) hRB).trans c4
        clear hc F1 F2
        generalize eAt es k = x at *
        obtain ⟨x1, x2⟩ := x
        simp only at e0 e1 S1 S2
        have hk0 : (0 : Int) ≤ (k : Int) := by omega
        have hk1 : (k : Int) < (n : Int) := by omega
        cases f1 with
        | true =>
          have T1 : Hid ((es.take (k + 1)).any (fun e => !hasN kn e.2) = true) := by show _ = _; rw [S1.out]; rfl
          clear S1
          have g0 := Grow.cell (cell_lt e0) e0
          have g1 := Grow.cell (cell_lt e1) e1
          have g2 := Grow.cell (cell_lt c1r) c1r
          have g4 := Grow.cell (cell_lt c4r) c4r
          have gn := Grow.ne wr
          go_wp2
          refine wp_region_grow (by kernel_rfl) (by kernel_rfl) ?_
          repeat (go_big_quiet_step (fail))
          refine wpQuiet_nil ?_
          rintro w1 ⟨⟨_, hb1⟩, rfl⟩
          clear g0 g1 g2 g4 gn
          have hB1 := below_step hB hb1 (Nat.le_refl _)
          have e0' := (hb1.cell (p := ⟨b, _, none⟩) (cell_lt e0)).trans e0
          have e1' := (hb1.cell (p := ⟨b, _, none⟩) (cell_lt e1)).trans e1
          have c1' := (hb1.cell (p := ⟨RB, 2, none⟩) (cell_lt c1r)).trans c1r
          have c4' := (hb1.cell (p := ⟨RB, 4, none⟩) (cell_lt c4r)).trans c4r
          clear e0 e1 c1r c4r hB hb1
          cases f2 with
          | true =>
            have T2 : Hid ((es.take (k + 1)).any (fun e => !hasN M e.1) = true) := by show _ = _; rw [S2.out]; rfl
            clear S2
            have g0 := Grow.cell (cell_lt e0') e0'
            have g1 := Grow.cell (cell_lt e1') e1'
            have g2 := Grow.cell (cell_lt c1') c1'
            have g4 := Grow.cell (cell_lt c4') c4'
            have gn := Grow.ne w1
            go_wp2
            refine wp_region_grow (by kernel_rfl) (by kernel_rfl) ?_
            repeat (go_big_quiet_step (fail))
            refine wpQuiet_nil ?_
            rintro w2 ⟨⟨_, hb2⟩, rfl⟩
            clear g0 g1 g2 g4 gn
            have hB2 := below_step hB1 hb2 (Nat.le_refl _)
            go_wp2
            go_roundw
            case rel => exact ⟨k + 1, _, _, rfl, rfl, by go_num, by omega, T1.out.symm, T2.out.symm, hB2⟩
            case measure => simp [intOf]; omega
          | false =>
            by_cases h1 : x1 < 0
            · have T2 : Hid ((es.take (k + 1)).any (fun e => !hasN M e.1) = true) := by show _ = _; rw [S2.out, hasN_neg h1]; rfl
              clear S2
              have g0 := Grow.cell (cell_lt e0') e0'
              have g1 := Grow.cell (cell_lt e1') e1'
              have g2 := Grow.cell (cell_lt c1') c1'
              have g4 := Grow.cell (cell_lt c4') c4'
              have gn := Grow.ne w1
              go_wp2
              refine wp_region_grow (by kernel_rfl) (by kernel_rfl) ?_
              repeat (go_big_quiet_step (fail))
              refine wpQuiet_nil ?_
              rintro w2 ⟨⟨_, hb2⟩, rfl⟩
              clear g0 g1 g2 g4 gn
              have hB2 := below_step hB1 hb2 (Nat.le_refl _)
              go_wp2
              go_roundw
              case rel => exact ⟨k + 1, _, _, rfl, rfl, by go_num, by omega, T1.out.symm, T2.out.symm, hB2⟩
              case measure => simp [intOf]; omega
            · have T2 : Hid ((es.take (k + 1)).any (fun e => !hasN M e.1) = decide ((M : Int) ≤ x1)) := by show _ = _; rw [S2.out, hasN_pos h1]; rfl
              have d1 : decide (x1 < 0) = false := by simpa using h1
              clear S2
              have g0 := Grow.cell (cell_lt e0') e0'
              have g1 := Grow.cell (cell_lt e1') e1'
              have g2 := Grow.cell (cell_lt c1') c1'
              have g4 := Grow.cell (cell_lt c4') c4'
              have gn := Grow.ne w1
              go_wp2
              refine wp_region_grow (by kernel_rfl) (by kernel_rfl) ?_
              repeat (go_big_quiet_step (fail))
              refine wpQuiet_nil ?_
              rintro w2 ⟨⟨_, hb2⟩, rfl⟩
              clear g0 g1 g2 g4 gn
              have hB2 := below_step hB1 hb2 (Nat.le_refl _)
              go_wp2
              go_roundw
              case rel => exact ⟨k + 1, _, _, rfl, rfl, by go_num, by omega, T1.out.symm, T2.out.symm, hB2⟩
              case measure => simp [intOf]; omega
        | false =>
          by_cases h2' : x2 < 0
          · have T1 : Hid ((es.take (k + 1)).any (fun e => !hasN kn e.2) = true) := by show _ = _; rw [S1.out, hasN_neg h2']; rfl
            clear S1
            have g0 := Grow.cell (cell_lt e0) e0
            have g1 := Grow.cell (cell_lt e1) e1
            have g2 := Grow.cell (cell_lt c1r) c1r
            have g4 := Grow.cell (cell_lt c4r) c4r
            have gn := Grow.ne wr
            go_wp2
            refine wp_region_grow (by kernel_rfl) (by kernel_rfl) ?_
            repeat (go_big_quiet_step (fail))
            refine wpQuiet_nil ?_
            rintro w1 ⟨⟨_, hb1⟩, rfl⟩
            clear g0 g1 g2 g4 gn
            have hB1 := below_step hB hb1 (Nat.le_refl _)
            have e0' := (hb1.cell (p := ⟨b, _, none⟩) (cell_lt e0)).trans e0
            have e1' := (hb1.cell (p := ⟨b, _, none⟩) (cell_lt e1)).trans e1
            have c1' := (hb1.cell (p := ⟨RB, 2, none⟩) (cell_lt c1r)).trans c1r
            have c4' := (hb1.cell (p := ⟨RB, 4, none⟩) (cell_lt c4r)).trans c4r
            clear e0 e1 c1r c4r hB hb1
            cases f2 with
            | true =>
              have T2 : Hid ((es.take (k + 1)).any (fun e => !hasN M e.1) = true) := by show _ = _; rw [S2.out]; rfl
              clear S2
              have g0 := Grow.cell (cell_lt e0') e0'
              have g1 := Grow.cell (cell_lt e1') e1'
              have g2 := Grow.cell (cell_lt c1') c1'
              have g4 := Grow.cell (cell_lt c4') c4'
              have gn := Grow.ne w1
              go_wp2
              refine wp_region_grow (by kernel_rfl) (by kernel_rfl) ?_
              repeat (go_big_quiet_step (fail))
              refine wpQuiet_nil ?_
              rintro w2 ⟨⟨_, hb2⟩, rfl⟩
              clear g0 g1 g2 g4 gn
              have hB2 := below_step hB1 hb2 (Nat.le_refl _)
              go_wp2
              go_roundw
              case rel => exact ⟨k + 1, _, _, rfl, rfl, by go_num, by omega, T1.out.symm, T2.out.symm, hB2⟩
              case measure => simp [intOf]; omega
            | false =>
              by_cases h1 : x1 < 0
              · have T2 : Hid ((es.take (k + 1)).any (fun e => !hasN M e.1) = true) := by show _ = _; rw [S2.out, hasN_neg h1]; rfl
                clear S2
                have g0 := Grow.cell (cell_lt e0') e0'
                have g1 := Grow.cell (cell_lt e1') e1'
                have g2 := Grow.cell (cell_lt c1') c1'
                have g4 := Grow.cell (cell_lt c4') c4'
                have gn := Grow.ne w1
                go_wp2
                refine wp_region_grow (by kernel_rfl) (by kernel_rfl) ?_
                repeat (go_big_quiet_step (fail))
                refine wpQuiet_nil ?_
                rintro w2 ⟨⟨_, hb2⟩, rfl⟩
                clear g0 g1 g2 g4 gn
                have hB2 := below_step hB1 hb2 (Nat.le_refl _)
                go_wp2
                go_roundw
                case rel => exact ⟨k + 1, _, _, rfl, rfl, by go_num, by omega, T1.out.symm, T2.out.symm, hB2⟩
                case measure => simp [intOf]; omega
              · have T2 : Hid ((es.take (k + 1)).any (fun e => !hasN M e.1) = decide ((M : Int) ≤ x1)) := by show _ = _; rw [S2.out, hasN_pos h1]; rfl
                have d1 : decide (x1 < 0) = false := by simpa using h1
                clear S2
                have g0 := Grow.cell (cell_lt e0') e0'
                have g1 := Grow.cell (cell_lt e1') e1'
                have g2 := Grow.cell (cell_lt c1') c1'
                have g4 := Grow.cell (cell_lt c4') c4'
                have gn := Grow.ne w1
                go_wp2
                refine wp_region_grow (by kernel_rfl) (by kernel_rfl) ?_
                repeat (go_big_quiet_step (fail))
                refine wpQuiet_nil ?_
                rintro w2 ⟨⟨_, hb2⟩, rfl⟩
                clear g0 g1 g2 g4 gn
                have hB2 := below_step hB1 hb2 (Nat.le_refl _)
                go_wp2
                go_roundw
                case rel => exact ⟨k + 1, _, _, rfl, rfl, by go_num, by omega, T1.out.symm, T2.out.symm, hB2⟩
                case measure => simp [intOf]; omega
          · have T1 : Hid ((es.take (k + 1)).any (fun e => !hasN kn e.2) = decide ((kn : Int) ≤ x2)) := by show _ = _; rw [S1.out, hasN_pos h2']; rfl
            have d2 : decide (x2 < 0) = false := by simpa using h2'
            clear S1
            have g0 := Grow.cell (cell_lt e0) e0
            have g1 := Grow.cell (cell_lt e1) e1
            have g2 := Grow.cell (cell_lt c1r) c1r
            have g4 := Grow.cell (cell_lt c4r) c4r
            have gn := Grow.ne wr
            go_wp2
            refine wp_region_grow (by kernel_rfl) (by kernel_rfl) ?_
            repeat (go_big_quiet_step (fail))
            refine wpQuiet_nil ?_
            rintro w1 ⟨⟨_, hb1⟩, rfl⟩
            clear g0 g1 g2 g4 gn
            have hB1 := below_step hB hb1 (Nat.le_refl _)
            have e0' := (hb1.cell (p := ⟨b, _, none⟩) (cell_lt e0)).trans e0
            have e1' := (hb1.cell (p := ⟨b, _, none⟩) (cell_lt e1)).trans e1
            have c1' := (hb1.cell (p := ⟨RB, 2, none⟩) (cell_lt c1r)).trans c1r
            have c4' := (hb1.cell (p := ⟨RB, 4, none⟩) (cell_lt c4r)).trans c4r
            clear e0 e1 c1r c4r hB hb1
            cases f2 with
            | true =>
              have T2 : Hid ((es.take (k + 1)).any (fun e => !hasN M e.1) = true) := by show _ = _; rw [S2.out]; rfl
              clear S2
              have g0 := Grow.cell (cell_lt e0') e0'
              have g1 := Grow.cell (cell_lt e1') e1'
              have g2 := Grow.cell (cell_lt c1') c1'
              have g4 := Grow.cell (cell_lt c4') c4'
              have gn := Grow.ne w1
              go_wp2
              refine wp_region_grow (by kernel_rfl) (by kernel_rfl) ?_
              repeat (go_big_quiet_step (fail))
              refine wpQuiet_nil ?_
              rintro w2 ⟨⟨_, hb2⟩, rfl⟩
              clear g0 g1 g2 g4 gn
              have hB2 := below_step hB1 hb2 (Nat.le_refl _)
              go_wp2
              go_roundw
              case rel => exact ⟨k + 1, _, _, rfl, rfl, by go_num, by omega, T1.out.symm, T2.out.symm, hB2⟩
              case measure => simp [intOf]; omega
            | false =>
              by_cases h1 : x1 < 0
              · have T2 : Hid ((es.take (k + 1)).any (fun e => !hasN M e.1) = true) := by show _ = _; rw [S2.out, hasN_neg h1]; rfl
                clear S2
                have g0 := Grow.cell (cell_lt e0') e0'
                have g1 := Grow.cell (cell_lt e1') e1'
                have g2 := Grow.cell (cell_lt c1') c1'
                have g4 := Grow.cell (cell_lt c4') c4'
                have gn := Grow.ne w1
                go_wp2
                refine wp_region_grow (by kernel_rfl) (by kernel_rfl) ?_
                repeat (go_big_quiet_step (fail))
                refine wpQuiet_nil ?_
                rintro w2 ⟨⟨_, hb2⟩, rfl⟩
                clear g0 g1 g2 g4 gn
                have hB2 := below_step hB1 hb2 (Nat.le_refl _)
                go_wp2
                go_roundw
                case rel => exact ⟨k + 1, _, _, rfl, rfl, by go_num, by omega, T1.out.symm, T2.out.symm, hB2⟩
                case measure => simp [intOf]; omega
              · have T2 : Hid ((es.take (k + 1)).any (fun e => !hasN M e.1) = decide ((M : Int) ≤ x1)) := by show _ = _; rw [S2.out, hasN_pos h1]; rfl
                have d1 : decide (x1 < 0) = false := by simpa using h1
                clear S2
                have g0 := Grow.cell (cell_lt e0') e0'
                have g1 := Grow.cell (cell_lt e1') e1'
                have g2 := Grow.cell (cell_lt c1') c1'
                have g4 := Grow.cell (cell_lt c4') c4'
                have gn := Grow.ne w1
                go_wp2
                refine wp_region_grow (by kernel_rfl) (by kernel_rfl) ?_
                repeat (go_big_quiet_step (fail))
                refine wpQuiet_nil ?_
                rintro w2 ⟨⟨_, hb2⟩, rfl⟩
                clear g0 g1 g2 g4 gn
                have hB2 := below_step hB1 hb2 (Nat.le_refl _)
                go_wp2
                go_roundw
                case rel => exact ⟨k + 1, _, _, rfl, rfl, by go_num, by omega, T1.out.symm, T2.out.symm, hB2⟩
                case measure => simp [intOf]; omega
    · have hke : k = es.length := by rw [HN.out]; omega
      rw [hke, List.take_length] at F1 F2
      rw [← F1.out, ← F2.out, HN.out] at HErr
      clear F1 F2 hke
      cases f1 with
      | true =>
        have hr7 : r = 7 := HErr.out
        subst hr7
        have hbl : Hid (batL kn L es = L) := HBat.out (by decide)
        have HG2 : Hid (RG wr base RB zw zh (.slice ao kn kc) cl L) := HG.out.below hB
        clear HErr
        go_wp2
        go_ret2
        rw [hbl.out, diffs_self]
        exact ⟨_, rfl, IS.nil _ _, HG2.out, Below.but RB hB⟩
      | false =>
        cases f2 with
        | true =>
          have hr6 : r = 6 := HErr.out
          subst hr6
          have hbl : Hid (batL kn L es = L) := HBat.out (by decide)
          have HG2 : Hid (RG wr base RB zw zh (.slice ao kn kc) cl L) := HG.out.below hB
          clear HErr
          go_wp2
          go_ret2
          rw [hbl.out, diffs_self]
          exact ⟨_, rfl, IS.nil _ _, HG2.out, Below.but RB hB⟩
        | false =>
          have hr0 : r = 0 := by
            have := HErr.out
            rw [if_neg (by simp), if_neg (by simp), if_neg (by omega)] at this
            exact this
          subst hr0
          have hbl : Hid (batL kn L es = puts L es) := HBat0.out rfl
          have HCs : Hid (∀ e ∈ es, 0 ≤ e.1 ∧ e.1 < M) := HCi.out rfl
          have hRw : RowC wr lb L := HR.out.below hB
          have c4r := (hB.cell (p := ⟨RB, 4, none⟩) hRB).trans c4
          have hlbw : lb < wr.heap.size := Nat.lt_of_lt_of_le h4 hB.size
          have hRBw : RB < wr.heap.size := Nat.lt_of_lt_of_le hRB hB.size
          have hbk : Below wr.heap.size wr (wr.alloc (.cells #[] 3)) := (Below.refl _ _).alloc (Nat.le_refl _) _
          have hsrc : ∀ j u, (ints L)[j]? = some u → (wr.alloc (.cells #[] 3)).cell? ((⟨lb, 0, none⟩ : Addr).add j) = some u := fun j u hu => by
            have hj : j < L.length := by have := (List.getElem?_eq_some_iff.1 hu).1; rwa [ints_len] at this
            rw [ints_at hj] at hu
            rw [add_eq, Nat.zero_add, hbk.cell (p := ⟨lb, j, none⟩) hlbw, (hRw j hj).1]
            exact hu
          have hone : ∀ u ∈ ints L, u.oneCell' = true := fun u hu => by
            obtain ⟨q, _, rfl⟩ := List.mem_map.1 hu
            rfl
          have HSr : Hid (∀ j u, (ints L)[j]? = some u → (wr.alloc (.cells #[] 3)).cell? ((⟨lb, 0, none⟩ : Addr).add j) = some u) := hsrc
          have HOn : Hid (∀ u ∈ ints L, u.oneCell' = true) := hone
          have HRw : Hid (RowC wr lb L) := hRw
          have hsw := hB.size
          clear HErr HBat HBat0 HCi hsrc hone hRw
          go_wp2_with (at_builtin; refine wpList_append_own _ rfl _ _ 29 rfl wr.heap.size 3 i0 (.int .i64 0) 1 8 Try.underlying29 hi hz0 hz1 hz2 rfl (by decide) _ _ _ rfl (World.ownsRow_made wr #[] 0 (Nat.le_refl _) (Nat.zero_le _) rfl) ⟨lb, 0, none⟩ M lc (ints L) rfl (by rw [ints_len, HM.out, Nat.mul_one]) HSr.out HOn.out (by unfold maxLen; omega) (by omega) (by simp) ?_)
          intro v' w3 hown hgrow _
          have hB3 := hbk.grown hgrow (by simp) (by intro q hq; simp [Value.ownBlock] at hq; omega)
          have hIS : IS w3 wr.heap.size v' L := by
            unfold IS
            rw [HM.out]
            simpa using hown
          obtain ⟨ng, nc, hv', hng, hngl, hrow⟩ := hIS.rowC (by rw [HM.out]; exact hl1)
          rw [HM.out] at hv'
          subst hv'
          have HRow : Hid (RowC w3 ng L) := hrow
          have hBw3 := below_step hB hB3 (Nat.le_refl _)
          have hngw : w.heap.size ≤ ng := Nat.le_trans hsw hng
          clear hown hgrow hIS hrow HSr HOn hbk HRw c4r
          go_wp2
          go_loopw [10] (fun i wr => ∃ q : Nat, q ≤ n ∧ i = .int .i64 q ∧ Hid (RowC wr ng (puts L (es.take q))) ∧ Below w.heap.size w wr ∧ ng < wr.heap.size) (fun i _ => n - (intOf i).toNat)
          case atStart => exact ⟨0, Nat.zero_le _, rfl, HRow, hBw3, hngl⟩
          case round =>
            obtain ⟨q, hqn, rfl, HRq, hBq, hngq⟩ := hrel
            by_cases hlt2 : q < n
            · rcases HE.out.below hBq with h | ⟨b, off, rfl, hc⟩
              · have := HN.out; rw [h] at this; simp at this; omega
              · obtain ⟨e0, e1⟩ := hc q (by rw [HN.out]; exact hlt2)
                have hx := HCs.out (eAt es q) (eAt_mem (by rw [HN.out]; exact hlt2))
                have HS : Hid (puts L (es.take (q + 1)) = put (puts L (es.take q)) (eAt es q).1 (eAt es q).2) := puts_snoc L (by rw [HN.out]; exact hlt2)
                have hpl : (puts L (es.take q)).length = M := by rw [puts_len]; exact HM.out
                clear hc
                generalize eAt es q = x at *
                obtain ⟨x1, x2⟩ := x
                simp only at e0 e1 hx HS
                obtain ⟨hx0, hx1⟩ := hx
                have hrc := HRq.out x1.toNat (by omega)
                have hk0 : (0 : Int) ≤ (q : Int) := by omega
                have hk1 : (q : Int) < (n : Int) := by omega
                have g0 := Grow.cell (cell_lt e0) e0
                have g1 := Grow.cell (cell_lt e1) e1
                have gn := Grow.ne wr
                go_wp2
                refine wp_region_tail 12 (by kernel_rfl) (by kernel_rfl) (by kernel_rfl) ?_
                simp only [stillAt, stillOp, List.set_cons_succ, List.set_cons_zero, List.getElem?_cons_succ, List.getElem?_cons_zero, Option.getD_some, List.drop_succ_cons, List.drop_zero]
                repeat (go_big_quiet_step (fail))
                refine wpQuiet_nil ?_
                rintro w4 ⟨⟨_, hb4⟩, rfl⟩
                clear g0 g1 gn
                have k4 := (hb4.cell (p := ⟨ng, x1.toNat, none⟩) hngq).trans hrc.1
                have f4 := (hb4.frozen (p := ⟨ng, x1.toNat, none⟩) hngq).trans hrc.2
                have HR4 : Hid (RowC (w4.setCell ⟨ng, x1.toNat, none⟩ (.int .i64 x2)) ng (puts L (es.take (q + 1)))) := by
                  show RowC _ _ _
                  rw [HS.out]
                  exact (HRq.out.below hb4).put x2 hx0 (by omega)
                have hB4 := (below_step hBq hb4 (Nat.le_refl _)).setCell (p := ⟨ng, x1.toNat, none⟩) hngw (.int .i64 x2)
                have hngl4 : ng < (w4.setCell ⟨ng, x1.toNat, none⟩ (.int .i64 x2)).heap.size := by have := hb4.size; simp; omega
                clear HRq HS hrc
                go_wp2
                go_roundw
                case rel => exact ⟨q + 1, by omega, by go_num, HR4, hB4, hngl4⟩
                case measure => simp [intOf]; omega
            · have hRn : RowC wr ng (puts L es) := by
                have := HRq.out
                rwa [show q = es.length by rw [HN.out]; omega, List.take_length] at this
              obtain ⟨w5, hw5⟩ : ∃ w5, w5 = wr := ⟨_, rfl⟩
              have HR5 : Hid (RowC w5 ng (puts L es)) := by rw [hw5]; exact hRn
              have HL5 : Hid (RowC w5 lb L) := by rw [hw5]; exact HR.out.below hBq
              have c45 : w5.cell? ⟨RB, 4, none⟩ = some (.slice (some ⟨lb, 0, none⟩) M lc) := by rw [hw5]; exact (hBq.cell (p := ⟨RB, 4, none⟩) hRB).trans c4
              have hB5 : Below w.heap.size w w5 := by rw [hw5]; exact hBq
              have hng5 : ng < w5.heap.size := by rw [hw5]; exact hngq
              have hst : Below w5.heap.size w5 wr := by rw [hw5]; exact Below.refl _ _
              have hpl : (puts L es).length = M := by rw [puts_len]; exact HM.out
              have hs5 := hB5.size
              generalize hLp : puts L es = L1 at *
              clear hRn HRq hw5 hBq HRow
              go_wp2
              go_loopw [11, 12] (fun s i wr => ∃ (j : Nat) (sv : Value), sv = s ∧ j ≤ M ∧ i = .int .i64 j ∧ Hid (IS wr w5.heap.size sv (diffsTo L L1 j)) ∧ Below w5.heap.size w5 wr) (fun _ i _ => M - (intOf i).toNat)
              case atStart => exact ⟨0, _, rfl, Nat.zero_le _, rfl, IS.nil _ _, hst⟩
              case round =>
                obtain ⟨j, s, hs, hjn, rfl, HI, hB6⟩ := hrel
                subst hs
                have hsz6 := hB6.size
                by_cases hlt3 : j < M
                · have y0 := (hB6.cell (p := ⟨ng, j, none⟩) hng5).trans (HR5.out j (by omega)).1
                  have y1 := (hB6.cell (p := ⟨lb, j, none⟩) (by show lb < w5.heap.size; omega)).trans (HL5.out j (by rw [HM.out]; exact hlt3)).1
                  have y4 := (hB6.cell (p := ⟨RB, 4, none⟩) (cell_lt c45)).trans c45
                  have HS : Hid (diffsTo L L1 (j + 1) = diffsTo L L1 j ++ (if lAt L1 j = lAt L j then [] else [(j : Int)])) := diffsTo_succ L L1 j
                  have hdl := diffsTo_len L L1 j
                  generalize lAt L1 j = p at *
                  generalize lAt L j = qv at *
                  generalize diffsTo L L1 j = fs at *
                  have g0 := Grow.cell (cell_lt y0) y0
                  have g1 := Grow.cell (cell_lt y1) y1
                  have g4 := Grow.cell (cell_lt y4) y4
                  have gn := Grow.ne wr
                  go_wp2
                  refine wp_region_grow (by kernel_rfl) (by kernel_rfl) ?_
                  repeat (go_big_quiet_step (fail))
                  refine wpQuiet_nil ?_
                  rintro w7 ⟨⟨_, hb7⟩, rfl⟩
                  clear g0 g1 g4 gn
                  have hB7 := below_step hB6 hb7 (Nat.le_refl _)
                  have HI7 : Hid (IS w7 w5.heap.size s fs) := HI.out.below hb7
                  have hsz7 := hB7.size
                  by_cases hpq : p = qv
                  · have e0 : (p != qv) = false := by simp [hpq]
                    rw [e0]
                    have HS' : Hid (diffsTo L L1 (j + 1) = fs) := by show _ = _; rw [HS.out, if_pos hpq, List.append_nil]
                    clear HS
                    go_wp2
                    go_roundw
                    case rel => exact ⟨j + 1, _, rfl, by omega, by go_num, by rw [HS'.out]; exact HI7, hB7⟩
                    case measure => simp [intOf]; omega
                  · have e0 : (p != qv) = true := by simp [hpq]
                    rw [e0]
                    have HS' : Hid (diffsTo L L1 (j + 1) = fs ++ [(j : Int)]) := by show _ = _; rw [HS.out, if_neg hpq]
                    have hown : w7.ownsRow w5.heap.size 3 1 s fs.length (ints fs) := HI7.out
                    clear HS e0
                    go_wp2_with (at_builtin; refine wpList_append_own _ rfl _ _ 29 rfl w5.heap.size 3 i0 (.int .i64 0) 1 8 Try.underlying29 hi hz0 hz1 hz2 rfl (by decide) _ _ _ rfl (hown.alloc _) ⟨w7.heap.size, 0, none⟩ 1 1 [.int .i64 j] rfl rfl (int_news (Blk.new w7 3 #[.int .i64 j])) (by simp [Value.oneCell']) (by unfold maxLen; omega) (by omega) (by simp; omega) ?_)
                    intro v8 w8 hown2 hgrow _
                    have hB8 := (below_new hB7 (Nat.le_refl _) (.cells #[.int .i64 j] 3)).grown hgrow (by simp; omega) (fun r hr => (hown.lt r hr).1)
                    have HI8 : Hid (IS w8 w5.heap.size v8 (fs ++ [(j : Int)])) := by
                      show IS _ _ _ _
                      unfold IS
                      rw [show (fs ++ [(j : Int)]).length = fs.length + 1 by simp, show ints (fs ++ [(j : Int)]) = ints fs ++ [.int .i64 j] by simp [ints]]
                      exact hown2
                    clear hown2 hgrow hown
                    go_wp2
                    go_roundw
                    case rel => exact ⟨j + 1, _, rfl, by omega, by go_num, by rw [HS'.out]; exact HI8, hB8⟩
                    case measure => simp [intOf]; omega
                · have hI9 : IS wr w5.heap.size s (diffs L L1) := by
                    have := HI.out
                    rwa [show j = L.length by rw [HM.out]; omega] at this
                  have HI9 : Hid (IS wr w5.heap.size s (diffs L L1)) := hI9
                  have y4 := (hB6.cell (p := ⟨RB, 4, none⟩) (cell_lt c45)).trans c45
                  have hBw := below_step hB5 hB6 (Nat.le_refl _)
                  have hBl9 := (HBk.out.below hBw)
                  have hRB9 := hBl9.lt
                  have f4 := hBl9.frozen 4
                  have HB9 : Hid (Blk wr RB 53 (refCells zw zh (.slice ao kn kc) cl (.slice (some ⟨lb, 0, none⟩) M lc))) := hBl9
                  have HR9 : Hid (RowC wr ng L1) := HR5.out.below hB6
                  clear hI9 HI hBl9 HR5 HL5
                  go_wp2
                  go_ret2
                  rw [hbl.out]
                  have hset : But wr.heap.size RB wr (wr.setCell ⟨RB, 4, none⟩ (.slice (some ⟨ng, 0, none⟩) M nc)) := (But.refl _ _ _).set 4 _
                  refine ⟨s, rfl, (IS.but (HI9.out) hset (by omega)).mono hs5, ⟨⟨ng, nc, ?_, by omega, by omega, by simp; omega, HR9.out.but hset (by omega)⟩, HG.out.rb, by omega, by omega⟩, (Below.but RB hBw).set 4 _⟩
                  have := HB9.out.setAt 4 (.slice (some ⟨ng, 0, none⟩) M nc)
                  rw [hpl]
                  exact this
end Go.Proofs.Ytcflbekjiohfnaa
