/- The walk of DrawsBehind. -/
import Derived.Test.YtaddeckamegpgaaDrawTells
namespace Go.Proofs.Ytaddeckamegpgaa
open Go.RowKit
set_option linter.unusedVariables false

theorem lAt_noughts (xs : List Int) (i : Nat) : lAt (xs ++ [0, 0]) i = lAt xs i := by
  by_cases h : i < xs.length
  · rw [lAt_eq h, lAt_eq (show i < (xs ++ [0, 0]).length by simp; omega), List.getElem_append_left h]
  · rw [lAt_out (L := xs) (by omega)]
    by_cases h2 : i < (xs ++ [0, 0]).length
    · rw [lAt_eq h2, List.getElem_append_right (by omega)]
      have h3 : i - xs.length = 0 ∨ i - xs.length = 1 := by simp at h2; omega
      rcases h3 with h3 | h3 <;> simp [h3]
    · exact lAt_out (by omega)
theorem draw_noughts (xs : List Int) (i : Nat) : drawN (xs ++ [0, 0]) i = drawN xs i := by unfold drawN; rw [lAt_noughts]
theorem draw_behind {xs ys : List Int} {i : Nat} (h1 : xs.length ≤ i) (h2 : ys.length ≤ i) : drawN xs i = drawN ys i := by unfold drawN; rw [lAt_out h1, lAt_out h2]
theorem two_news {W : World} {h : Nat} (hh : Blk W h 30 #[.int .u32 0, .int .u32 0]) : ∀ j u, ([.int .u32 0, .int .u32 0] : List Value)[j]? = some u → W.cell? ((⟨h, 0, none⟩ : Addr).add j) = some u := by
  intro j u hu
  rw [add_eq]
  match j, hu with
  | 0, hu => cases hu; exact hh.at rfl
  | 1, hu => cases hu; exact hh.at rfl

set_option maxRecDepth 100000 in
set_option maxHeartbeats 1600000 in
theorem dbehind_walk (ao : Option Addr) (cap : Nat) (xs : List Int) (bo : Option Addr) (bcap : Nat) (ys : List Int) (w : World) (hk : UAt w ao xs) (hw : Wu xs) (hl : xs.length ≤ 9223372036854775807) (hk' : UAt w bo ys) (hw' : Wu ys) (hl' : ys.length ≤ 9223372036854775807) :
    Calls Try.prog 6 #[.slice ao xs.length cap, .slice bo ys.length bcap] w fun e w' => e = .returned (.bool true) ∧ Below w.heap.size w w' := by
  have HK : Hid (UAt w ao xs) := hk
  have HW : Hid (Wu xs) := hw
  have HKy : Hid (UAt w bo ys) := hk'
  have HWy : Hid (Wu ys) := hw'
  clear hk hw hk' hw'
  obtain ⟨a, ha⟩ : ∃ a, a = xs.length := ⟨_, rfl⟩
  have HN : Hid (xs.length = a) := ha.symm
  obtain ⟨b, hb⟩ : ∃ b, b = ys.length := ⟨_, rfl⟩
  have HNy : Hid (ys.length = b) := hb.symm
  rw [← ha] at hl ⊢
  rw [← hb] at hl' ⊢
  clear ha hb
  by_cases hbig : 500 < a ∨ 500 < b
  · go_enter Try.func6, Try.ntmps6
    go_wp2_with fail
    refine (dawake_any _).mono ?_
    rintro e w1 ⟨rfl, hb1⟩
    by_cases h5 : 500 < a
    · go_wp2
      go_ret
      exact ⟨rfl, hb1⟩
    · have h3 : 500 < b := by omega
      go_wp2
      go_ret
      exact ⟨rfl, hb1⟩
  have h5 : a ≤ 500 := by omega
  have h3 : b ≤ 500 := by omega
  clear hbig hl hl'
  obtain ⟨i0, hi, hz0, hz1, hz2⟩ := info_parts Try.infoW
  go_enter Try.func6, Try.ntmps6
  go_wp2_with fail
  refine (dawake_any _).mono ?_
  rintro e w1 ⟨rfl, hb1⟩
  have hs1 := hb1.size
  go_wp2_with fail
  refine (dnew_yes ao a cap xs w1 HN.out (HK.out.below hb1) HW.out (by omega)).mono ?_
  rintro e w2 ⟨B1, G1, rfl, hB1, hG1, hD, hb⟩
  have hb2 := below_step hb1 hb (Nat.le_refl _)
  have X2 : Hid (Drw w2 B1 G1 xs 0) := hD
  have hB1l := hD.lt
  have hG1l := hD.gl
  have hs2 := hb.size
  clear hD hb hb1
  go_wp2_with fail
  refine (dnew_yes bo b bcap ys w2 HNy.out (HKy.out.below hb2) HWy.out (by omega)).mono ?_
  rintro e w3 ⟨B2, G2, rfl, hB2, hG2, hD, hb⟩
  have hb3 := below_step hb2 hb (Nat.le_refl _)
  have X3 : Hid (Drw w3 B1 G1 xs 0) := X2.out.below hb
  have Y3 : Hid (Drw w3 B2 G2 ys 0) := hD
  have hB2l := hD.lt
  have hG2l := hD.gl
  have hs3 := hb.size
  clear hD hb hb2 X2
  rcases Option.eq_none_or_eq_some ao with rfl | ⟨ad, rfl⟩
  · have hxs : xs = [] := by
      rcases HK.out with h | ⟨b, off, h, _⟩
      · exact h
      · cases h
    subst hxs
    obtain rfl : a = 0 := HN.out.symm
    have hb4 := below_new hb3 (Nat.le_refl _) (.cells #[] 30)
    have hV4 := (Below.refl w3.heap.size w3).alloc (Nat.le_refl _) (.cells #[] 30)
    have hown : (w3.alloc (.cells #[] 30)).ownsRow w3.heap.size 30 1 (.slice (some ⟨w3.heap.size, 0, none⟩) 0 0) 0 [] := World.ownsRow_made w3 #[] 0 (Nat.le_refl _) (Nat.zero_le _) rfl
    have hnw : Blk ((w3.alloc (.cells #[] 30)).alloc (.cells #[.int .u32 0, .int .u32 0] 30)) (w3.heap.size + 1) 30 #[.int .u32 0, .int .u32 0] := by
      have := Blk.new (w3.alloc (.cells #[] 30)) 30 #[.int .u32 0, .int .u32 0]
      simpa using this
    go_wp2_with (at_builtin; refine wpList_append_own _ rfl _ _ 26 rfl w3.heap.size 30 i0 (.int .u32 0) 1 4 Try.underlying26 hi hz0 hz1 hz2 rfl (by decide) _ _ _ rfl (hown.alloc _) ⟨w3.heap.size + 1, 0, none⟩ 2 2 [.int .u32 0, .int .u32 0] rfl rfl (two_news hnw) (by simp [Value.oneCell']) (by unfold maxLen; omega) (by omega) (by simp; omega) ?_)
    clear hnw
    intro v5 w5 hown5 hgrow5 hne5
    have hs5 := hgrow5.size
    simp at hs5
    have hb5 : Below w.heap.size w w5 := (below_new hb4 (Nat.le_refl _) (.cells #[.int .u32 0, .int .u32 0] 30)).grown hgrow5 (by simp; omega) (fun r hr => by have := (hown.lt r hr).1; omega)
    have hV5 : Below w3.heap.size w3 w5 := (below_new hV4 (Nat.le_refl _) (.cells #[.int .u32 0, .int .u32 0] 30)).grown hgrow5 (by simp; omega) (fun r hr => by have := (hown.lt r hr).1; omega)
    obtain ⟨g, cap', cs, rfl, hg, hblk, hcs, hu⟩ := own_blk (n := 0 + 2) (xs := [] ++ [0, 0]) (by have := HN.out; simp; try omega) (by simpa [us] using hown5) hne5
    have HU : Hid (UAt w5 (some ⟨g, 0, none⟩) ([] ++ [0, 0])) := hu
    have HNz : Hid (([] ++ [0, 0]).length = 0 + 2) := by show _ = _; have := HN.out; simp; try omega
    have HWz : Hid (Wu ([] ++ [0, 0])) := by
      intro x hx
      rcases List.mem_append.1 hx with hx | hx
      · exact HW.out x hx
      · simp at hx; omega
    have X5 : Hid (Drw w5 B1 G1 [] 0) := X3.out.below hV5
    have Y5 : Hid (Drw w5 B2 G2 ys 0) := Y3.out.below hV5
    have hs35 := hV5.size
    clear hown hown5 hgrow5 hne5 hblk hcs hu X3 Y3 hb4 hV4 hV5 hi hz0 hz1 hz2
    go_wp2_with fail
    refine (dnew_yes _ (0 + 2) cap' ([] ++ [0, 0]) w5 HNz.out HU.out HWz.out (by omega)).mono ?_
    rintro e w6 ⟨B3, G3, rfl, hB3, hG3, hD, hb⟩
    have hb6 := below_step hb5 hb (Nat.le_refl _)
    have X6 : Hid (Drw w6 B1 G1 [] 0) := X5.out.below hb
    have Y6 : Hid (Drw w6 B2 G2 ys 0) := Y5.out.below hb
    have Z6 : Hid (Drw w6 B3 G3 ([] ++ [0, 0]) 0) := hD
    clear hD hb hb5 X5 Y5 HU HNz HWz hb3
    by_cases hab : 0 < b
    · go_wp2
      go_loopw [12] (fun i wr => ∃ k : Nat, k ≤ (b + 20) ∧ i = .int .i64 k ∧ Hid (Drw wr B1 G1 [] k) ∧ Hid (Drw wr B2 G2 ys k) ∧ Hid (Drw wr B3 G3 ([] ++ [0, 0]) k) ∧ Below w.heap.size w wr) (fun i _ => (b + 20) - (intOf i).toNat)
      case atStart => exact ⟨0, by omega, rfl, X6, Y6, Z6, hb6⟩
      case round =>
        clear X6 Y6 Z6 hb6
        obtain ⟨k, hkn, rfl, X, Y, Z, hB⟩ := hrel
        by_cases hlt : k < (b + 20)
        · go_wp2_with fail
          refine (next_any X.out (by omega)).mono ?_
          rintro e w7 ⟨rfl, hD, hu⟩
          have X7 : Hid (Drw w7 B1 G1 [] (k + 1)) := hD
          have Y7 : Hid (Drw w7 B2 G2 ys k) := Y.out.but hu (by omega) (by omega)
          have Z7 : Hid (Drw w7 B3 G3 ([] ++ [0, 0]) k) := Z.out.but hu (by omega) (by omega)
          have hb7 := hB.trans ((hu.mono hB.size).below (by omega))
          clear hD hu X Y Z hB
          go_wp2_with fail
          refine (next_any Y7.out (by omega)).mono ?_
          rintro e w8 ⟨rfl, hD, hu⟩
          have X8 : Hid (Drw w8 B1 G1 [] (k + 1)) := X7.out.but hu (by omega) (by omega)
          have Y8 : Hid (Drw w8 B2 G2 ys (k + 1)) := hD
          have Z8 : Hid (Drw w8 B3 G3 ([] ++ [0, 0]) k) := Z7.out.but hu (by omega) (by omega)
          have hb8 := hb7.trans ((hu.mono hb7.size).below (by omega))
          clear hD hu X7 Y7 Z7 hb7
          go_wp2_with fail
          refine (next_any Z8.out (by omega)).mono ?_
          rintro e w9 ⟨rfl, hD, hu⟩
          have X9 : Hid (Drw w9 B1 G1 [] (k + 1)) := X8.out.but hu (by omega) (by omega)
          have Y9 : Hid (Drw w9 B2 G2 ys (k + 1)) := Y8.out.but hu (by omega) (by omega)
          have Z9 : Hid (Drw w9 B3 G3 ([] ++ [0, 0]) (k + 1)) := hD
          have hb9 := hb8.trans ((hu.mono hb8.size).below (by omega))
          clear hD hu X8 Y8 Z8 hb8
          rw [draw_noughts]
          have HQ : Hid (b ≤ k → drawN ys k = drawN [] k) := fun h => draw_behind (by rw [HNy.out]; omega) (by rw [HN.out]; omega)
          generalize drawN [] k = p at *
          generalize drawN ys k = q at *
          by_cases hkn' : b ≤ k
          · obtain rfl := HQ.out hkn'
            go_wp2
            go_roundw
            case rel => exact ⟨k + 1, by omega, by go_num, X9, Y9, Z9, hb9⟩
            case measure => simp [intOf]; omega
          · go_wp2
            go_roundw
            case rel => exact ⟨k + 1, by omega, by go_num, X9, Y9, Z9, hb9⟩
            case measure => simp [intOf]; omega
        · obtain rfl : k = (b + 20) := by omega
          go_wp2_with fail
          refine (dlen_any X.out).mono ?_
          rintro e w7 ⟨rfl, rfl⟩
          rw [show ((b + 20 : Nat) : Int) = (b : Int) + 20 by omega]
          go_wp2
          go_ret
          exact ⟨rfl, hB⟩
    · go_wp2
      go_loopw [12] (fun i wr => ∃ k : Nat, k ≤ 20 ∧ i = .int .i64 k ∧ Hid (Drw wr B1 G1 [] k) ∧ Hid (Drw wr B2 G2 ys k) ∧ Hid (Drw wr B3 G3 ([] ++ [0, 0]) k) ∧ Below w.heap.size w wr) (fun i _ => 20 - (intOf i).toNat)
      case atStart => exact ⟨0, by omega, rfl, X6, Y6, Z6, hb6⟩
      case round =>
        clear X6 Y6 Z6 hb6
        obtain ⟨k, hkn, rfl, X, Y, Z, hB⟩ := hrel
        by_cases hlt : k < 20
        · go_wp2_with fail
          refine (next_any X.out (by omega)).mono ?_
          rintro e w7 ⟨rfl, hD, hu⟩
          have X7 : Hid (Drw w7 B1 G1 [] (k + 1)) := hD
          have Y7 : Hid (Drw w7 B2 G2 ys k) := Y.out.but hu (by omega) (by omega)
          have Z7 : Hid (Drw w7 B3 G3 ([] ++ [0, 0]) k) := Z.out.but hu (by omega) (by omega)
          have hb7 := hB.trans ((hu.mono hB.size).below (by omega))
          clear hD hu X Y Z hB
          go_wp2_with fail
          refine (next_any Y7.out (by omega)).mono ?_
          rintro e w8 ⟨rfl, hD, hu⟩
          have X8 : Hid (Drw w8 B1 G1 [] (k + 1)) := X7.out.but hu (by omega) (by omega)
          have Y8 : Hid (Drw w8 B2 G2 ys (k + 1)) := hD
          have Z8 : Hid (Drw w8 B3 G3 ([] ++ [0, 0]) k) := Z7.out.but hu (by omega) (by omega)
          have hb8 := hb7.trans ((hu.mono hb7.size).below (by omega))
          clear hD hu X7 Y7 Z7 hb7
          go_wp2_with fail
          refine (next_any Z8.out (by omega)).mono ?_
          rintro e w9 ⟨rfl, hD, hu⟩
          have X9 : Hid (Drw w9 B1 G1 [] (k + 1)) := X8.out.but hu (by omega) (by omega)
          have Y9 : Hid (Drw w9 B2 G2 ys (k + 1)) := Y8.out.but hu (by omega) (by omega)
          have Z9 : Hid (Drw w9 B3 G3 ([] ++ [0, 0]) (k + 1)) := hD
          have hb9 := hb8.trans ((hu.mono hb8.size).below (by omega))
          clear hD hu X8 Y8 Z8 hb8
          rw [draw_noughts]
          have HQ : Hid (0 ≤ k → drawN ys k = drawN [] k) := fun h => draw_behind (by rw [HNy.out]; omega) (by rw [HN.out]; omega)
          generalize drawN [] k = p at *
          generalize drawN ys k = q at *
          obtain rfl := HQ.out (Nat.zero_le _)
          go_wp2
          go_roundw
          case rel => exact ⟨k + 1, by omega, by go_num, X9, Y9, Z9, hb9⟩
          case measure => simp [intOf]; omega
        · obtain rfl : k = 20 := by omega
          go_wp2_with fail
          refine (dlen_any X.out).mono ?_
          rintro e w7 ⟨rfl, rfl⟩
          go_wp2
          go_ret
          exact ⟨rfl, hB⟩
  · have hA := (Below.refl w3.heap.size w3).alloc (Nat.le_refl _) (.cells #[] 30)
    have HC : Hid (∀ j u, (us xs)[j]? = some u → (w3.alloc (.cells #[] 30)).cell? (ad.add j) = some u) := by
      rcases HK.out.below (below_new hb3 (Nat.le_refl _) _) with h | ⟨b, off, h, hc⟩
      · intro j u hu; rw [h] at hu; simp [us] at hu
      · cases h; exact us_cell hc
    go_wp2_with (at_builtin; refine wpList_append_own _ rfl _ _ 26 rfl w3.heap.size 30 i0 (.int .u32 0) 1 4 Try.underlying26 hi hz0 hz1 hz2 rfl (by decide) _ _ _ rfl (World.ownsRow_made w3 #[] 0 (Nat.le_refl _) (Nat.zero_le _) rfl) ad a cap (us xs) rfl (by rw [us_len, HN.out]; omega) HC.out (us_one xs) (by unfold maxLen; omega) (by omega) (by simp) ?_)
    intro v4 w4 hown hgrow hne
    have hs4 := hgrow.size
    simp at hs4
    have hb4 := (below_new hb3 (Nat.le_refl _) (.cells #[] 30)).grown hgrow (by simp; omega) (by intro r hr; simp [Value.ownBlock] at hr; omega)
    have hV4 := hA.grown hgrow (by simp) (by intro r hr; simp [Value.ownBlock] at hr; omega)
    clear HC hA hgrow
    go_wp2_with (at_builtin; refine wpList_append_own _ rfl _ _ 26 rfl w3.heap.size 30 i0 (.int .u32 0) 1 4 Try.underlying26 hi hz0 hz1 hz2 rfl (by decide) _ _ _ rfl (hown.alloc _) ⟨w4.heap.size, 0, none⟩ 2 2 [.int .u32 0, .int .u32 0] rfl rfl (two_news (Blk.new w4 _ _)) (by simp [Value.oneCell']) (by unfold maxLen; omega) (by omega) (by simp; omega) ?_)
    intro v5 w5 hown5 hgrow5 hne5
    have hs5 := hgrow5.size
    simp at hs5
    have hb5 : Below w.heap.size w w5 := (below_new hb4 (Nat.le_refl _) (.cells #[.int .u32 0, .int .u32 0] 30)).grown hgrow5 (by simp; omega) (fun r hr => by have := (hown.lt r hr).1; omega)
    have hV5 : Below w3.heap.size w3 w5 := (below_new hV4 (Nat.le_refl _) (.cells #[.int .u32 0, .int .u32 0] 30)).grown hgrow5 (by simp; omega) (fun r hr => by have := (hown.lt r hr).1; omega)
    obtain ⟨g, cap', cs, rfl, hg, hblk, hcs, hu⟩ := own_blk (n := a + 2) (xs := xs ++ [0, 0]) (by have := HN.out; simp; try omega) (by simpa [us] using hown5) hne5
    have HU : Hid (UAt w5 (some ⟨g, 0, none⟩) (xs ++ [0, 0])) := hu
    have HNz : Hid ((xs ++ [0, 0]).length = a + 2) := by show _ = _; have := HN.out; simp; try omega
    have HWz : Hid (Wu (xs ++ [0, 0])) := by
      intro x hx
      rcases List.mem_append.1 hx with hx | hx
      · exact HW.out x hx
      · simp at hx; omega
    have X5 : Hid (Drw w5 B1 G1 xs 0) := X3.out.below hV5
    have Y5 : Hid (Drw w5 B2 G2 ys 0) := Y3.out.below hV5
    have hs35 := hV5.size
    clear hown hown5 hgrow5 hne5 hblk hcs hu X3 Y3 hb4 hV4 hV5 hi hz0 hz1 hz2
    go_wp2_with fail
    refine (dnew_yes _ (a + 2) cap' (xs ++ [0, 0]) w5 HNz.out HU.out HWz.out (by omega)).mono ?_
    rintro e w6 ⟨B3, G3, rfl, hB3, hG3, hD, hb⟩
    have hb6 := below_step hb5 hb (Nat.le_refl _)
    have X6 : Hid (Drw w6 B1 G1 xs 0) := X5.out.below hb
    have Y6 : Hid (Drw w6 B2 G2 ys 0) := Y5.out.below hb
    have Z6 : Hid (Drw w6 B3 G3 (xs ++ [0, 0]) 0) := hD
    clear hD hb hb5 X5 Y5 HU HNz HWz hb3
    by_cases hab : a < b
    · go_wp2
      go_loopw [12] (fun i wr => ∃ k : Nat, k ≤ (b + 20) ∧ i = .int .i64 k ∧ Hid (Drw wr B1 G1 xs k) ∧ Hid (Drw wr B2 G2 ys k) ∧ Hid (Drw wr B3 G3 (xs ++ [0, 0]) k) ∧ Below w.heap.size w wr) (fun i _ => (b + 20) - (intOf i).toNat)
      case atStart => exact ⟨0, by omega, rfl, X6, Y6, Z6, hb6⟩
      case round =>
        clear X6 Y6 Z6 hb6
        obtain ⟨k, hkn, rfl, X, Y, Z, hB⟩ := hrel
        by_cases hlt : k < (b + 20)
        · go_wp2_with fail
          refine (next_any X.out (by omega)).mono ?_
          rintro e w7 ⟨rfl, hD, hu⟩
          have X7 : Hid (Drw w7 B1 G1 xs (k + 1)) := hD
          have Y7 : Hid (Drw w7 B2 G2 ys k) := Y.out.but hu (by omega) (by omega)
          have Z7 : Hid (Drw w7 B3 G3 (xs ++ [0, 0]) k) := Z.out.but hu (by omega) (by omega)
          have hb7 := hB.trans ((hu.mono hB.size).below (by omega))
          clear hD hu X Y Z hB
          go_wp2_with fail
          refine (next_any Y7.out (by omega)).mono ?_
          rintro e w8 ⟨rfl, hD, hu⟩
          have X8 : Hid (Drw w8 B1 G1 xs (k + 1)) := X7.out.but hu (by omega) (by omega)
          have Y8 : Hid (Drw w8 B2 G2 ys (k + 1)) := hD
          have Z8 : Hid (Drw w8 B3 G3 (xs ++ [0, 0]) k) := Z7.out.but hu (by omega) (by omega)
          have hb8 := hb7.trans ((hu.mono hb7.size).below (by omega))
          clear hD hu X7 Y7 Z7 hb7
          go_wp2_with fail
          refine (next_any Z8.out (by omega)).mono ?_
          rintro e w9 ⟨rfl, hD, hu⟩
          have X9 : Hid (Drw w9 B1 G1 xs (k + 1)) := X8.out.but hu (by omega) (by omega)
          have Y9 : Hid (Drw w9 B2 G2 ys (k + 1)) := Y8.out.but hu (by omega) (by omega)
          have Z9 : Hid (Drw w9 B3 G3 (xs ++ [0, 0]) (k + 1)) := hD
          have hb9 := hb8.trans ((hu.mono hb8.size).below (by omega))
          clear hD hu X8 Y8 Z8 hb8
          rw [draw_noughts]
          have HQ : Hid (b ≤ k → drawN ys k = drawN xs k) := fun h => draw_behind (by rw [HNy.out]; omega) (by rw [HN.out]; omega)
          generalize drawN xs k = p at *
          generalize drawN ys k = q at *
          by_cases hkn' : b ≤ k
          · obtain rfl := HQ.out hkn'
            go_wp2
            go_roundw
            case rel => exact ⟨k + 1, by omega, by go_num, X9, Y9, Z9, hb9⟩
            case measure => simp [intOf]; omega
          · go_wp2
            go_roundw
            case rel => exact ⟨k + 1, by omega, by go_num, X9, Y9, Z9, hb9⟩
            case measure => simp [intOf]; omega
        · obtain rfl : k = (b + 20) := by omega
          go_wp2_with fail
          refine (dlen_any X.out).mono ?_
          rintro e w7 ⟨rfl, rfl⟩
          rw [show ((b + 20 : Nat) : Int) = (b : Int) + 20 by omega]
          go_wp2
          go_ret
          exact ⟨rfl, hB⟩
    · go_wp2
      go_loopw [12] (fun i wr => ∃ k : Nat, k ≤ (a + 20) ∧ i = .int .i64 k ∧ Hid (Drw wr B1 G1 xs k) ∧ Hid (Drw wr B2 G2 ys k) ∧ Hid (Drw wr B3 G3 (xs ++ [0, 0]) k) ∧ Below w.heap.size w wr) (fun i _ => (a + 20) - (intOf i).toNat)
      case atStart => exact ⟨0, by omega, rfl, X6, Y6, Z6, hb6⟩
      case round =>
        clear X6 Y6 Z6 hb6
        obtain ⟨k, hkn, rfl, X, Y, Z, hB⟩ := hrel
        by_cases hlt : k < (a + 20)
        · go_wp2_with fail
          refine (next_any X.out (by omega)).mono ?_
          rintro e w7 ⟨rfl, hD, hu⟩
          have X7 : Hid (Drw w7 B1 G1 xs (k + 1)) := hD
          have Y7 : Hid (Drw w7 B2 G2 ys k) := Y.out.but hu (by omega) (by omega)
          have Z7 : Hid (Drw w7 B3 G3 (xs ++ [0, 0]) k) := Z.out.but hu (by omega) (by omega)
          have hb7 := hB.trans ((hu.mono hB.size).below (by omega))
          clear hD hu X Y Z hB
          go_wp2_with fail
          refine (next_any Y7.out (by omega)).mono ?_
          rintro e w8 ⟨rfl, hD, hu⟩
          have X8 : Hid (Drw w8 B1 G1 xs (k + 1)) := X7.out.but hu (by omega) (by omega)
          have Y8 : Hid (Drw w8 B2 G2 ys (k + 1)) := hD
          have Z8 : Hid (Drw w8 B3 G3 (xs ++ [0, 0]) k) := Z7.out.but hu (by omega) (by omega)
          have hb8 := hb7.trans ((hu.mono hb7.size).below (by omega))
          clear hD hu X7 Y7 Z7 hb7
          go_wp2_with fail
          refine (next_any Z8.out (by omega)).mono ?_
          rintro e w9 ⟨rfl, hD, hu⟩
          have X9 : Hid (Drw w9 B1 G1 xs (k + 1)) := X8.out.but hu (by omega) (by omega)
          have Y9 : Hid (Drw w9 B2 G2 ys (k + 1)) := Y8.out.but hu (by omega) (by omega)
          have Z9 : Hid (Drw w9 B3 G3 (xs ++ [0, 0]) (k + 1)) := hD
          have hb9 := hb8.trans ((hu.mono hb8.size).below (by omega))
          clear hD hu X8 Y8 Z8 hb8
          rw [draw_noughts]
          have HQ : Hid (a ≤ k → drawN ys k = drawN xs k) := fun h => draw_behind (by rw [HNy.out]; omega) (by rw [HN.out]; omega)
          generalize drawN xs k = p at *
          generalize drawN ys k = q at *
          by_cases hkn' : a ≤ k
          · obtain rfl := HQ.out hkn'
            go_wp2
            go_roundw
            case rel => exact ⟨k + 1, by omega, by go_num, X9, Y9, Z9, hb9⟩
            case measure => simp [intOf]; omega
          · go_wp2
            go_roundw
            case rel => exact ⟨k + 1, by omega, by go_num, X9, Y9, Z9, hb9⟩
            case measure => simp [intOf]; omega
        · obtain rfl : k = (a + 20) := by omega
          go_wp2_with fail
          refine (dlen_any X.out).mono ?_
          rintro e w7 ⟨rfl, rfl⟩
          rw [show ((a + 20 : Nat) : Int) = (a : Int) + 20 by omega]
          go_wp2
          go_ret
          exact ⟨rfl, hB⟩
end Go.Proofs.Ytaddeckamegpgaa
