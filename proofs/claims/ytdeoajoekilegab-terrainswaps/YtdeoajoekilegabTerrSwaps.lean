/- The walk of TerrainSwaps. -/
import Derived.Test.YtdeoajoekilegabTerrAwake
import Derived.Test.YtdeoajoekilegabTerrLeast
import Derived.Test.YtdeoajoekilegabTerrAny
namespace Go.Proofs.Ytdeoajoekilegab
open Go.RowKit
set_option linter.unusedVariables false

theorem own_any {W : World} {base n : Nat} {v : Value} {ks : List Kd} (hn : ks.length = n) (h : W.ownsRow base 25 2 v n (kcells ks)) : ∃ ao cap, v = .slice ao n cap ∧ KAt W ao ks := by
  subst hn
  by_cases h0 : ks = []
  · rcases h.2 with ⟨rfl, h1⟩ | ⟨g, cap, _, rfl, _⟩
    · exact ⟨none, 0, by rw [h1], .inl h0⟩
    · exact ⟨_, _, rfl, .inl h0⟩
  · obtain ⟨g, cap, e, _, _, _, _, hk⟩ := own_kat h (by cases ks with
      | nil => exact absurd rfl h0
      | cons => simp)
    exact ⟨_, _, e, hk⟩
theorem one_news {W : World} {h : Nat} {x : Kd} (hh : Blk W h 25 #[.int .i64 x.1, .int .u8 x.2]) : ∀ j u, ([.int .i64 x.1, .int .u8 x.2] : List Value)[j]? = some u → W.cell? ((⟨h, 0, none⟩ : Addr).add j) = some u := by
  intro j u hu
  rw [add_eq]
  match j, hu with
  | 0, hu => cases hu; exact hh.at rfl
  | 1, hu => cases hu; exact hh.at rfl
/-- What the loop has gathered: from the end down to j. -/
def backL (ks : List Kd) (j : Nat) : List Kd := (ks.drop j).reverse
theorem backL_step {ks : List Kd} {j : Nat} (h : j < ks.length) : kcells (backL ks j) = kcells (backL ks (j + 1)) ++ [.int .i64 (kAt ks j).1, .int .u8 (kAt ks j).2] := by
  unfold backL
  rw [List.drop_eq_getElem_cons h, List.reverse_cons, kAt_eq h]
  simp [kcells]
theorem okT_rev {ks : List Kd} {cl : Int} : okT ks.reverse cl = okT ks cl := by unfold okT; simp
theorem kAt_rev {ks : List Kd} {k : Nat} (h : k < ks.length) : kAt ks.reverse (ks.length - 1 - k) = kAt ks k := by
  rw [kAt_eq h, kAt_eq (by simp; omega), List.getElem_reverse]
  congr 1
  omega
theorem least_rev {ks : List Kd} {cl : Int} (h : okT ks cl = true) (c : Int) : leastN ks.reverse cl c = leastN ks cl c := by
  unfold leastN
  split
  · exact (leastL_is (l := ks.reverse) (fun x hx => (okT_cost h x (List.mem_reverse.1 hx)).1)).unique (leastL_is (fun x hx => (okT_cost h x hx).1)) (fun x => List.mem_reverse)
  · rfl
theorem may_rev {ks : List Kd} {cl c : Int} {k n : Nat} (hn : ks.length = n) (h : k < n) : mayB ks.reverse cl c ((n : Int) - 1 - k) = mayB ks cl c k ∧ costN ks.reverse ((n : Int) - 1 - k) = costN ks k := by
  subst hn
  have e : ((ks.length : Int) - 1 - k).toNat = ks.length - 1 - k := by omega
  constructor
  · unfold mayB
    rw [(hasN_iff (n := (ks.reverse.length : Nat)) (x := (ks.length : Int) - 1 - k)).2 (by simp; omega), (hasN_iff (n := (ks.length : Nat)) (x := k)).2 (by omega), e, kAt_rev h]
    simp only [Int.toNat_natCast]
  · rw [costN_at (by simp; omega), costN_at (by omega), e, kAt_rev h]
    simp only [Int.toNat_natCast]
theorem may_nil (c k : Int) : mayB [] 0 c k = false := by
  cases h : mayB [] 0 c k with
  | false => rfl
  | true => have := (mayB_iff.1 h).1; omega
theorem cost_nil (k : Int) : costN [] k = 0 := by unfold costN; split <;> rfl

set_option maxRecDepth 100000 in
set_option maxHeartbeats 8000000 in
theorem swaps_walk (ao : Option Addr) (cap : Nat) (ks : List Kd) (cl : Int) (w : World) (hk : KAt w ao ks) (hw : Wk ks) :
    Calls Try.prog 3 #[.slice ao ks.length cap, .int .i64 cl] w fun e w' => e = .returned (.bool true) ∧ Below w.heap.size w w' := by
  have HK : Hid (KAt w ao ks) := hk
  have HW : Hid (Wk ks) := hw
  clear hk hw
  obtain ⟨n, hn⟩ : ∃ n, n = ks.length := ⟨_, rfl⟩
  have HN : Hid (ks.length = n) := hn.symm
  rw [← hn]
  clear hn
  by_cases hl : 16 < n
  · go_enter Try.func3, Try.ntmps3
    go_wp2_with fail
    refine (awake_any _).mono ?_
    rintro e w1 ⟨rfl, hb1⟩
    go_wp2
    go_ret
    exact ⟨rfl, hb1⟩
  obtain ⟨i0, hi, hz0, hz1, hz2⟩ := info_parts Try.infoK
  go_enter Try.func3, Try.ntmps3
  go_wp2_with fail
  refine (awake_any _).mono ?_
  rintro e w1 ⟨rfl, hb1⟩
  have hs1 := hb1.size
  go_wp2
  go_loopw [5, 6] (fun v i wr => ∃ j : Nat, j ≤ n ∧ i = .int .i64 ((j : Int) - 1) ∧ wr.ownsRow w1.heap.size 25 2 v (n - j) (kcells (backL ks j)) ∧ Below w.heap.size w wr ∧ w1.heap.size ≤ wr.heap.size) (fun _ i _ => (intOf i + 1).toNat)
  case atStart => exact ⟨n, Nat.le_refl _, rfl, by rw [Nat.sub_self, show backL ks n = [] from by unfold backL; rw [← HN.out]; simp]; exact World.ownsRow_nil _ _ _ _, hb1, Nat.le_refl _⟩
  case round =>
    obtain ⟨j, hjn, rfl, hown, hB, hsz⟩ := hrel
    by_cases hj : 1 ≤ j
    · obtain ⟨i, rfl⟩ : ∃ i, j = i + 1 := ⟨j - 1, by omega⟩
      have hlt : i < ks.length := by rw [HN.out]; omega
      rcases HK.out with h | ⟨b, off, rfl, hkk⟩
      · rw [h] at hlt; simp at hlt
      have hbw : b < w.heap.size := cell_lt (hkk i hlt).1
      have hc0 := (hB.cell (p := ⟨b, off + i * 2, none⟩) hbw).trans (hkk i hlt).1
      have hc1 := (hB.cell (p := ⟨b, off + i * 2 + 1, none⟩) hbw).trans (hkk i hlt).2
      have HS : Hid (kcells (backL ks i) = kcells (backL ks (i + 1)) ++ [.int .i64 (kAt ks i).1, .int .u8 (kAt ks i).2]) := backL_step hlt
      have e1 : ((i + 1 : Nat) : Int) - 1 = i := by omega
      rw [e1]
      clear hkk hlt e1
      generalize kAt ks i = x at *
      go_wp2_with (at_builtin; refine wpList_append_own _ rfl _ _ 22 rfl w1.heap.size 25 i0 (.agg #[.int .i64 0, .int .u8 0]) 2 16 Try.underlying22 hi hz0 hz1 hz2 rfl (by decide) _ _ _ rfl (hown.alloc _) ⟨wr.heap.size, 0, none⟩ 1 1 [.int .i64 x.1, .int .u8 x.2] rfl rfl (one_news (Blk.new wr _ _)) (by simp [Value.oneCell']) (by unfold maxLen; omega) (by omega) (by simp; omega) ?_)
      intro v' w2 hown2 hgrow _
      have hB2 := (below_new hB (Nat.le_refl _) (.cells #[.int .i64 x.1, .int .u8 x.2] 25)).grown hgrow (by simp; omega) (fun r hr => by have := (hown.lt r hr).1; omega)
      have hs2 := hgrow.size
      simp at hs2
      rw [← HS.out] at hown2
      clear hown hgrow hc0 hc1
      go_wp2
      go_roundw
      case rel => exact ⟨i, by omega, by go_num, by rw [show n - i = n - (i + 1) + 1 by omega]; exact hown2, hB2, by omega⟩
      case measure => simp [intOf]
    · obtain rfl : j = 0 := by omega
      have HKr : Hid (KAt wr ao ks) := HK.out.below hB
      obtain ⟨ao', cap', rfl, hkb⟩ := own_any (ks := ks.reverse) (n := n) (by simpa using HN.out) (by simpa [backL] using hown)
      have HKb : Hid (KAt wr ao' ks.reverse) := hkb
      have HWr : Hid (Wk ks.reverse) := fun y hy => HW.out y (List.mem_reverse.1 hy)
      have HNr : Hid (ks.reverse.length = n) := by show _ = _; rw [← HN.out]; simp
      clear hown hkb hi hz0 hz1 hz2
      go_wp2_with fail
      refine (new_any ao cap n ks cl wr HN.out HKr.out HW.out).mono ?_
      rintro e w2 ⟨po, r, rfl, hcase, hb2⟩
      have HKc : Hid (KAt w2 ao' ks.reverse) := HKb.out.below hb2
      have hB2 := below_step hB hb2 (Nat.le_refl _)
      have R1 : Hid ((okT ks cl = true ∧ r = 0 ∧ ∃ B, po = some B ∧ TabV w2 (.pointer (some ⟨B, 0, none⟩)) ks cl) ∨ (okT ks cl = false ∧ r = 1 ∧ po = none)) := hcase
      clear hcase hb2 HKb HKr hB
      go_wp2_with fail
      refine (new_any ao' cap' n ks.reverse cl w2 HNr.out HKc.out HWr.out).mono ?_
      rintro e w3 ⟨po', r', rfl, hcase, hb3⟩
      have hB3 := below_step hB2 hb3 (Nat.le_refl _)
      obtain ⟨p, hp⟩ : ∃ p, p = Value.pointer (po.map fun B => ⟨B, 0, none⟩) := ⟨_, rfl⟩
      obtain ⟨q, hq⟩ : ∃ q, q = Value.pointer (po'.map fun B => ⟨B, 0, none⟩) := ⟨_, rfl⟩
      obtain ⟨rfl, k1, c1, k2, c2, T, U, HL, HM⟩ : r' = r ∧ ∃ k1 c1 k2 c2, Hid (TabV w3 p k1 c1) ∧ Hid (TabV w3 q k2 c2) ∧ Hid (∀ c, leastN k2 c2 c = leastN k1 c1 c) ∧
          Hid (∀ c (k : Nat), k < n → mayB k2 c2 c ((n : Int) - 1 - k) = mayB k1 c1 c k ∧ costN k2 ((n : Int) - 1 - k) = costN k1 k) := by
        rw [okT_rev] at hcase
        rcases R1.out with ⟨h1, h2, B, h3, h4⟩ | ⟨h1, h2, h3⟩
        · rcases hcase with ⟨_, g2, B', g3, g4⟩ | ⟨g1, _⟩
          · subst h3 g3
            exact ⟨by rw [h2, g2], ks, cl, ks.reverse, cl, hp ▸ h4.below hb3, hq ▸ g4, fun c => least_rev h1 c, fun c k hk => may_rev HN.out hk⟩
          · rw [h1] at g1; cases g1
        · rcases hcase with ⟨g1, _⟩ | ⟨_, g2, g3⟩
          · rw [h1] at g1; cases g1
          · subst h3 g3
            exact ⟨by rw [h2, g2], [], 0, [], 0, .inl ⟨hp, rfl, rfl⟩, .inl ⟨hq, rfl, rfl⟩, fun c => rfl, fun c k hk => ⟨by rw [may_nil, may_nil], by rw [cost_nil, cost_nil]⟩⟩
      rw [← hp, ← hq]
      clear hcase hb3 R1 hB2 HKc hp hq
      go_wp2
      go_loopw [11] (fun i wr => ∃ c : Nat, c ≤ 8 ∧ i = .int .i64 c ∧ Hid (TabV wr p k1 c1) ∧ Hid (TabV wr q k2 c2) ∧ Below w.heap.size w wr) (fun i _ => 8 - (intOf i).toNat)
      case atStart => exact ⟨0, by omega, rfl, T, U, hB3⟩
      case round =>
        clear T U hB3
        obtain ⟨c, hc8, rfl, T, U, hB⟩ := hrel
        by_cases hc : c < 8
        · go_wp2_with fail
          refine (least_any T.out c).mono ?_
          rintro e w4 ⟨rfl, rfl⟩
          go_wp2_with fail
          refine (least_any U.out c).mono ?_
          rintro e w4 ⟨rfl, rfl⟩
          rw [HL.out]
          generalize leastN k1 c1 c = ln
          generalize decide (0 < ln) = ok
          go_wp2
          go_loopw [16] (fun i wr => ∃ k : Nat, k ≤ n ∧ i = .int .i64 k ∧ Hid (TabV wr p k1 c1) ∧ Hid (TabV wr q k2 c2) ∧ Below w.heap.size w wr) (fun i _ => n - (intOf i).toNat)
          case atStart => exact ⟨0, by omega, rfl, T, U, hB⟩
          case round =>
            clear T U hB
            obtain ⟨k, hkn, rfl, T, U, hB⟩ := hrel
            by_cases hlt : k < n
            · have HMk : Hid (mayB k2 c2 c ((n : Int) - 1 - k) = mayB k1 c1 c k ∧ costN k2 ((n : Int) - 1 - k) = costN k1 k) := HM.out c k hlt
              go_wp2_with fail
              refine (may_any T.out c k).mono ?_
              rintro e w5 ⟨rfl, hb5⟩
              have T5 : Hid (TabV w5 p k1 c1) := T.out.below hb5
              have U5 : Hid (TabV w5 q k2 c2) := U.out.below hb5
              have hB5 := below_step hB hb5 (Nat.le_refl _)
              clear T U hb5 hB
              go_wp2_with fail
              refine (may_any U5.out c ((n : Int) - 1 - k)).mono ?_
              rintro e w6 ⟨rfl, hb6⟩
              have T6 : Hid (TabV w6 p k1 c1) := T5.out.below hb6
              have U6 : Hid (TabV w6 q k2 c2) := U5.out.below hb6
              have hB6 := below_step hB5 hb6 (Nat.le_refl _)
              clear T5 U5 hb6 hB5
              rw [HMk.out.1]
              generalize mayB k1 c1 c k = mb
              go_wp2_with fail
              refine (cost_any T6.out k).mono ?_
              rintro e w7 ⟨rfl, rfl⟩
              go_wp2_with fail
              refine (cost_any U6.out ((n : Int) - 1 - k)).mono ?_
              rintro e w7 ⟨rfl, rfl⟩
              rw [HMk.out.2]
              generalize costN k1 k = cn
              go_wp2
              go_roundw
              case rel => exact ⟨k + 1, by omega, by go_num, T6, U6, hB6⟩
              case measure => simp [intOf]; omega
            · obtain rfl : k = n := by omega
              go_wp2
              go_roundw
              case rel => exact ⟨c + 1, by omega, by go_num, T, U, hB⟩
              case measure => simp [intOf]; omega
        · go_wp2
          go_ret
          exact ⟨rfl, hB⟩
end Go.Proofs.Ytdeoajoekilegab
