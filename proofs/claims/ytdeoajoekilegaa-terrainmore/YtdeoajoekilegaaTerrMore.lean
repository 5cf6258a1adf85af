/- The walk of TerrainMore. -/
import Derived.Test.YtdeoajoekilegaaTerrAwake
import Derived.Test.YtdeoajoekilegaaTerrLeast
import Derived.Test.YtdeoajoekilegaaTerrAny
import Derived.Deep.RegionHeld3
import Derived.Deep.AppendLies
import Derived.Deep.DrawnRows
import Derived.Deep.CutRange
namespace Go.Proofs.Ytdeoajoekilegaa
open Go.RowKit
set_option linter.unusedVariables false
attribute [local go_sem ↓] Go.wp_at_zero Go.wp_at_succ

theorem Blk.drew {W : World} {B : Nat} {t : TypeId} {cs : Array Value} (h : Blk W B t cs) : Blk W.drew B t cs := h
theorem blk_second (W : World) (o : Obj) (t : TypeId) (cs : Array Value) : Blk ((W.alloc o).alloc (.cells cs t)) (W.heap.size + 1) t cs := by
  have h := Blk.new (W.alloc o) t cs
  simpa using h
theorem own_empty {W : World} {base h : Nat} (hh : Blk W h 29 #[]) (hb : base ≤ h) : W.ownsRow base 29 2 (.slice (some ⟨h, 0, none⟩) 0 0) 0 [] :=
  ⟨rfl, .inr ⟨h, 0, #[], rfl, hb, hh, Nat.le_refl _, Nat.zero_le _, rfl, rfl⟩⟩
theorem kcells_below {W W' : World} {b off : Nat} {ks : List Kd} (hk : ∀ i, i < ks.length → W.cell? ⟨b, off + i * 2, none⟩ = some (.int .i64 (kAt ks i).1) ∧ W.cell? ⟨b, off + i * 2 + 1, none⟩ = some (.int .u8 (kAt ks i).2))
    (hB : Below W.heap.size W W') : ∀ j u, (kcells ks)[j]? = some u → W'.cell? ((⟨b, off, none⟩ : Addr).add j) = some u :=
  kcells_cell (fun i hi => ⟨(hB.cell (p := ⟨b, _, none⟩) (cell_lt (hk i hi).1)).trans (hk i hi).1, (hB.cell (p := ⟨b, _, none⟩) (cell_lt (hk i hi).1)).trans (hk i hi).2⟩)
theorem one_news {W : World} {h : Nat} {x : Kd} (hh : Blk W h 29 #[.int .i64 x.1, .int .u8 x.2]) : ∀ j u, ([.int .i64 x.1, .int .u8 x.2] : List Value)[j]? = some u → W.cell? ((⟨h, 0, none⟩ : Addr).add j) = some u := by
  intro j u hu
  rw [add_eq]
  match j, hu with
  | 0, hu => cases hu; exact hh.at rfl
  | 1, hu => cases hu; exact hh.at rfl
theorem kcells_snoc (ks : List Kd) (x : Kd) : kcells ks ++ [.int .i64 x.1, .int .u8 x.2] = kcells (ks ++ [x]) := by simp [kcells]
theorem own_snoc {W : World} {base n g cap : Nat} {ks : List Kd} {x : Kd} (hn : ks.length = n) (h : W.ownsRow base 29 2 (.slice (some ⟨g, 0, none⟩) (n + 1) cap) (n + 1) (kcells ks ++ [.int .i64 x.1, .int .u8 x.2])) :
    KAt W (some ⟨g, 0, none⟩) (ks ++ [x]) := by
  subst hn
  rw [kcells_snoc, show ks.length + 1 = (ks ++ [x]).length by simp] at h
  obtain ⟨g', cap', e, _, _, _, _, hk⟩ := own_kat h (by simp)
  cases e
  exact hk
theorem kAt_app {ks : List Kd} {x : Kd} {k : Nat} (h : k < ks.length) : kAt (ks ++ [x]) k = kAt ks k := by
  rw [kAt_eq h, kAt_eq (by simp; omega), List.getElem_append_left h]
theorem kAt_end {ks : List Kd} {x : Kd} : kAt (ks ++ [x]) ks.length = x := by
  rw [kAt_eq (by simp)]; simp
theorem more_same {ks : List Kd} {x : Kd} {cl c : Int} {k : Nat} (h : k < ks.length) : mayB (ks ++ [x]) cl c k = mayB ks cl c k ∧ costN (ks ++ [x]) k = costN ks k := by
  constructor
  · unfold mayB
    rw [(hasN_iff (n := ((ks ++ [x]).length : Nat)) (x := k)).2 (by simp; omega), (hasN_iff (n := (ks.length : Nat)) (x := k)).2 (by omega)]
    simp only [Int.toNat_natCast]
    rw [kAt_app h]
  · rw [costN_at (by simp; omega), costN_at (by omega)]
    simp only [Int.toNat_natCast]
    rw [kAt_app h]
theorem least_nonneg {ks : List Kd} {cl : Int} (h : okT ks cl = true) (c : Int) : 0 ≤ leastN ks cl c := by
  unfold leastN
  split
  · rcases leastL_is (c := c) (fun x hx => (okT_cost h x hx).1) with ⟨h1, _⟩ | ⟨h1, _⟩ <;> omega
  · omega
theorem more_least {ks : List Kd} {x : Kd} {cl c : Int} {n : Nat} (hn : ks.length = n) : (mayB (ks ++ [x]) cl c n = false → leastN (ks ++ [x]) cl c = leastN ks cl c) ∧
    (mayB (ks ++ [x]) cl c n = true → leastN (ks ++ [x]) cl c = if leastN ks cl c = 0 ∨ x.1 < leastN ks cl c then x.1 else leastN ks cl c) := by
  subst hn
  have e1 : mayB (ks ++ [x]) cl c ks.length = (hasN cl c && bitB x.2 c) := by
    unfold mayB
    rw [(hasN_iff (n := ((ks ++ [x]).length : Nat)) (x := ks.length)).2 (by simp; omega)]
    simp only [Int.toNat_natCast, Bool.true_and]
    rw [kAt_end]
  have e2 : leastL (ks ++ [x]) c = pickN c (leastL ks c) x := by simp [leastL]
  rw [e1]
  unfold leastN
  cases hasN cl c with
  | false => simp
  | true =>
    simp only [Bool.true_and, if_true, e2]
    unfold pickN
    cases bitB x.2 c with
    | false => simp
    | true => simp
theorem more_ok {ks : List Kd} {x : Kd} {cl : Int} (h0 : 1 ≤ ks.length) (h : okT (ks ++ [x]) cl = true) : okT ks cl = true := by
  obtain ⟨_, h2, h3, h4, h5⟩ := okT_iff.1 h
  refine okT_iff.2 ⟨h0, by simp at h2; omega, h3, h4, ?_⟩
  simp only [List.all_append, Bool.and_eq_true] at h5
  exact h5.1
set_option maxRecDepth 100000 in
set_option maxHeartbeats 8000000 in
theorem more_walk (ao : Option Addr) (cap : Nat) (ks : List Kd) (x : Kd) (cl c : Int) (w : World) (hk : KAt w ao ks) (hw : Wk ks) (hx : 0 ≤ x.2 ∧ x.2 ≤ 255) :
    Calls Try.prog 7 #[.slice ao ks.length cap, kd x, .int .i64 cl, .int .i64 c] w fun e w' => e = .returned (.bool true) ∧ Below w.heap.size w w' := by
  have HK : Hid (KAt w ao ks) := hk
  have HW : Hid (Wk ks) := hw
  clear hk hw
  obtain ⟨n, hn⟩ : ∃ n, n = ks.length := ⟨_, rfl⟩
  have HN : Hid (ks.length = n) := hn.symm
  rw [← hn]
  clear hn
  by_cases hl : 100 < n
  · go_enter Try.func7, Try.ntmps7
    go_wp2_with fail
    refine (awake_any _).mono ?_
    rintro e w1 ⟨rfl, hb1⟩
    go_wp2
    go_ret
    exact ⟨rfl, below_step (below_new (Below.refl _ _) (Nat.le_refl _) _) hb1 (Nat.le_refl _)⟩
  go_enter Try.func7, Try.ntmps7
  go_wp2_with fail
  refine (awake_any _).mono ?_
  rintro e w1 ⟨rfl, hb1⟩
  have hB1 := below_step (below_new (Below.refl _ _) (Nat.le_refl _) _) hb1 (Nat.le_refl _)
  have HX1 := (Blk.new w 29 #[.int .i64 x.1, .int .u8 x.2]).below hb1
  have HK1 : Hid (KAt w1 ao ks) := HK.out.below hB1
  clear hb1
  go_wp2_with fail
  refine (new_any ao cap n ks cl w1 HN.out HK1.out HW.out).mono ?_
  rintro e w2 ⟨po, r, rfl, hcase, hb2⟩
  have R1 : Hid ((okT ks cl = true ∧ r = 0 ∧ ∃ B, po = some B ∧ TabV w2 (.pointer (some ⟨B, 0, none⟩)) ks cl) ∨ (okT ks cl = false ∧ r = 1 ∧ po = none)) := hcase
  have HX2 := HX1.below hb2
  have hB2 := below_step hB1 hb2 (Nat.le_refl _)
  have HK2 : Hid (KAt w2 ao ks) := HK1.out.below hb2
  obtain ⟨hx0, hx1⟩ := HX2.cells2
  have hxl := HX2.lt
  have HXB : Hid (Blk w2 w.heap.size 29 #[.int .i64 x.1, .int .u8 x.2]) := HX2
  have HB2 : Hid (Below w.heap.size w w2) := hB2
  clear hb2 hB1 HK1 HX1 hcase HX2 hB2
  obtain ⟨i0, hi, hz0, hz1, hz2⟩ := info_parts Try.infoK
  go_wp2
  go_cut [11] from 30 (fun m wc => ∃ g cap', m = .slice (some ⟨g, 0, none⟩) (n + 1) cap' ∧ KAt wc (some ⟨g, 0, none⟩) (ks ++ [x]) ∧ Below w2.heap.size w2 wc)
  case first =>
    have hs2 := hxl
    by_cases h0 : n = 0
    · subst h0
      have hks : ks = [] := List.length_eq_zero_iff.1 HN.out
      have HKS : Hid (ks = []) := hks
      clear hks
      rcases ao with _ | a
      · go_region_held3 (fun w' => w'.cell? ⟨w.heap.size, 0, none⟩ = some (.int .i64 x.1) ∧ w'.cell? ⟨w.heap.size, 1, none⟩ = some (.int .u8 x.2))
          (first
            | go_keep
            | (go_split_ands
               refine ⟨?_, ?_⟩
               · (rw [hgrow2.cell_far _ (by simp; omega) (by simp [Value.ownBlock]; omega)]; assumption)
               · (rw [hgrow2.cell_far _ (by simp; omega) (by simp [Value.ownBlock]; omega)]; assumption)))
          (first
            | (refine step_append_lies _ (by rfl) (.tmp 32) (.tmp 34) 22 (by rfl) w2.heap.size 29 i0 (.agg #[.int .i64 0, .int .u8 0]) 2 16 Try.underlying22 hi hz0 hz1 hz2 rfl (by omega) (.slice (some ⟨w2.heap.size, 0, none⟩) 0 0) 0 [] (by rfl) (own_empty ((Blk.new w2 _ _).alloc _).drew (by omega)) ⟨w2.heap.size + 1, 0, none⟩ 1 1 [.int .i64 x.1, .int .u8 x.2] (by rfl) (by rfl) (one_news (blk_second w2 _ _ _).drew) (by simp [Value.oneCell']) (by omega) (by unfold maxLen; omega) (by omega) (by simp; try omega) _ rfl ?_; intro g2 cap2 w4 hown2 hgrow2 hat2 hlt2)
            | (refine step_append_lies _ (by rfl) (.tmp 32) (.tmp 34) 22 (by rfl) w2.heap.size 29 i0 (.agg #[.int .i64 0, .int .u8 0]) 2 16 Try.underlying22 hi hz0 hz1 hz2 rfl (by omega) (.slice (some ⟨w2.heap.size + 1, 0, none⟩) 0 0) 0 [] (by rfl) (own_empty (blk_second w2 _ _ _).drew (by omega)) ⟨w2.heap.size, 0, none⟩ 1 1 [.int .i64 x.1, .int .u8 x.2] (by rfl) (by rfl) (one_news ((Blk.new w2 _ _).alloc _).drew) (by simp [Value.oneCell']) (by omega) (by unfold maxLen; omega) (by omega) (by simp; try omega) _ rfl ?_; intro g2 cap2 w4 hown2 hgrow2 hat2 hlt2)
            | fail)
        all_goals go_wp2
        all_goals (have hka := own_snoc (ks := ks) (n := 0) HN.out (by rw [HKS.out]; simpa [kcells] using hown2))
        all_goals (have hbl := ((((Below.refl w2.heap.size w2).alloc (Nat.le_refl _) _).alloc (by simp) _).drew).grown hgrow2 (by simp; try omega) (by intro k hk; cases hk; simp; try omega))
        all_goals go_meet
        all_goals exact ⟨g2, cap2, rfl, hka, hbl⟩
      · go_region_held3 (fun w' => w'.cell? ⟨w.heap.size, 0, none⟩ = some (.int .i64 x.1) ∧ w'.cell? ⟨w.heap.size, 1, none⟩ = some (.int .u8 x.2))
          (first
            | go_keep
            | (go_split_ands
               refine ⟨?_, ?_⟩
               · (rw [hgrow2.cell_far _ (by simp; omega) (by simp [Value.ownBlock]; omega)]; assumption)
               · (rw [hgrow2.cell_far _ (by simp; omega) (by simp [Value.ownBlock]; omega)]; assumption)))
          (first
            | (refine step_append_lies _ (by rfl) (.tmp 32) (.tmp 34) 22 (by rfl) w2.heap.size 29 i0 (.agg #[.int .i64 0, .int .u8 0]) 2 16 Try.underlying22 hi hz0 hz1 hz2 rfl (by omega) (.slice (some ⟨w2.heap.size, 0, none⟩) 0 0) 0 [] (by rfl) (own_empty ((Blk.new w2 _ _).alloc _).drew (by omega)) ⟨w2.heap.size + 1, 0, none⟩ 1 1 [.int .i64 x.1, .int .u8 x.2] (by rfl) (by rfl) (one_news (blk_second w2 _ _ _).drew) (by simp [Value.oneCell']) (by omega) (by unfold maxLen; omega) (by omega) (by simp; try omega) _ rfl ?_; intro g2 cap2 w4 hown2 hgrow2 hat2 hlt2)
            | (refine step_append_lies _ (by rfl) (.tmp 32) (.tmp 34) 22 (by rfl) w2.heap.size 29 i0 (.agg #[.int .i64 0, .int .u8 0]) 2 16 Try.underlying22 hi hz0 hz1 hz2 rfl (by omega) (.slice (some ⟨w2.heap.size + 1, 0, none⟩) 0 0) 0 [] (by rfl) (own_empty (blk_second w2 _ _ _).drew (by omega)) ⟨w2.heap.size, 0, none⟩ 1 1 [.int .i64 x.1, .int .u8 x.2] (by rfl) (by rfl) (one_news ((Blk.new w2 _ _).alloc _).drew) (by simp [Value.oneCell']) (by omega) (by unfold maxLen; omega) (by omega) (by simp; try omega) _ rfl ?_; intro g2 cap2 w4 hown2 hgrow2 hat2 hlt2)
            | fail)
        all_goals go_wp2
        all_goals (have hka := own_snoc (ks := ks) (n := 0) HN.out (by rw [HKS.out]; simpa [kcells] using hown2))
        all_goals (have hbl := ((((Below.refl w2.heap.size w2).alloc (Nat.le_refl _) _).alloc (by simp) _).drew).grown hgrow2 (by simp; try omega) (by intro k hk; cases hk; simp; try omega))
        all_goals go_meet
        all_goals exact ⟨g2, cap2, rfl, hka, hbl⟩
    · rcases HK2.out with h | ⟨b, off, rfl, hkk⟩
      · exact absurd (by have := HN.out; rw [h] at this; simpa using this.symm) h0
      have HC : Hid (∀ i, i < ks.length → w2.cell? ⟨b, off + i * 2, none⟩ = some (.int .i64 (kAt ks i).1) ∧ w2.cell? ⟨b, off + i * 2 + 1, none⟩ = some (.int .u8 (kAt ks i).2)) := hkk
      clear hkk
      go_region_held3 (fun w' => w'.cell? ⟨w.heap.size, 0, none⟩ = some (.int .i64 x.1) ∧ w'.cell? ⟨w.heap.size, 1, none⟩ = some (.int .u8 x.2))
        (first
          | go_keep
          | (go_split_ands
             refine ⟨?_, ?_⟩
             · (rw [hgrow1.cell_far _ (by simp; omega) (by simp [Value.ownBlock]; omega)]; assumption)
             · (rw [hgrow1.cell_far _ (by simp; omega) (by simp [Value.ownBlock]; omega)]; assumption))
          | (go_split_ands
             refine ⟨?_, ?_⟩
             · (rw [hgrow2.cell_far _ (by simp; omega) (by simp [Value.ownBlock]; omega)]; assumption)
             · (rw [hgrow2.cell_far _ (by simp; omega) (by simp [Value.ownBlock]; omega)]; assumption)))
        (first
          | (refine step_append_lies _ (by rfl) (.tmp 30) (.tmp 31) 22 (by rfl) w2.heap.size 29 i0 (.agg #[.int .i64 0, .int .u8 0]) 2 16 Try.underlying22 hi hz0 hz1 hz2 rfl (by omega) (.slice (some ⟨w2.heap.size, 0, none⟩) 0 0) 0 [] (by rfl) (own_empty (Blk.new w2 _ _).drew (Nat.le_refl _)) ⟨b, off, none⟩ n cap (kcells ks) (by rfl) (by rw [kcells_len, HN.out]) (kcells_below HC.out (((Below.refl _ _).alloc (Nat.le_refl _) _).drew)) (kcells_one ks) (by omega) (by unfold maxLen; omega) (by omega) (by simp; try omega) _ rfl ?_; intro g1 cap1 w3 hown1 hgrow1 hat1 hlt1; have hown1' := hown1; simp only [Nat.zero_add, List.nil_append] at hown1; have hg1 := (hown1.lt g1 rfl).1; have hs3 := hgrow1.size; simp at hs3)
          | (refine step_append_lies _ (by rfl) (.tmp 30) (.tmp 31) 22 (by rfl) w2.heap.size 29 i0 (.agg #[.int .i64 0, .int .u8 0]) 2 16 Try.underlying22 hi hz0 hz1 hz2 rfl (by omega) (.slice (some ⟨w2.heap.size, 0, none⟩) 0 0) 0 [] (by rfl) (own_empty ((Blk.new w2 _ _).alloc _).drew (Nat.le_refl _)) ⟨b, off, none⟩ n cap (kcells ks) (by rfl) (by rw [kcells_len, HN.out]) (kcells_below HC.out ((((Below.refl _ _).alloc (Nat.le_refl _) _).alloc (by simp) _).drew)) (kcells_one ks) (by omega) (by unfold maxLen; omega) (by omega) (by simp; try omega) _ rfl ?_; intro g1 cap1 w3 hown1 hgrow1 hat1 hlt1; have hown1' := hown1; simp only [Nat.zero_add, List.nil_append] at hown1; have hg1 := (hown1.lt g1 rfl).1; have hs3 := hgrow1.size; simp at hs3)
          | (refine step_append_lies _ (by rfl) (.tmp 30) (.tmp 31) 22 (by rfl) w2.heap.size 29 i0 (.agg #[.int .i64 0, .int .u8 0]) 2 16 Try.underlying22 hi hz0 hz1 hz2 rfl (by omega) (.slice (some ⟨(w2.heap.size + 1), 0, none⟩) 0 0) 0 [] (by rfl) (own_empty (blk_second w2 _ _ _).drew (by omega)) ⟨b, off, none⟩ n cap (kcells ks) (by rfl) (by rw [kcells_len, HN.out]) (kcells_below HC.out ((((Below.refl _ _).alloc (Nat.le_refl _) _).alloc (by simp) _).drew)) (kcells_one ks) (by omega) (by unfold maxLen; omega) (by omega) (by simp; try omega) _ rfl ?_; intro g1 cap1 w3 hown1 hgrow1 hat1 hlt1; have hown1' := hown1; simp only [Nat.zero_add, List.nil_append] at hown1; have hg1 := (hown1.lt g1 rfl).1; have hs3 := hgrow1.size; simp at hs3)
          | (refine step_append_lies _ (by rfl) (.tmp 32) (.tmp 34) 22 (by rfl) w2.heap.size 29 i0 (.agg #[.int .i64 0, .int .u8 0]) 2 16 Try.underlying22 hi hz0 hz1 hz2 rfl (by omega) (.slice (some ⟨g1, 0, none⟩) n cap1) n (kcells ks) (by rfl) (hown1.alloc _) ⟨w3.heap.size, 0, none⟩ 1 1 [.int .i64 x.1, .int .u8 x.2] (by rfl) (by rfl) (one_news (Blk.new w3 _ _)) (by simp [Value.oneCell']) (by omega) (by unfold maxLen; omega) (by omega) (by have := hgrow1.size; simp at this; simp; omega) _ rfl ?_; intro g2 cap2 w4 hown2 hgrow2 hat2 hlt2)
          | (refine step_append_lies _ (by rfl) (.tmp 32) (.tmp 34) 22 (by rfl) w2.heap.size 29 i0 (.agg #[.int .i64 0, .int .u8 0]) 2 16 Try.underlying22 hi hz0 hz1 hz2 rfl (by omega) (.slice (some ⟨g1, 0, none⟩) (0 + n) cap1) (0 + n) ([] ++ kcells ks) (by rfl) hown1' ⟨w2.heap.size + 1, 0, none⟩ 1 1 [.int .i64 x.1, .int .u8 x.2] (by rfl) (by rfl) (one_news ((blk_second w2 _ _ _).drew.kept hgrow1 (by simp [Value.ownBlock]))) (by simp [Value.oneCell']) (by omega) (by unfold maxLen; omega) (by omega) (by have := hgrow1.size; simp at this; simp; omega) _ rfl ?_; intro g2 cap2 w4 hown2 hgrow2 hat2 hlt2)
          | (refine step_append_lies _ (by rfl) (.tmp 32) (.tmp 34) 22 (by rfl) w2.heap.size 29 i0 (.agg #[.int .i64 0, .int .u8 0]) 2 16 Try.underlying22 hi hz0 hz1 hz2 rfl (by omega) (.slice (some ⟨g1, 0, none⟩) (0 + n) cap1) (0 + n) ([] ++ kcells ks) (by rfl) hown1' ⟨w2.heap.size, 0, none⟩ 1 1 [.int .i64 x.1, .int .u8 x.2] (by rfl) (by rfl) (one_news (((Blk.new w2 _ _).alloc _).drew.kept hgrow1 (by simp [Value.ownBlock]))) (by simp [Value.oneCell']) (by omega) (by unfold maxLen; omega) (by omega) (by have := hgrow1.size; simp at this; simp; omega) _ rfl ?_; intro g2 cap2 w4 hown2 hgrow2 hat2 hlt2))
      all_goals go_wp2
      all_goals (have hka := own_snoc HN.out (by simpa using hown2))
      · have hbl := ((((Below.refl w2.heap.size w2).alloc (Nat.le_refl _) _).drew.grown hgrow1 (by simp; try omega) (by intro k hk; cases hk; simp; try omega)).alloc (by omega) _).grown hgrow2 (by first | omega | (simp; omega)) (by intro k hk; cases hk; simp; try omega)
        go_meet
        case rel => exact ⟨g2, cap2, rfl, hka, hbl⟩
      · have hbl := (((((Below.refl w2.heap.size w2).alloc (Nat.le_refl _) _).alloc (by simp) _).drew.grown hgrow1 (by simp; try omega) (by intro k hk; cases hk; simp; try omega))).grown hgrow2 (by first | omega | (simp; omega)) (by intro k hk; cases hk; simp; try omega)
        go_meet
        case rel => exact ⟨g2, cap2, rfl, hka, hbl⟩
      · have hbl := (((((Below.refl w2.heap.size w2).alloc (Nat.le_refl _) _).alloc (by simp) _).drew.grown hgrow1 (by simp; try omega) (by intro k hk; cases hk; simp; try omega))).grown hgrow2 (by first | omega | (simp; omega)) (by intro k hk; cases hk; simp; try omega)
        go_meet
        case rel => exact ⟨g2, cap2, rfl, hka, hbl⟩
  case rest =>
    obtain ⟨g, cap', rfl, hkat, hbc⟩ := hcut
    have HKc : Hid (KAt wc (some ⟨g, 0, none⟩) (ks ++ [x])) := hkat
    have HWx : Hid (Wk (ks ++ [x])) := by
      intro y hy
      rcases List.mem_append.1 hy with hy | hy
      · exact HW.out y hy
      · rw [List.mem_singleton.1 hy]; omega
    have HNx : Hid ((ks ++ [x]).length = n + 1) := by show _ = _; rw [← HN.out]; simp
    have HXc : Hid (Blk wc w.heap.size 29 #[.int .i64 x.1, .int .u8 x.2]) := HXB.out.below hbc
    have HBc : Hid (Below w.heap.size w wc) := below_step HB2.out hbc (Nat.le_refl _)
    have R1c : Hid ((okT ks cl = true ∧ r = 0 ∧ ∃ B, po = some B ∧ TabV wc (.pointer (some ⟨B, 0, none⟩)) ks cl) ∨ (okT ks cl = false ∧ r = 1 ∧ po = none)) := by
      rcases R1.out with ⟨h1, h2, B, h3, h4⟩ | h
      · exact .inl ⟨h1, h2, B, h3, h4.below hbc⟩
      · exact .inr h
    clear hkat hbc R1 HXB HB2 hx0 hx1 hxl HK2 HK hi hz0 hz1 hz2
    go_wp2_with fail
    refine (new_any _ cap' (n + 1) (ks ++ [x]) cl wc HNx.out HKc.out HWx.out).mono ?_
    rintro e w4 ⟨po', r', rfl, hcase, hb4⟩
    have HX4 : Hid (Blk w4 w.heap.size 29 #[.int .i64 x.1, .int .u8 x.2]) := HXc.out.below hb4
    have hB4 := below_step HBc.out hb4 (Nat.le_refl _)
    have R1d : Hid ((okT ks cl = true ∧ r = 0 ∧ ∃ B, po = some B ∧ TabV w4 (.pointer (some ⟨B, 0, none⟩)) ks cl) ∨ (okT ks cl = false ∧ r = 1 ∧ po = none)) := by
      rcases R1c.out with ⟨h1, h2, B, h3, h4⟩ | h
      · exact .inl ⟨h1, h2, B, h3, h4.below hb4⟩
      · exact .inr h
    clear R1c HXc HBc hb4 HKc
    rcases R1d.out with ⟨o1, rfl, B, rfl, tb1⟩ | ⟨o1, rfl, rfl⟩
    · rcases hcase with ⟨o2, rfl, B', rfl, tb2⟩ | ⟨o2, rfl, rfl⟩
      · have T : Hid (TabV w4 (.pointer (some ⟨B, 0, none⟩)) ks cl) := tb1
        have U : Hid (TabV w4 (.pointer (some ⟨B', 0, none⟩)) (ks ++ [x]) cl) := tb2
        have O1 : Hid (okT ks cl = true) := o1
        have O2 : Hid (okT (ks ++ [x]) cl = true) := o2
        have hn16 : n ≤ 15 := by have := (okT_iff.1 o2).2.1; rw [HNx.out] at this; omega
        clear tb1 tb2 o1 o2 R1d
        simp only [Option.map_some]
        go_wp2
        go_loopw [14] (fun i wr => ∃ k : Nat, k ≤ n ∧ i = .int .i64 k ∧ Hid (TabV wr (.pointer (some ⟨B, 0, none⟩)) ks cl) ∧ Hid (TabV wr (.pointer (some ⟨B', 0, none⟩)) (ks ++ [x]) cl) ∧ Hid (Blk wr w.heap.size 29 #[.int .i64 x.1, .int .u8 x.2]) ∧ Below w.heap.size w wr) (fun i _ => n - (intOf i).toNat)
        case atStart => exact ⟨0, by omega, rfl, T, U, HX4, hB4⟩
        case round =>
          clear T U HX4 hB4
          obtain ⟨k, hkn, rfl, T, U, HX, hB⟩ := hrel
          by_cases hlt : k < n
          · have HM : Hid (mayB (ks ++ [x]) cl c k = mayB ks cl c k ∧ costN (ks ++ [x]) k = costN ks k) := more_same (by rw [HN.out]; exact hlt)
            go_wp2_with fail
            refine (HN.out ▸ kinds_any T.out).mono ?_
            rintro e w5 ⟨rfl, rfl⟩
            go_wp2_with fail
            refine (may_any T.out c k).mono ?_
            rintro e w6 ⟨rfl, hb6⟩
            have T6 : Hid (TabV w6 (.pointer (some ⟨B, 0, none⟩)) ks cl) := T.out.below hb6
            have U6 : Hid (TabV w6 (.pointer (some ⟨B', 0, none⟩)) (ks ++ [x]) cl) := U.out.below hb6
            have HX6 : Hid (Blk w6 w.heap.size 29 #[.int .i64 x.1, .int .u8 x.2]) := HX.out.below hb6
            have hB6 := below_step hB hb6 (Nat.le_refl _)
            clear T U hb6 hB HX
            go_wp2_with fail
            refine (may_any U6.out c k).mono ?_
            rintro e w7 ⟨rfl, hb7⟩
            have T7 : Hid (TabV w7 (.pointer (some ⟨B, 0, none⟩)) ks cl) := T6.out.below hb7
            have U7 : Hid (TabV w7 (.pointer (some ⟨B', 0, none⟩)) (ks ++ [x]) cl) := U6.out.below hb7
            have HX7 : Hid (Blk w7 w.heap.size 29 #[.int .i64 x.1, .int .u8 x.2]) := HX6.out.below hb7
            have hB7 := below_step hB6 hb7 (Nat.le_refl _)
            clear T6 U6 hb7 hB6 HX6
            rw [HM.out.1]
            generalize mayB ks cl c k = mb
            go_wp2_with fail
            refine (cost_any T7.out k).mono ?_
            rintro e w8 ⟨rfl, rfl⟩
            go_wp2_with fail
            refine (cost_any U7.out k).mono ?_
            rintro e w8 ⟨rfl, rfl⟩
            rw [HM.out.2]
            generalize costN ks k = cn
            go_wp2
            go_roundw
            case rel => exact ⟨k + 1, by omega, by go_num, T7, U7, HX7, hB7⟩
            case measure => simp [intOf]; omega
          · obtain rfl : k = n := by omega
            go_wp2_with fail
            refine (HN.out ▸ kinds_any T.out).mono ?_
            rintro e w5 ⟨rfl, rfl⟩
            go_wp2_with fail
            refine (least_any T.out c).mono ?_
            rintro e w5 ⟨rfl, rfl⟩
            go_wp2_with fail
            refine (least_any U.out c).mono ?_
            rintro e w5 ⟨rfl, rfl⟩
            go_wp2_with fail
            refine (HN.out ▸ kinds_any T.out).mono ?_
            rintro e w5 ⟨rfl, rfl⟩
            go_wp2_with fail
            refine (may_any U.out c k).mono ?_
            rintro e w6 ⟨rfl, hb6⟩
            have hx6 := (HX.out.below hb6).at (j := 0) rfl
            have hB6 := below_step hB hb6 (Nat.le_refl _)
            have hx1 := (okT_cost O2.out x (List.mem_append.2 (.inr (List.mem_singleton.2 rfl)))).1
            have hl0 := least_nonneg O1.out c
            have HL := more_least (ks := ks) (x := x) (cl := cl) (c := c) (n := k) HN.out
            clear T U hb6 hB HX
            generalize leastN ks cl c = ln at *
            generalize leastN (ks ++ [x]) cl c = ln' at *
            cases hm : mayB (ks ++ [x]) cl c k with
            | false =>
              have hl : ln' = ln := HL.1 hm
              subst hl
              clear hm HL
              generalize decide (0 < ln') = ok
              go_wp2
              go_ret
              exact ⟨ret_of (congrArg Value.bool (by simp)), hB6⟩
            | true =>
              have hl := HL.2 hm
              clear hm HL
              by_cases e0 : ln = 0
              · subst e0
                obtain rfl : ln' = x.1 := by simpa using hl
                have hd : decide (0 < x.1) = true := by simp; omega
                clear hl
                go_wp2
                go_ret
                exact ⟨ret_of (congrArg Value.bool (by simp)), hB6⟩
              · have hd : decide (0 < ln) = true := by simp; omega
                have hd' : decide (0 < ln') = true := by rw [hl]; split <;> simp <;> omega
                have hmin : ln' = min ln x.1 := by rw [hl]; split <;> omega
                clear hl
                subst hmin
                go_wp2
                all_goals (go_ret; exact ⟨ret_of (congrArg Value.bool (by simp; omega)), hB6⟩)
      · simp only [Option.map_some, Option.map_none]
        go_wp2
        all_goals (go_ret; exact ⟨ret_of (congrArg Value.bool (by simp)), hB4⟩)
    · by_cases h0 : n = 0
      · subst h0
        simp only [Option.map_none]
        clear hcase
        go_wp2
        all_goals (go_ret; exact ⟨ret_of (congrArg Value.bool (by simp)), hB4⟩)
      · rcases hcase with ⟨o2, rfl, B', rfl, tb2⟩ | ⟨o2, rfl, rfl⟩
        · have := more_ok (by rw [HN.out]; omega) o2
          rw [o1] at this; cases this
        · have e0 : ((n : Int) == 0) = false := by simp; omega
          simp only [Option.map_none]
          go_wp2
          go_ret
          exact ⟨ret_of (congrArg Value.bool (by simp)), hB4⟩
end Go.Proofs.Ytdeoajoekilegaa
