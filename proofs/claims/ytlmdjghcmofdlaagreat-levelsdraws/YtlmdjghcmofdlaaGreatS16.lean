/- Lemmas. -/
import Derived.Test.YtlmdjghcmofdlaaGreatS13
import Derived.BigRegion
import Derived.Handy
set_option maxRecDepth 100000
set_option maxHeartbeats 64000000
namespace Go.Proofs.YtlmdjghcmofdlaaGreat
open Go.RowKit
set_option linter.unusedVariables false
theorem ilen_any (ao : Option Addr) (n cap : Nat) (w : World) : Calls Tryz.prog 43 #[.slice ao n cap] w fun e w' => e = .returned (.int .i64 n) ∧ w' = w := by
  go_enter Tryz.func43, Tryz.ntmps43
  go_wp2
  go_ret
  exact ⟨rfl, rfl⟩
theorem iless_any {g n cap : Nat} {xs : List Int} {w : World} (h : RowW w 3 1 (.slice (some ⟨g, 0, none⟩) n cap) n (i6s xs)) {i j : Nat} (hi : i < n) (hj : j < n) (hn : n ≤ 200000) :
    Calls Tryz.prog 168 #[.slice (some ⟨g, 0, none⟩) n cap, .int .i64 i, .int .i64 j] w fun e w' => e = .returned (.bool (decide (lAt xs i < lAt xs j))) ∧ Below w.heap.size w w' := by
  have hl : xs.length = n := by have := h.1; rw [i6s_len] at this; omega
  have ci := h.cell (i6s_at (show i < xs.length by omega))
  have cj := h.cell (i6s_at (show j < xs.length by omega))
  have hi' : (i : Int) < n := by omega
  have hj' : (j : Int) < n := by omega
  have hn' : (n : Int) ≤ 200000 := by omega
  clear h
  go_enter Tryz.func168, Tryz.ntmps168
  go_wp2
  go_quiet (fail)
  go_wp2
  go_ret
  exact ⟨rfl, ⟨rfl, rfl, rfl, Nat.le_refl _, fun _ _ => rfl⟩⟩
theorem iswap_any {g n cap : Nat} {xs : List Int} {w : World} (h : RowW w 3 1 (.slice (some ⟨g, 0, none⟩) n cap) n (i6s xs)) {i j : Nat} (hi : i < n) (hj : j < n) (hn : n ≤ 200000) :
    Calls Tryz.prog 170 #[.slice (some ⟨g, 0, none⟩) n cap, .int .i64 i, .int .i64 j] w fun e w' => e = .returned (.tuple #[]) ∧ RowW w' 3 1 (.slice (some ⟨g, 0, none⟩) n cap) n (i6s (swapL xs i j)) ∧ w.grownBy w' (some g) := by
  have hl : xs.length = n := by have := h.1; rw [i6s_len] at this; omega
  have ci := h.cell (i6s_at (show i < xs.length by omega))
  have cj := h.cell (i6s_at (show j < xs.length by omega))
  have fi := h.frozen i
  have fj := h.frozen j
  have hi' : (i : Int) < n := by omega
  have hj' : (j : Int) < n := by omega
  have hn' : (n : Int) ≤ 200000 := by omega
  have HR := mkH h
  have HE : Hid (∀ W, RowW W 3 1 (.slice (some ⟨g, 0, none⟩) n cap) n (i6s xs) → RowW ((W.setCell ⟨g, i, none⟩ (.int .i64 (lAt xs j))).setCell ⟨g, j, none⟩ (.int .i64 (lAt xs i))) 3 1 (.slice (some ⟨g, 0, none⟩) n cap) n (i6s (swapL xs i j))) := fun W hW => by
    have := (hW.set (j := i) (by omega) (.int .i64 (lAt xs j))).set (j := j) (by omega) (.int .i64 (lAt xs i))
    unfold swapL i6s
    rw [List.map_set, List.map_set]; exact this
  clear h
  generalize lAt xs i = a at *
  generalize lAt xs j = b at *
  obtain ⟨v', hy'⟩ := cell?_setCell_some (w := w) (p := ⟨g, i, none⟩) (x := .int .i64 b) (q := ⟨g, j, none⟩) cj
  go_enter Tryz.func170, Tryz.ntmps170
  go_wp2
  go_region
  all_goals (try go_wp2)
  all_goals go_end0
  all_goals exact ⟨rfl, (HE.out w HR.out).kept (fun _ _ => rfl), ⟨rfl, rfl, rfl, by show _ ≤ (World.setCell _ _ _).heap.size; rw [size_setCell, size_setCell]; exact Nat.le_refl _, fun k hk hne => (Below.heap_setCell _ ⟨g, j, none⟩ _ k (fun e => hne (by rw [e]))).trans (Below.heap_setCell _ ⟨g, i, none⟩ _ k (fun e => hne (by rw [e])))⟩⟩
theorem reach_len {w : World} {B o : Nat} {v : Value} (h : w.cell? ⟨B, o, none⟩ = some v) (k : Nat) : Sem.run Tryz.prog (method (k + 1) 79 (.pointer (some ⟨B, o, none⟩)) "Len") w = .ok (43, v) w := by
  have : Sem.run Tryz.prog (method (k + 1) 79 (.pointer (some ⟨B, o, none⟩)) "Len") w = Sem.run Tryz.prog (do let v ← loadVar 52 ⟨B, o, none⟩; pure (43, v)) w := by kernel_rfl
  rw [this]
  simp [go_sem, h]
theorem reach_less {w : World} {B o : Nat} {v : Value} (h : w.cell? ⟨B, o, none⟩ = some v) (k : Nat) : Sem.run Tryz.prog (method (k + 1) 79 (.pointer (some ⟨B, o, none⟩)) "Less") w = .ok (168, v) w := by
  have : Sem.run Tryz.prog (method (k + 1) 79 (.pointer (some ⟨B, o, none⟩)) "Less") w = Sem.run Tryz.prog (do let v ← loadVar 52 ⟨B, o, none⟩; pure (168, v)) w := by kernel_rfl
  rw [this]
  simp [go_sem, h]
theorem reach_swap {w : World} {B o : Nat} {v : Value} (h : w.cell? ⟨B, o, none⟩ = some v) (k : Nat) : Sem.run Tryz.prog (method (k + 1) 79 (.pointer (some ⟨B, o, none⟩)) "Swap") w = .ok (170, v) w := by
  have : Sem.run Tryz.prog (method (k + 1) 79 (.pointer (some ⟨B, o, none⟩)) "Swap") w = Sem.run Tryz.prog (do let v ← loadVar 52 ⟨B, o, none⟩; pure (170, v)) w := by kernel_rfl
  rw [this]
  simp [go_sem, h]
theorem reach_push (a : Addr) (w : World) (k : Nat) : Sem.run Tryz.prog (method (k + 1) 79 (.pointer (some a)) "Push") w = .ok (172, .pointer (some a)) w := by kernel_rfl
theorem reach_pop (a : Addr) (w : World) (k : Nat) : Sem.run Tryz.prog (method (k + 1) 79 (.pointer (some a)) "Pop") w = .ok (171, .pointer (some a)) w := by kernel_rfl
theorem grown_of {w w' : World} (h : Below w.heap.size w w') (row : Option Nat) : w.grownBy w' row := ⟨h.os, h.tape, h.output, h.size, fun k hk _ => h.block k hk⟩
structure Heaped (w w' : World) (g n cap : Nat) (xs xs' : List Int) : Prop where
  row : RowW w' 3 1 (.slice (some ⟨g, 0, none⟩) n cap) n (i6s xs')
  mem : ∀ x, x ∈ xs' ↔ x ∈ xs
  nd : xs'.Nodup
  gr : w.grownBy w' (some g)
theorem Heaped.len {w w' : World} {g n cap : Nat} {xs xs' : List Int} (h : Heaped w w' g n cap xs xs') : xs'.length = n := by have := h.row.1; rw [i6s_len] at this; omega
theorem Heaped.swap {w w' w'' : World} {g n cap : Nat} {xs xs' : List Int} (h : Heaped w w' g n cap xs xs') {i j : Nat} (hi : i < n) (hj : j < n) (h1 : RowW w'' 3 1 (.slice (some ⟨g, 0, none⟩) n cap) n (i6s (swapL xs' i j))) (h2 : w'.grownBy w'' (some g)) : Heaped w w'' g n cap xs (swapL xs' i j) := by
  have hl := h.len
  exact ⟨h1, fun x => (swapL_mem (by omega) (by omega) x).trans (h.mem x), swapL_nodup (by omega) (by omega) h.nd, h.gr.trans h2⟩
theorem up_any {w : World} {B o g n cap j0 : Nat} {xs : List Int} (hc : w.cell? ⟨B, o, none⟩ = some (.slice (some ⟨g, 0, none⟩) n cap)) (hg : g ≠ B) (h : RowW w 3 1 (.slice (some ⟨g, 0, none⟩) n cap) n (i6s xs)) (hn : n ≤ 200000) (hd : xs.Nodup) (hj0 : j0 < n) (hu : HpU xs n j0) :
    Calls Tryz.prog 81 #[.iface 79 (.pointer (some ⟨B, o, none⟩)), .int .i64 j0] w fun e w' => e = .returned (.tuple #[]) ∧ ∃ xs', Heaped w w' g n cap xs xs' ∧ Hp xs' n := by
  have hB := cell_lt hc
  have HH : Hid (Heaped w w g n cap xs xs) := ⟨h, fun x => Iff.rfl, hd, ⟨rfl, rfl, rfl, Nat.le_refl _, fun _ _ _ => rfl⟩⟩
  have HU := mkH hu
  have HC : Hid (∀ wr, w.grownBy wr (some g) → wr.cell? ⟨B, o, none⟩ = some (.slice (some ⟨g, 0, none⟩) n cap)) := fun wr hgr => (World.cell?_of_block (w := w) (hgr.block B hB (fun e => hg (Option.some.inj e).symm))).trans hc
  clear h hd hu hc
  go_enter Tryz.func81, Tryz.ntmps81
  go_wp2
  go_loopw [1] (fun vj wr => ∃ (j : Nat) (ys : List Int), vj = .int .i64 j ∧ j < n ∧ Hid (Heaped w wr g n cap xs ys) ∧ Hid (HpU ys n j)) (fun vj _ => (intOf vj).toNat)
  case atStart => exact ⟨j0, xs, rfl, hj0, HH, HU⟩
  case round =>
    obtain ⟨j, ys, rfl, hj, HA, HV⟩ := hrel
    have hc := HC.out wr HA.out.gr
    have m1 := reach_less hc
    by_cases j0' : j = 0
    · subst j0'
      go_wp2
      go_returns
      exact ⟨rfl, ys, HA.out, HV.out.done (.inl rfl)⟩
    · obtain ⟨i, hi⟩ : ∃ i, i = (j - 1) / 2 := ⟨_, rfl⟩
      have hq : ((j : Int) - 1) / 2 = (i : Int) := by omega
      have hne : ((i : Int) == (j : Int)) = false := by simp; omega
      have HI := mkH hi
      have hij : i < n := by omega
      have hlen := HA.out.len
      have HL := mkH (iless_any HA.out.row hj hij hn)
      have HN := mkH j0'
      clear hi
      by_cases hl : lAt ys j < lAt ys i
      · rw [decide_eq_true hl] at HL
        have HX := mkH hl
        clear hl
        go_wp2_with fail
        refine HL.out.mono ?_
        rintro e w1 ⟨rfl, hb⟩
        have HA1 : Hid (Heaped w w1 g n cap xs ys) := ⟨HA.out.row.kept fun k hk => hb.block k (HA.out.row.lt hk), HA.out.mem, HA.out.nd, HA.out.gr.trans (grown_of hb _)⟩
        have hc1 := HC.out w1 HA1.out.gr
        have m1' := reach_swap hc1
        have HS := mkH (iswap_any HA1.out.row hij hj hn)
        clear hb hc m1 HA HL hc1
        go_wp2_with fail
        refine HS.out.mono ?_
        rintro e w2 ⟨rfl, hR, hgr⟩
        have HA2 := mkH (HA1.out.swap hij hj hR hgr)
        have HV2 : Hid (HpU (swapL ys i j) n i) := by
          have := HV.out.step (by have := HN.out; omega) hj (by omega) (by rw [← HI.out]; exact HX.out)
          rw [← HI.out] at this; exact this
        clear hR hgr HS m1' HA1 HV
        go_wp2
        go_roundw
        case rel => exact ⟨i, _, by go_num, hij, HA2, HV2⟩
        case measure => have h1 := HI.out; have h2 := HN.out; simp [intOf]; omega
      · rw [decide_eq_false hl] at HL
        have HX := mkH hl
        clear hl
        go_wp2_with fail
        refine HL.out.mono ?_
        rintro e w1 ⟨rfl, hb⟩
        have HA1 : Hid (Heaped w w1 g n cap xs ys) := ⟨HA.out.row.kept fun k hk => hb.block k (HA.out.row.lt hk), HA.out.mem, HA.out.nd, HA.out.gr.trans (grown_of hb _)⟩
        have HP : Hid (Hp ys n) := HV.out.done (.inr (by rw [← HI.out]; have := HX.out; omega))
        clear hb hc m1 HA HL
        go_wp2
        go_returns
        exact ⟨rfl, ys, HA1.out, HP.out⟩
/- down -/
def Tl (n : Nat) (ys xs : List Int) : Prop := ∀ k, n ≤ k → lAt ys k = lAt xs k
def IsB (e : Ending) : Prop := ∃ b, e = .returned (.bool b)
theorem down_any {w : World} {B o g n N cap : Nat} {xs : List Int} (hc : w.cell? ⟨B, o, none⟩ = some (.slice (some ⟨g, 0, none⟩) N cap)) (hg : g ≠ B) (h : RowW w 3 1 (.slice (some ⟨g, 0, none⟩) N cap) N (i6s xs)) (hn : N ≤ 200000) (hnN : n ≤ N) (hd : xs.Nodup) (hu : HpD xs n 0) :
    Calls Tryz.prog 72 #[.iface 79 (.pointer (some ⟨B, o, none⟩)), .int .i64 0, .int .i64 n] w fun e w' => IsB e ∧ ∃ xs', Heaped w w' g N cap xs xs' ∧ Hp xs' n ∧ Tl n xs' xs := by
  have hB := cell_lt hc
  have HH : Hid (Heaped w w g N cap xs xs ∧ Tl n xs xs) := ⟨⟨h, fun x => Iff.rfl, hd, ⟨rfl, rfl, rfl, Nat.le_refl _, fun _ _ _ => rfl⟩⟩, fun k _ => rfl⟩
  have HU := mkH hu
  have HC : Hid (∀ wr, w.grownBy wr (some g) → wr.cell? ⟨B, o, none⟩ = some (.slice (some ⟨g, 0, none⟩) N cap)) := fun wr hgr => (World.cell?_of_block (w := w) (hgr.block B hB (fun e => hg (Option.some.inj e).symm))).trans hc
  clear h hd hu hc
  go_enter Tryz.func72, Tryz.ntmps72
  go_wp2
  go_loopw [7] (fun vi wr => ∃ (i : Nat) (ys : List Int), vi = .int .i64 i ∧ i ≤ N ∧ Hid (Heaped w wr g N cap xs ys ∧ Tl n ys xs) ∧ Hid (HpD ys n i)) (fun vi _ => N - (intOf vi).toNat)
  case atStart => exact ⟨0, xs, rfl, by omega, HH, HU⟩
  case round =>
    obtain ⟨i, ys, rfl, hi, HA, HV⟩ := hrel
    have hc := HC.out wr HA.out.1.gr
    have hlen := HA.out.1.len
    obtain ⟨c1, hc1⟩ : ∃ c1, c1 = 2 * i + 1 := ⟨_, rfl⟩
    obtain ⟨c2, hc2⟩ : ∃ c2, c2 = 2 * i + 2 := ⟨_, rfl⟩
    have q1 : 2 * (i : Int) + 1 = (c1 : Int) := by omega
    have q2 : (c1 : Int) + 1 = (c2 : Int) := by omega
    have HC1 := mkH hc1
    have HC2 := mkH hc2
    clear hc1 hc2
    have n0 : ¬ (c1 : Int) < 0 := by omega
    by_cases h1 : c1 < n
    · have t1 : ¬ (n : Int) ≤ (c1 : Int) := by omega
      have h1N : c1 < N := by omega
      have hiN : i < N := by have := HC1.out; omega
      have m1 := reach_less hc
      by_cases h2 : c2 < n
      · have t2 : (c2 : Int) < (n : Int) := by omega
        have HL := mkH (iless_any HA.out.1.row (i := c2) (j := c1) (by omega) h1N hn)
        by_cases h21 : lAt ys c2 < lAt ys c1
        · rw [decide_eq_true h21] at HL
          have H21 := mkH h21
          clear h21
          go_wp2_with fail
          refine HL.out.mono ?_
          rintro e w1 ⟨rfl, hb⟩
          have HA1 : Hid (Heaped w w1 g N cap xs ys ∧ Tl n ys xs) := ⟨⟨HA.out.1.row.kept fun k hk => hb.block k (HA.out.1.row.lt hk), HA.out.1.mem, HA.out.1.nd, HA.out.1.gr.trans (grown_of hb _)⟩, HA.out.2⟩
          have hc1 := HC.out w1 HA1.out.1.gr
          have m2 := reach_less hc1
          clear hb hc m1 HA HL
          have hho : ∀ k, (k = 2 * i + 1 ∨ k = 2 * i + 2) → k < n → lAt ys c2 ≤ lAt ys k := fun k hk _ => by
            rcases hk with rfl | rfl
            · rw [← HC1.out]; have := H21.out; omega
            · rw [← HC2.out]; omega
          have hT := mkH hho
          have HLj := mkH (iless_any HA1.out.1.row (i := c2) (j := i) (by omega) hiN hn)
          by_cases hl : lAt ys c2 < lAt ys i
          · rw [decide_eq_true hl] at HLj
            have HX := mkH hl
            clear hl
            go_wp2_with fail
            refine HLj.out.mono ?_
            rintro e w3 ⟨rfl, hb⟩
            have HA3 : Hid (Heaped w w3 g N cap xs ys ∧ Tl n ys xs) := ⟨⟨HA1.out.1.row.kept fun k hk => hb.block k (HA1.out.1.row.lt hk), HA1.out.1.mem, HA1.out.1.nd, HA1.out.1.gr.trans (grown_of hb _)⟩, HA1.out.2⟩
            have hc3 := HC.out w3 HA3.out.1.gr
            have m3 := reach_swap hc3
            have HS := mkH (iswap_any HA3.out.1.row hiN (j := c2) (by omega) hn)
            clear hb HLj hc3 hho hc1 m2
            go_wp2_with fail
            refine HS.out.mono ?_
            rintro e w4 ⟨rfl, hR, hgr⟩
            have HA4 : Hid (Heaped w w4 g N cap xs (swapL ys i c2) ∧ Tl n (swapL ys i c2) xs) := ⟨HA3.out.1.swap hiN (by omega) hR hgr, fun k hk => by rw [lAt_swap (by omega) (by omega), if_neg (by omega), if_neg (by have := HC1.out; omega)]; exact HA3.out.2 k hk⟩
            have HV4 : Hid (HpD (swapL ys i c2) n c2) := HV.out.step (by have := HC1.out; have := HC2.out; omega) (by omega) (by omega) HX.out hT.out
            clear hR hgr HS m3 HA3 HV hT
            go_wp2
            go_roundw
            case rel => exact ⟨c2, _, by go_num, by omega, HA4, HV4⟩
            case measure => have h1 := HC1.out; have h2 := HC2.out; simp [intOf]; omega
          · rw [decide_eq_false hl] at HLj
            have HX := mkH hl
            clear hl
            go_wp2_with fail
            refine HLj.out.mono ?_
            rintro e w3 ⟨rfl, hb⟩
            have HA3 : Hid (Heaped w w3 g N cap xs ys ∧ Tl n ys xs) := ⟨⟨HA1.out.1.row.kept fun k hk => hb.block k (HA1.out.1.row.lt hk), HA1.out.1.mem, HA1.out.1.nd, HA1.out.1.gr.trans (grown_of hb _)⟩, HA1.out.2⟩
            have HP : Hid (Hp ys n) := HV.out.done (fun hq => by have h1 := hT.out c1 (.inl HC1.out) (by have := HC1.out; omega); have h2 := HX.out; rw [← HC1.out]; omega) (fun hq => by have h1 := hT.out c2 (.inr HC2.out) (by have := HC2.out; omega); have h2 := HX.out; rw [← HC2.out]; omega)
            clear hb HLj hT hho hc1 m2
            go_wp2
            go_ret
            exact ⟨⟨_, rfl⟩, ys, HA3.out.1, HP.out, HA3.out.2⟩
        · rw [decide_eq_false h21] at HL
          have H21 := mkH h21
          clear h21
          go_wp2_with fail
          refine HL.out.mono ?_
          rintro e w1 ⟨rfl, hb⟩
          have HA1 : Hid (Heaped w w1 g N cap xs ys ∧ Tl n ys xs) := ⟨⟨HA.out.1.row.kept fun k hk => hb.block k (HA.out.1.row.lt hk), HA.out.1.mem, HA.out.1.nd, HA.out.1.gr.trans (grown_of hb _)⟩, HA.out.2⟩
          have hc1 := HC.out w1 HA1.out.1.gr
          have m2 := reach_less hc1
          clear hb hc m1 HA HL
          have hho : ∀ k, (k = 2 * i + 1 ∨ k = 2 * i + 2) → k < n → lAt ys c1 ≤ lAt ys k := fun k hk _ => by
            rcases hk with rfl | rfl
            · rw [← HC1.out]; omega
            · rw [← HC2.out]; have := H21.out; omega
          have hT := mkH hho
          have HLj := mkH (iless_any HA1.out.1.row (i := c1) (j := i) (by omega) hiN hn)
          by_cases hl : lAt ys c1 < lAt ys i
          · rw [decide_eq_true hl] at HLj
            have HX := mkH hl
            clear hl
            go_wp2_with fail
            refine HLj.out.mono ?_
            rintro e w3 ⟨rfl, hb⟩
            have HA3 : Hid (Heaped w w3 g N cap xs ys ∧ Tl n ys xs) := ⟨⟨HA1.out.1.row.kept fun k hk => hb.block k (HA1.out.1.row.lt hk), HA1.out.1.mem, HA1.out.1.nd, HA1.out.1.gr.trans (grown_of hb _)⟩, HA1.out.2⟩
            have hc3 := HC.out w3 HA3.out.1.gr
            have m3 := reach_swap hc3
            have HS := mkH (iswap_any HA3.out.1.row hiN (j := c1) (by omega) hn)
            clear hb HLj hc3 hho hc1 m2
            go_wp2_with fail
            refine HS.out.mono ?_
            rintro e w4 ⟨rfl, hR, hgr⟩
            have HA4 : Hid (Heaped w w4 g N cap xs (swapL ys i c1) ∧ Tl n (swapL ys i c1) xs) := ⟨HA3.out.1.swap hiN (by omega) hR hgr, fun k hk => by rw [lAt_swap (by omega) (by omega), if_neg (by omega), if_neg (by have := HC1.out; omega)]; exact HA3.out.2 k hk⟩
            have HV4 : Hid (HpD (swapL ys i c1) n c1) := HV.out.step (by have := HC1.out; have := HC2.out; omega) (by omega) (by omega) HX.out hT.out
            clear hR hgr HS m3 HA3 HV hT
            go_wp2
            go_roundw
            case rel => exact ⟨c1, _, by go_num, by omega, HA4, HV4⟩
            case measure => have h1 := HC1.out; have h2 := HC2.out; simp [intOf]; omega
          · rw [decide_eq_false hl] at HLj
            have HX := mkH hl
            clear hl
            go_wp2_with fail
            refine HLj.out.mono ?_
            rintro e w3 ⟨rfl, hb⟩
            have HA3 : Hid (Heaped w w3 g N cap xs ys ∧ Tl n ys xs) := ⟨⟨HA1.out.1.row.kept fun k hk => hb.block k (HA1.out.1.row.lt hk), HA1.out.1.mem, HA1.out.1.nd, HA1.out.1.gr.trans (grown_of hb _)⟩, HA1.out.2⟩
            have HP : Hid (Hp ys n) := HV.out.done (fun hq => by have h1 := hT.out c1 (.inl HC1.out) (by have := HC1.out; omega); have h2 := HX.out; rw [← HC1.out]; omega) (fun hq => by have h1 := hT.out c2 (.inr HC2.out) (by have := HC2.out; omega); have h2 := HX.out; rw [← HC2.out]; omega)
            clear hb HLj hT hho hc1 m2
            go_wp2
            go_ret
            exact ⟨⟨_, rfl⟩, ys, HA3.out.1, HP.out, HA3.out.2⟩
      · have t2 : ¬ (c2 : Int) < (n : Int) := by omega
        have hho : ∀ k, (k = 2 * i + 1 ∨ k = 2 * i + 2) → k < n → lAt ys c1 ≤ lAt ys k := fun k hk hkn => by
          rcases hk with rfl | rfl
          · rw [← HC1.out]; omega
          · have := HC2.out; omega
        have hT := mkH hho
        have HLj := mkH (iless_any HA.out.1.row (i := c1) (j := i) (by omega) hiN hn)
        by_cases hl : lAt ys c1 < lAt ys i
        · rw [decide_eq_true hl] at HLj
          have HX := mkH hl
          clear hl
          go_wp2_with fail
          refine HLj.out.mono ?_
          rintro e w3 ⟨rfl, hb⟩
          have HA3 : Hid (Heaped w w3 g N cap xs ys ∧ Tl n ys xs) := ⟨⟨HA.out.1.row.kept fun k hk => hb.block k (HA.out.1.row.lt hk), HA.out.1.mem, HA.out.1.nd, HA.out.1.gr.trans (grown_of hb _)⟩, HA.out.2⟩
          have hc3 := HC.out w3 HA3.out.1.gr
          have m3 := reach_swap hc3
          have HS := mkH (iswap_any HA3.out.1.row hiN (j := c1) (by omega) hn)
          clear hb HLj hc3 hho hc m1
          go_wp2_with fail
          refine HS.out.mono ?_
          rintro e w4 ⟨rfl, hR, hgr⟩
          have HA4 : Hid (Heaped w w4 g N cap xs (swapL ys i c1) ∧ Tl n (swapL ys i c1) xs) := ⟨HA3.out.1.swap hiN (by omega) hR hgr, fun k hk => by rw [lAt_swap (by omega) (by omega), if_neg (by omega), if_neg (by have := HC1.out; omega)]; exact HA3.out.2 k hk⟩
          have HV4 : Hid (HpD (swapL ys i c1) n c1) := HV.out.step (by have := HC1.out; have := HC2.out; omega) (by omega) (by omega) HX.out hT.out
          clear hR hgr HS m3 HA3 HV hT
          go_wp2
          go_roundw
          case rel => exact ⟨c1, _, by go_num, by omega, HA4, HV4⟩
          case measure => have h1 := HC1.out; have h2 := HC2.out; simp [intOf]; omega
        · rw [decide_eq_false hl] at HLj
          have HX := mkH hl
          clear hl
          go_wp2_with fail
          refine HLj.out.mono ?_
          rintro e w3 ⟨rfl, hb⟩
          have HA3 : Hid (Heaped w w3 g N cap xs ys ∧ Tl n ys xs) := ⟨⟨HA.out.1.row.kept fun k hk => hb.block k (HA.out.1.row.lt hk), HA.out.1.mem, HA.out.1.nd, HA.out.1.gr.trans (grown_of hb _)⟩, HA.out.2⟩
          have HP : Hid (Hp ys n) := HV.out.done (fun hq => by have h1 := hT.out c1 (.inl HC1.out) (by have := HC1.out; omega); have h2 := HX.out; rw [← HC1.out]; omega) (fun hq => by have h1 := hT.out c2 (.inr HC2.out) (by have := HC2.out; omega); have h2 := HX.out; rw [← HC2.out]; omega)
          clear hb HLj hT hho hc m1
          go_wp2
          go_ret
          exact ⟨⟨_, rfl⟩, ys, HA3.out.1, HP.out, HA3.out.2⟩
    · have t1 : (n : Int) ≤ (c1 : Int) := by omega
      have HP : Hid (Hp ys n) := HV.out.done (fun hq => by have := HC1.out; omega) (fun hq => by have := HC1.out; omega)
      go_wp2
      go_ret
      exact ⟨⟨_, rfl⟩, ys, HA.out.1, HP.out, HA.out.2⟩
end Go.Proofs.YtlmdjghcmofdlaaGreat
