/- The walk of CellsSplit. -/
import Derived.Test.YtcflbekjiohfnaaCellApart
namespace Go.Proofs.Ytcflbekjiohfnaa
open Go.RowKit
set_option linter.unusedVariables false
attribute [local go_sem ↓] Go.wp_at_zero Go.wp_at_succ

theorem diffsTo_prefix (L L' : List Int) {i m : Nat} (h : i ≤ m) : ∃ r, diffsTo L L' m = diffsTo L L' i ++ r := by
  induction m with
  | zero => exact ⟨[], by rw [show i = 0 by omega]; simp⟩
  | succ m ih =>
    by_cases hi : i = m + 1
    · exact ⟨[], by rw [hi]; simp⟩
    · obtain ⟨r, hr⟩ := ih (by omega)
      exact ⟨r ++ (if lAt L' m = lAt L m then [] else [(m : Int)]), by rw [diffsTo_succ, hr, List.append_assoc]⟩
theorem diffsTo_at {L L' : List Int} {i m : Nat} (hi : i < m) (hne : lAt L' i ≠ lAt L i) : (diffsTo L L' i).length < (diffsTo L L' m).length ∧ lAt (diffsTo L L' m) (diffsTo L L' i).length = i := by
  obtain ⟨r, hr⟩ := diffsTo_prefix L L' (show i + 1 ≤ m by omega)
  rw [diffsTo_succ, if_neg hne] at hr
  rw [hr]
  refine ⟨by simp, ?_⟩
  rw [lAt_eq (by simp)]
  simp
theorem errB_at {nk nc : Int} {es : List Ed} (h : errB nk nc es = 0) {e : Ed} (he : e ∈ es) : errS nk nc e.1 e.2 = 0 := by
  obtain ⟨h1, h2, _⟩ := errB_zero h
  unfold errS
  rw [if_pos (hasN_iff.2 (h1 e he)), if_pos (hasN_iff.2 (h2 e he))]
theorem great_one (zw zh : Int) (n : Nat) : greatN zw zh [n] = (decide (2000 < n) || decide (900 < Pl.cellsN zw zh)) := by
  unfold greatN
  rw [show min [n].length 61 = 1 by simp, show sumTo [n] 1 = min n 2001 by simp [sumTo, nAt]]
  rw [show decide (60 < [n].length) = false by simp, Bool.false_or]
  congr 1
  by_cases h : 2000 < n
  · rw [show decide (2000 < n) = true by simpa using h, show decide (2000 < min n 2001) = true by simp; omega]
  · rw [show decide (2000 < n) = false by simpa using h, show decide (2000 < min n 2001) = false by simp; omega]
theorem EAt.off {W : World} {ao : Option Addr} {es : List Ed} {K : Nat} (h : EAt W ao es) (hK : W.heap.size ≤ K) : EOff ao es K := by
  rcases h with h | ⟨b, off, rfl, h⟩
  · exact .inl h
  · cases es with
    | nil => exact .inl rfl
    | cons e es =>
      refine .inr (fun a ha => ?_)
      cases ha
      have := cell_lt (h 0 (by simp)).1
      show b ≠ K
      omega

set_option maxRecDepth 100000 in
set_option maxHeartbeats 4000000 in
theorem split_walk (zw zh : Int) (ao : Option Addr) (cap : Nat) (es : List Ed) (w : World) (he : EAt w ao es) : Calls Try.prog 6 #[Pl.sz zw zh, .slice ao es.length cap] w fun e w' => e = .returned (.bool true) ∧ Below w.heap.size w w' := by
  obtain ⟨X, hX⟩ : ∃ X, X = w.alloc (.cells #[.int .i64 zw, .int .i64 zh] 26) := ⟨_, rfl⟩
  obtain ⟨H, hH⟩ : ∃ H, H = w.heap.size := ⟨_, rfl⟩
  have hXb : Below w.heap.size w X := by rw [hX]; exact (Below.refl _ _).alloc (Nat.le_refl _) _
  have hXs : X.heap.size = H + 1 := by rw [hX, hH]; simp
  have z01 : X.cell? ⟨H, 0, none⟩ = some (.int .i64 zw) ∧ X.cell? ⟨H, 1, none⟩ = some (.int .i64 zh) := by
    rw [hX, hH]; exact (Blk.new w 26 #[.int .i64 zw, .int .i64 zh]).cells2
  have HE : Hid (EAt X ao es) := he.below hXb
  have HMd : Hid (madeB zw zh twoL 1 = Pl.rt zw zh) := madeB_two zw zh
  obtain ⟨n, hn⟩ : ∃ n, es.length = n := ⟨_, rfl⟩
  have HN : Hid (es.length = n) := hn
  have HGr : Hid (greatN zw zh [n] = (decide (2000 < n) || decide (900 < Pl.cellsN zw zh))) := great_one zw zh n
  rw [hn]
  clear hn he
  go_enter Try.func6, Try.ntmps6
  go_wp2_with fail
  rw [← hX, ← hH]
  have hZl : H < X.heap.size := by omega
  have HXb : Hid (Below w.heap.size w X) := hXb
  have hwX : w.heap.size ≤ X.heap.size := hXb.size
  clear hX hXb hXs hH
  obtain ⟨z0, z1⟩ := z01
  refine (awake_any _).mono ?_
  rintro e w1 ⟨rfl, V1⟩
  have z0' := (V1.cell (p := ⟨H, 0, none⟩) hZl).trans z0
  have z1' := (V1.cell (p := ⟨H, 1, none⟩) hZl).trans z1
  have hl1 : H < w1.heap.size := Nat.lt_of_lt_of_le hZl V1.size
  have HLA : Hid (LAt (w1.alloc (.cells #[.int .i64 0, .slice ao n cap, .int .i64 0, .int .i64 0, .int .i64 0, .int .i64 0, .int .i64 0] 50)) (some ⟨w1.heap.size, 0, none⟩) [n]) := .inr ⟨w1.heap.size, 0, rfl, fun i hi => by
    obtain rfl : i = 0 := by simpa using hi
    exact ⟨ao, cap, (Blk.new w1 50 _).at (j := 1) rfl⟩⟩
  have VA : Below X.heap.size X (w1.alloc (.cells #[.int .i64 0, .slice ao n cap, .int .i64 0, .int .i64 0, .int .i64 0, .int .i64 0, .int .i64 0] 50)) := below_new V1 (Nat.le_refl _) _
  go_wp2_with fail
  refine (great_any zw zh (some ⟨w1.heap.size, 0, none⟩) 1 1 [n] _ rfl (by omega) HLA.out).mono ?_
  rintro e w2 ⟨rfl, hb2⟩
  rw [HGr.out]
  have V2 : Below X.heap.size X w2 := below_step VA hb2 (Nat.le_refl _)
  clear hb2 V1 z0' z1' VA HLA
  have z0' := (V2.cell (p := ⟨H, 0, none⟩) hZl).trans z0
  have z1' := (V2.cell (p := ⟨H, 1, none⟩) hZl).trans z1
  by_cases h9 : 2000 < n ∨ 900 < Pl.cellsN zw zh
  · rw [show (decide (2000 < n) || decide (900 < Pl.cellsN zw zh)) = true from by simpa using h9]
    go_wp2
    go_ret
    exact ⟨rfl, HXb.out.trans (V2.mono hwX)⟩
  · rw [show (decide (2000 < n) || decide (900 < Pl.cellsN zw zh)) = false from by simpa using h9]
    have hn2 : n ≤ 2000 := by omega
    have hHl2 : H < w2.heap.size := Nat.lt_of_lt_of_le hZl V2.size
    cases hrt : Pl.rt zw zh with
    | false =>
      have HM : Hid (madeB zw zh twoL 1 = false) := HMd.out.trans hrt
      clear HMd hrt h9
      go_wp2
      go_region_held3 (fun w' => w'.cell? ⟨H, 0, none⟩ = some (.int .i64 zw) ∧ w'.cell? ⟨H, 1, none⟩ = some (.int .i64 zh))
        (first
          | go_keep
          | (go_split_ands
             refine ⟨?_, ?_⟩
             · (rw [hb4.cell (p := ⟨H, 0, none⟩) hHl3]; assumption)
             · (rw [hb4.cell (p := ⟨H, 1, none⟩) hHl3]; assumption))
          | (go_split_ands
             refine ⟨?_, ?_⟩
             · (rw [hb3.cell (p := ⟨H, 0, none⟩) (by simpa using hHl2)]; assumption)
             · (rw [hb3.cell (p := ⟨H, 1, none⟩) (by simpa using hHl2)]; assumption)))
        (first
          | (go_at_call 10; refine (two_ok _).mono ?_; rintro e w3 ⟨rfl, HK3, hb3⟩; have hHl3 : H < w3.heap.size := Nat.lt_of_lt_of_le hHl2 hb3.size)
          | (go_at_call 9; refine (made_no zw zh _ 2 2 twoL 1 w3 rfl HK3.out twoL_wk HM.out).mono ?_; rintro e w4 ⟨rfl, hb4⟩))
      all_goals go_wp2
      go_ret
      have hb3' : Below w2.heap.size w2 w3 := ⟨hb3.os, hb3.tape, hb3.output, hb3.size, hb3.block⟩
      exact ⟨rfl, HXb.out.trans ((below_step (below_step V2 hb3' (Nat.le_refl _)) hb4 (Nat.le_refl _)).mono hwX)⟩
    | true =>
      have HM : Hid (madeB zw zh twoL 1 = true) := HMd.out.trans hrt
      clear HMd hrt h9
      go_wp2
      go_region_held3 (fun w' => w'.cell? ⟨H, 0, none⟩ = some (.int .i64 zw) ∧ w'.cell? ⟨H, 1, none⟩ = some (.int .i64 zh))
        (first
          | go_keep
          | (go_split_ands
             refine ⟨?_, ?_⟩
             · (rw [hb4.cell (p := ⟨H, 0, none⟩) hHl3]; assumption)
             · (rw [hb4.cell (p := ⟨H, 1, none⟩) hHl3]; assumption))
          | (go_split_ands
             refine ⟨?_, ?_⟩
             · (rw [hb3.cell (p := ⟨H, 0, none⟩) (by simpa using hHl2)]; assumption)
             · (rw [hb3.cell (p := ⟨H, 1, none⟩) (by simpa using hHl2)]; assumption)))
        (first
          | (go_at_call 10; refine (two_ok _).mono ?_; rintro e w3 ⟨rfl, HK3, hb3⟩; have hHl3 : H < w3.heap.size := Nat.lt_of_lt_of_le hHl2 hb3.size)
          | (go_at_call 9; refine (made_yes zw zh _ 2 2 twoL 1 w3 rfl HK3.out twoL_wk HM.out).mono ?_; rintro e w4 ⟨F, B, K, T, rfl, hB4, hK4, hO4, hF4, hb4⟩))
      have hb3' : Below w2.heap.size w2 w3 := ⟨hb3.os, hb3.tape, hb3.output, hb3.size, hb3.block⟩
      have V3 : Below X.heap.size X w3 := below_step V2 hb3' (Nat.le_refl _)
      have V4 : Below X.heap.size X w4 := below_step V3 hb4 (Nat.le_refl _)
      have hKX : X.heap.size ≤ K := Nat.le_trans V3.size hK4
      have O4 : Hid (Own w4 F B K T zw zh twoL 1 (List.replicate (zw * zh).toNat 0)) := hO4
      have hnF : ¬ F K := hO4.nf
      have hKlt : K < w4.heap.size := hO4.row.lt
      have hBlt : B < w4.heap.size := hO4.blk.lt
      generalize List.replicate (zw * zh).toNat (0 : Int) = L0 at *
      clear hO4 hF4 hb4 hb3 hb3' V2 V3 HK3 z0' z1' HM
      go_wp2_with fail
      refine (twin_yes O4.out).mono ?_
      rintro e w5 ⟨B2, K2, rfl, hB5, hK5, hO5, hb5⟩
      have V5 : Below X.heap.size X w5 := below_step V4 hb5 (Nat.le_refl _)
      have OG5 : Hid (Own w5 F B K T zw zh twoL 1 L0) := O4.out.below hb5
      have OH5 : Hid (Own w5 F B2 K2 T zw zh twoL 1 L0) := hO5
      have hK2lt : K2 < w5.heap.size := hO5.row.lt
      have hnF2 : ¬ F K2 := hO5.nf
      have hKl5 : K < w5.heap.size := Nat.lt_of_lt_of_le hKlt hb5.size
      have hK2X : X.heap.size ≤ K2 := Nat.le_trans V4.size hK5
      have n1 : K ≠ B2 := by omega
      have n2 : K ≠ K2 := by omega
      have n3 : K2 ≠ B := by omega
      have hLl : L0.length ≤ 4194304 := hO5.l1.1
      clear hO5 hb5 O4 V4
      go_wp2_with fail
      refine (gkinds_any OG5.out.gv).mono ?_
      rintro e w6 ⟨vw, rfl, hI, hb6⟩
      have V6 : Below X.heap.size X w6 := below_step V5 hb6 (Nat.le_refl _)
      have OG6 : Hid (Own w6 F B K T zw zh twoL 1 L0) := OG5.out.below hb6
      have OH6 : Hid (Own w6 F B2 K2 T zw zh twoL 1 L0) := OH5.out.below hb6
      have IW6 : Hid (IS w6 w5.heap.size vw L0) := hI
      have hs6 := hb6.size
      clear hI hb6 OG5 OH5
      go_wp2_with fail
      refine (batch_any OG6.out ao cap n es HN.out (by omega) (HE.out.below V6) (HE.out.off hKX)).mono ?_
      rintro e w7 ⟨vc, rfl, hI, hO, hU⟩
      have V7 : Below X.heap.size X w7 := v_step V6 hU (Nat.le_refl _) hKX
      have OG7 : Hid (Own w7 F B K T zw zh twoL 1 (batL twoL.length L0 es)) := hO
      have OH7 : Hid (Own w7 F B2 K2 T zw zh twoL 1 L0) := OH6.out.but hU n1 n2 hnF
      have IW7 : Hid (IS w7 w5.heap.size vw L0) := IW6.out.but hU hKl5
      have IC7 : Hid (IS w7 w6.heap.size vc (diffs L0 (batL twoL.length L0 es))) := hI
      have hs7 := hU.size
      clear hI hO hU OG6 OH6 IW6
      go_wp2_with fail
      refine (gkinds_any OG7.out.gv).mono ?_
      rintro e w8 ⟨vn, rfl, hI, hb8⟩
      have V8 : Below X.heap.size X w8 := below_step V7 hb8 (Nat.le_refl _)
      have OH8 : Hid (Own w8 F B2 K2 T zw zh twoL 1 L0) := OH7.out.below hb8
      have IW8 : Hid (IS w8 w5.heap.size vw L0) := IW7.out.below hb8
      have IC8 : Hid (IS w8 w6.heap.size vc (diffs L0 (batL twoL.length L0 es))) := IC7.out.below hb8
      have IN8 : Hid (IS w8 w7.heap.size vn (batL twoL.length L0 es)) := hI
      have hs8 := hb8.size
      have hwf : Below w.heap.size w w8 := HXb.out.trans (V8.mono hwX)
      clear hI hb8 OG7 OH7 IW7 IC7 V5 V6 V7
      obtain ⟨er, her⟩ : ∃ er, errB twoL.length L0.length es = er := ⟨_, rfl⟩
      rw [her]
      have HER : Hid (errB twoL.length L0.length es = er) := her
      clear her
      by_cases hz : er = 0
      · subst hz
        have HB1 : Hid (batL twoL.length L0 es = puts L0 es) := by show _ = _; unfold batL; rw [if_pos HER.out]
        rw [HB1.out] at IC8 IN8
        clear HB1
        go_wp2
        go_loopw [12] (fun i wr => ∃ k : Nat, k ≤ n ∧ i = .int .i64 k ∧ Hid (Own wr F B2 K2 T zw zh twoL 1 (puts L0 (es.take k))) ∧ But w8.heap.size K2 w8 wr) (fun i _ => n - (intOf i).toNat)
        case atStart => exact ⟨0, Nat.zero_le _, rfl, OH8.out, But.refl _ _ _⟩
        case round =>
          obtain ⟨k, hkn, rfl, OH, hU⟩ := hrel
          by_cases hlt : k < n
          · have VR : Below X.heap.size X wr := v_step V8 hU (Nat.le_refl _) hK2X
            rcases HE.out.below VR with h | ⟨b, off, rfl, hc⟩
            · have := HN.out; rw [h] at this; simp at this; omega
            · obtain ⟨e0, e1⟩ := hc k (by rw [HN.out]; exact hlt)
              have hbX : b < X.heap.size := by
                rcases HE.out with h | ⟨b', off', e', hc'⟩
                · have := HN.out; rw [h] at this; simp at this; omega
                · cases e'; exact cell_lt (hc' k (by rw [HN.out]; exact hlt)).1
              have hES : Hid (errS twoL.length (puts L0 (es.take k)).length (eAt es k).1 (eAt es k).2 = 0) := by show _ = _; rw [puts_len]; exact errB_at HER.out (eAt_mem (by rw [HN.out]; exact hlt))
              have HS : Hid (setL twoL.length (puts L0 (es.take k)) (eAt es k).1 (eAt es k).2 = puts L0 (es.take (k + 1))) := by
                show _ = _
                rw [puts_snoc L0 (by rw [HN.out]; exact hlt)]
                unfold setL; rw [if_pos hES.out]
              clear hc
              generalize eAt es k = x at *
              obtain ⟨x1, x2⟩ := x
              simp only at e0 e1
              have hbw : b < wr.heap.size := Nat.lt_of_lt_of_le hbX VR.size
              have hbK2 : b ≠ K2 := by omega
              have hk0 : (0 : Int) ≤ (k : Int) := by omega
              have hk1 : (k : Int) < (n : Int) := by omega
              go_wp2
              go_region_held3 (fun w' => w'.cell? ⟨b, off + k * 2, none⟩ = some (.int .i64 x1) ∧ w'.cell? ⟨b, off + k * 2 + 1, none⟩ = some (.int .i64 x2))
                (first
                  | go_keep
                  | (go_split_ands
                     refine ⟨?_, ?_⟩
                     · (rw [hU9.cell (by simpa using hbw) hbK2]; assumption)
                     · (rw [hU9.cell (by simpa using hbw) hbK2]; assumption)))
                ((go_at_call 11; refine (set_any (OH.out.below ((Below.refl _ wr).drew)) x1 x2).mono ?_; rintro e w9 ⟨vv, rfl, hI9, hO9, hU9⟩; rw [hES.out]))
              have hU9' : But wr.heap.size K2 wr w9 := ⟨hU9.os, hU9.tape, hU9.output, hU9.size, hU9.block⟩
              have hO10 : Own w9 F B2 K2 T zw zh twoL 1 (puts L0 (es.take (k + 1))) := by rw [← HS.out]; exact hO9
              have O10 : Hid (Own w9 F B2 K2 T zw zh twoL 1 (puts L0 (es.take (k + 1)))) := hO10
              have hU10 := hU.step hU9' (Nat.le_refl _)
              clear hO9 hO10 hI9 hU9 HS hES
              go_wp2
              go_roundw
              case rel => exact ⟨k + 1, by omega, by go_num, O10, hU10⟩
              case measure => simp [intOf]; omega
          · have hke : k = n := by omega
            have hOx : Own wr F B2 K2 T zw zh twoL 1 (puts L0 es) := by
              have := OH.out
              rwa [hke, ← HN.out, List.take_length] at this
            have hlp : (puts L0 es).length = L0.length := puts_len _ _
            have OX : Hid (Own wr F B2 K2 T zw zh twoL 1 (puts L0 es)) := hOx
            have IW9 : Hid (IS wr w5.heap.size vw L0) := IW8.out.but hU hK2lt
            have IC9 : Hid (IS wr w6.heap.size vc (diffs L0 (puts L0 es))) := IC8.out.but hU (by omega)
            have IN9 : Hid (IS wr w7.heap.size vn (puts L0 es)) := IN8.out.but hU (by omega)
            have hwr : Below w.heap.size w wr := HXb.out.trans ((v_step V8 hU (Nat.le_refl _) hK2X).mono hwX)
            clear hOx OH hke hU OH8 IW8 IC8 IN8 HER HN HE
            generalize puts L0 es = L1 at *
            go_wp2_with fail
            refine (gkinds_any OX.out.gv).mono ?_
            rintro e w10 ⟨vo, rfl, hI, hb10⟩
            have IO10 : Hid (IAt w10 vo L1) := hI.iat
            have hwf10 := below_step hwr hb10 (Nat.le_refl _)
            obtain ⟨na, nc, rfl, hnf⟩ := (IN9.out.below hb10).form
            obtain ⟨wa, wc, rfl, hwf'⟩ := (IW9.out.below hb10).form
            obtain ⟨ca, cc, rfl, hcf⟩ := (IC9.out.below hb10).form
            have IN10 : Hid (IAt w10 (.slice na L1.length nc) L1) := (IN9.out.below hb10).iat
            have CN : Hid (L1 = [] ∨ ∃ g, na = some ⟨g, 0, none⟩ ∧ w7.heap.size ≤ g ∧ g < w10.heap.size ∧ ∀ i, i < L1.length → w10.cell? ⟨g, i, none⟩ = some (.int .i64 (lAt L1 i))) := hnf
            have CW : Hid (L0 = [] ∨ ∃ g, wa = some ⟨g, 0, none⟩ ∧ w5.heap.size ≤ g ∧ g < w10.heap.size ∧ ∀ i, i < L0.length → w10.cell? ⟨g, i, none⟩ = some (.int .i64 (lAt L0 i))) := hwf'
            have CC : Hid (diffs L0 L1 = [] ∨ ∃ g, ca = some ⟨g, 0, none⟩ ∧ w6.heap.size ≤ g ∧ g < w10.heap.size ∧ ∀ i, i < (diffs L0 L1).length → w10.cell? ⟨g, i, none⟩ = some (.int .i64 (lAt (diffs L0 L1) i))) := hcf
            clear hI hb10 IN9 IW9 IC9 hnf hwf' hcf OX
            rw [hlp] at CN IN10
            rw [hlp]
            have HLP : Hid (L1.length = L0.length) := hlp
            clear hlp
            go_wp2_with fail
            refine (same_any IO10.out IN10.out (by rw [HLP.out]; omega) (by rw [HLP.out]; omega)).mono ?_
            rintro e w11 ⟨rfl, hb11⟩
            rw [show decide (L1 = L1) = true from by simp]
            have hwf11 := below_step hwf10 hb11 (Nat.le_refl _)
            have HD : Hid (diffs L0 L1 = diffsTo L0 L1 L0.length) := rfl
            have hdl : (diffs L0 L1).length ≤ L0.length := diffs_len _ _
            generalize hM : L0.length = M at *
            generalize hDD : diffs L0 L1 = D at *
            generalize hDl : D.length = dl at *
            clear IO10 IN10
            have HDl : Hid (D.length = dl) := hDl
            have HMl : Hid (L0.length = M) := hM
            have hDD' : Hid (diffs L0 L1 = D) := hDD
            clear hDl hDD hM
            go_wp2
            go_loopw [15, 16] (fun c i wr => ∃ (k m : Nat), k ≤ M ∧ c = .int .i64 m ∧ i = .int .i64 k ∧ m ≤ dl ∧ Hid (m = (diffsTo L0 L1 k).length) ∧ Below w10.heap.size w10 wr) (fun _ i _ => M - (intOf i).toNat)
            case atStart => exact ⟨0, 0, Nat.zero_le _, rfl, rfl, Nat.zero_le _, rfl, hb11⟩
            case round =>
              obtain ⟨k, m, hkn, rfl, rfl, hm, HM, hB⟩ := hrel
              by_cases hlt : k < M
              · rcases CN.out with h | ⟨gn, rfl, _, hgn, hcn⟩
                · have := HLP.out; rw [h] at this; simp at this; omega
                rcases CW.out with h | ⟨gw, rfl, _, hgw, hcw⟩
                · have := HMl.out; rw [h] at this; simp at this; omega
                have x0 := (hB.cell (p := ⟨gn, k, none⟩) hgn).trans (hcn k hlt)
                have y0 := (hB.cell (p := ⟨gw, k, none⟩) hgw).trans (hcw k hlt)
                have HS : Hid (diffsTo L0 L1 (k + 1) = diffsTo L0 L1 k ++ (if lAt L1 k = lAt L0 k then [] else [(k : Int)])) := diffsTo_succ L0 L1 k
                have HT : Hid (lAt L1 k ≠ lAt L0 k → m < dl ∧ lAt D m = k) := fun h => by
                  have := diffsTo_at (L := L0) (L' := L1) hlt h
                  rw [← HD.out, HDl.out, ← HM.out] at this
                  exact this
                have g0 := Grow.cell (cell_lt x0) x0
                have g1 := Grow.cell (cell_lt y0) y0
                have gne := Grow.ne wr
                clear hcn hcw
                generalize lAt L1 k = p at *
                generalize lAt L0 k = q at *
                go_wp2
                refine wp_region_grow (by kernel_rfl) (by kernel_rfl) ?_
                repeat (go_big_quiet_step (fail))
                refine wpQuiet_nil ?_
                rintro w12 ⟨⟨_, hb12⟩, rfl⟩
                clear g0 g1 gne
                have hB12 := below_step hB hb12 (Nat.le_refl _)
                by_cases hpq : p = q
                · have e0 : (p != q) = false := by simp [hpq]
                  rw [e0]
                  have HS' : Hid (m = (diffsTo L0 L1 (k + 1)).length) := by show _ = _; rw [HS.out, if_pos hpq, List.append_nil]; exact HM.out
                  clear HS HT e0
                  go_wp2
                  go_roundw
                  case rel => exact ⟨k + 1, m, by omega, rfl, by go_num, hm, HS', hB12⟩
                  case measure => simp [intOf]; omega
                · have e0 : (p != q) = true := by simp [hpq]
                  rw [e0]
                  have HS' : Hid (m + 1 = (diffsTo L0 L1 (k + 1)).length) := by show _ = _; rw [HS.out, if_neg hpq, List.length_append, ← HM.out]; rfl
                  obtain ⟨t1, t2⟩ := HT.out hpq
                  rcases CC.out with h | ⟨gc, rfl, _, hgc, hcc⟩
                  · have := HDl.out; rw [h] at this; simp at this; omega
                  have d0 := (hB12.cell (p := ⟨gc, m, none⟩) hgc).trans (hcc m t1)
                  rw [t2] at d0
                  clear HS HT e0 hcc t2
                  go_wp2
                  go_roundw
                  case rel => exact ⟨k + 1, m + 1, by omega, by go_num, by go_num, by omega, HS', hB12⟩
                  case measure => simp [intOf]; omega
              · have hmd : m = dl := by rw [HM.out, show k = M by omega, ← HD.out, HDl.out]
                subst hmd
                go_wp2
                go_ret
                exact ⟨by simp, below_step hwf10 hB (Nat.le_refl _)⟩
      · have hz' : (er == 0) = false := by simpa using hz
        have HB1 : Hid (batL twoL.length L0 es = L0) := by show _ = _; unfold batL; rw [HER.out, if_neg hz]
        rw [HB1.out, diffs_self] at IC8
        rw [HB1.out] at IN8
        obtain ⟨ca, cc, hvc, _⟩ := IC8.out.form
        rw [show ([] : List Int).length = 0 from rfl] at hvc
        subst hvc
        go_wp2_with fail
        refine (same_any IN8.out.iat IW8.out.iat (by omega) (by omega)).mono ?_
        rintro e w9 ⟨rfl, hb9⟩
        rw [show decide (L0 = L0) = true from by simp]
        go_wp2
        go_ret
        exact ⟨rfl, below_step hwf hb9 (Nat.le_refl _)⟩
end Go.Proofs.Ytcflbekjiohfnaa
