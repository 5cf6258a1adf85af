/- The walk of CellsBack. -/
import Derived.Test.YtcflbekjiohfnaaCellSplit
import Derived.Test.YtcflbekjiohfnaaCellKnown
namespace Go.Proofs.Ytcflbekjiohfnaa
open Go.RowKit
set_option linter.unusedVariables false
attribute [local go_sem ↓] Go.wp_at_zero Go.wp_at_succ

/-- Edits each of which writes what f says. -/
theorem lAt_puts_fun (f : Int → Int) {i : Nat} : ∀ (es : List Ed) (L : List Int), i < L.length → (∀ e ∈ es, 0 ≤ e.1 ∧ e.2 = f e.1) → (∃ e ∈ es, e.1 = (i : Int)) → lAt (puts L es) i = f i
  | [], L, _, _, ⟨e, he, _⟩ => by cases he
  | e :: es, L, hi, h, hex => by
    show lAt (puts (put L e.1 e.2) es) i = f i
    by_cases h1 : ∃ e' ∈ es, e'.1 = (i : Int)
    · exact lAt_puts_fun f es _ (by rw [put_len]; exact hi) (fun e' he' => h e' (List.mem_cons_of_mem _ he')) h1
    · have he : e.1 = (i : Int) := by
        obtain ⟨e', he', h2⟩ := hex
        rcases List.mem_cons.1 he' with rfl | h3
        · exact h2
        · exact absurd ⟨e', h3, h2⟩ h1
      rw [lAt_puts_out i es _ (fun e' he' => ⟨(h e' (List.mem_cons_of_mem _ he')).1, fun e2 => h1 ⟨e', he', e2.symm⟩⟩), lAt_put (h e List.mem_cons_self).1 hi, if_pos he.symm, (h e List.mem_cons_self).2, he]
def backE (Lw D : List Int) : List Ed := D.map fun c => (c, lAt Lw c.toNat)
theorem back_eq (Lw Lf : List Int) (hl : Lf.length = Lw.length) : puts Lf (backE Lw (diffs Lw Lf)) = Lw := by
  refine list_ext (by rw [puts_len, hl]) (fun i hi => ?_)
  rw [puts_len] at hi
  have hf : ∀ e ∈ backE Lw (diffs Lw Lf), 0 ≤ e.1 ∧ e.2 = lAt Lw e.1.toNat := fun e he => by
    obtain ⟨c, hc, rfl⟩ := List.mem_map.1 he
    exact ⟨(diffs_mem.1 hc).1, rfl⟩
  by_cases h : (i : Int) ∈ diffs Lw Lf
  · have := lAt_puts_fun (fun c => lAt Lw c.toNat) (i := i) _ Lf hi hf ⟨_, List.mem_map.2 ⟨_, h, rfl⟩, rfl⟩
    simpa using this
  · rw [lAt_puts_out i _ _ (fun e he => ⟨(hf e he).1, fun e2 => by
      obtain ⟨c, hc, rfl⟩ := List.mem_map.1 he
      exact h (e2 ▸ hc)⟩)]
    apply Classical.byContradiction
    intro hne
    exact h (diffs_mem.2 ⟨by omega, by omega, by simpa using hne⟩)
theorem backE_snoc {Lw D : List Int} {i : Nat} (h : i < D.length) : backE Lw (D.take (i + 1)) = backE Lw (D.take i) ++ [(lAt D i, lAt Lw (lAt D i).toNat)] := by
  rw [ltake_snoc h]; simp [backE]
def setsL (nk : Int) (L : List Int) (es : List Ed) : List Int := es.foldl (fun L e => setL nk L e.1 e.2) L
theorem setsL_snoc (nk : Int) (L : List Int) {es : List Ed} {i : Nat} (h : i < es.length) : setsL nk L (es.take (i + 1)) = setL nk (setsL nk L (es.take i)) (eAt es i).1 (eAt es i).2 := by
  rw [etake_snoc h]; simp [setsL, List.foldl_append]
def ecells (es : List Ed) : List Value := es.flatMap fun e => [.int .i64 e.1, .int .i64 e.2]
theorem ecells_row (es : List Ed) : (ecells es).toArray = eRow es := rfl
/-- A slice of edits of one's own. -/
def ES (W : World) (base : Nat) (v : Value) (es : List Ed) : Prop := W.ownsRow base 36 2 v es.length (ecells es)
theorem ES.nil (W : World) (base : Nat) : ES W base (.slice none 0 0) [] := World.ownsRow_nil W base _ _
theorem ecells_at (es : List Ed) (i : Nat) (hi : i < es.length) : (ecells es)[i * 2]? = some (.int .i64 (eAt es i).1) ∧ (ecells es)[i * 2 + 1]? = some (.int .i64 (eAt es i).2) := by
  have h := eRow_at es i hi
  rw [← ecells_row, List.getElem?_toArray, List.getElem?_toArray] at h
  exact h
theorem ES.form {W : World} {base : Nat} {v : Value} {es : List Ed} (h : ES W base v es) : ∃ ao cap, v = .slice ao es.length cap ∧ EAt W ao es ∧ ∀ K, K < base → EOff ao es K := by
  have hc := h
  rcases h.2 with ⟨rfl, h1⟩ | ⟨g, cap, cur, rfl, hb, hg, hn, _⟩
  · have he : es = [] := List.length_eq_zero_iff.1 h1
    exact ⟨none, 0, by rw [h1], .inl he, fun _ _ => .inl he⟩
  · refine ⟨_, cap, rfl, .inr ⟨g, 0, rfl, fun i hi => ?_⟩, fun K hK => .inr (fun a ha => by cases ha; show g ≠ K; omega)⟩
    have h1 := World.ownsRow.cells hc rfl _ _ (ecells_at es i hi).1
    have h2 := World.ownsRow.cells hc rfl _ _ (ecells_at es i hi).2
    rw [add_eq] at h1 h2
    exact ⟨h1, h2⟩
theorem ed_news {W : World} {h : Nat} {c k : Int} (hh : Blk W h 36 #[.int .i64 c, .int .i64 k]) : ∀ j u, ([.int .i64 c, .int .i64 k] : List Value)[j]? = some u → W.cell? ((⟨h, 0, none⟩ : Addr).add j) = some u := by
  intro j u hu
  rw [add_eq]
  match j, hu with
  | 0, hu => simp at hu; subst hu; exact hh.cells2.1
  | 1, hu => simp at hu; subst hu; exact hh.cells2.2
  | j + 2, hu => simp at hu
theorem IS.butHi {W W' : World} {base K : Nat} {v : Value} {xs : List Int} (h : IS W base v xs) (hb : But W.heap.size K W W') (hK : v.ownBlock ≠ some K) : IS W' base v xs :=
  World.ownsRow.kept h hb.grown (by
    cases hv : v.ownBlock with
    | none => exact .inl rfl
    | some g => right; intro e; exact hK (hv.trans e))
theorem rectE_len (zw x y : Int) (w : Nat) (k : Int) : ∀ h, (rectE zw x y w k h).length = h * w
  | 0 => by simp [rectE]
  | h + 1 => by rw [rectE_succ, List.length_append, rectE_len zw x y w k h, rowE_len, Nat.succ_mul]
theorem errF_zero {nk zw zh x y a b k : Int} (he : errF nk zw zh x y a b k = 0) : (0 ≤ k ∧ k < nk) ∧ Pl.rt zw zh = true ∧ 0 ≤ x ∧ x < zw ∧ 0 ≤ y ∧ y < zh ∧ 1 ≤ a ∧ a ≤ zw - x ∧ 1 ≤ b ∧ b ≤ zh - y := by
  unfold errF at he
  split at he
  · split at he
    · rename_i h1 h2
      obtain ⟨h3, h4⟩ := rectB_iff.1 h2
      obtain ⟨h5, h6⟩ := Pl.atB_iff.1 h3
      exact ⟨hasN_iff.1 h1, h5, h6.1, h6.2.1, h6.2.2.1, h6.2.2.2, h4⟩
    · omega
  · omega
/-- A filled rectangle is a batch that is taken. -/
theorem rect_batch {nk zw zh x y k : Int} {a b n : Nat} (he : errF nk zw zh x y a b k = 0) (hn : (n : Int) = zw * zh) (h9 : zw * zh ≤ 900) : errB nk n (rectE zw x y a k b) = 0 := by
  obtain ⟨hk, hr, x0, x1, y0, y1, a1, a2, b1, b2⟩ := errF_zero he
  obtain ⟨z1, z2, z3, z4, _⟩ := Pl.rt_iff.1 hr
  rw [errB_ok (fun e hm => ?_) (fun e hm => ?_), if_neg]
  · rw [rectE_len]
    have h1 : (b : Int) * a ≤ zh * zw := Int.le_trans (Int.mul_le_mul_of_nonneg_right (by omega) (by omega)) (Int.mul_le_mul_of_nonneg_left (by omega) (by omega))
    rw [Int.mul_comm zh zw, ← Int.natCast_mul] at h1
    omega
  · rw [(rectE_ahead (by omega) x0 y0 (by omega) hm).2.2]; exact hk
  · obtain ⟨r, hr', h1, h2, h3⟩ := rectE_mem.1 hm
    have := rect_row_lt (zw := zw) (zh := zh) (x := x) (y := y) (w := a) (j := r) (h := b) (by omega) x0 y0 (by omega) (by omega) hr'
    omega

set_option maxRecDepth 100000 in
set_option maxHeartbeats 4000000 in
theorem back_walk (zw zh : Int) (ao : Option Addr) (cap : Nat) (es : List Ed) (x y a b k : Int) (w : World) (he : EAt w ao es) : Calls Try.prog 7 #[Pl.sz zw zh, .slice ao es.length cap, .int .i64 x, .int .i64 y, .int .i64 a, .int .i64 b, .int .i64 k] w fun e w' => e = .returned (.bool true) ∧ Below w.heap.size w w' := by
  obtain ⟨X, hX⟩ : ∃ X, X = w.alloc (.cells #[.int .i64 zw, .int .i64 zh] 26) := ⟨_, rfl⟩
  obtain ⟨H, hH⟩ : ∃ H, H = w.heap.size := ⟨_, rfl⟩
  have hXb : Below w.heap.size w X := by rw [hX]; exact (Below.refl _ _).alloc (Nat.le_refl _) _
  have hXs : X.heap.size = H + 1 := by rw [hX, hH]; simp
  have z01 : X.cell? ⟨H, 0, none⟩ = some (.int .i64 zw) ∧ X.cell? ⟨H, 1, none⟩ = some (.int .i64 zh) := by
    rw [hX, hH]; exact (Blk.new w 26 #[.int .i64 zw, .int .i64 zh]).cells2
  have HE : Hid (EAt X ao es) := he.below hXb
  have HMd : Hid (madeB zw zh twoL 1 = Pl.rt zw zh) := madeB_two zw zh
  have HGr : Hid (greatN zw zh [] = decide (900 < Pl.cellsN zw zh)) := great_nil zw zh
  obtain ⟨n, hn⟩ : ∃ n, es.length = n := ⟨_, rfl⟩
  have HN : Hid (es.length = n) := hn
  rw [hn]
  clear hn he
  go_enter Try.func7, Try.ntmps7
  go_wp2_with fail
  rw [← hX, ← hH]
  have hZl : H < X.heap.size := by omega
  have HXb : Hid (Below w.heap.size w X) := hXb
  have hwX : w.heap.size ≤ X.heap.size := hXb.size
  clear hX hXb hXs hH
  obtain ⟨z0, z1⟩ := z01
  refine (awake_any _).mono ?_
  rintro e w1 ⟨rfl, V1⟩
  have z0' := (V1.cell (p := ⟨H, 0, none⟩) hZl).trans z0
  have z1' := (V1.cell (p := ⟨H, 1, none⟩) hZl).trans z1
  go_wp2_with fail
  refine (great_any zw zh none 0 0 [] _ rfl (by omega) (.inl rfl)).mono ?_
  rintro e w2 ⟨rfl, hb2⟩
  rw [HGr.out]
  have V2 : Below X.heap.size X w2 := below_step V1 hb2 (Nat.le_refl _)
  clear hb2 V1 z0' z1'
  have z0' := (V2.cell (p := ⟨H, 0, none⟩) hZl).trans z0
  have z1' := (V2.cell (p := ⟨H, 1, none⟩) hZl).trans z1
  by_cases h9 : 900 < Pl.cellsN zw zh
  · rw [show decide (900 < Pl.cellsN zw zh) = true from by simpa using h9]
    go_wp2
    go_ret
    exact ⟨rfl, HXb.out.trans (V2.mono hwX)⟩
  rw [show decide (900 < Pl.cellsN zw zh) = false from by simpa using h9]
  have H9 : Hid (¬ 900 < Pl.cellsN zw zh) := h9
  clear h9
  by_cases hn3 : 300 < n
  · go_wp2
    go_ret
    exact ⟨rfl, HXb.out.trans (V2.mono hwX)⟩
  · have hHl2 : H < w2.heap.size := Nat.lt_of_lt_of_le hZl V2.size
    cases hrt : Pl.rt zw zh with
    | false =>
      have HM : Hid (madeB zw zh twoL 1 = false) := HMd.out.trans hrt
      clear HMd hrt
      go_wp2
      go_region_held3 (fun w' => w'.cell? ⟨H, 0, none⟩ = some (.int .i64 zw) ∧ w'.cell? ⟨H, 1, none⟩ = some (.int .i64 zh))
        (first
          | go_keep
          | (go_split_ands
             refine ⟨?_, ?_⟩
             · (rw [hb4.cell (p := ⟨H, 0, none⟩) hHl3]; assumption)
             · (rw [hb4.cell (p := ⟨H, 1, none⟩) hHl3]; assumption))
          | (go_split_ands
             refine ⟨?_, ?_⟩
             · (rw [hb3.cell (p := ⟨H, 0, none⟩) (by simpa using hHl2)]; assumption)
             · (rw [hb3.cell (p := ⟨H, 1, none⟩) (by simpa using hHl2)]; assumption)))
        (first
          | (go_at_call 10; refine (two_ok _).mono ?_; rintro e w3 ⟨rfl, HK3, hb3⟩; have hHl3 : H < w3.heap.size := Nat.lt_of_lt_of_le hHl2 hb3.size)
          | (go_at_call 9; refine (made_no zw zh _ 2 2 twoL 1 w3 rfl HK3.out twoL_wk HM.out).mono ?_; rintro e w4 ⟨rfl, hb4⟩))
      all_goals go_wp2
      go_ret
      have hb3' : Below w2.heap.size w2 w3 := ⟨hb3.os, hb3.tape, hb3.output, hb3.size, hb3.block⟩
      exact ⟨rfl, HXb.out.trans ((below_step (below_step V2 hb3' (Nat.le_refl _)) hb4 (Nat.le_refl _)).mono hwX)⟩
    | true =>
      have HM : Hid (madeB zw zh twoL 1 = true) := HMd.out.trans hrt
      have HRt : Hid (Pl.rt zw zh = true) := hrt
      have H900 : Hid (zw * zh ≤ 900) := by
        have := H9.out
        unfold Pl.cellsN at this
        rw [if_pos hrt] at this
        show zw * zh ≤ 900
        omega
      clear HMd hrt
      go_wp2
      go_region_held3 (fun w' => w'.cell? ⟨H, 0, none⟩ = some (.int .i64 zw) ∧ w'.cell? ⟨H, 1, none⟩ = some (.int .i64 zh))
        (first
          | go_keep
          | (go_split_ands
             refine ⟨?_, ?_⟩
             · (rw [hb4.cell (p := ⟨H, 0, none⟩) hHl3]; assumption)
             · (rw [hb4.cell (p := ⟨H, 1, none⟩) hHl3]; assumption))
          | (go_split_ands
             refine ⟨?_, ?_⟩
             · (rw [hb3.cell (p := ⟨H, 0, none⟩) (by simpa using hHl2)]; assumption)
             · (rw [hb3.cell (p := ⟨H, 1, none⟩) (by simpa using hHl2)]; assumption)))
        (first
          | (go_at_call 10; refine (two_ok _).mono ?_; rintro e w3 ⟨rfl, HK3, hb3⟩; have hHl3 : H < w3.heap.size := Nat.lt_of_lt_of_le hHl2 hb3.size)
          | (go_at_call 9; refine (made_yes zw zh _ 2 2 twoL 1 w3 rfl HK3.out twoL_wk HM.out).mono ?_; rintro e w4 ⟨F, B, K, T, rfl, hB4, hK4, hO4, hF4, hb4⟩))
      have hb3' : Below w2.heap.size w2 w3 := ⟨hb3.os, hb3.tape, hb3.output, hb3.size, hb3.block⟩
      have V3 : Below X.heap.size X w3 := below_step V2 hb3' (Nat.le_refl _)
      have V4 : Below X.heap.size X w4 := below_step V3 hb4 (Nat.le_refl _)
      have hKX : X.heap.size ≤ K := Nat.le_trans V3.size hK4
      have O4 : Hid (Own w4 F B K T zw zh twoL 1 (List.replicate (zw * zh).toNat 0)) := hO4
      have hnF : ¬ F K := hO4.nf
      have hKlt : K < w4.heap.size := hO4.row.lt
      have hBlt : B < w4.heap.size := hO4.blk.lt
      generalize List.replicate (zw * zh).toNat (0 : Int) = L0 at *
      clear hO4 hF4 hb4 hb3 hb3' V2 V3 HK3 z0' z1' HM
      go_wp2
      go_loopw [17] (fun i wr => ∃ j : Nat, j ≤ n ∧ i = .int .i64 j ∧ Hid (Own wr F B K T zw zh twoL 1 (setsL twoL.length L0 (es.take j))) ∧ But w4.heap.size K w4 wr) (fun i _ => n - (intOf i).toNat)
      case atStart => exact ⟨0, Nat.zero_le _, rfl, O4.out, But.refl _ _ _⟩
      case round =>
        obtain ⟨j, hjn, rfl, OG, hU⟩ := hrel
        have VR : Below X.heap.size X wr := v_step V4 hU (Nat.le_refl _) hKX
        by_cases hlt : j < n
        · rcases HE.out.below VR with h | ⟨eb, off, rfl, hc⟩
          · have := HN.out; rw [h] at this; simp at this; omega
          · obtain ⟨e0, e1⟩ := hc j (by rw [HN.out]; exact hlt)
            have hbX : eb < X.heap.size := by
              rcases HE.out with h | ⟨b', off', e', hc'⟩
              · have := HN.out; rw [h] at this; simp at this; omega
              · cases e'; exact cell_lt (hc' j (by rw [HN.out]; exact hlt)).1
            have HS : Hid (setL twoL.length (setsL twoL.length L0 (es.take j)) (eAt es j).1 (eAt es j).2 = setsL twoL.length L0 (es.take (j + 1))) := (setsL_snoc _ _ (by rw [HN.out]; exact hlt)).symm
            clear hc
            generalize eAt es j = q at *
            obtain ⟨q1, q2⟩ := q
            simp only at e0 e1
            have hbw : eb < wr.heap.size := Nat.lt_of_lt_of_le hbX VR.size
            have hbK : eb ≠ K := by omega
            have hk0 : (0 : Int) ≤ (j : Int) := by omega
            have hk1 : (j : Int) < (n : Int) := by omega
            go_wp2
            go_region_held3 (fun w' => w'.cell? ⟨eb, off + j * 2, none⟩ = some (.int .i64 q1) ∧ w'.cell? ⟨eb, off + j * 2 + 1, none⟩ = some (.int .i64 q2))
              (first
                | go_keep
                | (go_split_ands
                   refine ⟨?_, ?_⟩
                   · (rw [hU9.cell (by simpa using hbw) hbK]; assumption)
                   · (rw [hU9.cell (by simpa using hbw) hbK]; assumption)))
              ((go_at_call 11; refine (set_any (OG.out.below ((Below.refl _ wr).drew)) q1 q2).mono ?_; rintro e w9 ⟨vv, rfl, hI9, hO9, hU9⟩))
            have hU9' : But wr.heap.size K wr w9 := ⟨hU9.os, hU9.tape, hU9.output, hU9.size, hU9.block⟩
            have hO10 : Own w9 F B K T zw zh twoL 1 (setsL twoL.length L0 (es.take (j + 1))) := by rw [← HS.out]; exact hO9
            have O10 : Hid (Own w9 F B K T zw zh twoL 1 (setsL twoL.length L0 (es.take (j + 1)))) := hO10
            have hU10 := hU.step hU9' (Nat.le_refl _)
            clear hO9 hO10 hI9 hU9 HS
            go_wp2
            go_roundw
            case rel => exact ⟨j + 1, by omega, by go_num, O10, hU10⟩
            case measure => simp [intOf]; omega
        · generalize setsL twoL.length L0 (es.take j) = Lw at *
          have hLl : Lw.length ≤ 4194304 := OG.out.l1.1
          have HLn : Hid ((Lw.length : Int) = zw * zh) := OG.out.len
          have hKr : K < wr.heap.size := OG.out.row.lt
          have hBr : B < wr.heap.size := OG.out.blk.lt
          clear O4 hU
          go_wp2_with fail
          refine (gkinds_any OG.out.gv).mono ?_
          rintro e w6 ⟨vw, rfl, hI, hb6⟩
          have V6 : Below X.heap.size X w6 := below_step VR hb6 (Nat.le_refl _)
          have OG6 : Hid (Own w6 F B K T zw zh twoL 1 Lw) := OG.out.below hb6
          have IW6 : Hid (IS w6 wr.heap.size vw Lw) := hI
          have hs6 := hb6.size
          have hvw6 : ∀ g, vw.ownBlock = some g → g < w6.heap.size := fun g hg => (World.ownsRow.lt hI g hg).2
          have HKin : Hid (Kin twoL.length Lw) := OG.out.kin
          clear hI hb6 OG
          go_wp2_with fail
          refine (twin_yes OG6.out).mono ?_
          rintro e w7 ⟨B2, K2, rfl, hB7, hK7, hO7, hb7⟩
          have V7 : Below X.heap.size X w7 := below_step V6 hb7 (Nat.le_refl _)
          have OG7 : Hid (Own w7 F B K T zw zh twoL 1 Lw) := OG6.out.below hb7
          have OH7 : Hid (Own w7 F B2 K2 T zw zh twoL 1 Lw) := hO7
          have IW7 : Hid (IS w7 wr.heap.size vw Lw) := IW6.out.below hb7
          have hK2lt : K2 < w7.heap.size := hO7.row.lt
          have hnF2 : ¬ F K2 := hO7.nf
          have hK2X : X.heap.size ≤ K2 := Nat.le_trans V6.size hK7
          have hs7 := hb7.size
          have n1 : K ≠ B2 := by omega
          have n2 : K ≠ K2 := by omega
          have n3 : K2 ≠ B := by omega
          have HVW : Hid (vw.ownBlock ≠ some K2) := fun e => by have := hvw6 _ e; omega
          clear hO7 hb7 OG6 IW6 hvw6
          go_wp2_with fail
          refine (fill_any OG7.out x y a b k).mono ?_
          rintro e w8 ⟨vc, rfl, hI, hO, hU⟩
          have V8 : Below X.heap.size X w8 := v_step V7 hU (Nat.le_refl _) hKX
          have OG8 : Hid (Own w8 F B K T zw zh twoL 1 (fillL twoL.length zw zh Lw x y a b k)) := hO
          have OH8 : Hid (Own w8 F B2 K2 T zw zh twoL 1 Lw) := OH7.out.but hU n1 n2 hnF
          have IW8 : Hid (IS w8 wr.heap.size vw Lw) := IW7.out.but hU hKr
          have IC8 : Hid (IS w8 w7.heap.size vc (diffs Lw (fillL twoL.length zw zh Lw x y a b k))) := hI
          have hs8 := hU.size
          have hwf : Below w.heap.size w w8 := HXb.out.trans (V8.mono hwX)
          clear hI hO hU OG7 OH7 IW7
          obtain ⟨er, her⟩ : ∃ er, errF twoL.length zw zh x y a b k = er := ⟨_, rfl⟩
          rw [her]
          have HER : Hid (errF twoL.length zw zh x y a b k = er) := her
          clear her
          by_cases hz : er = 0
          · subst hz
            obtain ⟨hk, hrt, x0, x1, y0, y1, a1, a2, b1, b2⟩ := errF_zero HER.out
            obtain ⟨c1, c2, c3, c4, _⟩ := Pl.rt_iff.1 hrt
            obtain ⟨an, rfl⟩ : ∃ an : Nat, a = (an : Int) := ⟨a.toNat, by omega⟩
            obtain ⟨bn, rfl⟩ : ∃ bn : Nat, b = (bn : Int) := ⟨b.toNat, by omega⟩
            have HFl : Hid (fillL twoL.length zw zh Lw x y an bn k = puts Lw (rectE zw x y an k bn)) := by
              show _ = _
              unfold fillL; rw [if_pos HER.out]; simp
            rw [HFl.out] at OG8 IC8
            have HBA : Hid (bn * an ≤ 900) := by
              show bn * an ≤ 900
              have h1 : (bn : Int) * an ≤ zh * zw := Int.le_trans (Int.mul_le_mul_of_nonneg_right (by omega) (by omega)) (Int.mul_le_mul_of_nonneg_left (by omega) (by omega))
              have := H900.out
              rw [Int.mul_comm zh zw, ← Int.natCast_mul] at h1
              omega
            have HRB : Hid (errB twoL.length Lw.length (rectE zw x y an k bn) = 0) := rect_batch HER.out HLn.out H900.out
            have z08 := (V8.cell (p := ⟨H, 0, none⟩) hZl).trans z0
            obtain ⟨iE, hEi, hE0, hE1, hE2⟩ := info_parts Try.infoE
            clear hk hrt HFl HER
            go_wp2
            go_loopw [22, 23] (fun s j wr => ∃ (r : Nat) (sv : Value), sv = s ∧ r ≤ bn ∧ j = .int .i64 r ∧ Hid (ES wr w8.heap.size sv (rectE zw x y an k r)) ∧ Below w8.heap.size w8 wr) (fun _ j _ => bn - (intOf j).toNat)
            case atStart => exact ⟨0, _, rfl, Nat.zero_le _, rfl, ES.nil _ _, Below.refl _ _⟩
            case round =>
              obtain ⟨r, s, hs, hrn, rfl, HS, hB⟩ := hrel
              subst hs
              by_cases hlt2 : r < bn
              · have hq := rect_row_lt (zw := zw) (zh := zh) (x := x) (y := y) (w := an) (j := r) (h := bn) (by omega) x0 y0 (by omega) (by omega) hlt2
                have h900 := H900.out
                have hq0 : 0 ≤ (y + r) * zw := Int.mul_nonneg (by omega) (by omega)
                have hq1 : (y + r) * zw + x + an ≤ 900 := by omega
                have HRL : Hid (r * an + an ≤ 900) := by
                  show r * an + an ≤ 900
                  have h1 : (r + 1) * an ≤ bn * an := Nat.mul_le_mul_right _ (by omega)
                  have := HBA.out
                  rw [Nat.succ_mul] at h1
                  omega
                have HQ : Hid (rectE zw x y an k (r + 1) = rectE zw x y an k r ++ rowE ((y + r) * zw + x) k an) := rectE_succ _ _ _ _ _ _
                have hSl : (rectE zw x y an k r).length = r * an := rectE_len _ _ _ _ _ _
                clear hq h900
                generalize hR : rectE zw x y an k r = R at *
                go_wp2
                go_loopw [22, 24] (fun s i wr' => ∃ (t : Nat) (sv : Value), sv = s ∧ t ≤ an ∧ i = .int .i64 t ∧ Hid (ES wr' w8.heap.size sv (R ++ rowE ((y + r) * zw + x) k t)) ∧ Below w8.heap.size w8 wr') (fun _ i _ => an - (intOf i).toNat)
                case atStart => exact ⟨0, _, rfl, Nat.zero_le _, rfl, by show ES _ _ _ _; rw [show rowE ((y + r) * zw + x) k 0 = [] from rfl, List.append_nil]; exact HS.out, hB⟩
                case round =>
                  obtain ⟨t, s, hs, htn, rfl, HS2, hB2⟩ := hrel
                  subst hs
                  have z0r := (hB2.cell (p := ⟨H, 0, none⟩) (cell_lt z08)).trans z08
                  have hsz2 := hB2.size
                  by_cases hlt3 : t < an
                  · have HT : Hid (R ++ rowE ((y + r) * zw + x) k (t + 1) = (R ++ rowE ((y + r) * zw + x) k t) ++ [((y + r) * zw + x + t, k)]) := by show _ = _; rw [rowE_succ, List.append_assoc]
                    have hl3 : (R ++ rowE ((y + r) * zw + x) k t).length ≤ 900 := by rw [List.length_append, rowE_len, hSl]; have := HRL.out; omega
                    have hown : wr.ownsRow w8.heap.size 36 2 s (R ++ rowE ((y + r) * zw + x) k t).length (ecells (R ++ rowE ((y + r) * zw + x) k t)) := HS2.out
                    generalize hG : R ++ rowE ((y + r) * zw + x) k t = G at *
                    go_wp2_with (at_builtin; refine wpList_append_own _ rfl _ _ 37 rfl w8.heap.size 36 iE (.agg #[.int .i64 0, .int .i64 0]) 2 16 Try.underlying37 hEi hE0 hE1 hE2 rfl (by decide) _ _ _ rfl (hown.alloc _) ⟨wr.heap.size, 0, none⟩ 1 1 [.int .i64 ((y + r) * zw + x + t), .int .i64 k] rfl rfl (ed_news (Blk.new wr 36 #[.int .i64 ((y + r) * zw + x + t), .int .i64 k])) (by simp [Value.oneCell']) (by unfold maxLen; omega) (by omega) (by simp; omega) ?_)
                    intro v' w10 hown2 hgrow _
                    have hB10 := (below_new hB2 (Nat.le_refl _) (.cells #[.int .i64 ((y + r) * zw + x + t), .int .i64 k] 36)).grown hgrow (by simp; omega) (fun q hq => (hown.lt q hq).1)
                    have HS3 : Hid (ES w10 w8.heap.size v' (R ++ rowE ((y + r) * zw + x) k (t + 1))) := by
                      show ES _ _ _ _
                      rw [HT.out]
                      unfold ES
                      rw [show (G ++ [((y + r) * zw + x + t, k)]).length = G.length + 1 by simp, show ecells (G ++ [((y + r) * zw + x + t, k)]) = ecells G ++ [.int .i64 ((y + r) * zw + x + t), .int .i64 k] by simp [ecells]]
                      exact hown2
                    clear hown2 hgrow hown HT
                    go_wp2
                    go_roundw
                    case rel => exact ⟨t + 1, _, rfl, by omega, by go_num, HS3, hB10⟩
                    case measure => simp [intOf]; omega
                  · have hS3 : ES wr w8.heap.size s (rectE zw x y an k (r + 1)) := by
                      have := HS2.out
                      rwa [show t = an by omega, ← HQ.out] at this
                    have HS3 : Hid (ES wr w8.heap.size s (rectE zw x y an k (r + 1))) := hS3
                    clear hS3 HS2
                    go_wp2
                    go_roundw
                    case rel => exact ⟨r + 1, _, rfl, by omega, by go_num, HS3, hB2⟩
                    case measure => simp [intOf]; omega
              · have hS3 : ES wr w8.heap.size s (rectE zw x y an k bn) := by
                  have := HS.out
                  rwa [show r = bn by omega] at this
                obtain ⟨ma, mc, rfl, hme, hmo⟩ := hS3.form
                have HMe : Hid (EAt wr ma (rectE zw x y an k bn)) := hme
                have HMo : Hid (EOff ma (rectE zw x y an k bn) K2) := hmo K2 (by omega)
                have OG9 : Hid (Own wr F B K T zw zh twoL 1 (puts Lw (rectE zw x y an k bn))) := OG8.out.below hB
                have OH9 : Hid (Own wr F B2 K2 T zw zh twoL 1 Lw) := OH8.out.below hB
                have IW9 := IW8.out.below hB
                have IC9 : Hid (IS wr w7.heap.size vc (diffs Lw (puts Lw (rectE zw x y an k bn)))) := IC8.out.below hB
                have hwf9 := below_step hwf hB (Nat.le_refl _)
                have HIW9 : Hid _ := IW9
                have HBt : Hid (batL twoL.length Lw (rectE zw x y an k bn) = puts Lw (rectE zw x y an k bn)) := by show _ = _; unfold batL; rw [if_pos HRB.out]
                have hrl : (rectE zw x y an k bn).length ≤ 900 := by rw [rectE_len]; exact HBA.out
                have hrs := hB.size
                clear hS3 hme hmo HS OG8 OH8 IW8 IC8 IW9
                generalize rectE zw x y an k bn = R at *
                go_wp2_with fail
                refine (batch_any OH9.out ma mc R.length R rfl (by omega) HMe.out HMo.out).mono ?_
                rintro e w10 ⟨vo, rfl, hI, hO, hU⟩
                rw [HRB.out]
                rw [HBt.out] at hI hO
                have OG10 : Hid (Own w10 F B K T zw zh twoL 1 (puts Lw R)) := OG9.out.but hU n3 n2.symm hnF2
                have OH10 : Hid (Own w10 F B2 K2 T zw zh twoL 1 (puts Lw R)) := hO
                have IW10 := IS.butHi HIW9.out hU HVW.out
                have IC10 : Hid (IS w10 w7.heap.size vc (diffs Lw (puts Lw R))) := IC9.out.but hU hK2lt
                have IO10 : Hid (IAt w10 vo (diffs Lw (puts Lw R))) := hI.iat
                have hwf10 : Below w.heap.size w w10 := v_step hwf9 hU (Nat.le_refl _) (by omega)
                have hs10 := hU.size
                have hLfl : (puts Lw R).length = Lw.length := puts_len _ _
                have hdl := diffs_len Lw (puts Lw R)
                have HBk : Hid (puts (puts Lw R) (backE Lw (diffs Lw (puts Lw R))) = Lw) := back_eq _ _ hLfl
                have HDm : Hid (∀ c ∈ diffs Lw (puts Lw R), 0 ≤ c ∧ c < Lw.length) := fun c hc => ⟨(diffs_mem.1 hc).1, (diffs_mem.1 hc).2.1⟩
                generalize puts Lw R = Lf at *
                generalize diffs Lw Lf = D at *
                obtain ⟨ca, cc, rfl, hcf⟩ := IC10.out.form
                obtain ⟨wa, wc, rfl, hwf'⟩ := IW10.form
                have IC10' : Hid (IAt w10 (.slice ca D.length cc) D) := IC10.out.iat
                have IW10' : Hid (IS w10 _ (.slice wa Lw.length wc) Lw) := IW10
                have CC : Hid (D = [] ∨ ∃ g, ca = some ⟨g, 0, none⟩ ∧ g ≠ K ∧ g < w10.heap.size ∧ ∀ i, i < D.length → w10.cell? ⟨g, i, none⟩ = some (.int .i64 (lAt D i))) := hcf.imp id (fun ⟨g, e, h1, h2, h3⟩ => ⟨g, e, by omega, h2, h3⟩)
                have CW : Hid (Lw = [] ∨ ∃ g, wa = some ⟨g, 0, none⟩ ∧ g ≠ K ∧ g < w10.heap.size ∧ ∀ i, i < Lw.length → w10.cell? ⟨g, i, none⟩ = some (.int .i64 (lAt Lw i))) := hwf'.imp id (fun ⟨g, e, h1, h2, h3⟩ => ⟨g, e, by omega, h2, h3⟩)
                clear hI hO hU OG9 OH9 HIW9 IC9 hcf hwf' HBt HRB HMe HMo IW10
                have HLf : Hid (Lf.length = Lw.length) := hLfl
                clear hLfl
                go_wp2_with fail
                refine (same_any IO10.out IC10'.out (by omega) (by omega)).mono ?_
                rintro e w11 ⟨rfl, hb11⟩
                rw [show decide (D = D) = true from by simp]
                have hwf11 := below_step hwf10 hb11 (Nat.le_refl _)
                go_wp2_with fail
                refine (gkinds_any (OH10.out.below hb11).gv).mono ?_
                rintro e w12 ⟨v1, rfl, hI1, hb12⟩
                have H12 := below_step hb11 hb12 (Nat.le_refl _)
                have I12 : Hid (IS w12 w11.heap.size v1 Lf) := hI1
                clear hI1
                go_wp2_with fail
                refine (gkinds_any (OG10.out.below H12).gv).mono ?_
                rintro e w13 ⟨v2, rfl, hI2, hb13⟩
                have H13 := below_step H12 hb13 (Nat.le_refl _)
                have I13 : Hid (IAt w13 v1 Lf) := (I12.out.below hb13).iat
                have J13 : Hid (IAt w13 v2 Lf) := hI2.iat
                clear hI2
                go_wp2_with fail
                refine (same_any I13.out J13.out (by rw [HLf.out]; omega) (by rw [HLf.out]; omega)).mono ?_
                rintro e w14 ⟨rfl, hb14⟩
                rw [show decide (Lf = Lf) = true from by simp]
                have H14 := below_step H13 hb14 (Nat.le_refl _)
                have hwf14 := below_step hwf10 H14 (Nat.le_refl _)
                have OG14 : Hid (Own w14 F B K T zw zh twoL 1 Lf) := OG10.out.below H14
                have OH14 : Hid (Own w14 F B2 K2 T zw zh twoL 1 Lf) := OH10.out.below H14
                have IW14 := IW10'.out.below H14
                obtain ⟨bw, hIWb⟩ : ∃ bw, IS w14 bw (.slice wa Lw.length wc) Lw := ⟨_, IW14⟩
                have HIW14 : Hid (IS w14 bw (.slice wa Lw.length wc) Lw) := hIWb
                clear hIWb
                have CC14 : Hid (D = [] ∨ ∃ g, ca = some ⟨g, 0, none⟩ ∧ g ≠ K ∧ g < w14.heap.size ∧ ∀ i, i < D.length → w14.cell? ⟨g, i, none⟩ = some (.int .i64 (lAt D i))) := CC.out.imp id (fun ⟨g, e, h1, h2, h3⟩ => ⟨g, e, h1, Nat.lt_of_lt_of_le h2 H14.size, fun i hi => (H14.cell (p := ⟨g, i, none⟩) h2).trans (h3 i hi)⟩)
                have CW14 : Hid (Lw = [] ∨ ∃ g, wa = some ⟨g, 0, none⟩ ∧ g ≠ K ∧ g < w14.heap.size ∧ ∀ i, i < Lw.length → w14.cell? ⟨g, i, none⟩ = some (.int .i64 (lAt Lw i))) := CW.out.imp id (fun ⟨g, e, h1, h2, h3⟩ => ⟨g, e, h1, Nat.lt_of_lt_of_le h2 H14.size, fun i hi => (H14.cell (p := ⟨g, i, none⟩) h2).trans (h3 i hi)⟩)
                have hKw14 : w.heap.size ≤ K := by omega
                have hKne : (Value.slice wa Lw.length wc).ownBlock ≠ some K := fun e => by
                  rcases CW.out with h | ⟨g, rfl, h1, _⟩
                  · have := OG10.out.l1.2; rw [HLf.out, h] at this; simp at this
                  · simp [Value.ownBlock] at e; exact h1 e
                have HKne : Hid ((Value.slice wa Lw.length wc).ownBlock ≠ some K) := hKne
                clear I12 I13 J13 hb11 hb12 hb13 hb14 H12 H13 H14 CC CW OG10 OH10 IW14 IW10' IO10 IC10' hKne hwf11
                generalize hDl : D.length = dl at *
                generalize hMl : Lw.length = M at *
                have HDl : Hid (D.length = dl) := hDl
                have HMl : Hid (Lw.length = M) := hMl
                clear hDl hMl
                go_wp2
                go_loopw [27] (fun i wr => ∃ q : Nat, q ≤ dl ∧ i = .int .i64 q ∧ Hid (Own wr F B K T zw zh twoL 1 (puts Lf (backE Lw (D.take q)))) ∧ But w14.heap.size K w14 wr) (fun i _ => dl - (intOf i).toNat)
                case atStart => exact ⟨0, Nat.zero_le _, rfl, OG14.out, But.refl _ _ _⟩
                case round =>
                  obtain ⟨q, hqn, rfl, OG, hU⟩ := hrel
                  have hszq := hU.size
                  by_cases hlt5 : q < dl
                  · rcases CC14.out with h | ⟨gc, rfl, gK, gl, gcell⟩
                    · have := HDl.out; rw [h] at this; simp at this; omega
                    rcases CW14.out with h | ⟨gw, rfl, wK, wl, wcell⟩
                    · have := OG14.out.l1.2; rw [HLf.out, ← HMl.out, h] at this; simp at this
                    have hc := HDm.out (lAt D q) (lAt_mem (by rw [HDl.out]; exact hlt5))
                    have d0 := (hU.cell gl gK).trans (gcell q hlt5)
                    have y0 := (hU.cell wl wK).trans (wcell (lAt D q).toNat (by omega))
                    have hkin := HKin.out.at (i := (lAt D q).toNat) (by rw [HMl.out]; omega)
                    have hSL : Hid (setL twoL.length (puts Lf (backE Lw (D.take q))) (lAt D q) (lAt Lw (lAt D q).toNat) = puts Lf (backE Lw (D.take (q + 1)))) := by
                      show _ = _
                      have he : errS twoL.length (puts Lf (backE Lw (D.take q))).length (lAt D q) (lAt Lw (lAt D q).toNat) = 0 := by
                        unfold errS
                        rw [if_pos (hasN_iff.2 hkin), if_pos (hasN_iff.2 ⟨hc.1, by rw [puts_len, HLf.out]; exact hc.2⟩)]
                      unfold setL
                      rw [if_pos he, backE_snoc (by rw [HDl.out]; exact hlt5), puts_append]
                      rfl
                    have hc0 := hc.1
                    have hc1 := hc.2
                    clear hc gcell wcell hkin
                    generalize lAt Lw (lAt D q).toNat = yv at *
                    generalize lAt D q = cv at *
                    have hk0 : (0 : Int) ≤ (q : Int) := by omega
                    have hk1 : (q : Int) < (dl : Int) := by omega
                    have glr : gc < wr.heap.size := Nat.lt_of_lt_of_le gl hszq
                    have wlr : gw < wr.heap.size := Nat.lt_of_lt_of_le wl hszq
                    go_wp2
                    go_region_held3 (fun w' => w'.cell? ⟨gc, q, none⟩ = some (.int .i64 cv) ∧ w'.cell? ⟨gw, cv.toNat, none⟩ = some (.int .i64 yv))
                      (first
                        | go_keep
                        | (go_split_ands
                           refine ⟨?_, ?_⟩
                           · (rw [hU9.cell (by simpa using glr) gK]; assumption)
                           · (rw [hU9.cell (by simpa using wlr) wK]; assumption)))
                      ((go_at_call 11; refine (set_any (OG.out.below ((Below.refl _ wr).drew)) cv yv).mono ?_; rintro e w9 ⟨vv, rfl, hI9, hO9, hU9⟩))
                    have hU9' : But wr.heap.size K wr w9 := ⟨hU9.os, hU9.tape, hU9.output, hU9.size, hU9.block⟩
                    have hO15 : Own w9 F B K T zw zh twoL 1 (puts Lf (backE Lw (D.take (q + 1)))) := by rw [← hSL.out]; exact hO9
                    have O15 : Hid (Own w9 F B K T zw zh twoL 1 (puts Lf (backE Lw (D.take (q + 1))))) := hO15
                    have hU15 := hU.step hU9' (Nat.le_refl _)
                    clear hO9 hO15 hI9 hU9 hSL
                    go_wp2
                    go_roundw
                    case rel => exact ⟨q + 1, by omega, by go_num, O15, hU15⟩
                    case measure => simp [intOf]; omega
                  · have hO16 : Own wr F B K T zw zh twoL 1 Lw := by
                      have := OG.out
                      rwa [show q = D.length by rw [HDl.out]; omega, List.take_length, HBk.out] at this
                    have O16 : Hid (Own wr F B K T zw zh twoL 1 Lw) := hO16
                    have OH16 : Hid (Own wr F B2 K2 T zw zh twoL 1 Lf) := OH14.out.but hU n1 n2 hnF
                    have IW16 : Hid (IAt wr (.slice wa M wc) Lw) := by
                      have := (IS.butHi HIW14.out hU HKne.out).iat
                      exact this
                    have hwf16 : Below w.heap.size w wr := v_step hwf14 hU (Nat.le_refl _) hKw14
                    clear hO16 OG hU OH14 HIW14 OG14 CC14 CW14
                    go_wp2_with fail
                    refine (gkinds_any O16.out.gv).mono ?_
                    rintro e w17 ⟨v3, rfl, hI3, hb17⟩
                    have I17 : Hid (IAt w17 v3 Lw) := hI3.iat
                    have J17 : Hid (IAt w17 (.slice wa M wc) Lw) := IW16.out.below hb17
                    have hwf17 := below_step hwf16 hb17 (Nat.le_refl _)
                    clear hI3
                    go_wp2_with fail
                    refine (same_any I17.out J17.out (by rw [HMl.out]; omega) (by rw [HMl.out]; omega)).mono ?_
                    rintro e w18 ⟨rfl, hb18⟩
                    rw [show decide (Lw = Lw) = true from by simp]
                    have H18 := below_step hb17 hb18 (Nat.le_refl _)
                    go_wp2_with fail
                    refine (twin_yes (OH16.out.below H18)).mono ?_
                    rintro e w19 ⟨B3, K3, rfl, _, _, hO19, hb19⟩
                    have O19 : Hid (Own w19 F B3 K3 T zw zh twoL 1 Lf) := hO19
                    have H19 := below_step H18 hb19 (Nat.le_refl _)
                    clear hO19
                    go_wp2_with fail
                    refine (gkinds_any O19.out.gv).mono ?_
                    rintro e w20 ⟨v4, rfl, hI4, hb20⟩
                    have I20 : Hid (IS w20 w19.heap.size v4 Lf) := hI4
                    have H20 := below_step H19 hb20 (Nat.le_refl _)
                    clear hI4
                    go_wp2_with fail
                    refine (gkinds_any (OH16.out.below H20).gv).mono ?_
                    rintro e w21 ⟨v5, rfl, hI5, hb21⟩
                    have I21 : Hid (IAt w21 v4 Lf) := (I20.out.below hb21).iat
                    have J21 : Hid (IAt w21 v5 Lf) := hI5.iat
                    have H21 := below_step H20 hb21 (Nat.le_refl _)
                    clear hI5
                    go_wp2_with fail
                    refine (same_any I21.out J21.out (by rw [HLf.out]; omega) (by rw [HLf.out]; omega)).mono ?_
                    rintro e w22 ⟨rfl, hb22⟩
                    rw [show decide (Lf = Lf) = true from by simp]
                    go_wp2
                    go_ret
                    exact ⟨rfl, below_step hwf16 (below_step H21 hb22 (Nat.le_refl _)) (Nat.le_refl _)⟩
          · have hz' : (er == 0) = false := by simpa using hz
            have HB1 : Hid (fillL twoL.length zw zh Lw x y a b k = Lw) := by show _ = _; unfold fillL; rw [HER.out, if_neg hz]
            rw [HB1.out, diffs_self] at IC8
            rw [HB1.out] at OG8
            obtain ⟨ca, cc, hvc, _⟩ := IC8.out.form
            rw [show ([] : List Int).length = 0 from rfl] at hvc
            subst hvc
            go_wp2_with fail
            refine (gkinds_any OG8.out.gv).mono ?_
            rintro e w9 ⟨vx, rfl, hI, hb9⟩
            have IX9 : Hid (IAt w9 vx Lw) := hI.iat
            have IW9 : Hid (IAt w9 vw Lw) := (IW8.out.below hb9).iat
            have hwf9 := below_step hwf hb9 (Nat.le_refl _)
            clear hI hb9
            go_wp2_with fail
            refine (same_any IX9.out IW9.out (by omega) (by omega)).mono ?_
            rintro e w10 ⟨rfl, hb10⟩
            rw [show decide (Lw = Lw) = true from by simp]
            go_wp2
            go_ret
            exact ⟨rfl, below_step hwf9 hb10 (Nat.le_refl _)⟩
end Go.Proofs.Ytcflbekjiohfnaa
