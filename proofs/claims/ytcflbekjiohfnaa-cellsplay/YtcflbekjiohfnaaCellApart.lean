/- The walk of CellsApart. -/
import Derived.Test.YtcflbekjiohfnaaCellGreat
namespace Go.Proofs.Ytcflbekjiohfnaa
open Go.RowKit
set_option linter.unusedVariables false
attribute [local go_sem ↓] Go.wp_at_zero Go.wp_at_succ

theorem two_ok (w : World) : Calls Try.prog 10 #[] w fun e w' => e = .returned (.slice (some ⟨w.heap.size, 0, none⟩) 2 2) ∧ Hid (KAt w' (some ⟨w.heap.size, 0, none⟩) twoL) ∧ Below w.heap.size w w' :=
  (two_any w).mono (fun e w' h => ⟨h.1, by rw [h.2]; exact two_at w, by rw [h.2]; exact (Below.refl _ _).alloc (Nat.le_refl _) _⟩)
theorem great_nil (zw zh : Int) : greatN zw zh [] = decide (900 < Pl.cellsN zw zh) := by simp [greatN, sumTo]
theorem madeB_two (zw zh : Int) : madeB zw zh twoL 1 = Pl.rt zw zh := by
  unfold madeB; rw [show okT twoL 1 = true from by decide +kernel]; rfl

theorem errS_zero {nk nc c k : Int} (he : errS nk nc c k = 0) : (0 ≤ k ∧ k < nk) ∧ 0 ≤ c ∧ c < nc := by
  unfold errS at he
  split at he
  · split at he
    · rename_i h1 h2; exact ⟨hasN_iff.1 h1, hasN_iff.1 h2⟩
    · omega
  · omega
theorem diffs_setL (nk : Int) (L : List Int) (c k : Int) : diffs L (setL nk L c k) = if errS nk L.length c k = 0 ∧ lAt L c.toNat ≠ k then [c] else [] := by
  by_cases he : errS nk L.length c k = 0
  · have h := errS_zero he
    unfold setL
    rw [if_pos he, diffs_put rfl h.2.1 h.2.2 (fun _ _ => rfl), diffs_self, List.nil_append]
    by_cases hk : lAt L c.toNat = k
    · rw [if_pos hk, if_neg (fun h => h.2 hk)]
    · rw [if_neg hk, if_pos ⟨he, hk⟩]
  · unfold setL
    rw [if_neg he, diffs_self, if_neg (fun h => he h.1)]
theorem lAt_setL_other {nk : Int} {L : List Int} {c k d : Int} (hd : 0 ≤ d) (h : d ≠ c) : lAt (setL nk L c k) d.toNat = lAt L d.toNat := by
  unfold setL
  split
  · rename_i he
    exact lAt_put' (errS_zero he).2.1 (by omega)
  · rfl
theorem setL_comm {nk : Int} {L : List Int} {ac ak bc bk : Int} (h : ac ≠ bc) : setL nk (setL nk L ac ak) bc bk = setL nk (setL nk L bc bk) ac ak := by
  by_cases ha : errS nk L.length ac ak = 0
  · by_cases hb : errS nk L.length bc bk = 0
    · have h1 : setL nk L ac ak = put L ac ak := by unfold setL; rw [if_pos ha]
      have h2 : setL nk L bc bk = put L bc bk := by unfold setL; rw [if_pos hb]
      rw [h1, h2]
      unfold setL
      rw [put_len, put_len, if_pos ha, if_pos hb]
      unfold put
      refine List.set_comm _ _ (fun e => h ?_)
      have := (errS_zero ha).2; have := (errS_zero hb).2; omega
    · have h2 : ∀ M : List Int, M.length = L.length → setL nk M bc bk = M := fun M hM => by unfold setL; rw [hM, if_neg hb]
      rw [h2 _ (setL_len _ _ _ _), h2 L rfl]
  · have h2 : ∀ M : List Int, M.length = L.length → setL nk M ac ak = M := fun M hM => by unfold setL; rw [hM, if_neg ha]
    rw [h2 _ (setL_len _ _ _ _), h2 L rfl]
theorem diffs_setL_other {nk : Int} {L : List Int} {ac ak bc bk : Int} (h : ac ≠ bc) : diffs (setL nk L bc bk) (setL nk (setL nk L bc bk) ac ak) = diffs L (setL nk L ac ak) := by
  rw [diffs_setL, diffs_setL, setL_len]
  by_cases he : errS nk L.length ac ak = 0
  · rw [lAt_setL_other (errS_zero he).2.1 h]
  · rw [if_neg (fun h => he h.1), if_neg (fun h => he h.1)]
theorem lAt_zeros (m : Nat) (i : Nat) : lAt (List.replicate m 0) i = 0 := by
  by_cases h : i < m
  · rw [lAt_eq (by simpa using h)]; simp
  · exact lAt_out (by simp; omega)
theorem get_set {nk : Int} {L : List Int} {c k : Int} (he : errS nk L.length c k = 0) : getN (setL nk L c k) c = k := by
  have h := errS_zero he
  unfold getN
  rw [setL_len, if_pos (hasN_iff.2 h.2)]
  unfold setL
  rw [if_pos he, lAt_put h.2.1 (by omega), if_pos (by omega)]

theorem v_step {n K : Nat} {X a b : World} (V : Below n X a) (hU : But a.heap.size K a b) (hn : n ≤ X.heap.size) (hK : n ≤ K) : Below n X b := V.trans ((hU.mono (Nat.le_trans hn V.size)).below hK)

set_option maxRecDepth 100000 in
set_option maxHeartbeats 4000000 in
theorem apart_walk (zw zh ac ak bc bk : Int) (w : World) : Calls Try.prog 8 #[Pl.sz zw zh, ed (ac, ak), ed (bc, bk)] w fun e w' => e = .returned (.bool true) ∧ Below w.heap.size w w' := by
  obtain ⟨X, hX⟩ : ∃ X, X = ((w.alloc (.cells #[.int .i64 zw, .int .i64 zh] 26)).alloc (.cells #[.int .i64 ac, .int .i64 ak] 36)).alloc (.cells #[.int .i64 bc, .int .i64 bk] 36) := ⟨_, rfl⟩
  obtain ⟨H, hH⟩ : ∃ H, H = w.heap.size := ⟨_, rfl⟩
  obtain ⟨HB, hHB⟩ : ∃ HB, HB = H + 1 + 1 := ⟨_, rfl⟩
  obtain ⟨HA, hHA⟩ : ∃ HA, HA = H + 1 := ⟨_, rfl⟩
  have hXb : Below w.heap.size w X := by rw [hX]; exact (((Below.refl _ _).alloc (Nat.le_refl _) _).alloc (by simp) _).alloc (by simp; omega) _
  have hXs : X.heap.size = H + 3 := by rw [hX, hH]; simp
  have z01 : X.cell? ⟨H, 0, none⟩ = some (.int .i64 zw) ∧ X.cell? ⟨H, 1, none⟩ = some (.int .i64 zh) := by
    rw [hX, hH]; exact (((Blk.new w 26 #[.int .i64 zw, .int .i64 zh]).alloc _).alloc _).cells2
  have a01 : X.cell? ⟨HA, 0, none⟩ = some (.int .i64 ac) ∧ X.cell? ⟨HA, 1, none⟩ = some (.int .i64 ak) := by
    have := ((Blk.new (w.alloc (.cells #[.int .i64 zw, .int .i64 zh] 26)) 36 #[.int .i64 ac, .int .i64 ak]).alloc (.cells #[.int .i64 bc, .int .i64 bk] 36)).cells2
    rw [hX, hHA, hH]; simpa using this
  have b01 : X.cell? ⟨HB, 0, none⟩ = some (.int .i64 bc) ∧ X.cell? ⟨HB, 1, none⟩ = some (.int .i64 bk) := by
    have := (Blk.new ((w.alloc (.cells #[.int .i64 zw, .int .i64 zh] 26)).alloc (.cells #[.int .i64 ac, .int .i64 ak] 36)) 36 #[.int .i64 bc, .int .i64 bk]).cells2
    rw [hX, hHB, hH]; simpa using this
  have HGr : Hid (greatN zw zh [] = decide (900 < Pl.cellsN zw zh)) := great_nil zw zh
  have HMd : Hid (madeB zw zh twoL 1 = Pl.rt zw zh) := madeB_two zw zh
  go_enter Try.func8, Try.ntmps8
  go_wp2_with fail
  rw [← hX, ← hH, ← hHB, ← hHA]
  have hZl : H < X.heap.size := by omega
  have hAl : HA < X.heap.size := by omega
  have hBl : HB < X.heap.size := by omega
  have HXb : Hid (Below w.heap.size w X) := hXb
  have hwX : w.heap.size ≤ X.heap.size := hXb.size
  clear hX hXb hXs hHB hHA hH
  obtain ⟨z0, z1⟩ := z01
  obtain ⟨a0, a1⟩ := a01
  obtain ⟨b0, b1⟩ := b01
  refine (awake_any _).mono ?_
  rintro e w1 ⟨rfl, V1⟩
  have z0' := (V1.cell (p := ⟨H, 0, none⟩) hZl).trans z0
  have z1' := (V1.cell (p := ⟨H, 1, none⟩) hZl).trans z1
  go_wp2_with fail
  refine (great_any zw zh none 0 0 [] _ rfl (by omega) (.inl rfl)).mono ?_
  rintro e w2 ⟨rfl, hb2⟩
  rw [HGr.out]
  have V2 : Below X.heap.size X w2 := below_step V1 hb2 (Nat.le_refl _)
  clear hb2 V1 z0' z1'
  have z0' := (V2.cell (p := ⟨H, 0, none⟩) hZl).trans z0
  have z1' := (V2.cell (p := ⟨H, 1, none⟩) hZl).trans z1
  by_cases h9 : 900 < Pl.cellsN zw zh
  · rw [show decide (900 < Pl.cellsN zw zh) = true from by simpa using h9]
    go_wp2
    go_ret
    exact ⟨rfl, HXb.out.trans (V2.mono hwX)⟩
  · rw [show decide (900 < Pl.cellsN zw zh) = false from by simpa using h9]
    have hHl2 : H < w2.heap.size := Nat.lt_of_lt_of_le hZl V2.size
    cases hrt : Pl.rt zw zh with
    | false =>
      have HM : Hid (madeB zw zh twoL 1 = false) := HMd.out.trans hrt
      clear HMd hrt h9
      go_wp2
      go_region_held3 (fun w' => w'.cell? ⟨H, 0, none⟩ = some (.int .i64 zw) ∧ w'.cell? ⟨H, 1, none⟩ = some (.int .i64 zh))
        (first
          | go_keep
          | (go_split_ands
             refine ⟨?_, ?_⟩
             · (rw [hb4.cell (p := ⟨H, 0, none⟩) hHl3]; assumption)
             · (rw [hb4.cell (p := ⟨H, 1, none⟩) hHl3]; assumption))
          | (go_split_ands
             refine ⟨?_, ?_⟩
             · (rw [hb3.cell (p := ⟨H, 0, none⟩) (by simpa using hHl2)]; assumption)
             · (rw [hb3.cell (p := ⟨H, 1, none⟩) (by simpa using hHl2)]; assumption)))
        (first
          | (go_at_call 10; refine (two_ok _).mono ?_; rintro e w3 ⟨rfl, HK3, hb3⟩; have hHl3 : H < w3.heap.size := Nat.lt_of_lt_of_le hHl2 hb3.size)
          | (go_at_call 9; refine (made_no zw zh _ 2 2 twoL 1 w3 rfl HK3.out twoL_wk HM.out).mono ?_; rintro e w4 ⟨rfl, hb4⟩))
      all_goals go_wp2
      go_ret
      have hb3' : Below w2.heap.size w2 w3 := ⟨hb3.os, hb3.tape, hb3.output, hb3.size, hb3.block⟩
      exact ⟨rfl, HXb.out.trans ((below_step (below_step V2 hb3' (Nat.le_refl _)) hb4 (Nat.le_refl _)).mono hwX)⟩
    | true =>
      have HM : Hid (madeB zw zh twoL 1 = true) := HMd.out.trans hrt
      clear HMd hrt h9
      go_wp2
      go_region_held3 (fun w' => w'.cell? ⟨H, 0, none⟩ = some (.int .i64 zw) ∧ w'.cell? ⟨H, 1, none⟩ = some (.int .i64 zh))
        (first
          | go_keep
          | (go_split_ands
             refine ⟨?_, ?_⟩
             · (rw [hb4.cell (p := ⟨H, 0, none⟩) hHl3]; assumption)
             · (rw [hb4.cell (p := ⟨H, 1, none⟩) hHl3]; assumption))
          | (go_split_ands
             refine ⟨?_, ?_⟩
             · (rw [hb3.cell (p := ⟨H, 0, none⟩) (by simpa using hHl2)]; assumption)
             · (rw [hb3.cell (p := ⟨H, 1, none⟩) (by simpa using hHl2)]; assumption)))
        (first
          | (go_at_call 10; refine (two_ok _).mono ?_; rintro e w3 ⟨rfl, HK3, hb3⟩; have hHl3 : H < w3.heap.size := Nat.lt_of_lt_of_le hHl2 hb3.size)
          | (go_at_call 9; refine (made_yes zw zh _ 2 2 twoL 1 w3 rfl HK3.out twoL_wk HM.out).mono ?_; rintro e w4 ⟨F, B, K, T, rfl, hB4, hK4, hO4, hF4, hb4⟩))
      have hb3' : Below w2.heap.size w2 w3 := ⟨hb3.os, hb3.tape, hb3.output, hb3.size, hb3.block⟩
      have V3 : Below X.heap.size X w3 := below_step V2 hb3' (Nat.le_refl _)
      have V4 : Below X.heap.size X w4 := below_step V3 hb4 (Nat.le_refl _)
      have hKX : X.heap.size ≤ K := Nat.le_trans V3.size hK4
      have O4 : Hid (Own w4 F B K T zw zh twoL 1 (List.replicate (zw * zh).toNat 0)) := hO4
      have HZ : Hid (∀ i, lAt (List.replicate (zw * zh).toNat 0) i = 0) := lAt_zeros _
      have hnF : ¬ F K := hO4.nf
      have hKlt : K < w4.heap.size := hO4.row.lt
      have hBlt : B < w4.heap.size := hO4.blk.lt
      have HF4 : Hid (∀ b, F b → b < w4.heap.size) := hO4.fb
      generalize List.replicate (zw * zh).toNat (0 : Int) = L0 at *
      clear hO4 hF4 hb4 hb3 hb3' V2 V3 HK3 z0' z1' HM
      go_wp2_with fail
      refine (twin_yes O4.out).mono ?_
      rintro e w5 ⟨B2, K2, rfl, hB5, hK5, hO5, hb5⟩
      have V5 : Below X.heap.size X w5 := below_step V4 hb5 (Nat.le_refl _)
      have OG5 : Hid (Own w5 F B K T zw zh twoL 1 L0) := O4.out.below hb5
      have OH5 : Hid (Own w5 F B2 K2 T zw zh twoL 1 L0) := hO5
      have hK2lt : K2 < w5.heap.size := hO5.row.lt
      have hnF2 : ¬ F K2 := hO5.nf
      have hKl5 : K < w5.heap.size := Nat.lt_of_lt_of_le hKlt hb5.size
      have hK2X : X.heap.size ≤ K2 := Nat.le_trans V4.size hK5
      have n1 : K ≠ B2 := by omega
      have n2 : K ≠ K2 := by omega
      have n3 : K2 ≠ B := by omega
      clear hO5 hb5 O4 V4
      have a05 := (V5.cell (p := ⟨HA, 0, none⟩) hAl).trans a0
      have a15 := (V5.cell (p := ⟨HA, 1, none⟩) hAl).trans a1
      go_wp2_with fail
      refine (set_any OG5.out ac ak).mono ?_
      rintro e w6 ⟨vp, rfl, hI, hO, hU⟩
      have V6 : Below X.heap.size X w6 := v_step V5 hU (Nat.le_refl _) hKX
      have OG6 : Hid (Own w6 F B K T zw zh twoL 1 (setL twoL.length L0 ac ak)) := hO
      have OH6 : Hid (Own w6 F B2 K2 T zw zh twoL 1 L0) := OH5.out.but hU n1 n2 hnF
      have P6 : Hid (IS w6 w5.heap.size vp (diffs L0 (setL twoL.length L0 ac ak))) := hI
      have hs6 := hU.size
      clear hI hO hU OG5 OH5 a05 a15
      have b06 := (V6.cell (p := ⟨HB, 0, none⟩) hBl).trans b0
      have b16 := (V6.cell (p := ⟨HB, 1, none⟩) hBl).trans b1
      go_wp2_with fail
      refine (set_any OG6.out bc bk).mono ?_
      rintro e w7 ⟨vq, rfl, hI, hO, hU⟩
      have V7 : Below X.heap.size X w7 := v_step V6 hU (Nat.le_refl _) hKX
      have OG7 : Hid (Own w7 F B K T zw zh twoL 1 (setL twoL.length (setL twoL.length L0 ac ak) bc bk)) := hO
      have OH7 : Hid (Own w7 F B2 K2 T zw zh twoL 1 L0) := OH6.out.but hU n1 n2 hnF
      have P7 : Hid (IS w7 w5.heap.size vp (diffs L0 (setL twoL.length L0 ac ak))) := P6.out.but hU hKl5
      have Q7 : Hid (IS w7 w6.heap.size vq (diffs (setL twoL.length L0 ac ak) (setL twoL.length (setL twoL.length L0 ac ak) bc bk))) := hI
      have hs7 := hU.size
      clear hI hO hU OG6 OH6 b06 b16 P6
      have b07 := (V7.cell (p := ⟨HB, 0, none⟩) hBl).trans b0
      have b17 := (V7.cell (p := ⟨HB, 1, none⟩) hBl).trans b1
      go_wp2_with fail
      refine (set_any OH7.out bc bk).mono ?_
      rintro e w8 ⟨vs, rfl, hI, hO, hU⟩
      have V8 : Below X.heap.size X w8 := v_step V7 hU (Nat.le_refl _) hK2X
      have OG8 : Hid (Own w8 F B K T zw zh twoL 1 (setL twoL.length (setL twoL.length L0 ac ak) bc bk)) := OG7.out.but hU n3 n2.symm hnF2
      have OH8 : Hid (Own w8 F B2 K2 T zw zh twoL 1 (setL twoL.length L0 bc bk)) := hO
      have P8 : Hid (IS w8 w5.heap.size vp (diffs L0 (setL twoL.length L0 ac ak))) := P7.out.but hU hK2lt
      have Q8 : Hid (IS w8 w6.heap.size vq (diffs (setL twoL.length L0 ac ak) (setL twoL.length (setL twoL.length L0 ac ak) bc bk))) := Q7.out.but hU (by omega)
      have S8 : Hid (IS w8 w7.heap.size vs (diffs L0 (setL twoL.length L0 bc bk))) := hI
      have hs8 := hU.size
      clear hI hO hU OG7 OH7 b07 b17 P7 Q7
      have a08 := (V8.cell (p := ⟨HA, 0, none⟩) hAl).trans a0
      have a18 := (V8.cell (p := ⟨HA, 1, none⟩) hAl).trans a1
      go_wp2_with fail
      refine (set_any OH8.out ac ak).mono ?_
      rintro e w9 ⟨vr, rfl, hI, hO, hU⟩
      have V9 : Below X.heap.size X w9 := v_step V8 hU (Nat.le_refl _) hK2X
      have OG9 : Hid (Own w9 F B K T zw zh twoL 1 (setL twoL.length (setL twoL.length L0 ac ak) bc bk)) := OG8.out.but hU n3 n2.symm hnF2
      have OH9 : Hid (Own w9 F B2 K2 T zw zh twoL 1 (setL twoL.length (setL twoL.length L0 bc bk) ac ak)) := hO
      have P9 : Hid (IS w9 w5.heap.size vp (diffs L0 (setL twoL.length L0 ac ak))) := P8.out.but hU hK2lt
      have Q9 : Hid (IS w9 w6.heap.size vq (diffs (setL twoL.length L0 ac ak) (setL twoL.length (setL twoL.length L0 ac ak) bc bk))) := Q8.out.but hU (by omega)
      have S9 : Hid (IS w9 w7.heap.size vs (diffs L0 (setL twoL.length L0 bc bk))) := S8.out.but hU (by omega)
      have R9 : Hid (IS w9 w8.heap.size vr (diffs (setL twoL.length L0 bc bk) (setL twoL.length (setL twoL.length L0 bc bk) ac ak))) := hI
      have hwf : Below w.heap.size w w9 := HXb.out.trans (V9.mono hwX)
      clear hI hO hU OG8 OH8 a08 a18 P8 Q8 S8
      rw [setL_len, setL_len]
      have HEa : Hid (errS twoL.length L0.length ac ak = errS twoL.length L0.length ac ak) := rfl
      have a09 := (V9.cell (p := ⟨HA, 0, none⟩) hAl).trans a0
      have a19 := (V9.cell (p := ⟨HA, 1, none⟩) hAl).trans a1
      have b09 := (V9.cell (p := ⟨HB, 0, none⟩) hBl).trans b0
      have b19 := (V9.cell (p := ⟨HB, 1, none⟩) hBl).trans b1
      obtain ⟨ea, hea⟩ : ∃ ea, errS twoL.length L0.length ac ak = ea := ⟨_, rfl⟩
      obtain ⟨eb, heb⟩ : ∃ eb, errS twoL.length L0.length bc bk = eb := ⟨_, rfl⟩
      rw [hea, heb]
      have EA : Hid (errS twoL.length L0.length ac ak = ea) := hea
      have EB : Hid (errS twoL.length L0.length bc bk = eb) := heb
      clear hea heb HEa
      obtain ⟨pa, pc, rfl, hp⟩ := P9.out.form
      by_cases hab : ac = bc
      · have HG : Hid (eb = 0 → getN (setL twoL.length (setL twoL.length L0 ac ak) bc bk) bc = bk) := fun e => get_set (by rw [setL_len, EB.out]; exact e)
        have hab' : (ac == bc) = true := by simpa using hab
        have HV : Hid (GV w9 (.pointer (some ⟨B, 0, none⟩)) twoL 1 (setL twoL.length (setL twoL.length L0 ac ak) bc bk)) := OG9.out.gv
        have HN9 : Hid ((setL twoL.length (setL twoL.length L0 ac ak) bc bk).length = L0.length) := by show _ = _; rw [setL_len, setL_len]
        clear hp OG9 OH9 P9 Q9 R9 S9 hab
        generalize setL twoL.length (setL twoL.length L0 ac ak) bc bk = M at *
        go_wp2_with fail
        refine (get_any HV.out bc).mono ?_
        rintro e w10 ⟨rfl, rfl⟩
        rw [HN9.out]
        cases hh : hasN L0.length bc with
        | false =>
          clear hh
          go_wp2
          go_ret
          exact ⟨rfl, hwf⟩
        | true =>
          clear hh
          by_cases he : eb = 0
          · rw [HG.out he]
            subst he
            go_wp2
            go_ret
            exact ⟨by simp, hwf⟩
          · have he' : (eb == 0) = false := by simpa using he
            go_wp2
            go_ret
            exact ⟨by simp, hwf⟩
      · have hab' : (ac == bc) = false := by simpa using hab
        have HC : Hid (decide (setL (twoL.length : Int) (setL twoL.length L0 ac ak) bc bk = setL twoL.length (setL twoL.length L0 bc bk) ac ak) = true) := by
          show _ = _
          rw [setL_comm hab]; simp
        have hLl := OG9.out.l1.1
        rw [setL_len, setL_len] at hLl
        have HR : Hid (diffs (setL twoL.length L0 bc bk) (setL twoL.length (setL twoL.length L0 bc bk) ac ak) = diffs L0 (setL twoL.length L0 ac ak)) := diffs_setL_other hab
        have HQ : Hid (diffs (setL twoL.length L0 ac ak) (setL twoL.length (setL twoL.length L0 ac ak) bc bk) = diffs L0 (setL twoL.length L0 bc bk)) := diffs_setL_other (fun e => hab e.symm)
        have HP : Hid (diffs L0 (setL twoL.length L0 ac ak) = if ea = 0 ∧ ak ≠ 0 then [ac] else []) := by
          show _ = _
          rw [diffs_setL, EA.out, HZ.out]
          by_cases h : ak = 0
          · rw [if_neg (fun hh => hh.2 h.symm), if_neg (fun hh => hh.2 h)]
          · by_cases h2 : ea = 0
            · rw [if_pos ⟨h2, fun e => h e.symm⟩, if_pos ⟨h2, h⟩]
            · rw [if_neg (fun hh => h2 hh.1), if_neg (fun hh => h2 hh.1)]
        have hpl := diffs_len L0 (setL twoL.length L0 ac ak)
        have hql := diffs_len L0 (setL twoL.length L0 bc bk)
        have HS1 : Hid (∀ g : Grow w9, Calls Try.prog 21 #[.slice pa (diffs L0 (setL twoL.length L0 ac ak)).length pc, vr] g.w fun e w' => e = .returned (.bool true) ∧ Below g.w.heap.size g.w w') := fun g => by
          have h1 := (P9.out.iat).below g.h
          have h2 := (R9.out.iat).below g.h
          rw [HR.out] at h2
          have := same_any h1 h2 (by omega) (by omega)
          rw [show decide (diffs L0 (setL twoL.length L0 ac ak) = diffs L0 (setL twoL.length L0 ac ak)) = true from by simp] at this
          exact this
        have HS2 : Hid (∀ g : Grow w9, Calls Try.prog 21 #[vq, vs] g.w fun e w' => e = .returned (.bool true) ∧ Below g.w.heap.size g.w w') := fun g => by
          have h1 := (Q9.out.iat).below g.h
          have h2 := (S9.out.iat).below g.h
          rw [HQ.out] at h1
          have := same_any h1 h2 (by omega) (by omega)
          rw [show decide (diffs L0 (setL twoL.length L0 bc bk) = diffs L0 (setL twoL.length L0 bc bk)) = true from by simp] at this
          exact this
        have gn := Grow.ne w9
        have ga0 := Grow.cell (cell_lt a09) a09
        have ga1 := Grow.cell (cell_lt a19) a19
        clear P9 Q9 R9 S9 HR HQ hpl hql EA EB HZ
        generalize diffs L0 (setL twoL.length L0 ac ak) = P at *
        by_cases h1 : ea = 0 ∧ ak ≠ 0
        · obtain ⟨rfl, hak⟩ := h1
          have hPe : P = [ac] := by rw [HP.out, if_pos ⟨rfl, hak⟩]
          subst hPe
          rcases hp with h | ⟨g, rfl, hg1, hg2, hgc⟩
          · cases h
          · have gp := Grow.cell hg2 (hgc 0 (by simp))
            rw [show lAt [ac] 0 = ac from rfl] at gp
            rw [show ([ac] : List Int).length = 1 from rfl] at HS1
            rw [show ([ac] : List Int).length = 1 from rfl]
            have hak' : (ak == 0) = false := by simpa using hak
            have hak2 : (!ak != 0) = false := by simp [hak]
            have hak3 : (ak != 0) = true := by simp [hak]
            have HSS : Hid (∀ (g' : Grow w9) (xs : Array Value), (xs = #[.slice (some ⟨g, 0, none⟩) 1 pc, vr] ∨ xs = #[vq, vs]) → Calls Try.prog 21 xs g'.w fun e w' => e = .returned (.bool true) ∧ Below g'.w.heap.size g'.w w') := fun g' xs h => by
              rcases h with rfl | rfl
              · exact HS1.out g'
              · exact HS2.out g'
            clear hgc HP hab
            go_wp2
            refine wp_region_grow (by kernel_rfl) (by kernel_rfl) ?_
            repeat (go_big_quiet_step ((go_at_call 21; exact grow_call (HSS.out _ _ (by first | exact .inl rfl | exact .inr rfl)))))
            refine wpQuiet_nil ?_
            rintro w10 ⟨⟨_, hb10⟩, rfl⟩
            clear HS1 HS2 HSS
            have hwf10 := below_step hwf hb10 (Nat.le_refl _)
            go_wp2_with fail
            refine (gkinds_any (OG9.out.below hb10).gv).mono ?_
            rintro e w11 ⟨v1, rfl, hI1, hb11⟩
            have I11 : Hid (IS w11 w10.heap.size v1 (setL twoL.length (setL twoL.length L0 ac ak) bc bk)) := hI1
            have hwf11 := below_step hwf10 hb11 (Nat.le_refl _)
            have hb9 := below_step hb10 hb11 (Nat.le_refl _)
            clear hI1
            go_wp2_with fail
            refine (gkinds_any (OH9.out.below hb9).gv).mono ?_
            rintro e w12 ⟨v2, rfl, hI2, hb12⟩
            have I12 : Hid (IAt w12 v2 (setL twoL.length (setL twoL.length L0 bc bk) ac ak)) := hI2.iat
            have J12 : Hid (IAt w12 v1 (setL twoL.length (setL twoL.length L0 ac ak) bc bk)) := (I11.out.below hb12).iat
            have hwf12 := below_step hwf11 hb12 (Nat.le_refl _)
            clear hI2
            go_wp2_with fail
            refine (same_any J12.out I12.out (by rw [setL_len, setL_len]; omega) (by rw [setL_len, setL_len]; omega)).mono ?_
            rintro e w13 ⟨rfl, hb13⟩
            rw [show decide (setL (twoL.length : Int) (setL twoL.length L0 ac ak) bc bk = setL twoL.length (setL twoL.length L0 bc bk) ac ak) = true from HC.out]
            go_wp2
            go_ret
            exact ⟨rfl, below_step hwf12 hb13 (Nat.le_refl _)⟩
        · have hPe : P = [] := by rw [HP.out, if_neg h1]
          subst hPe
          rw [show ([] : List Int).length = 0 from rfl] at HS1
          rw [show ([] : List Int).length = 0 from rfl]
          have HSS : Hid (∀ (g' : Grow w9) (xs : Array Value), (xs = #[.slice pa 0 pc, vr] ∨ xs = #[vq, vs]) → Calls Try.prog 21 xs g'.w fun e w' => e = .returned (.bool true) ∧ Below g'.w.heap.size g'.w w') := fun g' xs h => by
            rcases h with rfl | rfl
            · exact HS1.out g'
            · exact HS2.out g'
          clear hp HP hab
          by_cases he : ea = 0
          · have hak : ak = 0 := Classical.byContradiction (fun h => h1 ⟨he, h⟩)
            subst he
            have hak3 : (ak != 0) = false := by simp [hak]
            clear h1 hak
            go_wp2
            refine wp_region_grow (by kernel_rfl) (by kernel_rfl) ?_
            repeat (go_big_quiet_step ((go_at_call 21; exact grow_call (HSS.out _ _ (by first | exact .inl rfl | exact .inr rfl)))))
            refine wpQuiet_nil ?_
            rintro w10 ⟨⟨_, hb10⟩, rfl⟩
            clear HS1 HS2 HSS
            have hwf10 := below_step hwf hb10 (Nat.le_refl _)
            go_wp2_with fail
            refine (gkinds_any (OG9.out.below hb10).gv).mono ?_
            rintro e w11 ⟨v1, rfl, hI1, hb11⟩
            have I11 : Hid (IS w11 w10.heap.size v1 (setL twoL.length (setL twoL.length L0 ac ak) bc bk)) := hI1
            have hwf11 := below_step hwf10 hb11 (Nat.le_refl _)
            have hb9 := below_step hb10 hb11 (Nat.le_refl _)
            clear hI1
            go_wp2_with fail
            refine (gkinds_any (OH9.out.below hb9).gv).mono ?_
            rintro e w12 ⟨v2, rfl, hI2, hb12⟩
            have I12 : Hid (IAt w12 v2 (setL twoL.length (setL twoL.length L0 bc bk) ac ak)) := hI2.iat
            have J12 : Hid (IAt w12 v1 (setL twoL.length (setL twoL.length L0 ac ak) bc bk)) := (I11.out.below hb12).iat
            have hwf12 := below_step hwf11 hb12 (Nat.le_refl _)
            clear hI2
            go_wp2_with fail
            refine (same_any J12.out I12.out (by rw [setL_len, setL_len]; omega) (by rw [setL_len, setL_len]; omega)).mono ?_
            rintro e w13 ⟨rfl, hb13⟩
            rw [show decide (setL (twoL.length : Int) (setL twoL.length L0 ac ak) bc bk = setL twoL.length (setL twoL.length L0 bc bk) ac ak) = true from HC.out]
            go_wp2
            go_ret
            exact ⟨rfl, below_step hwf12 hb13 (Nat.le_refl _)⟩
          · have he' : (ea == 0) = false := by simpa using he
            clear h1
            go_wp2
            refine wp_region_grow (by kernel_rfl) (by kernel_rfl) ?_
            repeat (go_big_quiet_step ((go_at_call 21; exact grow_call (HSS.out _ _ (by first | exact .inl rfl | exact .inr rfl)))))
            refine wpQuiet_nil ?_
            rintro w10 ⟨⟨_, hb10⟩, rfl⟩
            clear HS1 HS2 HSS
            have hwf10 := below_step hwf hb10 (Nat.le_refl _)
            go_wp2_with fail
            refine (gkinds_any (OG9.out.below hb10).gv).mono ?_
            rintro e w11 ⟨v1, rfl, hI1, hb11⟩
            have I11 : Hid (IS w11 w10.heap.size v1 (setL twoL.length (setL twoL.length L0 ac ak) bc bk)) := hI1
            have hwf11 := below_step hwf10 hb11 (Nat.le_refl _)
            have hb9 := below_step hb10 hb11 (Nat.le_refl _)
            clear hI1
            go_wp2_with fail
            refine (gkinds_any (OH9.out.below hb9).gv).mono ?_
            rintro e w12 ⟨v2, rfl, hI2, hb12⟩
            have I12 : Hid (IAt w12 v2 (setL twoL.length (setL twoL.length L0 bc bk) ac ak)) := hI2.iat
            have J12 : Hid (IAt w12 v1 (setL twoL.length (setL twoL.length L0 ac ak) bc bk)) := (I11.out.below hb12).iat
            have hwf12 := below_step hwf11 hb12 (Nat.le_refl _)
            clear hI2
            go_wp2_with fail
            refine (same_any J12.out I12.out (by rw [setL_len, setL_len]; omega) (by rw [setL_len, setL_len]; omega)).mono ?_
            rintro e w13 ⟨rfl, hb13⟩
            rw [show decide (setL (twoL.length : Int) (setL twoL.length L0 ac ak) bc bk = setL twoL.length (setL twoL.length L0 bc bk) ac ak) = true from HC.out]
            go_wp2
            go_ret
            exact ⟨rfl, below_step hwf12 hb13 (Nat.le_refl _)⟩
end Go.Proofs.Ytcflbekjiohfnaa
