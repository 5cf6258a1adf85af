/- Layer 10's statement LevelsKnown (by tools/gen_levknown.py). -/
import Derived.Test.YtcbgeahcnjamdabGreatLevWakesB
namespace Go.Proofs.YtcbgeahcnjamdabGreat
open Go.RowKit
set_option linter.unusedVariables false
theorem kn_sum {sv : Int → Int} (h : ∀ v ∈ upto 3, sv v = 5) (v : Int) (hv : v ∈ ([1, 2, 3] : List Int)) : sumN' sv (joinM [(2, 2, 3), (3, 3, 1)] [1, 2, 3] v) = 15 := by
  rw [tri_join v hv]
  unfold sumN'
  rw [if_neg (by simp)]
  simp only [sumL]
  rw [h 1 (upto_mem.2 (by omega)), h 2 (upto_mem.2 (by omega)), h 3 (upto_mem.2 (by omega))]
  exact (wr_id (by omega) (by omega)).trans (by omega)
theorem kn_min {lv : Int → Int} (h : ∀ v ∈ upto 3, lv v = 9 - v) (v : Int) (hv : v ∈ ([1, 2, 3] : List Int)) : minN' lv (joinM [(2, 2, 3), (3, 3, 1)] [1, 2, 3] v) = 6 := by
  rw [tri_join v hv]
  unfold minN'
  rw [if_neg (by simp)]
  simp only [minL]
  rw [h 1 (upto_mem.2 (by omega)), h 2 (upto_mem.2 (by omega)), h 3 (upto_mem.2 (by omega))]
  decide
theorem kn_j12 : Jn (Am [(1, 1, 2), (2, 2, 3)]) 3 1 := by
  have a1 : Jn (Am [(1, 1, 2), (2, 2, 3)]) 1 2 := Jn.one ⟨1, by simp⟩
  have a2 : Jn (Am [(1, 1, 2), (2, 2, 3)]) 2 3 := Jn.one ⟨2, by simp⟩
  exact (a1.trans a2).symm
theorem kn_23 : Jn (Am [(2, 2, 3)]) 2 3 := Jn.one ⟨2, by simp⟩
theorem kn_c23 : conM [(2, 2, 3)] [1, 2, 3] 2 3 = true := conM_iff.2 ⟨by simp, by simp, kn_23⟩
theorem kn_one {u : Int} (k : Jn (Am [(2, 2, 3)]) 1 u) : u = 1 := by
  refine k.closed (S := fun v => v = 1) (fun a b ⟨e, h⟩ => ?_) rfl
  simp at h
  obtain ⟨_, rfl, rfl⟩ := h
  simp
theorem kn_s1 : ((joinM [(2, 2, 3)] [1, 2, 3] 1).length : Int) = 1 := by
  have h1 : Jn (Am [(2, 2, 3)]) 1 1 := .refl _
  have h2 : ¬ Jn (Am [(2, 2, 3)]) 1 2 := fun k => by have := kn_one k; omega
  have h3 : ¬ Jn (Am [(2, 2, 3)]) 1 3 := fun k => by have := kn_one k; omega
  unfold joinM
  rw [if_pos (by simp)]
  simp [h1, h2, h3]
theorem kn_t : max 1 ((joinM [(2, 2, 3), (1, 1, 2)] [2, 3, 1, 4] 2).length : Int) = 3 := by
  have h1 : Jn (Am [(2, 2, 3), (1, 1, 2)]) 2 2 := .refl _
  have h2 : Jn (Am [(2, 2, 3), (1, 1, 2)]) 2 3 := Jn.one ⟨2, by simp⟩
  have h3 : Jn (Am [(2, 2, 3), (1, 1, 2)]) 2 1 := (Jn.one ⟨1, by simp⟩ : Jn (Am [(2, 2, 3), (1, 1, 2)]) 1 2).symm
  have h4 : ¬ Jn (Am [(2, 2, 3), (1, 1, 2)]) 2 4 := fun k => by
    have := k.symm.closed (S := fun v => v = 4) (fun a b ⟨e, h⟩ => by
      simp at h
      rcases h with ⟨_, rfl, rfl⟩ | ⟨_, rfl, rfl⟩ <;> simp) rfl
    omega
  unfold joinM
  rw [if_pos (by simp)]
  simp [h1, h2, h3, h4]
  decide
theorem kn_l1 : Least (fun t : Int => ∃ a b : Int, (t, a, b) ∈ ([(2, 2, 3)] : List (Int × Int × Int))) 1 := by
  refine ⟨by omega, ?_, fun t h1 h2 => ?_⟩
  · rintro ⟨a, b, k⟩
    simp at k
  · omega
theorem kn_v1 : Least (fun t : Int => t ∈ ([2, 3] : List Int)) 1 := by
  refine ⟨by omega, by simp, fun t h1 h2 => ?_⟩
  omega
theorem kn_v4 : Least (fun t : Int => t ∈ ([2, 3, 1] : List Int)) 4 := by
  refine ⟨by omega, by simp, fun t h1 h2 => ?_⟩
  rcases (by omega : t = 1 ∨ t = 2 ∨ t = 3) with rfl | rfl | rfl <;> simp
set_option maxRecDepth 100000 in
set_option maxHeartbeats 6400000 in
theorem levknown_walk (w : World) : Calls Tryz.prog 4 #[] w fun e w' => e = .returned (.bool true) ∧ Below w.heap.size w w' := by
  have HN := hid_mk (wk_new 4 3 w (by decide) (by decide) (by decide))
  go_enter Tryz.func4, Tryz.ntmps4
  go_wp2_with fail
  refine HN.out.mono ?_
  rintro e w1 ⟨B, rfl, hL⟩
  have L1 := hid_mk hL
  clear hL HN
  go_wp2
  go_loopw [3] (fun v wr => ∃ k : Nat, k ≤ 3 ∧ v = .int .i64 ((k : Int) + 1) ∧ Hid (∃ V sv lv, Wk w wr B 4 3 V sv lv [] k ∧ V = upto k ∧ ∀ v ∈ V, sv v = 5 ∧ lv v = 9 - v)) (fun v _ => 4 - (intOf v).toNat)
  case atStart => exact ⟨0, by omega, rfl, ⟨_, _, _, L1.out, rfl, fun v k => by cases k⟩⟩
  case round =>
    clear L1
    obtain ⟨k, hk, rfl, HX⟩ := hrel
    by_cases hlt : k < 3
    · have hlt' : (k : Int) + 1 < 4 := by omega
      obtain ⟨V, sv, lv, h1, h2, h3⟩ := HX.out
      subst h2
      have HV : Hid (Calls Tryz.prog 8 #[.pointer (some ⟨B, 0, none⟩), .int .i64 5, .int .i64 (9 - ((k : Int) + 1))] wr fun e w' => e = .returned (.tuple #[.int .i64 ((k : Int) + 1), .int .i64 0]) ∧ ∃ V sv lv, Wk w w' B 4 3 V sv lv [] (k + 1) ∧ V = upto (k + 1) ∧ ∀ v ∈ V, sv v = 5 ∧ lv v = 9 - v) := by
        refine (wk_vertex h1 (by omega) (upto_least k) (by rw [upto_len]; omega) 5 (9 - ((k : Int) + 1)) (by unfold okSL; rw [decide_eq_true_iff]; omega)).mono fun e w' H => ⟨H.1, _, _, _, H.2, (upto_succ k).symm, fun v hv => ?_⟩
        by_cases e : v = (k : Int) + 1
        · subst e; rw [updI_at, updI_at]; exact ⟨rfl, rfl⟩
        · rw [updI_ne e, updI_ne e]
          rcases List.mem_append.1 hv with q | q
          · exact h3 v q
          · exact absurd (List.mem_singleton.1 q) e
      clear h1 h3 HX
      go_wp2_with fail
      refine HV.out.mono ?_
      rintro e w2 ⟨rfl, h4⟩
      have H4 := hid_mk h4
      clear h4 HV
      go_wp2
      go_roundw
      case rel => exact ⟨k + 1, by omega, by go_num, H4⟩
      case measure => simp [intOf]; omega
    · obtain rfl : k = 3 := by omega
      obtain ⟨V, sv, lv, h1, h2, h3⟩ := HX.out
      subst h2
      have S1 := hid_mk (fun v hv => (h3 v hv).1)
      have S2 := hid_mk (fun v hv => (h3 v hv).2)
      have H0 : Hid (Wk w wr B 4 3 [1, 2, 3] sv lv [] 3) := h1
      clear h1 h3 HX
      go_wp2_with fail
      refine (wk_insert H0.out (by omega) (r := 1) tri_l0 (by simp) (by simp) (by omega)).mono ?_
      rintro e x1 ⟨rfl, h⟩
      have H1 : Hid (Wk w x1 B 4 3 [1, 2, 3] _ _ [(1, 1, 2)] 4) := h
      clear h H0
      go_wp2_with fail
      refine (wk_insert H1.out (by omega) (r := 2) tri_l1 (by simp) (by simp) (by omega)).mono ?_
      rintro e x2 ⟨rfl, h⟩
      have H2 : Hid (Wk w x2 B 4 3 [1, 2, 3] _ _ [(1, 1, 2), (2, 2, 3)] 5) := h
      clear h H1
      go_wp2_with fail
      refine (wk_insert_e H2.out (by omega) (r := 3) tri_l2 (by simp) (by simp) (by omega) kn_j12).mono ?_
      rintro e x3 ⟨rfl, h, hE⟩
      have H3 : Hid (Wk w x3 B 4 3 [1, 2, 3] _ _ [(1, 1, 2), (2, 2, 3), (3, 3, 1)] 6) := h
      have HE := hid_mk hE
      clear hE
      clear h H2
      go_wp2_with fail
      refine (HE.out).mono ?_
      rintro e x4 ⟨rfl, hb⟩
      have H4 := hid_mk (H3.out.below hb)
      clear HE
      clear hb H3
      go_wp2_with fail
      refine (wk_high H4.out).mono ?_
      rintro e x5 ⟨rfl, hb⟩
      have H5 := hid_mk (H4.out.below hb)
      clear hb H4
      go_wp2_with fail
      refine (wk_delete H5.out (by omega) (e := 1) (a := 1) (b := 2) (by simp)).mono ?_
      rintro e x6 ⟨rfl, h⟩
      have H6 : Hid (Wk w x6 B 4 3 [1, 2, 3] _ _ [(2, 2, 3), (3, 3, 1)] 7) := h.with rfl (by decide)
      clear h H5
      go_wp2_with fail
      refine (wk_delete_no H6.out (e := 1) (by unfold B64; omega) (by simp)).mono ?_
      rintro e x7 ⟨rfl, hb⟩
      have H7 := hid_mk (H6.out.below hb)
      clear hb H6
      go_wp2_with fail
      refine (wk_conn H7.out 1 2 (by unfold B64; omega) (by unfold B64; omega) tri_con).mono ?_
      rintro e x8 ⟨rfl, h⟩
      have H8 := hid_mk h
      clear h H7
      go_wp2_with fail
      refine (wk_size H8.out 1 (by unfold B64; omega) (t := 3) (by rw [tri_join 1 (by simp)]; rfl)).mono ?_
      rintro e x9 ⟨rfl, h⟩
      have H9 := hid_mk h
      clear h H8
      go_wp2_with fail
      refine (wk_sum H9.out 2 (by unfold B64; omega) (kn_sum S1.out 2 (by simp))).mono ?_
      rintro e x10 ⟨rfl, h⟩
      have H10 := hid_mk h
      clear h H9
      go_wp2_with fail
      refine (wk_least H10.out 1 (by unfold B64; omega) (kn_min S2.out 1 (by simp))).mono ?_
      rintro e x11 ⟨rfl, h⟩
      have H11 := hid_mk h
      clear h H10
      go_wp2_with fail
      refine (wk_delete H11.out (by omega) (e := 3) (a := 3) (b := 1) (by simp)).mono ?_
      rintro e x12 ⟨rfl, h⟩
      have H12 : Hid (Wk w x12 B 4 3 [1, 2, 3] _ _ [(2, 2, 3)] 8) := h.with rfl (by decide)
      clear h H11
      go_wp2_with fail
      refine (wk_conn H12.out 1 2 (by unfold B64; omega) (by unfold B64; omega) tri_cut).mono ?_
      rintro e x13 ⟨rfl, h⟩
      have H13 := hid_mk h
      clear h H12
      go_wp2_with fail
      refine (wk_conn H13.out 2 3 (by unfold B64; omega) (by unfold B64; omega) kn_c23).mono ?_
      rintro e x14 ⟨rfl, h⟩
      have H14 := hid_mk h
      clear h H13
      go_wp2_with fail
      refine (wk_size H14.out 1 (by unfold B64; omega) kn_s1).mono ?_
      rintro e x15 ⟨rfl, h⟩
      have H15 := hid_mk h
      clear h H14
      go_wp2_with fail
      refine (wk_insert_arg H15.out (a := 1) (by simp)).mono ?_
      rintro e x16 ⟨rfl, hb⟩
      have H16 := hid_mk (H15.out.below hb)
      clear hb H15
      go_wp2_with fail
      refine (wk_insert_none H16.out (a := 1) (b := 9) (by unfold B64; omega) (by unfold B64; omega) (by simp)).mono ?_
      rintro e x17 ⟨rfl, hb⟩
      have H17 := hid_mk (H16.out.below hb)
      clear hb H16
      go_wp2_with fail
      refine (wk_drop_state H17.out (by omega) (v := 3) (by simp) ⟨2, 2, 3, by simp, .inr rfl⟩).mono ?_
      rintro e x18 ⟨rfl, h⟩
      have H18 : Hid (Wk w x18 B 4 3 [1, 2, 3] _ _ [(2, 2, 3)] 9) := h
      clear h H17
      go_wp2_with fail
      refine (wk_drop_no H18.out (by omega) (v := 9) (by unfold B64; omega) (by simp)).mono ?_
      rintro e x19 ⟨rfl, hb⟩
      have H19 := hid_mk (H18.out.below hb)
      clear hb H18
      go_wp2_with fail
      refine (wk_drop H19.out (by omega) (v := 1) (by simp) (by rintro ⟨e, a, b, k, q⟩; simp at k; omega)).mono ?_
      rintro e x20 ⟨rfl, h⟩
      have H20 : Hid (Wk w x20 B 4 3 [2, 3] _ _ [(2, 2, 3)] 10) := h.with (by decide) rfl
      clear h H19
      go_wp2_with fail
      refine (wk_has H20.out 1 (by unfold B64; omega) (t := false) (by decide)).mono ?_
      rintro e x21 ⟨rfl, hb⟩
      have H21 := hid_mk (H20.out.below hb)
      clear hb H20
      go_wp2_with fail
      refine (wk_vertex H21.out (by omega) (r := 1) kn_v1 (by simp) 0 0 (by decide)).mono ?_
      rintro e x22 ⟨rfl, h⟩
      have H22 : Hid (Wk w x22 B 4 3 [2, 3, 1] _ _ [(2, 2, 3)] 11) := h
      clear h H21
      go_wp2_with fail
      refine (wk_insert H22.out (by omega) (r := 1) (a := 1) (b := 2) kn_l1 (by simp) (by simp) (by omega)).mono ?_
      rintro e x23 ⟨rfl, h⟩
      have H23 : Hid (Wk w x23 B 4 3 [2, 3, 1] _ _ [(2, 2, 3), (1, 1, 2)] 12) := h
      clear h H22
      go_wp2_with fail
      refine (wk_vertex H23.out (by omega) (r := 4) kn_v4 (by simp) 1099511627776 1099511627776 (by decide)).mono ?_
      rintro e x24 ⟨rfl, h⟩
      have H24 : Hid (Wk w x24 B 4 3 [2, 3, 1, 4] _ _ [(2, 2, 3), (1, 1, 2)] 13) := h
      clear h H23
      go_wp2_with fail
      refine (wk_full H24.out (by omega) (by simp) 0 0).mono ?_
      rintro e x25 ⟨rfl, hb⟩
      have H25 := hid_mk (H24.out.below hb)
      clear hb H24
      go_wp2_with fail
      refine (wk_more H25.out.bl 1 1 (by decide) (by decide) (by decide)).mono ?_
      rintro e x26 ⟨B2, rfl, hD, hb⟩
      have H26 := hid_mk (H25.out.below hb)
      have D26 := hid_mk hD
      clear hD hb H25
      go_wp2_with fail
      refine (wk_vertex_arg D26.out (by omega) (by simp) (-1) 0 (by decide)).mono ?_
      rintro e x27 ⟨rfl, hb⟩
      have H27 := hid_mk (H26.out.below hb)
      have D27 := hid_mk (D26.out.below hb)
      clear D26
      clear hb H26
      go_wp2_with fail
      refine (wk_vertex_arg D27.out (by omega) (by simp) 0 1099511627777 (by decide)).mono ?_
      rintro e x28 ⟨rfl, hb⟩
      have H28 := hid_mk (H27.out.below hb)
      have D28 := hid_mk (D27.out.below hb)
      clear D27
      clear hb H27
      go_wp2_with fail
      refine (wk_high D28.out).mono ?_
      rintro e x29 ⟨rfl, hb⟩
      have H29 := hid_mk (H28.out.below hb)
      have D29 := hid_mk (D28.out.below hb)
      clear D28
      clear hb H28
      clear D29
      go_wp2_with fail
      refine (lnew_no none 0 _ (by omega)).mono ?_
      rintro e _ ⟨rfl, rfl⟩
      go_wp2_with fail
      refine (lnew_no none 4194305 _ (by omega)).mono ?_
      rintro e _ ⟨rfl, rfl⟩
      go_wp2_with fail
      refine (wk_tree0 H29.out (v := 2) (by simp) kn_t).mono ?_
      rintro e x30 ⟨rfl, hb⟩
      have H30 := hid_mk (H29.out.below hb)
      clear hb H29
      go_wp2_with fail
      refine (wk_tree_none H30.out (v := 9) (by unfold B64; omega) (by simp)).mono ?_
      rintro e x31 ⟨rfl, hb⟩
      have H31 := hid_mk (H30.out.below hb)
      clear hb H30
      go_wp2_with fail
      refine (wk_tree_high H31.out 2 (l := 3) (by omega)).mono ?_
      rintro e x32 ⟨rfl, hb⟩
      have H32 := hid_mk (H31.out.below hb)
      clear hb H31
      have B1 := hid_mk H32.out.bl
      clear H32
      go_wp2_with fail
      refine (wakes10_any _).mono ?_
      rintro e xe ⟨rfl, hb⟩
      have B2 := hid_mk (below_step B1.out hb (Nat.le_refl _))
      clear hb B1
      go_wp2
      go_ret
      exact ⟨rfl, B2.out⟩
end Go.Proofs.YtcbgeahcnjamdabGreat
