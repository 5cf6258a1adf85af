/- Layer 10's statements: wakes. -/
import Derived.Test.YtcbgeahcnjamdabGreatLevLaw
namespace Go.Proofs.YtcbgeahcnjamdabGreat
open Go.RowKit
set_option linter.unusedVariables false

/-- A graph that was made behind a start w, and all that was done since. -/
def Wk (w W : World) (B : Nat) (n : Int) (m : Nat) (V : List Int) (sv lv : Int → Int) (M : List (Int × Int × Int)) (T : Nat) : Prop := ∃ F, Lg F W B n m V sv lv M T ∧ (∀ k, F k → w.heap.size ≤ k) ∧ Below w.heap.size w W
section
variable {w W : World} {B : Nat} {n : Int} {m : Nat} {V : List Int} {sv lv : Int → Int} {M : List (Int × Int × Int)} {T : Nat}
theorem Wk.bl (h : Wk w W B n m V sv lv M T) : Below w.heap.size w W := by obtain ⟨F, _, _, hb⟩ := h; exact hb
theorem Wk.below {W' : World} (h : Wk w W B n m V sv lv M T) (hb : Below W.heap.size W W') : Wk w W' B n m V sv lv M T := by
  obtain ⟨F, h1, h2, h3⟩ := h
  exact ⟨F, h1.below hb, h2, below_step h3 hb (Nat.le_refl _)⟩
theorem Wk.with (h : Wk w W B n m V sv lv M T) {V' : List Int} {M' : List (Int × Int × Int)} (h1 : V = V') (h4 : M = M') : Wk w W B n m V' sv lv M' T := by subst h1 h4; exact h
theorem Wk.next {F F' : Nat → Prop} {W' : World} {V' : List Int} {sv' lv' : Int → Int} {M' : List (Int × Int × Int)} {T' : Nat} (h2 : ∀ k, F k → w.heap.size ≤ k) (h3 : Below w.heap.size w W) (h : Lg F' W' B n m V' sv' lv' M' T') (hs : Step F F' W W') : Wk w W' B n m V' sv' lv' M' T' :=
  ⟨F', h, hs.from h3.size h2, hs.start h3 (Nat.le_refl _) h2⟩
theorem wk_vertex (h : Wk w W B n m V sv lv M T) (hT : T + 1 ≤ 200) {r : Int} (hr : Least (fun t => t ∈ V) r) (hn : (V.length : Int) < n) (s l : Int) (ok : okSL s l = true) :
    Calls Tryz.prog 8 #[.pointer (some ⟨B, 0, none⟩), .int .i64 s, .int .i64 l] W fun e w' => e = .returned (.tuple #[.int .i64 r, .int .i64 0]) ∧ Wk w w' B n m (V ++ [r]) (updI sv r s) (updI lv r l) M (T + 1) := by
  obtain ⟨F, h1, h2, h3⟩ := h
  refine (lg_vertex h1 hT s l).mono fun e w' H => ?_
  rcases H with ⟨a, _⟩ | ⟨_, a, _⟩ | ⟨_, _, r', q0, q1, F', q2, q3⟩
  · omega
  · rw [ok] at a; cases a
  · obtain rfl := Least.one q1 hr
    exact ⟨q0, Wk.next h2 h3 q2 q3⟩
theorem wk_insert (h : Wk w W B n m V sv lv M T) (hT : T + 1 ≤ 200) {r a b : Int} (hr : Least (fun t => ∃ a b, (t, a, b) ∈ M) r) (ha : a ∈ V) (hb : b ∈ V) (hab : a ≠ b) :
    Calls Tryz.prog 10 #[.pointer (some ⟨B, 0, none⟩), .int .i64 a, .int .i64 b] W fun e w' => e = .returned (.tuple #[.int .i64 r, .int .i64 0]) ∧ Wk w w' B n m V sv lv (M ++ [(r, a, b)]) (T + 1) := by
  obtain ⟨F, h1, h2, h3⟩ := h
  refine (lg_insert h1 hT ha hb hab).mono fun e w' H => ?_
  obtain ⟨r', q0, q1, F', q2, q3⟩ := H
  obtain rfl := Least.one q1 hr
  exact ⟨q0, Wk.next h2 h3 q2 q3⟩
theorem wk_delete (h : Wk w W B n m V sv lv M T) (hT : T + 1 ≤ 200) {e a b : Int} (hx : (e, a, b) ∈ M) :
    Calls Tryz.prog 11 #[.pointer (some ⟨B, 0, none⟩), .int .i64 e] W fun r w' => r = .returned (.int .i64 0) ∧ Wk w w' B n m V sv lv (M.filter fun x => decide (x.1 ≠ e)) (T + 1) := by
  obtain ⟨F, h1, h2, h3⟩ := h
  refine (lg_delete h1 hT hx).mono fun e w' H => ?_
  obtain ⟨q0, F', q2, q3⟩ := H
  exact ⟨q0, Wk.next h2 h3 q2 q3⟩
theorem wk_conn (h : Wk w W B n m V sv lv M T) (a b : Int) (ha : B64 a) (hb : B64 b) {t : Bool} (ht : conM M V a b = t) : Calls Tryz.prog 12 #[.pointer (some ⟨B, 0, none⟩), .int .i64 a, .int .i64 b] W fun e w' => e = .returned (.bool t) ∧ Wk w w' B n m V sv lv M T := by
  have h0 := h
  obtain ⟨F, h1, h2, h3⟩ := h
  rw [← ht]
  exact (lg_conn h1 a b ha hb).mono fun e w' H => ⟨H.1, h0.below H.2⟩
theorem wk_size (h : Wk w W B n m V sv lv M T) (v : Int) (hb : B64 v) {t : Int} (ht : ((joinM M V v).length : Int) = t) : Calls Tryz.prog 13 #[.pointer (some ⟨B, 0, none⟩), .int .i64 v] W fun e w' => e = .returned (.int .i64 t) ∧ Wk w w' B n m V sv lv M T := by
  have h0 := h
  obtain ⟨F, h1, h2, h3⟩ := h
  rw [← ht]
  exact (lg_size h1 v hb).mono fun e w' H => ⟨H.1, h0.below H.2⟩
theorem wk_sum (h : Wk w W B n m V sv lv M T) (v : Int) (hb : B64 v) {t : Int} (ht : sumN' sv (joinM M V v) = t) : Calls Tryz.prog 14 #[.pointer (some ⟨B, 0, none⟩), .int .i64 v] W fun e w' => e = .returned (.int .i64 t) ∧ Wk w w' B n m V sv lv M T := by
  have h0 := h
  obtain ⟨F, h1, h2, h3⟩ := h
  rw [← ht]
  exact (lg_sum h1 v hb).mono fun e w' H => ⟨H.1, h0.below H.2⟩
theorem wk_least (h : Wk w W B n m V sv lv M T) (v : Int) (hb : B64 v) {t : Int} (ht : minN' lv (joinM M V v) = t) : Calls Tryz.prog 15 #[.pointer (some ⟨B, 0, none⟩), .int .i64 v] W fun e w' => e = .returned (.int .i64 t) ∧ Wk w w' B n m V sv lv M T := by
  have h0 := h
  obtain ⟨F, h1, h2, h3⟩ := h
  rw [← ht]
  exact (lg_least h1 v hb).mono fun e w' H => ⟨H.1, h0.below H.2⟩
theorem wk_highest (h : Wk w W B n m V sv lv M T) : Calls Tryz.prog 17 #[.pointer (some ⟨B, 0, none⟩)] W fun e w' => e = .returned (.int .i64 ((m : Int) - 1)) ∧ Wk w w' B n m V sv lv M T := by
  have h0 := h
  obtain ⟨F, h1, h2, h3⟩ := h
  exact (lg_highest h1).mono fun e w' H => ⟨H.1, h0.below H.2⟩
end
theorem wk_new (n m : Nat) (w : World) (h0 : 1 ≤ n) (h1 : n ≤ 4194304) (hm : bitLen n = m) : Calls Tryz.prog 7 #[.pointer none, .int .i64 n] w fun e w' => ∃ B, e = .returned (.tuple #[.pointer (some ⟨B, 0, none⟩), .int .i64 0]) ∧ Wk w w' B n m [] n0 n0 [] 0 := by
  refine (lg_new none none n w h0 h1 (.inl ⟨rfl, rfl⟩)).mono fun e w' H => ?_
  obtain ⟨B, F, q0, q1, q2, q3⟩ := H
  rw [hm] at q1
  exact ⟨B, q0, F, q1, fun k hk => (q2 k hk).elim id fun ⟨D, Dg, xs, e, _⟩ => (by cases e), q3⟩
def upto (k : Nat) : List Int := (List.range k).map fun i : Nat => (i : Int) + 1
theorem upto_mem {k : Nat} {t : Int} : t ∈ upto k ↔ 1 ≤ t ∧ t ≤ k := by
  unfold upto
  rw [List.mem_map]
  exact ⟨fun ⟨i, h, e⟩ => by have := List.mem_range.1 h; omega, fun h => ⟨(t - 1).toNat, List.mem_range.2 (by omega), by omega⟩⟩
theorem upto_len (k : Nat) : (upto k).length = k := by simp [upto]
theorem upto_succ (k : Nat) : upto (k + 1) = upto k ++ [(k : Int) + 1] := by simp [upto, List.range_succ]
theorem upto_least (k : Nat) : Least (fun t => t ∈ upto k) ((k : Int) + 1) := ⟨by omega, fun h => by have := upto_mem.1 h; omega, fun t h1 h2 => upto_mem.2 ⟨h1, by omega⟩⟩
/-- The triangle's facts. -/
theorem tri_l0 : Least (fun t : Int => ∃ a b : Int, (t, a, b) ∈ ([] : List (Int × Int × Int))) 1 := by
  refine ⟨by omega, ?_, fun t h1 h2 => ?_⟩
  · rintro ⟨a, b, k⟩
    cases k
  · omega
theorem tri_l1 : Least (fun t : Int => ∃ a b : Int, (t, a, b) ∈ ([(1, 1, 2)] : List (Int × Int × Int))) 2 := by
  refine ⟨by omega, ?_, fun t h1 h2 => ?_⟩
  · rintro ⟨a, b, k⟩
    simp at k
  · obtain rfl : t = 1 := by omega
    exact ⟨1, 2, by simp⟩
theorem tri_l2 : Least (fun t : Int => ∃ a b : Int, (t, a, b) ∈ ([(1, 1, 2), (2, 2, 3)] : List (Int × Int × Int))) 3 := by
  refine ⟨by omega, ?_, fun t h1 h2 => ?_⟩
  · rintro ⟨a, b, k⟩
    simp at k
  · rcases (by omega : t = 1 ∨ t = 2) with rfl | rfl
    · exact ⟨1, 2, by simp⟩
    · exact ⟨2, 3, by simp⟩
theorem tri_j {u : Int} (hu : u ∈ ([1, 2, 3] : List Int)) (v : Int) (hv : v ∈ ([1, 2, 3] : List Int)) : Jn (Am [(2, 2, 3), (3, 3, 1)]) v u := by
  have a1 : Jn (Am [(2, 2, 3), (3, 3, 1)]) 2 3 := Jn.one ⟨2, by simp⟩
  have a2 : Jn (Am [(2, 2, 3), (3, 3, 1)]) 3 1 := Jn.one ⟨3, by simp⟩
  have to3 : ∀ x ∈ ([1, 2, 3] : List Int), Jn (Am [(2, 2, 3), (3, 3, 1)]) x 3 := fun x hx => by
    simp at hx
    rcases hx with rfl | rfl | rfl
    · exact a2.symm
    · exact a1
    · exact .refl _
  exact (to3 v hv).trans (to3 u hu).symm
theorem tri_join (v : Int) (hv : v ∈ ([1, 2, 3] : List Int)) : joinM [(2, 2, 3), (3, 3, 1)] [1, 2, 3] v = [1, 2, 3] := by
  unfold joinM
  rw [if_pos hv]
  exact List.filter_eq_self.2 fun u hu => @decide_eq_true _ (Classical.propDecidable _) (tri_j hu v hv)
theorem tri_con : conM [(2, 2, 3), (3, 3, 1)] [1, 2, 3] 1 2 = true := conM_iff.2 ⟨by simp, by simp, tri_j (by simp) 1 (by simp)⟩
theorem tri_cut : conM [(2, 2, 3)] [1, 2, 3] 1 2 = false := by
  rw [Bool.eq_false_iff]
  intro k
  have := (conM_iff.1 k).2.2.closed (S := fun v => v = 1) (fun a b ⟨e, h⟩ => by
    simp at h
    obtain ⟨_, rfl, rfl⟩ := h
    simp)
  have := this rfl
  omega
theorem tri_sum {sv : Int → Int} (h : ∀ v ∈ upto 3, sv v = v) : sumN' sv [1, 2, 3] = 6 := by
  unfold sumN'
  rw [if_neg (by simp)]
  simp only [sumL]
  rw [h 1 (upto_mem.2 (by omega)), h 2 (upto_mem.2 (by omega)), h 3 (upto_mem.2 (by omega))]
  exact (wr_id (by omega) (by omega)).trans (by omega)
theorem tri_min {lv : Int → Int} (h : ∀ v ∈ upto 3, lv v = v) : minN' lv [1, 2, 3] = 1 := by
  unfold minN'
  rw [if_neg (by simp)]
  simp only [minL]
  rw [h 1 (upto_mem.2 (by omega)), h 2 (upto_mem.2 (by omega)), h 3 (upto_mem.2 (by omega))]
  decide
theorem upto3 : upto 3 = [1, 2, 3] := rfl
theorem tri_sum' {sv : Int → Int} (h : ∀ v ∈ upto 3, sv v = v) (v : Int) (hv : v ∈ ([1, 2, 3] : List Int)) : sumN' sv (joinM [(2, 2, 3), (3, 3, 1)] [1, 2, 3] v) = 6 := by rw [tri_join v hv]; exact tri_sum h
theorem tri_min' {sv : Int → Int} (h : ∀ v ∈ upto 3, sv v = v) (v : Int) (hv : v ∈ ([1, 2, 3] : List Int)) : minN' sv (joinM [(2, 2, 3), (3, 3, 1)] [1, 2, 3] v) = 1 := by rw [tri_join v hv]; exact tri_min h
set_option maxRecDepth 100000 in
set_option maxHeartbeats 3200000 in
theorem wakes10_any (w : World) : Calls Tryz.prog 5 #[] w fun e w' => e = .returned (.bool true) ∧ Below w.heap.size w w' := by
  have HN := hid_mk (wk_new 4 3 w (by decide) (by decide) (by decide))
  go_enter Tryz.func5, Tryz.ntmps5
  go_wp2_with fail
  refine HN.out.mono ?_
  rintro e w1 ⟨B, rfl, hL⟩
  have L1 := hid_mk hL
  clear hL HN
  go_wp2
  go_loopw [3] (fun v wr => ∃ k : Nat, k ≤ 3 ∧ v = .int .i64 ((k : Int) + 1) ∧ Hid (∃ V sv lv, Wk w wr B 4 3 V sv lv [] k ∧ V = upto k ∧ ∀ v ∈ V, sv v = v ∧ lv v = v)) (fun v _ => 4 - (intOf v).toNat)
  case atStart => exact ⟨0, by omega, rfl, ⟨_, _, _, L1.out, rfl, fun v k => by cases k⟩⟩
  case round =>
    clear L1
    obtain ⟨k, hk, rfl, HX⟩ := hrel
    by_cases hlt : k < 3
    · have hlt' : (k : Int) + 1 < 4 := by omega
      obtain ⟨V, sv, lv, h1, h2, h3⟩ := HX.out
      subst h2
      have HV : Hid (Calls Tryz.prog 8 #[.pointer (some ⟨B, 0, none⟩), .int .i64 ((k : Int) + 1), .int .i64 ((k : Int) + 1)] wr fun e w' => e = .returned (.tuple #[.int .i64 ((k : Int) + 1), .int .i64 0]) ∧ ∃ V sv lv, Wk w w' B 4 3 V sv lv [] (k + 1) ∧ V = upto (k + 1) ∧ ∀ v ∈ V, sv v = v ∧ lv v = v) := by
        refine (wk_vertex h1 (by omega) (upto_least k) (by rw [upto_len]; omega) ((k : Int) + 1) ((k : Int) + 1) (by unfold okSL; rw [decide_eq_true_iff]; omega)).mono fun e w' H => ⟨H.1, _, _, _, H.2, (upto_succ k).symm, fun v hv => ?_⟩
        by_cases e : v = (k : Int) + 1
        · subst e; rw [updI_at, updI_at]; exact ⟨rfl, rfl⟩
        · rw [updI_ne e, updI_ne e]
          rcases List.mem_append.1 hv with q | q
          · exact h3 v q
          · exact absurd (List.mem_singleton.1 q) e
      clear h1 h3 HX
      go_wp2_with fail
      refine HV.out.mono ?_
      rintro e w2 ⟨rfl, h4⟩
      have H4 := hid_mk h4
      clear h4 HV
      go_wp2
      go_roundw
      case rel => exact ⟨k + 1, by omega, by go_num, H4⟩
      case measure => simp [intOf]; omega
    · obtain rfl : k = 3 := by omega
      obtain ⟨V, sv, lv, h1, h2, h3⟩ := HX.out
      subst h2
      have S1 := hid_mk (fun v hv => (h3 v hv).1)
      have S2 := hid_mk (fun v hv => (h3 v hv).2)
      have H1 : Hid (Wk w wr B 4 3 [1, 2, 3] sv lv [] 3) := h1
      clear h1 h3 HX
      go_wp2_with fail
      refine (wk_insert H1.out (by omega) (r := 1) tri_l0 (by simp) (by simp) (by omega)).mono ?_
      rintro e w2 ⟨rfl, h⟩
      have H2 : Hid (Wk w w2 B 4 3 [1, 2, 3] sv lv [(1, 1, 2)] 4) := h
      clear h H1
      go_wp2_with fail
      refine (wk_insert H2.out (by omega) (r := 2) tri_l1 (by simp) (by simp) (by omega)).mono ?_
      rintro e w3 ⟨rfl, h⟩
      have H3 : Hid (Wk w w3 B 4 3 [1, 2, 3] sv lv [(1, 1, 2), (2, 2, 3)] 5) := h
      clear h H2
      go_wp2_with fail
      refine (wk_insert H3.out (by omega) (r := 3) tri_l2 (by simp) (by simp) (by omega)).mono ?_
      rintro e w4 ⟨rfl, h⟩
      have H4 : Hid (Wk w w4 B 4 3 [1, 2, 3] sv lv [(1, 1, 2), (2, 2, 3), (3, 3, 1)] 6) := h
      clear h H3
      go_wp2_with fail
      refine (wk_delete H4.out (by omega) (e := 1) (a := 1) (b := 2) (by simp)).mono ?_
      rintro e w5 ⟨rfl, h⟩
      have H5 : Hid (Wk w w5 B 4 3 [1, 2, 3] sv lv [(2, 2, 3), (3, 3, 1)] 7) := h.with rfl (by decide)
      clear h H4
      go_wp2_with fail
      refine (wk_conn H5.out 1 2 (by unfold B64; omega) (by unfold B64; omega) tri_con).mono ?_
      rintro e w6 ⟨rfl, h⟩
      have H6 := hid_mk h
      clear h H5
      go_wp2_with fail
      refine (wk_size H6.out 1 (by unfold B64; omega) (t := 3) (by rw [tri_join 1 (by simp)]; rfl)).mono ?_
      rintro e w7 ⟨rfl, h⟩
      have H7 := hid_mk h
      clear h H6
      go_wp2_with fail
      refine (wk_sum H7.out 1 (by unfold B64; omega) (tri_sum' S1.out 1 (by simp))).mono ?_
      rintro e w8 ⟨rfl, h⟩
      have H8 := hid_mk h
      clear h H7
      go_wp2_with fail
      refine (wk_least H8.out 3 (by unfold B64; omega) (tri_min' S2.out 3 (by simp))).mono ?_
      rintro e w9 ⟨rfl, h⟩
      have H9 := hid_mk h
      clear h H8
      go_wp2_with fail
      refine (wk_delete H9.out (by omega) (e := 3) (a := 3) (b := 1) (by simp)).mono ?_
      rintro e w10 ⟨rfl, h⟩
      have H10 : Hid (Wk w w10 B 4 3 [1, 2, 3] sv lv [(2, 2, 3)] 8) := h.with rfl (by decide)
      clear h H9
      go_wp2_with fail
      refine (wk_conn H10.out 1 2 (by unfold B64; omega) (by unfold B64; omega) tri_cut).mono ?_
      rintro e w11 ⟨rfl, h⟩
      have H11 := hid_mk h
      clear h H10
      go_wp2_with fail
      refine (wk_highest H11.out).mono ?_
      rintro e w12 ⟨rfl, h⟩
      have H12 := hid_mk h.bl
      clear h H11
      go_wp2
      go_ret
      exact ⟨rfl, H12.out⟩
end Go.Proofs.YtcbgeahcnjamdabGreat
