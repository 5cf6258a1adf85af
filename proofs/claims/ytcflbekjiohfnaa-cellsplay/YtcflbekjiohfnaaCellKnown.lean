/- The walk of CellsKnown. -/
import Derived.Test.YtcflbekjiohfnaaCellNobody
namespace Go.Proofs.Ytcflbekjiohfnaa
open Go.RowKit
set_option linter.unusedVariables false

theorem eRow_size : ∀ es : List Ed, (eRow es).size = es.length * 2
  | [] => rfl
  | e :: es => by
    have := eRow_size es
    unfold eRow at *
    simp only [List.flatMap_cons, List.size_toArray, List.length_append, List.length_cons, List.length_nil] at *
    omega
theorem eRow_ext {C : Array Value} {es : List Ed} (hs : C.size = es.length * 2) (h : ∀ i, i < es.length → C[i * 2]? = some (.int .i64 (eAt es i).1) ∧ C[i * 2 + 1]? = some (.int .i64 (eAt es i).2)) : C = eRow es := by
  apply Array.ext
  · rw [hs, eRow_size]
  · intro j h1 h2
    have hj : j / 2 < es.length := by omega
    have e1 := h (j / 2) hj
    have e2 := eRow_at es (j / 2) hj
    have h3 : C[j]? = (eRow es)[j]? := by
      rcases (show j = j / 2 * 2 ∨ j = j / 2 * 2 + 1 by omega) with h' | h'
      · rw [h', e1.1, e2.1]
      · rw [h', e1.2, e2.2]
    rw [Array.getElem?_eq_getElem h1, Array.getElem?_eq_getElem h2] at h3
    exact Option.some.inj h3
theorem eAt_set {es : List Ed} {i j : Nat} {x : Ed} (hj : j < es.length) : eAt (es.set i x) j = if i = j then x else eAt es j := by
  rw [eAt_eq (by simpa using hj), List.getElem_set, eAt_eq hj]
theorem eRow_set1 {es : List Ed} {i : Nat} (hi : i < es.length) (c : Int) : (eRow es).setIfInBounds (i * 2) (.int .i64 c) = eRow (es.set i (c, (eAt es i).2)) := by
  refine eRow_ext (by simp [eRow_size]) (fun j hj => ?_)
  have hj' : j < es.length := by simpa using hj
  obtain ⟨e1, e2⟩ := eRow_at es j hj'
  have hs := eRow_size es
  rw [eAt_set hj', Array.getElem?_setIfInBounds, Array.getElem?_setIfInBounds]
  by_cases h : i = j
  · subst h
    rw [if_pos rfl, if_pos rfl, if_pos (by omega), if_neg (by omega)]
    exact ⟨rfl, e2⟩
  · rw [if_neg h, if_neg (by omega), if_neg (by omega)]
    exact ⟨e1, e2⟩
theorem eRow_set2 {es : List Ed} {i : Nat} (hi : i < es.length) (c : Int) : (eRow es).setIfInBounds (i * 2 + 1) (.int .i64 c) = eRow (es.set i ((eAt es i).1, c)) := by
  refine eRow_ext (by simp [eRow_size]) (fun j hj => ?_)
  have hj' : j < es.length := by simpa using hj
  obtain ⟨e1, e2⟩ := eRow_at es j hj'
  have hs := eRow_size es
  rw [eAt_set hj', Array.getElem?_setIfInBounds, Array.getElem?_setIfInBounds]
  by_cases h : i = j
  · subst h
    rw [if_pos rfl, if_neg (by omega), if_pos rfl, if_pos (by omega)]
    exact ⟨e1, rfl⟩
  · rw [if_neg h, if_neg (by omega), if_neg (by omega)]
    exact ⟨e1, e2⟩
theorem eAt_rep {m i : Nat} (h : i < m) : eAt (List.replicate m (0, 0)) i = (0, 0) := by rw [eAt_eq (by simpa using h)]; simp
theorem Try.infoE : (Try.prog.info? 36).map (fun i => (i.zero, i.size, i.bytes)) = some (some (.agg #[.int .i64 0, .int .i64 0]), 2, 16) := by kernel_rfl
/-- make([]api.Edit, n). -/
theorem make_edits (m : Nat) (hm : m ≤ 4194304) (w : World) : (Instr.makeSlice 37 (.int .i64 m) (.int .i64 m)).run Try.prog w = .ok (.slice (some ⟨w.heap.size, 0, none⟩) m m) (w.alloc (.cells (eRow (List.replicate m (0, 0))) 36)) := by
  obtain ⟨i0, hi, hz0, hz1, hz2⟩ := info_parts Try.infoE
  have h := run_make (P := Try.prog) w 37 36 i0 (.agg #[.int .i64 0, .int .i64 0]) Try.underlying37 hi hz0 .i64 .i64 m m (by omega) (by omega) (by rw [hz2]; omega) (by omega)
  rw [h, hz1]
  simp only [Int.toNat_natCast]
  have hz : ∀ k : Nat, k < 2 → (#[.int .i64 0, .int .i64 0] : Array Value)[k]! = .int .i64 0 := fun k hk => by
    match k, hk with
    | 0, _ | 1, _ => rfl
  have hC : madeCells (#[.int .i64 0, .int .i64 0] : Array Value) (m * 2) = eRow (List.replicate m (0, 0)) := by
    refine eRow_ext (by simp [madeCells]) (fun i hi' => ?_)
    have hi2 : i < m := by simpa using hi'
    rw [eAt_rep hi2]
    have hj : ∀ j, j < m * 2 → (madeCells (#[.int .i64 0, .int .i64 0] : Array Value) (m * 2))[j]? = some (.int .i64 0) := fun j hj => by
      unfold madeCells
      rw [Array.getElem?_map, Array.getElem?_eq_getElem (by simpa using hj)]
      simp only [Array.getElem_range, Option.map_some]
      exact congrArg some (hz (j % 2) (Nat.mod_lt _ (by decide)))
    exact ⟨hj _ (by omega), hj _ (by omega)⟩
  rw [← hC]
  rfl

theorem errB_ok {nk nc : Int} {es : List Ed} (h1 : ∀ e ∈ es, 0 ≤ e.2 ∧ e.2 < nk) (h2 : ∀ e ∈ es, 0 ≤ e.1 ∧ e.1 < nc) : errB nk nc es = if 65536 < es.length then 9 else 0 := by
  rw [errB_eq, if_neg (by simp only [List.any_eq_true, not_exists, not_and]; intro e he; rw [hasN_iff.2 (h1 e he)]; simp), if_neg (by simp only [List.any_eq_true, not_exists, not_and]; intro e he; rw [hasN_iff.2 (h2 e he)]; simp)]
theorem errB_six {nk nc : Int} {es : List Ed} (h1 : ∀ e ∈ es, 0 ≤ e.2 ∧ e.2 < nk) {e0 : Ed} (h0 : e0 ∈ es) (h2 : hasN nc e0.1 = false) : errB nk nc es = 6 := by
  rw [errB_eq, if_neg (by simp only [List.any_eq_true, not_exists, not_and]; intro e he; rw [hasN_iff.2 (h1 e he)]; simp), if_pos (List.any_eq_true.2 ⟨e0, h0, by rw [h2]; rfl⟩)]
theorem errB_seven {nk nc : Int} {es : List Ed} {e0 : Ed} (h0 : e0 ∈ es) (h2 : hasN nk e0.2 = false) : errB nk nc es = 7 := by
  rw [errB_eq, if_pos (List.any_eq_true.2 ⟨e0, h0, by rw [h2]; rfl⟩)]

def zE (m : Nat) : List Ed := List.replicate m (0, 0)
def lg1 : List Ed := (zE 65537).set 0 (-1, 0)
def lg2 : List Ed := lg1.set 9 (0, 2)
theorem zE_len (m : Nat) : (zE m).length = m := by simp [zE]
theorem zE_mem {m : Nat} {e : Ed} (h : e ∈ zE m) : e = (0, 0) := List.eq_of_mem_replicate h
theorem lg1_len : lg1.length = 65537 := by unfold lg1; rw [List.length_set, zE_len]
theorem lg2_len : lg2.length = 65537 := by unfold lg2; rw [List.length_set, lg1_len]
theorem lg1_mem {e : Ed} (h : e ∈ lg1) : e = (0, 0) ∨ e = (-1, 0) := (List.mem_or_eq_of_mem_set h).imp zE_mem id
theorem kn_z0 : errB twoL.length 12 (zE 65536) = 0 := by
  rw [errB_ok (fun e he => by rw [zE_mem he]; decide) (fun e he => by rw [zE_mem he]; decide), zE_len]; rfl
theorem kn_z9 : errB twoL.length 12 (zE 65537) = 9 := by
  rw [errB_ok (fun e he => by rw [zE_mem he]; decide) (fun e he => by rw [zE_mem he]; decide), zE_len]; rfl
theorem kn_l6 : errB twoL.length 12 lg1 = 6 :=
  errB_six (fun e he => by rcases lg1_mem he with rfl | rfl <;> decide) (e0 := (-1, 0)) (by unfold lg1; exact List.mem_set (by rw [zE_len]; omega) _) (by decide)
theorem kn_l7 : errB twoL.length 12 lg2 = 7 :=
  errB_seven (e0 := (0, 2)) (by unfold lg2; exact List.mem_set (by rw [lg1_len]; omega) _) (by decide)
theorem lg1_row : (eRow (zE 65537)).setIfInBounds 0 (.int .i64 (-1)) = eRow lg1 := by
  have := eRow_set1 (es := zE 65537) (i := 0) (by rw [zE_len]; omega) (-1)
  rw [show eAt (zE 65537) 0 = (0, 0) from eAt_rep (by omega)] at this
  exact this
theorem lg2_row : (eRow lg1).setIfInBounds 19 (.int .i64 2) = eRow lg2 := by
  have h1 : eAt lg1 9 = (0, 0) := by unfold lg1; rw [eAt_set (by rw [zE_len]; omega), if_neg (by omega)]; exact eAt_rep (by omega)
  have := eRow_set2 (es := lg1) (i := 9) (by rw [lg1_len]; omega) 2
  rw [h1] at this
  exact this

def knE : List Ed := [(0, 1), (12, 1)]
theorem kn1 : errS twoL.length aw1.length 5 1 = 0 ∧ setL twoL.length aw1 5 1 = aw1 ∧ diffs aw1 aw1 = [] := by decide +kernel
theorem kn2 : errS twoL.length aw1.length 12 1 = 6 ∧ setL twoL.length aw1 12 1 = aw1 := by decide +kernel
theorem kn3 : errS twoL.length aw1.length 5 2 = 7 ∧ setL twoL.length aw1 5 2 = aw1 := by decide +kernel
theorem kn4 : errS twoL.length aw1.length 12 2 = 7 ∧ setL twoL.length aw1 12 2 = aw1 := by decide +kernel
theorem kn5 : errF twoL.length 4 3 3 0 2 1 1 = 6 ∧ fillL twoL.length 4 3 aw1 3 0 2 1 1 = aw1 := by decide +kernel
theorem kn6 : errF twoL.length 4 3 0 0 0 1 1 = 6 ∧ fillL twoL.length 4 3 aw1 0 0 0 1 1 = aw1 := by decide +kernel
theorem kn7 : errB twoL.length aw1.length knE = 6 ∧ batL twoL.length aw1 knE = aw1 := by decide +kernel
theorem kn8 : getN aw1 0 = 0 ∧ hasN aw1.length 0 = true ∧ aw1.length = 12 := by decide +kernel

set_option maxRecDepth 100000 in
set_option maxHeartbeats 4000000 in
theorem known_walk (w : World) : Calls Try.prog 3 #[] w fun e w' => e = .returned (.bool true) ∧ Below w.heap.size w w' := by
  go_enter Try.func3, Try.ntmps3
  go_wp2_with fail
  refine (two_any _).mono ?_
  rintro e w0 ⟨rfl, hw0⟩
  have hb0 : Below w.heap.size w w0 := by rw [hw0]; exact (Below.refl _ _).alloc (Nat.le_refl _) _
  have hk0 : KAt w0 (some ⟨w.heap.size, 0, none⟩) twoL := by rw [hw0]; exact two_at w
  have HK0 : Hid (KAt w0 (some ⟨w.heap.size, 0, none⟩) twoL) := hk0
  clear hw0 hk0
  go_wp2_with fail
  refine (made_yes 4 3 _ 2 2 twoL 1 w0 rfl HK0.out twoL_wk aw_made).mono ?_
  rintro e w1 ⟨F, B, K, T, rfl, hB0, hK0, hO1, hF, hb1⟩
  have O1 : Hid (Own w1 F B K T 4 3 twoL 1 aw0) := hO1
  have hKw : w.heap.size ≤ K := Nat.le_trans hb0.size hK0
  have U1 : But w.heap.size K w w1 := Below.but K (below_step hb0 hb1 (Nat.le_refl _))
  clear hO1 hF hb1 hb0 hB0 hK0 HK0
  go_wp2_with fail
  refine (set_any O1.out 5 1).mono ?_
  rintro e w2 ⟨va, rfl, hI, hO, hU⟩
  rw [aw_e1]
  have O2 : Hid (Own w2 F B K T 4 3 twoL 1 aw1) := hO
  have U2 := U1.step hU (Nat.le_refl _)
  clear hI hO hU O1 U1
  go_wp2_with fail
  refine (set_any O2.out 5 1).mono ?_
  rintro e w3 ⟨vb, rfl, hI, hO, hU⟩
  rw [kn1.1]
  rw [kn1.2.1, kn1.2.2] at hI
  rw [kn1.2.1] at hO
  have O3 : Hid (Own w3 F B K T 4 3 twoL 1 aw1) := hO
  have U3 := U2.step hU (Nat.le_refl _)
  obtain ⟨ab, cb, hvb, _⟩ := hI.form
  rw [show ([] : List Int).length = 0 from rfl] at hvb
  subst hvb
  clear hI hO hU O2 U2
  go_wp2_with fail
  refine (set_any O3.out 12 1).mono ?_
  rintro e w4 ⟨vc, rfl, hI, hO, hU⟩
  rw [kn2.1]
  rw [kn2.2] at hO
  have O4 : Hid (Own w4 F B K T 4 3 twoL 1 aw1) := hO
  have U4 := U3.step hU (Nat.le_refl _)
  clear hI hO hU O3 U3
  go_wp2_with fail
  refine (set_any O4.out 5 2).mono ?_
  rintro e w5 ⟨vd, rfl, hI, hO, hU⟩
  rw [kn3.1]
  rw [kn3.2] at hO
  have O5 : Hid (Own w5 F B K T 4 3 twoL 1 aw1) := hO
  have U5 := U4.step hU (Nat.le_refl _)
  clear hI hO hU O4 U4
  go_wp2_with fail
  refine (set_any O5.out 12 2).mono ?_
  rintro e w6 ⟨ve, rfl, hI, hO, hU⟩
  rw [kn4.1]
  rw [kn4.2] at hO
  have O6 : Hid (Own w6 F B K T 4 3 twoL 1 aw1) := hO
  have U6 := U5.step hU (Nat.le_refl _)
  clear hI hO hU O5 U5
  go_wp2_with fail
  refine (fill_any O6.out 3 0 2 1 1).mono ?_
  rintro e w7 ⟨vf, rfl, hI, hO, hU⟩
  rw [kn5.1]
  rw [kn5.2] at hO
  have O7 : Hid (Own w7 F B K T 4 3 twoL 1 aw1) := hO
  have U7 := U6.step hU (Nat.le_refl _)
  clear hI hO hU O6 U6
  go_wp2_with fail
  refine (fill_any O7.out 0 0 0 1 1).mono ?_
  rintro e w8 ⟨vg, rfl, hI, hO, hU⟩
  rw [kn6.1]
  rw [kn6.2] at hO
  have O8 : Hid (Own w8 F B K T 4 3 twoL 1 aw1) := hO
  have U8 := U7.step hU (Nat.le_refl _)
  have hK8 : K < w8.heap.size := hO.row.lt
  clear hI hO hU O7 U7
  have A8 : Below w8.heap.size w8 (w8.alloc (.cells #[.int .i64 0, .int .i64 1, .int .i64 12, .int .i64 1] 36)) := (Below.refl _ _).alloc (Nat.le_refl _) _
  have HE8 : Hid (EAt (w8.alloc (.cells #[.int .i64 0, .int .i64 1, .int .i64 12, .int .i64 1] 36)) (some ⟨w8.heap.size, 0, none⟩) knE) := EAt.blk (t := 36) (Blk.new w8 36 (eRow knE))
  go_wp2_with fail
  refine (batch_any (O8.out.below A8) _ 2 2 knE rfl (by omega) HE8.out (.inr (fun a ha => by cases ha; show w8.heap.size ≠ K; omega))).mono ?_
  rintro e w9 ⟨vh, rfl, hI, hO, hU⟩
  rw [kn7.1]
  rw [kn7.2] at hO
  have O9 : Hid (Own w9 F B K T 4 3 twoL 1 aw1) := hO
  have U9 := (U8.step (Below.but K A8) (Nat.le_refl _)).step hU (Nat.le_refl _)
  have hK9 : K < w9.heap.size := hO.row.lt
  clear hI hO hU O8 U8 A8 HE8
  go_wp2_with fail
  refine (get_any O9.out.gv 0).mono ?_
  rintro e w10 ⟨rfl, rfl⟩
  rw [kn8.1, kn8.2.1]
  have hmk0 : (Instr.makeSlice 37 (.int .i64 65536) (.int .i64 65536)).run Try.prog w10 = .ok (.slice (some ⟨w10.heap.size, 0, none⟩) 65536 65536) (w10.alloc (.cells (eRow (zE 65536)) 36)) := make_edits 65536 (by omega) w10
  have A10 : Below w10.heap.size w10 (w10.alloc (.cells (eRow (zE 65536)) 36)) := (Below.refl _ _).alloc (Nat.le_refl _) _
  have HE10 : Hid (EAt (w10.alloc (.cells (eRow (zE 65536)) 36)) (some ⟨w10.heap.size, 0, none⟩) (zE 65536)) := EAt.blk (t := 36) (Blk.new w10 36 _)
  generalize eRow (zE 65536) = C0 at *
  go_wp2_with fail
  refine (batch_any (O9.out.below A10) _ 65536 65536 (zE 65536) (zE_len _) (by omega) HE10.out (.inr (fun a ha => by cases ha; show w10.heap.size ≠ K; omega))).mono ?_
  rintro e w11 ⟨vi, rfl, hI, hO, hU⟩
  rw [show errB (twoL.length : Int) (aw1.length : Int) (zE 65536) = 0 from by rw [kn8.2.2]; exact kn_z0]
  have hL11 : (batL twoL.length aw1 (zE 65536)).length = 12 := by rw [batL_len, kn8.2.2]
  generalize batL twoL.length aw1 (zE 65536) = L11 at *
  have O11 : Hid (Own w11 F B K T 4 3 twoL 1 L11) := hO
  have HL11 : Hid (L11.length = 12) := hL11
  have U11 := (U9.step (Below.but K A10) (Nat.le_refl _)).step hU (Nat.le_refl _)
  have hK11 : K < w11.heap.size := hO.row.lt
  clear hI hO hU O9 U9 A10 HE10 hmk0 C0 hL11
  have hmk1 : (Instr.makeSlice 37 (.int .i64 65537) (.int .i64 65537)).run Try.prog w11 = .ok (.slice (some ⟨w11.heap.size, 0, none⟩) 65537 65537) (w11.alloc (.cells (eRow (zE 65537)) 36)) := make_edits 65537 (by omega) w11
  have A11 : Below w11.heap.size w11 (w11.alloc (.cells (eRow (zE 65537)) 36)) := (Below.refl _ _).alloc (Nat.le_refl _) _
  have HE11 : Hid (EAt (w11.alloc (.cells (eRow (zE 65537)) 36)) (some ⟨w11.heap.size, 0, none⟩) (zE 65537)) := EAt.blk (t := 36) (Blk.new w11 36 _)
  generalize eRow (zE 65537) = C1 at *
  go_wp2_with fail
  refine (batch_any (O11.out.below A11) _ 65537 65537 (zE 65537) (zE_len _) (by omega) HE11.out (.inr (fun a ha => by cases ha; show w11.heap.size ≠ K; omega))).mono ?_
  rintro e w12 ⟨vj, rfl, hI, hO, hU⟩
  rw [show errB (twoL.length : Int) (L11.length : Int) (zE 65537) = 9 from by rw [HL11.out]; exact kn_z9]
  have hL12 : (batL twoL.length L11 (zE 65537)).length = 12 := by rw [batL_len, HL11.out]
  generalize batL twoL.length L11 (zE 65537) = L12 at *
  have O12 : Hid (Own w12 F B K T 4 3 twoL 1 L12) := hO
  have HL12 : Hid (L12.length = 12) := hL12
  have U12 := (U11.step (Below.but K A11) (Nat.le_refl _)).step hU (Nat.le_refl _)
  have hK12 : K < w12.heap.size := hO.row.lt
  clear hI hO hU O11 U11 A11 HE11 hmk1 C1 hL12
  have hmk2 : (Instr.makeSlice 37 (.int .i64 65537) (.int .i64 65537)).run Try.prog w12 = .ok (.slice (some ⟨w12.heap.size, 0, none⟩) 65537 65537) (w12.alloc (.cells (eRow (zE 65537)) 36)) := make_edits 65537 (by omega) w12
  obtain ⟨X, hX⟩ : ∃ X, X = w12.alloc (.cells (eRow (zE 65537)) 36) := ⟨_, rfl⟩
  have hXb : Below w12.heap.size w12 X := by rw [hX]; exact (Below.refl _ _).alloc (Nat.le_refl _) _
  have hXB : Blk X w12.heap.size 36 (eRow (zE 65537)) := by rw [hX]; exact Blk.new _ _ _
  rw [← hX] at hmk2
  have x0 : X.cell? ⟨w12.heap.size, 0, none⟩ = some (.int .i64 0) := by
    have := hXB.at (eRow_at (zE 65537) 0 (by rw [zE_len]; omega)).1
    rw [show eAt (zE 65537) 0 = (0, 0) from eAt_rep (by omega)] at this
    exact this
  have xf : X.frozen? ⟨w12.heap.size, 0, none⟩ = false := hXB.frozen 0
  have OX : Hid (Own X F B K T 4 3 twoL 1 L12) := O12.out.below hXb
  have HXB : Hid (Blk X w12.heap.size 36 (eRow (zE 65537))) := hXB
  obtain ⟨G, hG⟩ : ∃ G, G = w12.heap.size := ⟨_, rfl⟩
  have UX := U12.step (Below.but K hXb) (Nat.le_refl _)
  have hGK : G ≠ K := by omega
  have hGs : w.heap.size ≤ G := by have := U12.size; omega
  rw [← hG] at hmk2 x0 xf HXB
  have hBG : G ≠ B := by have := O12.out.blk.lt; omega
  have hFG : ¬ F G := fun hh => by have := O12.out.fb G hh; omega
  have hGX : G < X.heap.size := HXB.out.lt
  have V1 : But X.heap.size G X (X.setCell ⟨G, 0, none⟩ (.int .i64 (-1))) := (But.refl _ _ _).set 0 _
  have O13 : Hid (Own (X.setCell ⟨G, 0, none⟩ (.int .i64 (-1))) F B K T 4 3 twoL 1 L12) := OX.out.but V1 hBG hGK hFG
  have HB13 : Hid (Blk (X.setCell ⟨G, 0, none⟩ (.int .i64 (-1))) G 36 (eRow lg1)) := by
    have := HXB.out.setAt 0 (.int .i64 (-1))
    rw [lg1_row] at this
    exact this
  have U13 : But w.heap.size K w (X.setCell ⟨G, 0, none⟩ (.int .i64 (-1))) := UX.trans (Below.but K ((Below.refl _ X).setCell hGs _))
  clear hX hXb hXB O12 U12 UX V1 OX hG
  go_wp2_with fail
  refine (batch_any O13.out _ 65537 65537 lg1 lg1_len (by omega) (EAt.blk HB13.out) (.inr (fun a ha => by cases ha; exact hGK))).mono ?_
  rintro e w14 ⟨vk, rfl, hI, hO, hU⟩
  rw [show errB (twoL.length : Int) (L12.length : Int) lg1 = 6 from by rw [HL12.out]; exact kn_l6]
  have hL14 : (batL twoL.length L12 lg1).length = 12 := by rw [batL_len, HL12.out]
  generalize batL twoL.length L12 lg1 = L14 at *
  have O14 : Hid (Own w14 F B K T 4 3 twoL 1 L14) := hO
  have HL14 : Hid (L14.length = 12) := hL14
  have U14 := U13.step hU (Nat.le_refl _)
  have hB14 : Blk w14 G 36 (eRow lg1) := HB13.out.but hU HB13.out.lt hGK
  have HB14 : Hid (Blk w14 G 36 (eRow lg1)) := hB14
  have y0 : w14.cell? ⟨G, 19, none⟩ = some (.int .i64 0) := by
    have := hB14.at (eRow_at lg1 9 (by rw [lg1_len]; omega)).2
    rw [show eAt lg1 9 = (0, 0) from by unfold lg1; rw [eAt_set (by rw [zE_len]; omega), if_neg (by omega)]; exact eAt_rep (by omega)] at this
    exact this
  have yf : w14.frozen? ⟨G, 19, none⟩ = false := hB14.frozen 19
  have V2 : But w14.heap.size G w14 (w14.setCell ⟨G, 19, none⟩ (.int .i64 2)) := (But.refl _ _ _).set 19 _
  have O15 : Hid (Own (w14.setCell ⟨G, 19, none⟩ (.int .i64 2)) F B K T 4 3 twoL 1 L14) := O14.out.but V2 hBG hGK hFG
  have HB15 : Hid (Blk (w14.setCell ⟨G, 19, none⟩ (.int .i64 2)) G 36 (eRow lg2)) := by
    have := hB14.setAt 19 (.int .i64 2)
    rw [lg2_row] at this
    exact this
  have U15 : But w.heap.size K w (w14.setCell ⟨G, 19, none⟩ (.int .i64 2)) := U14.trans (Below.but K ((Below.refl _ w14).setCell hGs _))
  clear hI hO hU O13 U13 HB13 hB14 V2 O14 U14 hL14 x0 xf hmk2
  go_wp2_with fail
  refine (batch_any O15.out _ 65537 65537 lg2 lg2_len (by omega) (EAt.blk HB15.out) (.inr (fun a ha => by cases ha; exact hGK))).mono ?_
  rintro e w16 ⟨vl, rfl, hI, hO, hU⟩
  rw [show errB (twoL.length : Int) (L14.length : Int) lg2 = 7 from by rw [HL14.out]; exact kn_l7]
  have U16 := U15.step hU (Nat.le_refl _)
  clear hI hO hU O15 U15 HB15
  go_wp2_with fail
  refine (awake_any _).mono ?_
  rintro e w17 ⟨rfl, hb17⟩
  go_wp2
  go_ret
  exact ⟨rfl, below_step (U16.below hKw) hb17 (Nat.le_refl _)⟩
end Go.Proofs.Ytcflbekjiohfnaa
