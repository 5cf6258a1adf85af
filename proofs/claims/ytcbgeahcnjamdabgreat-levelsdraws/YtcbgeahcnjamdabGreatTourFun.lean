/- Layer 7 (tour): the contracts of its own small functions. -/
import Derived.Test.YtcbgeahcnjamdabGreatTourBase
import Derived.Deep.RegionHeld3
import Derived.Deep.CutRange
import Derived.Test.YtcbgeahcnjamdabGreatKit
namespace Go.Proofs.YtcbgeahcnjamdabGreat
open Go.RowKit
set_option linter.unusedVariables false
variable {Yh : Hx}
theorem Bd.i32 {i : Int} (h : Bd i) : -2147483648 ≤ i ∧ i ≤ 2147483647 := by unfold Bd at h; omega
def smallB (n : Int) : Bool := decide (-2147483648 ≤ n ∧ n ≤ 2147483647)
theorem wrap32_in {n : Int} (h : -2147483648 ≤ n ∧ n ≤ 2147483647) : IntKind.i32.wrap n = n := by simp [IntKind.wrap, IntKind.bits, IntKind.signed]; omega
theorem wrap32_bd (n : Int) : -2147483648 ≤ IntKind.i32.wrap n ∧ IntKind.i32.wrap n ≤ 2147483647 := by simp [IntKind.wrap, IntKind.bits, IntKind.signed]; omega
set_option maxHeartbeats 400000 in
theorem small_any (n : Int) (w : World) : Calls Tryz.prog 97 #[.int .i64 n] w fun e w' => e = .returned (.bool (smallB n)) ∧ w' = w := by
  by_cases h : -2147483648 ≤ n ∧ n ≤ 2147483647
  · have h1 := wrap32_in h
    rw [show smallB n = true from decide_eq_true h]
    go_enter Tryz.func97, Tryz.ntmps97
    go_wp2
    go_ret
    refine ⟨ret_of ?_, rfl⟩
    simp
  · have hb := wrap32_bd n
    rw [show smallB n = false from decide_eq_false h]
    go_enter Tryz.func97, Tryz.ntmps97
    go_wp2
    go_ret
    refine ⟨ret_of ?_, rfl⟩
    unfold wrap64 wrap32
    simp
    omega
section
variable {w : World} {F : Nat → Prop} {B G : Nat} {t : To}
set_option maxHeartbeats 400000 in
theorem fitem_any (h : Tf Yh w F B G t) (v : Int) (hl : t.v.length ≤ 100000) : Calls Tryz.prog 74 #[.pointer (some ⟨B, 0, none⟩), .int .i64 v] w fun e w' => e = .returned (.int .i32 (t.item v)) ∧ w' = w := by
  cases hv : isA t.v v with
  | true =>
    rw [To.item_yes hv]
    obtain ⟨GV, hA, hc⟩ := tf_vat h v hv hl
    have hb := isA_bd hv
    have hw := wrap32_in (n := v) (by omega)
    have hS := small_any v w
    rw [show smallB v = true from decide_eq_true (by omega)] at hS
    have H : Hid (Tf Yh w F B G t) := h
    have HS := hid_mk hS
    have HA := hid_mk hA
    clear h hv hA hb hS
    generalize (v - 1).toNat * 2 = o at *
    generalize atA 0 t.v v = x at *
    go_enter Tryz.func74, Tryz.ntmps74
    go_wp2_with fail
    refine HS.out.mono ?_
    rintro e w1 ⟨rfl, rfl⟩
    go_wp2_with fail
    refine HA.out.mono ?_
    rintro e w1 ⟨rfl, rfl⟩
    go_wp2
    go_ret
    exact ⟨rfl, rfl⟩
  | false =>
    rw [To.item_no hv]
    by_cases hs : -2147483648 ≤ v ∧ v ≤ 2147483647
    · have hA := tf_vat_no h v hs hv hl
      have hw := wrap32_in hs
      have hS := small_any v w
      rw [show smallB v = true from decide_eq_true hs] at hS
      have HS := hid_mk hS
      have HA := hid_mk hA
      clear h hv hA hs hS
      go_enter Tryz.func74, Tryz.ntmps74
      go_wp2_with fail
      refine HS.out.mono ?_
      rintro e w1 ⟨rfl, rfl⟩
      go_wp2_with fail
      refine HA.out.mono ?_
      rintro e w1 ⟨rfl, rfl⟩
      go_wp2
      go_ret
      exact ⟨rfl, rfl⟩
    · have hS := small_any v w
      rw [show smallB v = false from decide_eq_false hs] at hS
      have HS := hid_mk hS
      clear h hv hs hS
      go_enter Tryz.func74, Tryz.ntmps74
      go_wp2_with fail
      refine HS.out.mono ?_
      rintro e w1 ⟨rfl, rfl⟩
      go_wp2
      go_ret
      exact ⟨rfl, rfl⟩
set_option maxHeartbeats 400000 in
theorem fitem_nil (v : Int) (w : World) : Calls Tryz.prog 74 #[.pointer none, .int .i64 v] w fun e w' => e = .returned (.int .i32 0) ∧ w' = w := by
  go_enter Tryz.func74, Tryz.ntmps74
  go_wp2
  go_ret
  exact ⟨rfl, rfl⟩
theorem Tf.drew (h : Tf Yh w F B G t) : Tf Yh w.drew F B G t := h.kept (fun _ _ => rfl) (Nat.le_refl _)
theorem Step.undrew {F' : Nat → Prop} {w' : World} (h : Step F F' w.drew w') : Step F F' w w' := ⟨⟨h.only.os, h.only.tape, h.only.output, h.only.size, h.only.block⟩, h.ext⟩
/-- Where an edge lies. -/
def eloc (n : Int) : Nat := (n - 1).toNat * 5
set_option maxHeartbeats 400000 in
theorem fedge_yes (h : Tf Yh w F B G t) (n : Int) (hn : isA t.e n = true) (hl : t.e.length ≤ 100000) : Calls Tryz.prog 105 #[.pointer (some ⟨B, 0, none⟩), .int .i64 n] w fun e w' => e = .returned (.pointer (some ⟨G, eloc n, none⟩)) ∧ w' = w := by
  have hA := tf_eat h n hn hl
  have hb := isA_bd hn
  have hw := wrap32_in (n := n) (by omega)
  have hS := small_any n w
  rw [show smallB n = true from decide_eq_true (by omega)] at hS
  have HS := hid_mk hS
  rw [show (n - 1).toNat * 5 = eloc n from rfl] at hA
  have HA := hid_mk hA
  clear h hn hA hb hS
  go_enter Tryz.func105, Tryz.ntmps105
  go_wp2_with fail
  refine HS.out.mono ?_
  rintro e w1 ⟨rfl, rfl⟩
  go_wp2_with fail
  refine HA.out.mono ?_
  rintro e w1 ⟨rfl, rfl⟩
  go_wp2
  go_ret
  exact ⟨rfl, rfl⟩
set_option maxHeartbeats 400000 in
theorem fedge_no (h : Tf Yh w F B G t) (n : Int) (hn : isA t.e n = false) (hl : t.e.length ≤ 100000) : Calls Tryz.prog 105 #[.pointer (some ⟨B, 0, none⟩), .int .i64 n] w fun e w' => e = .returned (.pointer none) ∧ w' = w := by
  by_cases hs : -2147483648 ≤ n ∧ n ≤ 2147483647
  · have hA := tf_eat_no h n hs hn hl
    have hw := wrap32_in hs
    have hS := small_any n w
    rw [show smallB n = true from decide_eq_true hs] at hS
    have HS := hid_mk hS
    have HA := hid_mk hA
    clear h hn hA hs hS
    go_enter Tryz.func105, Tryz.ntmps105
    go_wp2_with fail
    refine HS.out.mono ?_
    rintro e w1 ⟨rfl, rfl⟩
    go_wp2_with fail
    refine HA.out.mono ?_
    rintro e w1 ⟨rfl, rfl⟩
    go_wp2
    go_ret
    exact ⟨rfl, rfl⟩
  · have hS := small_any n w
    rw [show smallB n = false from decide_eq_false hs] at hS
    have HS := hid_mk hS
    clear h hn hs hS
    go_enter Tryz.func105, Tryz.ntmps105
    go_wp2_with fail
    refine HS.out.mono ?_
    rintro e w1 ⟨rfl, rfl⟩
    go_wp2
    go_ret
    exact ⟨rfl, rfl⟩
set_option maxHeartbeats 400000 in
theorem fedge_nil (n : Int) (w : World) : Calls Tryz.prog 105 #[.pointer none, .int .i64 n] w fun e w' => e = .returned (.pointer none) ∧ w' = w := by
  go_enter Tryz.func105, Tryz.ntmps105
  go_wp2
  go_ret
  exact ⟨rfl, rfl⟩
/-- What a sequence holds are items' numbers. -/
theorem Tf.mems (h : Tf Yh w F B G t) {i j : Int} (hj : j ∈ t.s.S i) : Bd j := by
  obtain ⟨X, Ft, hT, _⟩ := h.treap
  have h1 : isK t.s.K j = true := hT.mem.2 (by rw [hT.same hj]; exact hj)
  have := isK_bd h1
  have := hT.klen
  unfold Bd; omega
theorem Tf.head (h : Tf Yh w F B G t) (i : Int) : -2147483648 ≤ (t.s.S i).headD 0 ∧ (t.s.S i).headD 0 ≤ 2147483647 := by
  cases hS : t.s.S i with
  | nil => simp
  | cons a l => exact (h.mems (i := i) (j := a) (by rw [hS]; simp)).i32
theorem Tf.nx (h : Tf Yh w F B G t) (i : Int) : -2147483648 ≤ nxS (t.s.S i) i ∧ nxS (t.s.S i) i ≤ 2147483647 := by
  unfold nxS
  split
  · cases hS : (t.s.S i).drop ((t.s.S i).idxOf i + 1) with
    | nil => simp
    | cons a l => exact (h.mems (i := i) (j := a) (List.mem_of_mem_drop (by rw [hS]; simp))).i32
  · omega
set_option maxHeartbeats 400000 in
theorem fturn_any (h : Tf Yh w F B G t) (i : Int) (hb : -2147483648 ≤ i ∧ i ≤ 2147483647) : Calls Tryz.prog 128 #[.pointer (some ⟨B, 0, none⟩), .int .i32 i] w fun e w' => ∃ F', e = .returned (.tuple #[]) ∧ Tf Yh w' F' B G (t.ws (t.s.turn i)) ∧ Step F F' w w' := by
  have H : Hid (Tf Yh w F B G t) := h
  have hh := h.head i
  have hF := tf_first h i hb
  obtain ⟨q, hq⟩ : ∃ q, q = (t.s.S i).headD 0 := ⟨_, rfl⟩
  rw [← hq] at hh hF
  have HQ := hid_mk hq
  have HF := hid_mk hF
  clear h hF hq
  go_enter Tryz.func128, Tryz.ntmps128
  go_wp2_with fail
  refine HF.out.mono ?_
  rintro e w1 ⟨rfl, rfl⟩
  go_wp2_with fail
  refine (tf_cut H.out i hb).mono ?_
  rintro e w2 ⟨F2, rfl, h2, s2⟩
  have H2 : Hid (Tf Yh w2 F2 B G (t.ws (t.s.cut i))) := h2
  have S2 : Hid (Step F F2 w1 w2) := s2
  clear h2 s2 H HF
  go_wp2_with fail
  refine (tf_join H2.out i q hb hh).mono ?_
  rintro e w3 ⟨F3, rfl, h3, s3⟩
  have H3 : Hid (Tf Yh w3 F3 B G (t.ws (t.s.turn i))) := by show Tf Yh _ _ _ _ (t.ws ((t.s.cut i).join i _)); rw [← HQ.out]; exact h3
  have S3 : Hid (Step F F3 w1 w3) := S2.out.trans s3
  clear h3 s3 H2 S2
  go_wp2
  go_returns
  exact ⟨_, rfl, H3.out, S3.out⟩
end
end Go.Proofs.YtcbgeahcnjamdabGreat

/- Layer 7 (tour): splicing and unsplicing tours, edges' items. -/
namespace Go.Proofs.YtcbgeahcnjamdabGreat
open Go.RowKit
set_option linter.unusedVariables false
variable {Yh : Hx}
section
variable {w : World} {F : Nat → Prop} {B G : Nat} {t : To}
set_option maxHeartbeats 1600000 in
theorem fsplice_any (h : Tf Yh w F B G t) (i j n : Int) (hn : isA t.e n = true) (hi : -2147483648 ≤ i ∧ i ≤ 2147483647) (hj : -2147483648 ≤ j ∧ j ≤ 2147483647) : Calls Tryz.prog 125 #[.pointer (some ⟨B, 0, none⟩), .int .i32 i, .int .i32 j, .pointer (some ⟨G, eloc n, none⟩)] w fun e w' => ∃ F', e = .returned (.tuple #[]) ∧ Tf Yh w' F' B G (t.ws (t.s.splice i j (t.edge n).x (t.edge n).y)) ∧ Step F F' w w' := by
  have H0 : Hid (Tf Yh w F B G t) := h
  have S0 : Hid (Step F F w w) := Step.refl F w
  have hx := h.bd.x n hn
  have HN := hid_mk hn
  obtain ⟨x, ex⟩ : ∃ x, x = (t.edge n).x := ⟨_, rfl⟩
  obtain ⟨y, ey⟩ : ∃ y, y = (t.edge n).y := ⟨_, rfl⟩
  have HC : Hid (∀ w' F' s', Tf Yh w' F' B G (t.ws s') → w'.cell? ⟨G, eloc n + 2, none⟩ = some (.int .i32 x) ∧ w'.cell? ⟨G, eloc n + 3, none⟩ = some (.int .i32 y)) := fun w' F' s' h' => by rw [ex, ey]; exact ⟨(h'.ecell (i := n) hn).2.2.1, (h'.ecell (i := n) hn).2.2.2.1⟩
  rw [← ex, ← ey] at hx ⊢
  have hxb := hx.1.i32
  have hyb := hx.2.i32
  clear h hn hx ex ey
  generalize eloc n = o at *
  go_enter Tryz.func125, Tryz.ntmps125
  go_wp2_with fail
  refine (fturn_any H0.out i hi).mono ?_
  rintro e w1 ⟨F1, rfl, hT, hS⟩
  have H1 : Hid (Tf Yh w1 F1 B G (t.ws (t.s.turn i))) := hT
  have S1 : Hid (Step F F1 w w1) := S0.out.trans hS
  clear hT hS H0 S0
  go_wp2_with fail
  refine (fturn_any H1.out j hj).mono ?_
  rintro e w2 ⟨F2, rfl, hT, hS⟩
  have H2 : Hid (Tf Yh w2 F2 B G (t.ws ((t.s.turn i).turn j))) := hT
  have S2 : Hid (Step F F2 w w2) := S1.out.trans hS
  clear hT hS H1 S1
  have hc := (HC.out _ _ _ H2.out)
  obtain ⟨hc1, hc2⟩ := hc
  go_wp2_with fail
  go_region_held3 (fun w' => w'.cell? ⟨G, o + 2, none⟩ = some (.int .i32 x))
    (first | go_keep | (first | exact (HC.out _ _ _ hT).1 | exact True.intro))
    (first | (go_at_call 137; refine (tf_join H2.out.drew i x hi hxb).mono ?_; rintro e w3 ⟨F3, rfl, hT, hS⟩) | fail)
  clear hc1 hc2
  replace hS := Step.undrew hS
  have H3 : Hid (Tf Yh w3 F3 B G (t.ws (((t.s.turn i).turn j).join i x))) := hT
  have S3 : Hid (Step F F3 w w3) := S2.out.trans hS
  clear hT hS H2 S2
  go_wp2_with fail
  refine (tf_join H3.out i j hi hj).mono ?_
  rintro e w4 ⟨F4, rfl, hT, hS⟩
  have H4 : Hid (Tf Yh w4 F4 B G (t.ws ((((t.s.turn i).turn j).join i x).join i j))) := hT
  have S4 : Hid (Step F F4 w w4) := S3.out.trans hS
  clear hT hS H3 S3
  have hc := (HC.out _ _ _ H4.out)
  obtain ⟨hc1, hc2⟩ := hc
  go_wp2_with fail
  go_region_held3 (fun w' => w'.cell? ⟨G, o + 3, none⟩ = some (.int .i32 y))
    (first | go_keep | (first | exact (HC.out _ _ _ hT).2 | exact True.intro))
    (first | (go_at_call 137; refine (tf_join H4.out.drew i y hi hyb).mono ?_; rintro e w5 ⟨F5, rfl, hT, hS⟩) | fail)
  clear hc1 hc2
  replace hS := Step.undrew hS
  have H5 : Hid (Tf Yh w5 F5 B G (t.ws (t.s.splice i j x y))) := hT
  have S5 : Hid (Step F F5 w w5) := S4.out.trans hS
  clear hT hS H4 S4
  go_wp2
  go_returns
  exact ⟨_, rfl, H5.out, S5.out⟩
set_option maxHeartbeats 1600000 in
theorem funsplice_any (h : Tf Yh w F B G t) (n : Int) (hn : isA t.e n = true) : Calls Tryz.prog 106 #[.pointer (some ⟨B, 0, none⟩), .pointer (some ⟨G, eloc n, none⟩)] w fun e w' => ∃ F', e = .returned (.tuple #[]) ∧ Tf Yh w' F' B G (t.ws (t.s.unsplice (t.edge n).x (t.edge n).y)) ∧ Step F F' w w' := by
  have H0 : Hid (Tf Yh w F B G t) := h
  have S0 : Hid (Step F F w w) := Step.refl F w
  have hx := h.bd.x n hn
  have HN := hid_mk hn
  obtain ⟨x, ex⟩ : ∃ x, x = (t.edge n).x := ⟨_, rfl⟩
  obtain ⟨y, ey⟩ : ∃ y, y = (t.edge n).y := ⟨_, rfl⟩
  have HC : Hid (∀ w' F' s', Tf Yh w' F' B G (t.ws s') → w'.cell? ⟨G, eloc n + 2, none⟩ = some (.int .i32 x) ∧ w'.cell? ⟨G, eloc n + 3, none⟩ = some (.int .i32 y)) := fun w' F' s' h' => by rw [ex, ey]; exact ⟨(h'.ecell (i := n) hn).2.2.1, (h'.ecell (i := n) hn).2.2.2.1⟩
  rw [← ex, ← ey] at hx ⊢
  have hxb := hx.1.i32
  have hyb := hx.2.i32
  clear h hn hx ex ey
  generalize eloc n = o at *
  obtain ⟨hc1, hc2⟩ := HC.out _ _ t.s H0.out
  go_enter Tryz.func106, Tryz.ntmps106
  go_wp2_with fail
  refine (fturn_any H0.out x hxb).mono ?_
  rintro e w1 ⟨F1, rfl, hT, hS⟩
  have H1 : Hid (Tf Yh w1 F1 B G (t.ws (t.s.turn x))) := hT
  have S1 : Hid (Step F F1 w w1) := S0.out.trans hS
  clear hT hS H0 S0
  clear hc1 hc2
  have hc := (HC.out _ _ _ H1.out)
  obtain ⟨hc1, hc2⟩ := hc
  go_wp2_with fail
  go_region_held3 (fun w' => w'.cell? ⟨G, o + 3, none⟩ = some (.int .i32 y))
    (first | go_keep | (first | exact (HC.out _ _ _ hT).2 | exact True.intro))
    (first | (go_at_call 129; refine (tf_cut H1.out.drew y hyb).mono ?_; rintro e w2 ⟨F2, rfl, hT, hS⟩) | fail)
  clear hc1 hc2
  replace hS := Step.undrew hS
  have H2 : Hid (Tf Yh w2 F2 B G (t.ws (t.s.uns2 x y))) := hT
  have S2 : Hid (Step F F2 w w2) := S1.out.trans hS
  clear hT hS H1 S1
  obtain ⟨hc1, hc2⟩ := HC.out _ _ _ H2.out
  obtain ⟨q, hq⟩ : ∃ q, q = nxS ((t.s.uns2 x y).S x) x := ⟨_, rfl⟩
  have hqb := H2.out.nx x
  have hNx := tf_next H2.out.drew x hxb
  rw [show (t.ws (t.s.uns2 x y)).s = t.s.uns2 x y from rfl, ← hq] at hqb hNx
  have HNx := hid_mk hNx
  have HQ := hid_mk hq
  clear hNx hq
  go_wp2_with fail
  go_region_held3 (fun w' => w'.cell? ⟨G, o + 2, none⟩ = some (.int .i32 x))
    (first | go_keep | (first | exact (HC.out _ _ _ hT).1 | exact True.intro))
    (first | (go_at_call 130; refine HNx.out.mono ?_; rintro e wq ⟨rfl, rfl⟩) | (go_at_call 129; refine (tf_cut H2.out.drew q hqb).mono ?_; rintro e w3 ⟨F3, rfl, hT, hS⟩) | fail)
  clear hc1 hc2 HNx
  replace hS := Step.undrew hS
  replace hT : Tf Yh w3 F3 B G (t.ws (t.s.uns3 x y)) := by show Tf Yh _ _ _ _ (t.ws ((t.s.uns2 x y).cut _)); rw [← HQ.out]; exact hT
  clear HQ
  have H3 : Hid (Tf Yh w3 F3 B G (t.ws (t.s.uns3 x y))) := hT
  have S3 : Hid (Step F F3 w w3) := S2.out.trans hS
  clear hT hS H2 S2
  clear hqb
  obtain ⟨hc1, hc2⟩ := HC.out _ _ _ H3.out
  obtain ⟨q, hq⟩ : ∃ q, q = nxS ((t.s.uns3 x y).S y) y := ⟨_, rfl⟩
  have hqb := H3.out.nx y
  have hNx := tf_next H3.out.drew y hyb
  rw [show (t.ws (t.s.uns3 x y)).s = t.s.uns3 x y from rfl, ← hq] at hqb hNx
  have HNx := hid_mk hNx
  have HQ := hid_mk hq
  clear hNx hq
  go_wp2_with fail
  go_region_held3 (fun w' => w'.cell? ⟨G, o + 3, none⟩ = some (.int .i32 y))
    (first | go_keep | (first | exact (HC.out _ _ _ hT).2 | exact True.intro))
    (first | (go_at_call 130; refine HNx.out.mono ?_; rintro e wq ⟨rfl, rfl⟩) | (go_at_call 129; refine (tf_cut H3.out.drew q hqb).mono ?_; rintro e w4 ⟨F4, rfl, hT, hS⟩) | fail)
  clear hc1 hc2 HNx
  replace hS := Step.undrew hS
  replace hT : Tf Yh w4 F4 B G (t.ws (t.s.unsplice x y)) := by show Tf Yh _ _ _ _ (t.ws ((t.s.uns3 x y).cut _)); rw [← HQ.out]; exact hT
  clear HQ
  have H4 : Hid (Tf Yh w4 F4 B G (t.ws (t.s.unsplice x y))) := hT
  have S4 : Hid (Step F F4 w w4) := S3.out.trans hS
  clear hT hS H3 S3
  go_wp2
  go_returns
  exact ⟨_, rfl, H4.out, S4.out⟩
end
end Go.Proofs.YtcbgeahcnjamdabGreat

/- Layer 7 (tour): an item goes; a new edge. -/
namespace Go.Proofs.YtcbgeahcnjamdabGreat
open Go.RowKit
set_option linter.unusedVariables false
variable {Yh : Hx}
section
variable {w : World} {F : Nat → Prop} {B G : Nat} {t : To}
theorem updP_p0 (i : Int) : updP p0 i (0, 0) = p0 := by funext j; unfold updP p0; split <;> rfl
theorem Tf.eqp (h : Tf Yh w F B G t) {p : Int → Part} {m : Nat} (hp : t.p = p) (hm : t.m = m) : Tf Yh w F B G (t.wp p m) := by
  have : t.wp p m = t := by rw [← hp, ← hm]; rfl
  rw [this]; exact h
set_option maxHeartbeats 800000 in
theorem fdropItem_any (h : Tf Yh w F B G t) (i : Int) (hb : -2147483648 ≤ i ∧ i ≤ 2147483647) : Calls Tryz.prog 107 #[.pointer (some ⟨B, 0, none⟩), .int .i32 i] w fun e w' => ∃ F', e = .returned (.tuple #[]) ∧ Tf Yh w' F' B G (t.dropI i) ∧ Step F F' w w' := by
  obtain ⟨mp, c7, f7, hm⟩ := h.map
  rcases hm with ⟨rfl, hp, hm⟩ | ⟨bm, rfl, hlt, hP, hup⟩
  · have H0 : Hid (Tf Yh w F B G (t.wp (updP t.p i (0, 0)) t.m)) := by show Tf Yh _ _ _ _ _; rw [hp, updP_p0]; exact h.eqp hp rfl
    have hdn := fun (ty : TypeId) => Go.Maps.drop_nil (P := Tryz.prog) (w := w) keyP mapP (keyP_mk hb) ty
    clear h hp hm
    go_enter Tryz.func107, Tryz.ntmps107
    go_wp2_with fail
    refine (tf_free H0.out i hb).mono ?_
    rintro e w1 ⟨F1, rfl, hT, hS⟩
    have H1 : Hid (Tf Yh w1 F1 B G (t.dropI i)) := hT
    have S1 := hid_mk hS
    clear hT hS H0
    go_wp2
    go_returns
    exact ⟨_, rfl, H1.out, S1.out⟩
  · have H : Hid (Tf Yh w F B G t) := h
    have HP := hid_mk hP
    have HU := hid_mk hup
    clear h hP hup
    go_enter Tryz.func107, Tryz.ntmps107
    go_wp2_with (at_delete; refine wpList_part_drop rfl _ _ rfl rfl HP.out rfl hb ?_; intro w0 hP0 hg0)
    obtain ⟨hT0, hS0⟩ := HU.out _ _ _ hP0 hg0
    have H0 := hid_mk hT0
    have S0 := hid_mk hS0
    clear hT0 hS0 hP0 hg0 HP HU H
    go_wp2_with fail
    refine (tf_free H0.out i hb).mono ?_
    rintro e w1 ⟨F1, rfl, hT, hS⟩
    have H1 : Hid (Tf Yh w1 F1 B G (t.dropI i)) := hT
    have S1 := hid_mk (S0.out.trans hS)
    clear hT hS H0
    go_wp2
    go_returns
    exact ⟨_, rfl, H1.out, S1.out⟩
/-- Blocks of one's own are kept by what writes in F. -/
abbrev Kpt (F F' : Nat → Prop) (W W' : World) : Prop := ∀ M ty cs, Blk W M ty cs → ¬ F M → Blk W' M ty cs ∧ ¬ F' M
theorem Step.kpt {F F' : Nat → Prop} {W W' : World} (h : Step F F' W W') : Kpt F F' W W' := fun M ty cs hM hn => ⟨(h.only.block M hM.lt hn).trans hM, fun h' => (h.ext M h').elim hn (fun h2 => by have := hM.lt; omega)⟩
abbrev NoneC : Array Value := #[.int .i64 0, .int .i64 0, .int .i64 4611686018427387904, .int .u8 0]
abbrev ZeC : Array Value := #[.int .i64 0, .int .i64 0, .int .i32 0, .int .i32 0]
/-- An edge in a block of its own, beside a forest. -/
def EBox (Yh : Hx) (w : World) (F : Nat → Prop) (B G : Nat) (t : To) (M : Nat) (x : Edg) (wc : World) : Prop := ∃ F3, Tf Yh wc F3 B G t ∧ Blk wc M 159 #[.int .i64 x.a, .int .i64 x.b, .int .i32 x.x, .int .i32 x.y] ∧ ¬ F3 M ∧ Step F F3 w wc
theorem EBox.last {F3 : Nat → Prop} {w2 : World} (h : Tf Yh w2 F3 B G t) (hS : Step F F3 w w2) (a b x y : Int) : EBox Yh w F B G t w2.heap.size ⟨a, b, x, y⟩ (w2.alloc (.cells #[.int .i64 a, .int .i64 b, .int .i32 x, .int .i32 y] 159)) :=
  have hb := (Below.refl w2.heap.size w2).alloc (Nat.le_refl _) (.cells #[.int .i64 a, .int .i64 b, .int .i32 x, .int .i32 y] 159)
  ⟨F3, h.below hb, Blk.new w2 _ _, fun hf => by have := h.lt _ hf; omega, hS.trans (Step.of_below hb)⟩
theorem EBox.early {F3 : Nat → Prop} {w2 : World} {M : Nat} {c : Array Value} (h : Tf Yh w2 F3 B G t) (hS : Step F F3 w w2) (hM : Blk w2 M 159 ZeC) (hn : ¬ F3 M) (hw : w.heap.size ≤ M) (a b x y : Int) : EBox Yh w F B G t M ⟨a, b, x, y⟩ ((((w2.setCell ⟨M, 0, none⟩ (.int .i64 a)).setCell ⟨M, 1, none⟩ (.int .i64 b)).setCell ⟨M, 2, none⟩ (.int .i32 x)).setCell ⟨M, 3, none⟩ (.int .i32 y)) := by
  have hbl : ∀ k, k ≠ M → ((((w2.setCell ⟨M, 0, none⟩ (.int .i64 a)).setCell ⟨M, 1, none⟩ (.int .i64 b)).setCell ⟨M, 2, none⟩ (.int .i32 x)).setCell ⟨M, 3, none⟩ (.int .i32 y)).heap[k]? = w2.heap[k]? := fun k hk =>
    (Below.heap_setCell _ ⟨M, 3, none⟩ _ k hk).trans ((Below.heap_setCell _ ⟨M, 2, none⟩ _ k hk).trans ((Below.heap_setCell _ ⟨M, 1, none⟩ _ k hk).trans (Below.heap_setCell _ ⟨M, 0, none⟩ _ k hk)))
  have hsz : ((((w2.setCell ⟨M, 0, none⟩ (.int .i64 a)).setCell ⟨M, 1, none⟩ (.int .i64 b)).setCell ⟨M, 2, none⟩ (.int .i32 x)).setCell ⟨M, 3, none⟩ (.int .i32 y)).heap.size = w2.heap.size := by rw [size_setCell, size_setCell, size_setCell, size_setCell]
  refine ⟨F3, h.kept (fun k hk => hbl k (fun e => hn (e ▸ hk))) (by omega), Blk.store4 hM _ _ _ _, hn, ⟨?_, hS.ext⟩⟩
  exact (((hS.only.set (K := M) (.inr hw) 0 _).set (K := M) (.inr hw) 1 _).set (K := M) (.inr hw) 2 _).set (K := M) (.inr hw) 3 _
theorem keep4 {wx : World} {N M : Nat} {ty : TypeId} {cs : Array Value} (h : Blk wx N ty cs) (hn : N ≠ M) (a b c d : Value) : Blk ((((wx.setCell ⟨M, 0, none⟩ a).setCell ⟨M, 1, none⟩ b).setCell ⟨M, 2, none⟩ c).setCell ⟨M, 3, none⟩ d) N ty cs :=
  ((Below.heap_setCell _ ⟨M, 3, none⟩ _ N hn).trans ((Below.heap_setCell _ ⟨M, 2, none⟩ _ N hn).trans ((Below.heap_setCell _ ⟨M, 1, none⟩ _ N hn).trans (Below.heap_setCell _ ⟨M, 0, none⟩ _ N hn)))).trans h
theorem ez4 {wx : World} {M : Nat} {a b x y : Int} (h : Blk wx M 159 #[.int .i64 a, .int .i64 b, .int .i32 x, .int .i32 y]) : wx.cell? ⟨M, 0, none⟩ = some (.int .i64 a) ∧ wx.cell? ⟨M, 1, none⟩ = some (.int .i64 b) ∧ wx.cell? ⟨M, 2, none⟩ = some (.int .i32 x) ∧ wx.cell? ⟨M, 3, none⟩ = some (.int .i32 y) := ⟨h.at rfl, h.at rfl, h.at rfl, h.at rfl⟩
theorem ezz {wx : World} {M : Nat} (h : Blk wx M 159 ZeC) : wx.cell? ⟨M, 0, none⟩ = some (.int .i64 0) ∧ wx.cell? ⟨M, 1, none⟩ = some (.int .i64 0) ∧ wx.cell? ⟨M, 2, none⟩ = some (.int .i32 0) ∧ wx.cell? ⟨M, 3, none⟩ = some (.int .i32 0) ∧ wx.frozen? ⟨M, 0, none⟩ = false ∧ wx.frozen? ⟨M, 1, none⟩ = false ∧ wx.frozen? ⟨M, 2, none⟩ = false ∧ wx.frozen? ⟨M, 3, none⟩ = false := ⟨h.at rfl, h.at rfl, h.at rfl, h.at rfl, h.frozen 0, h.frozen 1, h.frozen 2, h.frozen 3⟩
set_option maxHeartbeats 1600000 in
theorem fnewEdge_any (h : Tf Yh w F B G t) (a b : Int) (hm : t.m ≠ 0) {k : Nat} (hle : t.le k) (hk : k ≤ 30000) : Calls Tryz.prog 124 #[.pointer (some ⟨B, 0, none⟩), .int .i64 a, .int .i64 b] w fun e w' => ∃ F' G', e = .returned (.int .i32 t.newE) ∧ Tf Yh w' F' B G' (t.addE a b) ∧ Step F F' w w' := by
  have hb0 := (Below.refl w.heap.size w).alloc (Nat.le_refl _) (.cells #[.int .i64 0, .int .i64 0, .int .i64 4611686018427387904, .int .u8 0] 128)
  have hX0 : Blk (w.alloc (.cells #[.int .i64 0, .int .i64 0, .int .i64 4611686018427387904, .int .u8 0] 128)) w.heap.size 128 #[.int .i64 0, .int .i64 0, .int .i64 4611686018427387904, .int .u8 0] := Blk.new w _ _
  have nX : ¬ F w.heap.size := fun hf => by have := h.lt _ hf; omega
  have H0 := hid_mk (h.below hb0)
  have S0 : Hid (Step F F w (w.alloc (.cells #[.int .i64 0, .int .i64 0, .int .i64 4611686018427387904, .int .u8 0] 128))) := Step.of_below hb0
  go_enter Tryz.func124, Tryz.ntmps124
  go_wp2_with fail
  have hw0 : w.heap.size < (w.alloc (.cells NoneC 128)).heap.size := by simp
  generalize w.alloc (.cells #[.int .i64 0, .int .i64 0, .int .i64 4611686018427387904, .int .u8 0] 128) = w0 at *
  generalize hN0 : w.heap.size = N0 at hX0 nX hw0 ⊢
  have HN0 := hid_mk hN0
  clear hN0 hb0
  have hlt0 := hX0.lt
  have nz : Hid (∀ wx, Blk wx N0 128 NoneC → wx.cell? ⟨N0, 0, none⟩ = some (.int .i64 0) ∧ wx.cell? ⟨N0, 1, none⟩ = some (.int .i64 0) ∧ wx.cell? ⟨N0, 2, none⟩ = some (.int .i64 4611686018427387904) ∧ wx.cell? ⟨N0, 3, none⟩ = some (.int .u8 0)) := fun wx hx => ⟨hx.at rfl, hx.at rfl, hx.at rfl, hx.at rfl⟩
  obtain ⟨x0, x1, x2, x3⟩ := nz.out _ hX0
  have C1 : Hid (∀ wx, Below w0.heap.size w0 wx → Calls Tryz.prog 72 #[.pointer (some ⟨B, 0, none⟩), vlc noneV] wx fun e w' => ∃ F', e = .returned (.int .i32 t.newX) ∧ Tf Yh w' F' B G (t.ws (t.s.make noneV)) ∧ Step F F' w0 w' ∧ Kpt F F' w0 w' ∧ Kpt F F' wx w') := fun wx hx => (tf_make (H0.out.below hx) noneV hle.s (by omega)).mono fun e w' ⟨F', h1, h2, h3⟩ => ⟨F', h1, h2, (Step.of_below hx).trans h3, ((Step.of_below hx).trans h3).kpt, h3.kpt⟩
  have C2 : Hid (∀ w1 F1, Tf Yh w1 F1 B G (t.ws (t.s.make noneV)) → ∀ wx, Below w1.heap.size w1 wx → Calls Tryz.prog 72 #[.pointer (some ⟨B, 0, none⟩), vlc noneV] wx fun e w' => ∃ F', e = .returned (.int .i32 t.newY) ∧ Tf Yh w' F' B G (t.ws ((t.s.make noneV).make noneV)) ∧ Step F1 F' w1 w' ∧ Kpt F1 F' w1 w' ∧ Kpt F1 F' wx w') := fun w1 F1 h1 wx hx => (tf_make (h1.below hx) noneV (Sq.le_make hle.s noneV) (by omega)).mono fun e w' ⟨F', h1, h2, h3⟩ => ⟨F', h1, h2, (Step.of_below hx).trans h3, ((Step.of_below hx).trans h3).kpt, h3.kpt⟩
  have BX : Hid (Bd t.newX) := H0.out.newBd hle.s (by omega)
  have BY : Hid (∀ w1 F1, Tf Yh w1 F1 B G (t.ws (t.s.make noneV)) → Bd t.newY) := fun w1 F1 h1 => h1.newBd (Sq.le_make hle.s noneV) (by omega)
  have LE := hid_mk hle
  have HX0 := hid_mk hX0
  have HX0d : Hid (Blk w0.drew N0 128 NoneC) := hX0
  have b0 : Hid (Below w0.heap.size w0 w0.drew) := (Below.refl _ _).drew
  have b1 : Hid (Below w0.heap.size w0 (w0.alloc (.cells ZeC 159)).drew) := ((Below.refl _ _).alloc (Nat.le_refl _) _).drew
  have hMn : Hid (Blk (w0.alloc (.cells ZeC 159)).drew w0.heap.size 159 ZeC) := Blk.new w0 _ _
  have HX0a : Hid (Blk (w0.alloc (.cells ZeC 159)).drew N0 128 NoneC) := hX0.alloc _
  have nM0 : Hid (¬ F w0.heap.size) := fun hf => Nat.lt_irrefl _ (H0.out.lt _ hf)
  clear h hle hX0
  go_cut [8] from 10 (fun v8 wc => ∃ M, v8 = .pointer (some ⟨M, 0, none⟩) ∧ Bd t.newY ∧ Hid (EBox Yh w F B G (t.ws ((t.s.make noneV).make noneV)) M ⟨a, b, t.newX, t.newY⟩ wc))
  case first =>
    go_region_held3 (fun w' => w'.cell? ⟨N0, 0, none⟩ = some (.int .i64 0) ∧ w'.cell? ⟨N0, 1, none⟩ = some (.int .i64 0) ∧ w'.cell? ⟨N0, 2, none⟩ = some (.int .i64 4611686018427387904) ∧ w'.cell? ⟨N0, 3, none⟩ = some (.int .u8 0))
      (first
        | go_keep
        | with_reducible exact nz.out _ hB2
        | with_reducible exact nz.out _ (keep4 hB2 (Nat.ne_of_lt hlt0) _ _ _ _)
        | with_reducible exact nz.out _ (keep4 hB2 (Nat.ne_of_lt hB1.lt) _ _ _ _)
        | with_reducible exact nz.out _ (hB2.alloc _)
        | with_reducible exact nz.out _ hB1
        | with_reducible exact nz.out _ (hB1.alloc _)
        | with_reducible exact nz.out _ HX0d.out
        | with_reducible exact nz.out _ HX0a.out)
      (first
        | (go_at_call 72; refine (C2.out _ _ hT1 _ (by first | with_reducible exact Below.refl _ _ | with_reducible exact (Below.refl _ _).alloc (Nat.le_refl _) _)).mono ?_; rintro e w2 ⟨F2, rfl, hT2, hS2, hK2, hL2⟩; have hB2 := (hK2 N0 _ _ hB1 nX1).1; have nMa : ¬ F1 w1.heap.size := fun hf => Nat.lt_irrefl _ (hT1.lt _ hf)
           first
            | (have hM2 := (hK2 _ _ _ hM1 nM1).1; have nM2 := (hK2 _ _ _ hM1 nM1).2; obtain ⟨m0, m1, m2, m3, z0, z1, z2, z3⟩ := ezz hM2)
            | (have hM2 : Blk w2 w1.heap.size 159 ZeC := (by with_reducible exact (hL2 _ _ _ (Blk.new w1 159 ZeC) nMa).1); have nM2 : ¬ F2 w1.heap.size := (by with_reducible exact (hL2 _ _ _ (Blk.new w1 159 ZeC) nMa).2); obtain ⟨m0, m1, m2, m3, z0, z1, z2, z3⟩ := ezz hM2)
            | skip)
        | (go_at_call 72; refine (C1.out _ (by first | with_reducible exact b0.out | with_reducible exact b1.out)).mono ?_; rintro e w1 ⟨F1, rfl, hT1, hS1, hK1, hL1⟩; have hB1 := (hK1 N0 _ _ HX0.out nX).1; have nX1 := (hK1 N0 _ _ HX0.out nX).2
           first
            | (have hM1 : Blk w1 w0.heap.size 159 ZeC := (by with_reducible exact (hL1 _ _ _ hMn.out nM0.out).1); have nM1 : ¬ F1 w0.heap.size := (by with_reducible exact (hL1 _ _ _ hMn.out nM0.out).2))
            | skip)
        | fail)
    · have HEx := hid_mk (EBox.last hT2 (S0.out.trans (hS1.trans hS2)) a b t.newX t.newY)
      have hyy := BY.out _ _ hT1
      go_wp2
      go_meet
      exact ⟨_, rfl, hyy, HEx.out⟩
    · have HEx := hid_mk (EBox.early (c := ZeC) hT2 (S0.out.trans (hS1.trans hS2)) hM2 nM2 (S0.out.trans hS1).size a b t.newX t.newY)
      have hyy := BY.out _ _ hT1
      go_wp2
      go_meet
      exact ⟨_, rfl, hyy, HEx.out⟩
    · have HEx := hid_mk (EBox.early (c := ZeC) hT2 (S0.out.trans (hS1.trans hS2)) hM2 nM2 S0.out.size a b t.newX t.newY)
      have hyy := BY.out _ _ hT1
      go_wp2
      go_meet
      exact ⟨_, rfl, hyy, HEx.out⟩
  case rest =>
    obtain ⟨M, rfl, hYb, HE⟩ := hcut
    obtain ⟨F3, h3, hM, nM, hS3⟩ := HE.out
    have hXb := BX.out.i32
    have H3 := hid_mk h3
    have S3 := hid_mk hS3
    have HM3 := hid_mk hM
    obtain ⟨q0, q1, q2, q3⟩ : wc.cell? ⟨M, 0, none⟩ = some (.int .i64 a) ∧ wc.cell? ⟨M, 1, none⟩ = some (.int .i64 b) ∧ wc.cell? ⟨M, 2, none⟩ = some (.int .i32 t.newX) ∧ wc.cell? ⟨M, 3, none⟩ = some (.int .i32 t.newY) := ⟨hM.at rfl, hM.at rfl, hM.at rfl, hM.at rfl⟩
    have CT : Hid (Calls Tryz.prog 136 #[.pointer (some ⟨B, 5, none⟩), .agg #[.int .i64 a, .int .i64 b, .int .i32 t.newX, .int .i32 t.newY]] wc.drew fun e w' => ∃ F' G', e = .returned (.int .i32 t.newE) ∧ Tf Yh w' F' B G' ((t.ws ((t.s.make noneV).make noneV)).we (tkL t.e t.fe ⟨a, b, t.newX, t.newY⟩) t.fe.dropLast) ∧ Step F3 F' wc.drew w' ∧ Kpt F3 F' wc.drew w') := (tf_etake h3.drew ⟨a, b, t.newX, t.newY⟩ ⟨BX.out, hYb⟩ (Nat.le_trans LE.out.fe (by omega)) (Nat.le_trans LE.out.e (by omega))).mono fun e w' ⟨F', G', h1, h2, h3⟩ => ⟨F', G', h1, h2, h3, h3.kpt⟩
    have HM3d : Hid (Blk wc.drew M 159 #[.int .i64 a, .int .i64 b, .int .i32 t.newX, .int .i32 t.newY]) := hM
    replace hYb := hYb.i32
    have lm := LE.out.m
    have HEb : Hid (t.newE = tkI t.e t.fe) := rfl
    clear h3 hS3 hM HE C1 C2 BX BY b0 b1 hMn HX0a nM0 nz HX0 HX0d S0 H0 x0 x1 x2 x3 LE
    obtain ⟨X, hX⟩ : ∃ X, X = t.newX := ⟨_, rfl⟩
    obtain ⟨Y, hY⟩ : ∃ Y, Y = t.newY := ⟨_, rfl⟩
    obtain ⟨E, hE⟩ : ∃ E, E = t.newE := ⟨_, rfl⟩
    have HXY : Hid (X = t.newX ∧ Y = t.newY ∧ E = t.newE) := ⟨hX, hY, hE⟩
    rw [← hX] at q2 hXb
    rw [← hY] at q3 hYb
    have HM3x : Hid (Blk wc.drew M 159 #[.int .i64 a, .int .i64 b, .int .i32 X, .int .i32 Y]) := by show Blk _ _ _ _; rw [hX, hY]; exact HM3d.out
    have CTx : Hid (Calls Tryz.prog 136 #[.pointer (some ⟨B, 5, none⟩), .agg #[.int .i64 a, .int .i64 b, .int .i32 X, .int .i32 Y]] wc.drew fun e w' => ∃ F' G', e = .returned (.int .i32 E) ∧ Tf Yh w' F' B G' ((t.ws ((t.s.make noneV).make noneV)).we (tkL t.e t.fe ⟨a, b, X, Y⟩) t.fe.dropLast) ∧ Step F3 F' wc.drew w' ∧ Kpt F3 F' wc.drew w') := by rw [hX, hY, hE]; exact CT.out
    clear hX hY hE CT HM3d
    go_wp2_with fail
    go_region_held3 (fun w' => w'.cell? ⟨M, 0, none⟩ = some (.int .i64 a) ∧ w'.cell? ⟨M, 1, none⟩ = some (.int .i64 b) ∧ w'.cell? ⟨M, 2, none⟩ = some (.int .i32 X) ∧ w'.cell? ⟨M, 3, none⟩ = some (.int .i32 Y))
      (first
        | go_keep
        | with_reducible exact ez4 hM4)
      (first
        | (go_at_call 136; refine CTx.out.mono ?_; rintro e w4 ⟨F4, G4, rfl, hT4, hS4, hK4⟩; have hM4 := (hK4 M _ _ HM3x.out nM).1; have nM4 := (hK4 M _ _ HM3x.out nM).2)
        | fail)
    have H4 : Hid (Tf Yh w4 F4 B G4 ((t.ws ((t.s.make noneV).make noneV)).we (tkL t.e t.fe ⟨a, b, X, Y⟩) t.fe.dropLast)) := hT4
    have S4 : Hid (Step F F4 w w4) := S3.out.trans (Step.undrew hS4)
    have HM4 := hid_mk hM4
    clear hT4 hS4 hK4 hM4 H3 S3 HM3 HM3x CTx nM q0 q1 q2 q3
    obtain ⟨mp, c7, f7, hmp⟩ := H4.out.map
    rcases hmp with ⟨_, _, hz⟩ | ⟨bm, rfl, hbm, hP, hup⟩
    · exact absurd hz hm
    have hBl := H4.out.lt B H4.out.fb
    have gm : ∀ g : Grow w4, g.w.cell? ⟨B, 7, none⟩ = some (.map (some bm)) := fun g => Grow.cell hBl c7 g
    have gx : ∀ g : Grow w4, g.w.cell? ⟨M, 2, none⟩ = some (.int .i32 X) := fun g => Grow.cell HM4.out.lt (HM4.out.at (j := 2) rfl) g
    have hne := Grow.ne w4
    have hbM : bm ≠ M := fun e => nM4 (e ▸ hbm)
    clear hP hup c7 f7 hbm
    go_wp2_with fail
    try simp only [Act.put]
    refine wp_region_tail 8 (by kernel_rfl) (by kernel_rfl) (by kernel_rfl) ?_
    simp only [stillAt, stillOp, List.set_cons_succ, List.set_cons_zero, List.getElem?_cons_succ, List.getElem?_cons_zero, Option.getD_some, List.drop_succ_cons, List.drop_zero]
    repeat (go_big_quiet_step (fail))
    refine wpQuiet_nil ?_
    rintro v4 ⟨⟨_, hb⟩, rfl⟩
    have HQ4 : Hid (Tf Yh v4 F4 B G4 ((t.ws ((t.s.make noneV).make noneV)).we (tkL t.e t.fe ⟨a, b, X, Y⟩) t.fe.dropLast)) := H4.out.below hb
    obtain ⟨mp, c7, f7, hmp⟩ := HQ4.out.map
    have hmpe : mp = .map (some bm) := Option.some.inj (c7.symm.trans (gm ⟨v4, hb⟩))
    rcases hmp with ⟨_, _, hz⟩ | ⟨bm', e', hbm', hP, hup⟩
    · exact absurd hz hm
    rw [hmpe] at e'
    cases e'
    have HPn4 := hid_mk hP
    have HUn4 := hid_mk hup
    have HMn4 : Hid (Blk v4 M 159 #[.int .i64 a, .int .i64 b, .int .i32 X, .int .i32 Y]) := HM4.out.below hb
    have Sn4 : Hid (Step F F4 w v4) := S4.out.trans (Step.of_below hb)
    clear hP hup c7 f7 hmpe gm gx hne hb hBl hbm' H4 S4 HM4
    go_wp2_with (at_mapUpdate; refine wpList_part_store rfl _ _ _ rfl rfl HPn4.out (by show t.m ≤ 100000; omega) rfl hXb (0, E) rfl ?_; intro w5 hPs hgs)
    obtain ⟨hTs, hSs⟩ := HUn4.out _ _ _ hPs hgs
    have H5 : Hid (Tf Yh w5 F4 B G4 (((t.ws ((t.s.make noneV).make noneV)).we (tkL t.e t.fe ⟨a, b, X, Y⟩) t.fe.dropLast).wp (updP t.p X (0, E)) (t.m + 1))) := hTs
    have S5 : Hid (Step F F4 w w5) := Sn4.out.trans hSs
    have HM5 : Hid (Blk w5 M 159 #[.int .i64 a, .int .i64 b, .int .i32 X, .int .i32 Y]) := (hgs.block M HMn4.out.lt (fun e => hbM (Option.some.inj e).symm)).trans HMn4.out
    clear hTs hSs hPs hgs HPn4 HUn4 Sn4 HMn4 HQ4 hbM
    obtain ⟨mp, c7, f7, hmp⟩ := H5.out.map
    rcases hmp with ⟨_, _, hz⟩ | ⟨bm, rfl, hbm, hP, hup⟩
    · exact absurd hz (Nat.succ_ne_zero _)
    have hBl := H5.out.lt B H5.out.fb
    have gm : ∀ g : Grow w5, g.w.cell? ⟨B, 7, none⟩ = some (.map (some bm)) := fun g => Grow.cell hBl c7 g
    have gx : ∀ g : Grow w5, g.w.cell? ⟨M, 3, none⟩ = some (.int .i32 Y) := fun g => Grow.cell HM5.out.lt (HM5.out.at (j := 3) rfl) g
    have hne := Grow.ne w5
    have hbM : bm ≠ M := fun e => nM4 (e ▸ hbm)
    clear hP hup c7 f7 hbm
    go_wp2_with fail
    try simp only [Act.put]
    refine wp_region_tail 8 (by kernel_rfl) (by kernel_rfl) (by kernel_rfl) ?_
    simp only [stillAt, stillOp, List.set_cons_succ, List.set_cons_zero, List.getElem?_cons_succ, List.getElem?_cons_zero, Option.getD_some, List.drop_succ_cons, List.drop_zero]
    repeat (go_big_quiet_step (fail))
    refine wpQuiet_nil ?_
    rintro v5 ⟨⟨_, hb⟩, rfl⟩
    have HQ5 : Hid (Tf Yh v5 F4 B G4 (((t.ws ((t.s.make noneV).make noneV)).we (tkL t.e t.fe ⟨a, b, X, Y⟩) t.fe.dropLast).wp (updP t.p X (0, E)) (t.m + 1))) := H5.out.below hb
    obtain ⟨mp, c7, f7, hmp⟩ := HQ5.out.map
    have hmpe : mp = .map (some bm) := Option.some.inj (c7.symm.trans (gm ⟨v5, hb⟩))
    rcases hmp with ⟨_, _, hz⟩ | ⟨bm', e', hbm', hP, hup⟩
    · exact absurd hz (Nat.succ_ne_zero _)
    rw [hmpe] at e'
    cases e'
    have HPn5 := hid_mk hP
    have HUn5 := hid_mk hup
    have HMn5 : Hid (Blk v5 M 159 #[.int .i64 a, .int .i64 b, .int .i32 X, .int .i32 Y]) := HM5.out.below hb
    have Sn5 : Hid (Step F F4 w v5) := S5.out.trans (Step.of_below hb)
    clear hP hup c7 f7 hmpe gm gx hne hb hBl hbm' H5 S5 HM5
    go_wp2_with (at_mapUpdate; refine wpList_part_store rfl _ _ _ rfl rfl HPn5.out (by show t.m + 1 ≤ 100000; omega) rfl hYb (0, E) rfl ?_; intro w6 hPs hgs)
    obtain ⟨hTs, hSs⟩ := HUn5.out _ _ _ hPs hgs
    have H6 : Hid (Tf Yh w6 F4 B G4 ((((t.ws ((t.s.make noneV).make noneV)).we (tkL t.e t.fe ⟨a, b, X, Y⟩) t.fe.dropLast).wp (updP t.p X (0, E)) (t.m + 1)).wp (updP (updP t.p X (0, E)) Y (0, E)) (t.m + 1 + 1))) := hTs
    have S6 : Hid (Step F F4 w w6) := Sn5.out.trans hSs
    have HM6 : Hid (Blk w6 M 159 #[.int .i64 a, .int .i64 b, .int .i32 X, .int .i32 Y]) := (hgs.block M HMn5.out.lt (fun e => hbM (Option.some.inj e).symm)).trans HMn5.out
    clear hTs hSs hPs hgs HPn5 HUn5 Sn5 HMn5 HQ5 hbM
    obtain ⟨e1, e2, e3⟩ := HXY.out
    have H7 : Hid (Tf Yh w6 F4 B G4 (t.addE a b)) := by
      have := H6.out
      rw [e1, e2, e3] at this
      exact this
    clear H6
    go_wp2
    go_ret
    exact ⟨_, _, by rw [← e3]; rfl, H7.out, S6.out⟩
end
end Go.Proofs.YtcbgeahcnjamdabGreat
