/- Lemmas. -/
import Derived.Test.YtlmdjghcmofdlaaGreatS14
import Derived.Deep.RegionHeld3
import Derived.Deep.CutRange
import Derived.Test.YtlmdjghcmofdlaaGreatS02
import Derived.Test.YtlmdjghcmofdlaaGreatS05
import Derived.Test.YtlmdjghcmofdlaaGreatS10
import Derived.Laws.MakeOwn
import Derived.Test.YtlmdjghcmofdlaaGreatProg
import Derived.Deep.Slices
import Derived.ProofKit
import Derived.OpenShut
set_option maxRecDepth 100000
set_option maxHeartbeats 64000000
namespace Go.Proofs.YtlmdjghcmofdlaaGreat
open Go.RowKit
set_option linter.unusedVariables false
variable {Yh : Hx}
theorem Bd.i32 {i : Int} (h : Bd i) : -2147483648 ≤ i ∧ i ≤ 2147483647 := by unfold Bd at h; omega
def smallB (n : Int) : Bool := decide (-2147483648 ≤ n ∧ n ≤ 2147483647)
theorem wrap32_in {n : Int} (h : -2147483648 ≤ n ∧ n ≤ 2147483647) : IntKind.i32.wrap n = n := by simp [IntKind.wrap, IntKind.bits, IntKind.signed]; omega
theorem wrap32_bd (n : Int) : -2147483648 ≤ IntKind.i32.wrap n ∧ IntKind.i32.wrap n ≤ 2147483647 := by simp [IntKind.wrap, IntKind.bits, IntKind.signed]; omega
theorem small_any (n : Int) (w : World) : Calls Tryz.prog 102 #[.int .i64 n] w fun e w' => e = .returned (.bool (smallB n)) ∧ w' = w := by
  by_cases h : -2147483648 ≤ n ∧ n ≤ 2147483647
  · have h1 := wrap32_in h
    rw [show smallB n = true from decide_eq_true h]
    go_enter Tryz.func102, Tryz.ntmps102
    go_wp2
    go_ret
    refine ⟨ret_of ?_, rfl⟩
    simp
  · have hb := wrap32_bd n
    rw [show smallB n = false from decide_eq_false h]
    go_enter Tryz.func102, Tryz.ntmps102
    go_wp2
    go_ret
    refine ⟨ret_of ?_, rfl⟩
    unfold wrap64 wrap32
    simp
    omega
section
variable {w : World} {F : Nat → Prop} {B G : Nat} {t : To}
theorem fitem_any (h : Tf Yh w F B G t) (v : Int) (hl : t.v.length ≤ 100000) : Calls Tryz.prog 78 #[.pointer (some ⟨B, 0, none⟩), .int .i64 v] w fun e w' => e = .returned (.int .i32 (t.item v)) ∧ w' = w := by
  cases hv : isA t.v v with
  | true =>
    rw [To.item_yes hv]
    obtain ⟨GV, hA, hc⟩ := tf_vat h v hv hl
    have hb := isA_bd hv
    have hw := wrap32_in (n := v) (by omega)
    have hS := small_any v w
    rw [show smallB v = true from decide_eq_true (by omega)] at hS
    have H : Hid (Tf Yh w F B G t) := h
    have HS := mkH hS
    have HA := mkH hA
    clear h hv hA hb hS
    generalize (v - 1).toNat * 2 = o at *
    generalize atA 0 t.v v = x at *
    go_enter Tryz.func78, Tryz.ntmps78
    go_wp2_with fail
    refine HS.out.mono ?_
    rintro e w1 ⟨rfl, rfl⟩
    go_wp2_with fail
    refine HA.out.mono ?_
    rintro e w1 ⟨rfl, rfl⟩
    go_wp2
    go_ret
    exact ⟨rfl, rfl⟩
  | false =>
    rw [To.item_no hv]
    by_cases hs : -2147483648 ≤ v ∧ v ≤ 2147483647
    · have hA := tf_vat_no h v hs hv hl
      have hw := wrap32_in hs
      have hS := small_any v w
      rw [show smallB v = true from decide_eq_true hs] at hS
      have HS := mkH hS
      have HA := mkH hA
      clear h hv hA hs hS
      go_enter Tryz.func78, Tryz.ntmps78
      go_wp2_with fail
      refine HS.out.mono ?_
      rintro e w1 ⟨rfl, rfl⟩
      go_wp2_with fail
      refine HA.out.mono ?_
      rintro e w1 ⟨rfl, rfl⟩
      go_wp2
      go_ret
      exact ⟨rfl, rfl⟩
    · have hS := small_any v w
      rw [show smallB v = false from decide_eq_false hs] at hS
      have HS := mkH hS
      clear h hv hs hS
      go_enter Tryz.func78, Tryz.ntmps78
      go_wp2_with fail
      refine HS.out.mono ?_
      rintro e w1 ⟨rfl, rfl⟩
      go_wp2
      go_ret
      exact ⟨rfl, rfl⟩
theorem Tf.drew (h : Tf Yh w F B G t) : Tf Yh w.drew F B G t := h.kept (fun _ _ => rfl) (Nat.le_refl _)
theorem Step.undrew {F' : Nat → Prop} {w' : World} (h : Step F F' w.drew w') : Step F F' w w' := ⟨⟨h.only.os, h.only.tape, h.only.output, h.only.size, h.only.block⟩, h.ext⟩
def eloc (n : Int) : Nat := (n - 1).toNat * 5
theorem fedge_yes (h : Tf Yh w F B G t) (n : Int) (hn : isA t.e n = true) (hl : t.e.length ≤ 100000) : Calls Tryz.prog 107 #[.pointer (some ⟨B, 0, none⟩), .int .i64 n] w fun e w' => e = .returned (.pointer (some ⟨G, eloc n, none⟩)) ∧ w' = w := by
  have hA := tf_eat h n hn hl
  have hb := isA_bd hn
  have hw := wrap32_in (n := n) (by omega)
  have hS := small_any n w
  rw [show smallB n = true from decide_eq_true (by omega)] at hS
  have HS := mkH hS
  rw [show (n - 1).toNat * 5 = eloc n from rfl] at hA
  have HA := mkH hA
  clear h hn hA hb hS
  go_enter Tryz.func107, Tryz.ntmps107
  go_wp2_with fail
  refine HS.out.mono ?_
  rintro e w1 ⟨rfl, rfl⟩
  go_wp2_with fail
  refine HA.out.mono ?_
  rintro e w1 ⟨rfl, rfl⟩
  go_wp2
  go_ret
  exact ⟨rfl, rfl⟩
theorem fedge_no (h : Tf Yh w F B G t) (n : Int) (hn : isA t.e n = false) (hl : t.e.length ≤ 100000) : Calls Tryz.prog 107 #[.pointer (some ⟨B, 0, none⟩), .int .i64 n] w fun e w' => e = .returned (.pointer none) ∧ w' = w := by
  by_cases hs : -2147483648 ≤ n ∧ n ≤ 2147483647
  · have hA := tf_eat_no h n hs hn hl
    have hw := wrap32_in hs
    have hS := small_any n w
    rw [show smallB n = true from decide_eq_true hs] at hS
    have HS := mkH hS
    have HA := mkH hA
    clear h hn hA hs hS
    go_enter Tryz.func107, Tryz.ntmps107
    go_wp2_with fail
    refine HS.out.mono ?_
    rintro e w1 ⟨rfl, rfl⟩
    go_wp2_with fail
    refine HA.out.mono ?_
    rintro e w1 ⟨rfl, rfl⟩
    go_wp2
    go_ret
    exact ⟨rfl, rfl⟩
  · have hS := small_any n w
    rw [show smallB n = false from decide_eq_false hs] at hS
    have HS := mkH hS
    clear h hn hs hS
    go_enter Tryz.func107, Tryz.ntmps107
    go_wp2_with fail
    refine HS.out.mono ?_
    rintro e w1 ⟨rfl, rfl⟩
    go_wp2
    go_ret
    exact ⟨rfl, rfl⟩
theorem Tf.mems (h : Tf Yh w F B G t) {i j : Int} (hj : j ∈ t.s.S i) : Bd j := by
  obtain ⟨X, Ft, hT, _⟩ := h.treap
  have h1 : isK t.s.K j = true := hT.mem.2 (by rw [hT.same hj]; exact hj)
  have := isK_bd h1
  have := hT.klen
  unfold Bd; omega
theorem Tf.head (h : Tf Yh w F B G t) (i : Int) : -2147483648 ≤ (t.s.S i).headD 0 ∧ (t.s.S i).headD 0 ≤ 2147483647 := by
  cases hS : t.s.S i with
  | nil => simp
  | cons a l => exact (h.mems (i := i) (j := a) (by rw [hS]; simp)).i32
theorem Tf.nx (h : Tf Yh w F B G t) (i : Int) : -2147483648 ≤ nxS (t.s.S i) i ∧ nxS (t.s.S i) i ≤ 2147483647 := by
  unfold nxS
  split
  · cases hS : (t.s.S i).drop ((t.s.S i).idxOf i + 1) with
    | nil => simp
    | cons a l => exact (h.mems (i := i) (j := a) (List.mem_of_mem_drop (by rw [hS]; simp))).i32
  · omega
theorem fturn_any (h : Tf Yh w F B G t) (i : Int) (hb : -2147483648 ≤ i ∧ i ≤ 2147483647) : Calls Tryz.prog 130 #[.pointer (some ⟨B, 0, none⟩), .int .i32 i] w fun e w' => ∃ F', e = .returned (.tuple #[]) ∧ Tf Yh w' F' B G (t.ws (t.s.turn i)) ∧ Step F F' w w' := by
  have H : Hid (Tf Yh w F B G t) := h
  have hh := h.head i
  have hF := tf_first h i hb
  obtain ⟨q, hq⟩ : ∃ q, q = (t.s.S i).headD 0 := ⟨_, rfl⟩
  rw [← hq] at hh hF
  have HQ := mkH hq
  have HF := mkH hF
  clear h hF hq
  go_enter Tryz.func130, Tryz.ntmps130
  go_wp2_with fail
  refine HF.out.mono ?_
  rintro e w1 ⟨rfl, rfl⟩
  go_wp2_with fail
  refine (tf_cut H.out i hb).mono ?_
  rintro e w2 ⟨F2, rfl, h2, s2⟩
  have H2 : Hid (Tf Yh w2 F2 B G (t.ws (t.s.cut i))) := h2
  have S2 : Hid (Step F F2 w1 w2) := s2
  clear h2 s2 H HF
  go_wp2_with fail
  refine (tf_join H2.out i q hb hh).mono ?_
  rintro e w3 ⟨F3, rfl, h3, s3⟩
  have H3 : Hid (Tf Yh w3 F3 B G (t.ws (t.s.turn i))) := by show Tf Yh _ _ _ _ (t.ws ((t.s.cut i).join i _)); rw [← HQ.out]; exact h3
  have S3 : Hid (Step F F3 w1 w3) := S2.out.trans s3
  clear h3 s3 H2 S2
  go_wp2
  go_returns
  exact ⟨_, rfl, H3.out, S3.out⟩
end
end Go.Proofs.YtlmdjghcmofdlaaGreat
/- Layer 7 (tour): splicing and unsplicing tours, edges' items. -/
namespace Go.Proofs.YtlmdjghcmofdlaaGreat
open Go.RowKit
set_option linter.unusedVariables false
variable {Yh : Hx}
section
variable {w : World} {F : Nat → Prop} {B G : Nat} {t : To}
theorem fsplice_any (h : Tf Yh w F B G t) (i j n : Int) (hn : isA t.e n = true) (hi : -2147483648 ≤ i ∧ i ≤ 2147483647) (hj : -2147483648 ≤ j ∧ j ≤ 2147483647) : Calls Tryz.prog 126 #[.pointer (some ⟨B, 0, none⟩), .int .i32 i, .int .i32 j, .pointer (some ⟨G, eloc n, none⟩)] w fun e w' => ∃ F', e = .returned (.tuple #[]) ∧ Tf Yh w' F' B G (t.ws (t.s.splice i j (t.edge n).x (t.edge n).y)) ∧ Step F F' w w' := by
  have H0 : Hid (Tf Yh w F B G t) := h
  have S0 : Hid (Step F F w w) := Step.refl F w
  have hx := h.bd.x n hn
  have HN := mkH hn
  obtain ⟨x, ex⟩ : ∃ x, x = (t.edge n).x := ⟨_, rfl⟩
  obtain ⟨y, ey⟩ : ∃ y, y = (t.edge n).y := ⟨_, rfl⟩
  have HC : Hid (∀ w' F' s', Tf Yh w' F' B G (t.ws s') → w'.cell? ⟨G, eloc n + 2, none⟩ = some (.int .i32 x) ∧ w'.cell? ⟨G, eloc n + 3, none⟩ = some (.int .i32 y)) := fun w' F' s' h' => by rw [ex, ey]; exact ⟨(h'.ecell (i := n) hn).2.2.1, (h'.ecell (i := n) hn).2.2.2.1⟩
  rw [← ex, ← ey] at hx ⊢
  have hxb := hx.1.i32
  have hyb := hx.2.i32
  clear h hn hx ex ey
  generalize eloc n = o at *
  go_enter Tryz.func126, Tryz.ntmps126
  go_wp2_with fail
  refine (fturn_any H0.out i hi).mono ?_
  rintro e w1 ⟨F1, rfl, hT, hS⟩
  have H1 : Hid (Tf Yh w1 F1 B G (t.ws (t.s.turn i))) := hT
  have S1 : Hid (Step F F1 w w1) := S0.out.trans hS
  clear hT hS H0 S0
  go_wp2_with fail
  refine (fturn_any H1.out j hj).mono ?_
  rintro e w2 ⟨F2, rfl, hT, hS⟩
  have H2 : Hid (Tf Yh w2 F2 B G (t.ws ((t.s.turn i).turn j))) := hT
  have S2 : Hid (Step F F2 w w2) := S1.out.trans hS
  clear hT hS H1 S1
  have hc := (HC.out _ _ _ H2.out)
  obtain ⟨hc1, hc2⟩ := hc
  go_wp2_with fail
  go_region_held3 (fun w' => w'.cell? ⟨G, o + 2, none⟩ = some (.int .i32 x))
    (first | go_keep | (first | exact (HC.out _ _ _ hT).1 | exact True.intro))
    (first | (go_at_call 139; refine (tf_join H2.out.drew i x hi hxb).mono ?_; rintro e w3 ⟨F3, rfl, hT, hS⟩) | fail)
  clear hc1 hc2
  replace hS := Step.undrew hS
  have H3 : Hid (Tf Yh w3 F3 B G (t.ws (((t.s.turn i).turn j).join i x))) := hT
  have S3 : Hid (Step F F3 w w3) := S2.out.trans hS
  clear hT hS H2 S2
  go_wp2_with fail
  refine (tf_join H3.out i j hi hj).mono ?_
  rintro e w4 ⟨F4, rfl, hT, hS⟩
  have H4 : Hid (Tf Yh w4 F4 B G (t.ws ((((t.s.turn i).turn j).join i x).join i j))) := hT
  have S4 : Hid (Step F F4 w w4) := S3.out.trans hS
  clear hT hS H3 S3
  have hc := (HC.out _ _ _ H4.out)
  obtain ⟨hc1, hc2⟩ := hc
  go_wp2_with fail
  go_region_held3 (fun w' => w'.cell? ⟨G, o + 3, none⟩ = some (.int .i32 y))
    (first | go_keep | (first | exact (HC.out _ _ _ hT).2 | exact True.intro))
    (first | (go_at_call 139; refine (tf_join H4.out.drew i y hi hyb).mono ?_; rintro e w5 ⟨F5, rfl, hT, hS⟩) | fail)
  clear hc1 hc2
  replace hS := Step.undrew hS
  have H5 : Hid (Tf Yh w5 F5 B G (t.ws (t.s.splice i j x y))) := hT
  have S5 : Hid (Step F F5 w w5) := S4.out.trans hS
  clear hT hS H4 S4
  go_wp2
  go_returns
  exact ⟨_, rfl, H5.out, S5.out⟩
theorem funsplice_any (h : Tf Yh w F B G t) (n : Int) (hn : isA t.e n = true) : Calls Tryz.prog 108 #[.pointer (some ⟨B, 0, none⟩), .pointer (some ⟨G, eloc n, none⟩)] w fun e w' => ∃ F', e = .returned (.tuple #[]) ∧ Tf Yh w' F' B G (t.ws (t.s.unsplice (t.edge n).x (t.edge n).y)) ∧ Step F F' w w' := by
  have H0 : Hid (Tf Yh w F B G t) := h
  have S0 : Hid (Step F F w w) := Step.refl F w
  have hx := h.bd.x n hn
  have HN := mkH hn
  obtain ⟨x, ex⟩ : ∃ x, x = (t.edge n).x := ⟨_, rfl⟩
  obtain ⟨y, ey⟩ : ∃ y, y = (t.edge n).y := ⟨_, rfl⟩
  have HC : Hid (∀ w' F' s', Tf Yh w' F' B G (t.ws s') → w'.cell? ⟨G, eloc n + 2, none⟩ = some (.int .i32 x) ∧ w'.cell? ⟨G, eloc n + 3, none⟩ = some (.int .i32 y)) := fun w' F' s' h' => by rw [ex, ey]; exact ⟨(h'.ecell (i := n) hn).2.2.1, (h'.ecell (i := n) hn).2.2.2.1⟩
  rw [← ex, ← ey] at hx ⊢
  have hxb := hx.1.i32
  have hyb := hx.2.i32
  clear h hn hx ex ey
  generalize eloc n = o at *
  obtain ⟨hc1, hc2⟩ := HC.out _ _ t.s H0.out
  go_enter Tryz.func108, Tryz.ntmps108
  go_wp2_with fail
  refine (fturn_any H0.out x hxb).mono ?_
  rintro e w1 ⟨F1, rfl, hT, hS⟩
  have H1 : Hid (Tf Yh w1 F1 B G (t.ws (t.s.turn x))) := hT
  have S1 : Hid (Step F F1 w w1) := S0.out.trans hS
  clear hT hS H0 S0
  clear hc1 hc2
  have hc := (HC.out _ _ _ H1.out)
  obtain ⟨hc1, hc2⟩ := hc
  go_wp2_with fail
  go_region_held3 (fun w' => w'.cell? ⟨G, o + 3, none⟩ = some (.int .i32 y))
    (first | go_keep | (first | exact (HC.out _ _ _ hT).2 | exact True.intro))
    (first | (go_at_call 131; refine (tf_cut H1.out.drew y hyb).mono ?_; rintro e w2 ⟨F2, rfl, hT, hS⟩) | fail)
  clear hc1 hc2
  replace hS := Step.undrew hS
  have H2 : Hid (Tf Yh w2 F2 B G (t.ws (t.s.uns2 x y))) := hT
  have S2 : Hid (Step F F2 w w2) := S1.out.trans hS
  clear hT hS H1 S1
  obtain ⟨hc1, hc2⟩ := HC.out _ _ _ H2.out
  obtain ⟨q, hq⟩ : ∃ q, q = nxS ((t.s.uns2 x y).S x) x := ⟨_, rfl⟩
  have hqb := H2.out.nx x
  have hNx := tf_next H2.out.drew x hxb
  rw [show (t.ws (t.s.uns2 x y)).s = t.s.uns2 x y from rfl, ← hq] at hqb hNx
  have HNx := mkH hNx
  have HQ := mkH hq
  clear hNx hq
  go_wp2_with fail
  go_region_held3 (fun w' => w'.cell? ⟨G, o + 2, none⟩ = some (.int .i32 x))
    (first | go_keep | (first | exact (HC.out _ _ _ hT).1 | exact True.intro))
    (first | (go_at_call 132; refine HNx.out.mono ?_; rintro e wq ⟨rfl, rfl⟩) | (go_at_call 131; refine (tf_cut H2.out.drew q hqb).mono ?_; rintro e w3 ⟨F3, rfl, hT, hS⟩) | fail)
  clear hc1 hc2 HNx
  replace hS := Step.undrew hS
  replace hT : Tf Yh w3 F3 B G (t.ws (t.s.uns3 x y)) := by show Tf Yh _ _ _ _ (t.ws ((t.s.uns2 x y).cut _)); rw [← HQ.out]; exact hT
  clear HQ
  have H3 : Hid (Tf Yh w3 F3 B G (t.ws (t.s.uns3 x y))) := hT
  have S3 : Hid (Step F F3 w w3) := S2.out.trans hS
  clear hT hS H2 S2
  clear hqb
  obtain ⟨hc1, hc2⟩ := HC.out _ _ _ H3.out
  obtain ⟨q, hq⟩ : ∃ q, q = nxS ((t.s.uns3 x y).S y) y := ⟨_, rfl⟩
  have hqb := H3.out.nx y
  have hNx := tf_next H3.out.drew y hyb
  rw [show (t.ws (t.s.uns3 x y)).s = t.s.uns3 x y from rfl, ← hq] at hqb hNx
  have HNx := mkH hNx
  have HQ := mkH hq
  clear hNx hq
  go_wp2_with fail
  go_region_held3 (fun w' => w'.cell? ⟨G, o + 3, none⟩ = some (.int .i32 y))
    (first | go_keep | (first | exact (HC.out _ _ _ hT).2 | exact True.intro))
    (first | (go_at_call 132; refine HNx.out.mono ?_; rintro e wq ⟨rfl, rfl⟩) | (go_at_call 131; refine (tf_cut H3.out.drew q hqb).mono ?_; rintro e w4 ⟨F4, rfl, hT, hS⟩) | fail)
  clear hc1 hc2 HNx
  replace hS := Step.undrew hS
  replace hT : Tf Yh w4 F4 B G (t.ws (t.s.unsplice x y)) := by show Tf Yh _ _ _ _ (t.ws ((t.s.uns3 x y).cut _)); rw [← HQ.out]; exact hT
  clear HQ
  have H4 : Hid (Tf Yh w4 F4 B G (t.ws (t.s.unsplice x y))) := hT
  have S4 : Hid (Step F F4 w w4) := S3.out.trans hS
  clear hT hS H3 S3
  go_wp2
  go_returns
  exact ⟨_, rfl, H4.out, S4.out⟩
end
end Go.Proofs.YtlmdjghcmofdlaaGreat
/- Layer 7 (tour): an item goes; a new edge. -/
namespace Go.Proofs.YtlmdjghcmofdlaaGreat
open Go.RowKit
set_option linter.unusedVariables false
variable {Yh : Hx}
section
variable {w : World} {F : Nat → Prop} {B G : Nat} {t : To}
theorem updP_p0 (i : Int) : updP p0 i (0, 0) = p0 := by funext j; unfold updP p0; split <;> rfl
theorem Tf.eqp (h : Tf Yh w F B G t) {p : Int → Part} {m : Nat} (hp : t.p = p) (hm : t.m = m) : Tf Yh w F B G (t.wp p m) := by
  have : t.wp p m = t := by rw [← hp, ← hm]; rfl
  rw [this]; exact h
theorem fdropItem_any (h : Tf Yh w F B G t) (i : Int) (hb : -2147483648 ≤ i ∧ i ≤ 2147483647) : Calls Tryz.prog 109 #[.pointer (some ⟨B, 0, none⟩), .int .i32 i] w fun e w' => ∃ F', e = .returned (.tuple #[]) ∧ Tf Yh w' F' B G (t.dropI i) ∧ Step F F' w w' := by
  obtain ⟨mp, c7, f7, hm⟩ := h.map
  rcases hm with ⟨rfl, hp, hm⟩ | ⟨bm, rfl, hlt, hP, hup⟩
  · have H0 : Hid (Tf Yh w F B G (t.wp (updP t.p i (0, 0)) t.m)) := by show Tf Yh _ _ _ _ _; rw [hp, updP_p0]; exact h.eqp hp rfl
    have hdn := fun (ty : TypeId) => Go.Maps.drop_nil (P := Tryz.prog) (w := w) keyP mapP (keyP_mk hb) ty
    clear h hp hm
    go_enter Tryz.func109, Tryz.ntmps109
    go_wp2_with fail
    refine (tf_free H0.out i hb).mono ?_
    rintro e w1 ⟨F1, rfl, hT, hS⟩
    have H1 : Hid (Tf Yh w1 F1 B G (t.dropI i)) := hT
    have S1 := mkH hS
    clear hT hS H0
    go_wp2
    go_returns
    exact ⟨_, rfl, H1.out, S1.out⟩
  · have H : Hid (Tf Yh w F B G t) := h
    have HP := mkH hP
    have HU := mkH hup
    clear h hP hup
    go_enter Tryz.func109, Tryz.ntmps109
    go_wp2_with (at_delete; refine wpList_part_drop rfl _ _ rfl rfl HP.out rfl hb ?_; intro w0 hP0 hg0)
    obtain ⟨hT0, hS0⟩ := HU.out _ _ _ hP0 hg0
    have H0 := mkH hT0
    have S0 := mkH hS0
    clear hT0 hS0 hP0 hg0 HP HU H
    go_wp2_with fail
    refine (tf_free H0.out i hb).mono ?_
    rintro e w1 ⟨F1, rfl, hT, hS⟩
    have H1 : Hid (Tf Yh w1 F1 B G (t.dropI i)) := hT
    have S1 := mkH (S0.out.trans hS)
    clear hT hS H0
    go_wp2
    go_returns
    exact ⟨_, rfl, H1.out, S1.out⟩
abbrev Kpt (F F' : Nat → Prop) (W W' : World) : Prop := ∀ M ty cs, Blk W M ty cs → ¬ F M → Blk W' M ty cs ∧ ¬ F' M
theorem Step.kpt {F F' : Nat → Prop} {W W' : World} (h : Step F F' W W') : Kpt F F' W W' := fun M ty cs hM hn => ⟨(h.only.block M hM.lt hn).trans hM, fun h' => (h.ext M h').elim hn (fun h2 => by have := hM.lt; omega)⟩
abbrev NoneC : Array Value := #[.int .i64 0, .int .i64 0, .int .i64 4611686018427387904, .int .u8 0]
abbrev ZeC : Array Value := #[.int .i64 0, .int .i64 0, .int .i32 0, .int .i32 0]
def EBox (Yh : Hx) (w : World) (F : Nat → Prop) (B G : Nat) (t : To) (M : Nat) (x : Edg) (wc : World) : Prop := ∃ F3, Tf Yh wc F3 B G t ∧ Blk wc M 162 #[.int .i64 x.a, .int .i64 x.b, .int .i32 x.x, .int .i32 x.y] ∧ ¬ F3 M ∧ Step F F3 w wc
theorem EBox.last {F3 : Nat → Prop} {w2 : World} (h : Tf Yh w2 F3 B G t) (hS : Step F F3 w w2) (a b x y : Int) : EBox Yh w F B G t w2.heap.size ⟨a, b, x, y⟩ (w2.alloc (.cells #[.int .i64 a, .int .i64 b, .int .i32 x, .int .i32 y] 162)) :=
  have hb := (Below.refl w2.heap.size w2).alloc (Nat.le_refl _) (.cells #[.int .i64 a, .int .i64 b, .int .i32 x, .int .i32 y] 162)
  ⟨F3, h.below hb, Blk.new w2 _ _, fun hf => by have := h.lt _ hf; omega, hS.trans (Step.of_below hb)⟩
theorem EBox.early {F3 : Nat → Prop} {w2 : World} {M : Nat} {c : Array Value} (h : Tf Yh w2 F3 B G t) (hS : Step F F3 w w2) (hM : Blk w2 M 162 ZeC) (hn : ¬ F3 M) (hw : w.heap.size ≤ M) (a b x y : Int) : EBox Yh w F B G t M ⟨a, b, x, y⟩ ((((w2.setCell ⟨M, 0, none⟩ (.int .i64 a)).setCell ⟨M, 1, none⟩ (.int .i64 b)).setCell ⟨M, 2, none⟩ (.int .i32 x)).setCell ⟨M, 3, none⟩ (.int .i32 y)) := by
  have hbl : ∀ k, k ≠ M → ((((w2.setCell ⟨M, 0, none⟩ (.int .i64 a)).setCell ⟨M, 1, none⟩ (.int .i64 b)).setCell ⟨M, 2, none⟩ (.int .i32 x)).setCell ⟨M, 3, none⟩ (.int .i32 y)).heap[k]? = w2.heap[k]? := fun k hk =>
    (Below.heap_setCell _ ⟨M, 3, none⟩ _ k hk).trans ((Below.heap_setCell _ ⟨M, 2, none⟩ _ k hk).trans ((Below.heap_setCell _ ⟨M, 1, none⟩ _ k hk).trans (Below.heap_setCell _ ⟨M, 0, none⟩ _ k hk)))
  have hsz : ((((w2.setCell ⟨M, 0, none⟩ (.int .i64 a)).setCell ⟨M, 1, none⟩ (.int .i64 b)).setCell ⟨M, 2, none⟩ (.int .i32 x)).setCell ⟨M, 3, none⟩ (.int .i32 y)).heap.size = w2.heap.size := by rw [size_setCell, size_setCell, size_setCell, size_setCell]
  refine ⟨F3, h.kept (fun k hk => hbl k (fun e => hn (e ▸ hk))) (by omega), Blk.store4 hM _ _ _ _, hn, ⟨?_, hS.ext⟩⟩
  exact (((hS.only.set (K := M) (.inr hw) 0 _).set (K := M) (.inr hw) 1 _).set (K := M) (.inr hw) 2 _).set (K := M) (.inr hw) 3 _
theorem keep4 {wx : World} {N M : Nat} {ty : TypeId} {cs : Array Value} (h : Blk wx N ty cs) (hn : N ≠ M) (a b c d : Value) : Blk ((((wx.setCell ⟨M, 0, none⟩ a).setCell ⟨M, 1, none⟩ b).setCell ⟨M, 2, none⟩ c).setCell ⟨M, 3, none⟩ d) N ty cs :=
  ((Below.heap_setCell _ ⟨M, 3, none⟩ _ N hn).trans ((Below.heap_setCell _ ⟨M, 2, none⟩ _ N hn).trans ((Below.heap_setCell _ ⟨M, 1, none⟩ _ N hn).trans (Below.heap_setCell _ ⟨M, 0, none⟩ _ N hn)))).trans h
theorem ez4 {wx : World} {M : Nat} {a b x y : Int} (h : Blk wx M 162 #[.int .i64 a, .int .i64 b, .int .i32 x, .int .i32 y]) : wx.cell? ⟨M, 0, none⟩ = some (.int .i64 a) ∧ wx.cell? ⟨M, 1, none⟩ = some (.int .i64 b) ∧ wx.cell? ⟨M, 2, none⟩ = some (.int .i32 x) ∧ wx.cell? ⟨M, 3, none⟩ = some (.int .i32 y) := ⟨h.at rfl, h.at rfl, h.at rfl, h.at rfl⟩
theorem ezz {wx : World} {M : Nat} (h : Blk wx M 162 ZeC) : wx.cell? ⟨M, 0, none⟩ = some (.int .i64 0) ∧ wx.cell? ⟨M, 1, none⟩ = some (.int .i64 0) ∧ wx.cell? ⟨M, 2, none⟩ = some (.int .i32 0) ∧ wx.cell? ⟨M, 3, none⟩ = some (.int .i32 0) ∧ wx.frozen? ⟨M, 0, none⟩ = false ∧ wx.frozen? ⟨M, 1, none⟩ = false ∧ wx.frozen? ⟨M, 2, none⟩ = false ∧ wx.frozen? ⟨M, 3, none⟩ = false := ⟨h.at rfl, h.at rfl, h.at rfl, h.at rfl, h.frozen 0, h.frozen 1, h.frozen 2, h.frozen 3⟩
theorem fnewEdge_any (h : Tf Yh w F B G t) (a b : Int) (hm : t.m ≠ 0) {k : Nat} (hle : t.le k) (hk : k ≤ 30000) : Calls Tryz.prog 125 #[.pointer (some ⟨B, 0, none⟩), .int .i64 a, .int .i64 b] w fun e w' => ∃ F' G', e = .returned (.int .i32 t.newE) ∧ Tf Yh w' F' B G' (t.addE a b) ∧ Step F F' w w' := by
  have hb0 := (Below.refl w.heap.size w).alloc (Nat.le_refl _) (.cells #[.int .i64 0, .int .i64 0, .int .i64 4611686018427387904, .int .u8 0] 129)
  have hX0 : Blk (w.alloc (.cells #[.int .i64 0, .int .i64 0, .int .i64 4611686018427387904, .int .u8 0] 129)) w.heap.size 129 #[.int .i64 0, .int .i64 0, .int .i64 4611686018427387904, .int .u8 0] := Blk.new w _ _
  have nX : ¬ F w.heap.size := fun hf => by have := h.lt _ hf; omega
  have H0 := mkH (h.below hb0)
  have S0 : Hid (Step F F w (w.alloc (.cells #[.int .i64 0, .int .i64 0, .int .i64 4611686018427387904, .int .u8 0] 129))) := Step.of_below hb0
  go_enter Tryz.func125, Tryz.ntmps125
  go_wp2_with fail
  have hw0 : w.heap.size < (w.alloc (.cells NoneC 129)).heap.size := by simp
  generalize w.alloc (.cells #[.int .i64 0, .int .i64 0, .int .i64 4611686018427387904, .int .u8 0] 129) = w0 at *
  generalize hN0 : w.heap.size = N0 at hX0 nX hw0 ⊢
  have HN0 := mkH hN0
  clear hN0 hb0
  have hlt0 := hX0.lt
  have nz : Hid (∀ wx, Blk wx N0 129 NoneC → wx.cell? ⟨N0, 0, none⟩ = some (.int .i64 0) ∧ wx.cell? ⟨N0, 1, none⟩ = some (.int .i64 0) ∧ wx.cell? ⟨N0, 2, none⟩ = some (.int .i64 4611686018427387904) ∧ wx.cell? ⟨N0, 3, none⟩ = some (.int .u8 0)) := fun wx hx => ⟨hx.at rfl, hx.at rfl, hx.at rfl, hx.at rfl⟩
  obtain ⟨x0, x1, x2, x3⟩ := nz.out _ hX0
  have C1 : Hid (∀ wx, Below w0.heap.size w0 wx → Calls Tryz.prog 73 #[.pointer (some ⟨B, 0, none⟩), vlc noneV] wx fun e w' => ∃ F', e = .returned (.int .i32 t.newX) ∧ Tf Yh w' F' B G (t.ws (t.s.make noneV)) ∧ Step F F' w0 w' ∧ Kpt F F' w0 w' ∧ Kpt F F' wx w') := fun wx hx => (tf_make (H0.out.below hx) noneV hle.s (by omega)).mono fun e w' ⟨F', h1, h2, h3⟩ => ⟨F', h1, h2, (Step.of_below hx).trans h3, ((Step.of_below hx).trans h3).kpt, h3.kpt⟩
  have C2 : Hid (∀ w1 F1, Tf Yh w1 F1 B G (t.ws (t.s.make noneV)) → ∀ wx, Below w1.heap.size w1 wx → Calls Tryz.prog 73 #[.pointer (some ⟨B, 0, none⟩), vlc noneV] wx fun e w' => ∃ F', e = .returned (.int .i32 t.newY) ∧ Tf Yh w' F' B G (t.ws ((t.s.make noneV).make noneV)) ∧ Step F1 F' w1 w' ∧ Kpt F1 F' w1 w' ∧ Kpt F1 F' wx w') := fun w1 F1 h1 wx hx => (tf_make (h1.below hx) noneV (Sq.le_make hle.s noneV) (by omega)).mono fun e w' ⟨F', h1, h2, h3⟩ => ⟨F', h1, h2, (Step.of_below hx).trans h3, ((Step.of_below hx).trans h3).kpt, h3.kpt⟩
  have BX : Hid (Bd t.newX) := H0.out.newBd hle.s (by omega)
  have BY : Hid (∀ w1 F1, Tf Yh w1 F1 B G (t.ws (t.s.make noneV)) → Bd t.newY) := fun w1 F1 h1 => h1.newBd (Sq.le_make hle.s noneV) (by omega)
  have LE := mkH hle
  have HX0 := mkH hX0
  have HX0d : Hid (Blk w0.drew N0 129 NoneC) := hX0
  have b0 : Hid (Below w0.heap.size w0 w0.drew) := (Below.refl _ _).drew
  have b1 : Hid (Below w0.heap.size w0 (w0.alloc (.cells ZeC 162)).drew) := ((Below.refl _ _).alloc (Nat.le_refl _) _).drew
  have hMn : Hid (Blk (w0.alloc (.cells ZeC 162)).drew w0.heap.size 162 ZeC) := Blk.new w0 _ _
  have HX0a : Hid (Blk (w0.alloc (.cells ZeC 162)).drew N0 129 NoneC) := hX0.alloc _
  have nM0 : Hid (¬ F w0.heap.size) := fun hf => Nat.lt_irrefl _ (H0.out.lt _ hf)
  clear h hle hX0
  go_cut [8] from 10 (fun v8 wc => ∃ M, v8 = .pointer (some ⟨M, 0, none⟩) ∧ Bd t.newY ∧ Hid (EBox Yh w F B G (t.ws ((t.s.make noneV).make noneV)) M ⟨a, b, t.newX, t.newY⟩ wc))
  case first =>
    go_region_held3 (fun w' => w'.cell? ⟨N0, 0, none⟩ = some (.int .i64 0) ∧ w'.cell? ⟨N0, 1, none⟩ = some (.int .i64 0) ∧ w'.cell? ⟨N0, 2, none⟩ = some (.int .i64 4611686018427387904) ∧ w'.cell? ⟨N0, 3, none⟩ = some (.int .u8 0))
      (first
        | go_keep
        | with_reducible exact nz.out _ hB2
        | with_reducible exact nz.out _ (keep4 hB2 (Nat.ne_of_lt hlt0) _ _ _ _)
        | with_reducible exact nz.out _ (keep4 hB2 (Nat.ne_of_lt hB1.lt) _ _ _ _)
        | with_reducible exact nz.out _ (hB2.alloc _)
        | with_reducible exact nz.out _ hB1
        | with_reducible exact nz.out _ (hB1.alloc _)
        | with_reducible exact nz.out _ HX0d.out
        | with_reducible exact nz.out _ HX0a.out)
      (first
        | (go_at_call 73; refine (C2.out _ _ hT1 _ (by first | with_reducible exact Below.refl _ _ | with_reducible exact (Below.refl _ _).alloc (Nat.le_refl _) _)).mono ?_; rintro e w2 ⟨F2, rfl, hT2, hS2, hK2, hL2⟩; have hB2 := (hK2 N0 _ _ hB1 nX1).1; have nMa : ¬ F1 w1.heap.size := fun hf => Nat.lt_irrefl _ (hT1.lt _ hf)
           first
            | (have hM2 := (hK2 _ _ _ hM1 nM1).1; have nM2 := (hK2 _ _ _ hM1 nM1).2; obtain ⟨m0, m1, m2, m3, z0, z1, z2, z3⟩ := ezz hM2)
            | (have hM2 : Blk w2 w1.heap.size 162 ZeC := (by with_reducible exact (hL2 _ _ _ (Blk.new w1 162 ZeC) nMa).1); have nM2 : ¬ F2 w1.heap.size := (by with_reducible exact (hL2 _ _ _ (Blk.new w1 162 ZeC) nMa).2); obtain ⟨m0, m1, m2, m3, z0, z1, z2, z3⟩ := ezz hM2)
            | skip)
        | (go_at_call 73; refine (C1.out _ (by first | with_reducible exact b0.out | with_reducible exact b1.out)).mono ?_; rintro e w1 ⟨F1, rfl, hT1, hS1, hK1, hL1⟩; have hB1 := (hK1 N0 _ _ HX0.out nX).1; have nX1 := (hK1 N0 _ _ HX0.out nX).2
           first
            | (have hM1 : Blk w1 w0.heap.size 162 ZeC := (by with_reducible exact (hL1 _ _ _ hMn.out nM0.out).1); have nM1 : ¬ F1 w0.heap.size := (by with_reducible exact (hL1 _ _ _ hMn.out nM0.out).2))
            | skip)
        | fail)
    · have HEx := mkH (EBox.last hT2 (S0.out.trans (hS1.trans hS2)) a b t.newX t.newY)
      have hyy := BY.out _ _ hT1
      go_wp2
      go_meet
      exact ⟨_, rfl, hyy, HEx.out⟩
    · have HEx := mkH (EBox.early (c := ZeC) hT2 (S0.out.trans (hS1.trans hS2)) hM2 nM2 (S0.out.trans hS1).size a b t.newX t.newY)
      have hyy := BY.out _ _ hT1
      go_wp2
      go_meet
      exact ⟨_, rfl, hyy, HEx.out⟩
    · have HEx := mkH (EBox.early (c := ZeC) hT2 (S0.out.trans (hS1.trans hS2)) hM2 nM2 S0.out.size a b t.newX t.newY)
      have hyy := BY.out _ _ hT1
      go_wp2
      go_meet
      exact ⟨_, rfl, hyy, HEx.out⟩
  case rest =>
    obtain ⟨M, rfl, hYb, HE⟩ := hcut
    obtain ⟨F3, h3, hM, nM, hS3⟩ := HE.out
    have hXb := BX.out.i32
    have H3 := mkH h3
    have S3 := mkH hS3
    have HM3 := mkH hM
    obtain ⟨q0, q1, q2, q3⟩ : wc.cell? ⟨M, 0, none⟩ = some (.int .i64 a) ∧ wc.cell? ⟨M, 1, none⟩ = some (.int .i64 b) ∧ wc.cell? ⟨M, 2, none⟩ = some (.int .i32 t.newX) ∧ wc.cell? ⟨M, 3, none⟩ = some (.int .i32 t.newY) := ⟨hM.at rfl, hM.at rfl, hM.at rfl, hM.at rfl⟩
    have CT : Hid (Calls Tryz.prog 138 #[.pointer (some ⟨B, 5, none⟩), .agg #[.int .i64 a, .int .i64 b, .int .i32 t.newX, .int .i32 t.newY]] wc.drew fun e w' => ∃ F' G', e = .returned (.int .i32 t.newE) ∧ Tf Yh w' F' B G' ((t.ws ((t.s.make noneV).make noneV)).we (tkL t.e t.fe ⟨a, b, t.newX, t.newY⟩) t.fe.dropLast) ∧ Step F3 F' wc.drew w' ∧ Kpt F3 F' wc.drew w') := (tf_etake h3.drew ⟨a, b, t.newX, t.newY⟩ ⟨BX.out, hYb⟩ (Nat.le_trans LE.out.fe (by omega)) (Nat.le_trans LE.out.e (by omega))).mono fun e w' ⟨F', G', h1, h2, h3⟩ => ⟨F', G', h1, h2, h3, h3.kpt⟩
    have HM3d : Hid (Blk wc.drew M 162 #[.int .i64 a, .int .i64 b, .int .i32 t.newX, .int .i32 t.newY]) := hM
    replace hYb := hYb.i32
    have lm := LE.out.m
    have HEb : Hid (t.newE = tkI t.e t.fe) := rfl
    clear h3 hS3 hM HE C1 C2 BX BY b0 b1 hMn HX0a nM0 nz HX0 HX0d S0 H0 x0 x1 x2 x3 LE
    obtain ⟨X, hX⟩ : ∃ X, X = t.newX := ⟨_, rfl⟩
    obtain ⟨Y, hY⟩ : ∃ Y, Y = t.newY := ⟨_, rfl⟩
    obtain ⟨E, hE⟩ : ∃ E, E = t.newE := ⟨_, rfl⟩
    have HXY : Hid (X = t.newX ∧ Y = t.newY ∧ E = t.newE) := ⟨hX, hY, hE⟩
    rw [← hX] at q2 hXb
    rw [← hY] at q3 hYb
    have HM3x : Hid (Blk wc.drew M 162 #[.int .i64 a, .int .i64 b, .int .i32 X, .int .i32 Y]) := by show Blk _ _ _ _; rw [hX, hY]; exact HM3d.out
    have CTx : Hid (Calls Tryz.prog 138 #[.pointer (some ⟨B, 5, none⟩), .agg #[.int .i64 a, .int .i64 b, .int .i32 X, .int .i32 Y]] wc.drew fun e w' => ∃ F' G', e = .returned (.int .i32 E) ∧ Tf Yh w' F' B G' ((t.ws ((t.s.make noneV).make noneV)).we (tkL t.e t.fe ⟨a, b, X, Y⟩) t.fe.dropLast) ∧ Step F3 F' wc.drew w' ∧ Kpt F3 F' wc.drew w') := by rw [hX, hY, hE]; exact CT.out
    clear hX hY hE CT HM3d
    go_wp2_with fail
    go_region_held3 (fun w' => w'.cell? ⟨M, 0, none⟩ = some (.int .i64 a) ∧ w'.cell? ⟨M, 1, none⟩ = some (.int .i64 b) ∧ w'.cell? ⟨M, 2, none⟩ = some (.int .i32 X) ∧ w'.cell? ⟨M, 3, none⟩ = some (.int .i32 Y))
      (first
        | go_keep
        | with_reducible exact ez4 hM4)
      (first
        | (go_at_call 138; refine CTx.out.mono ?_; rintro e w4 ⟨F4, G4, rfl, hT4, hS4, hK4⟩; have hM4 := (hK4 M _ _ HM3x.out nM).1; have nM4 := (hK4 M _ _ HM3x.out nM).2)
        | fail)
    have H4 : Hid (Tf Yh w4 F4 B G4 ((t.ws ((t.s.make noneV).make noneV)).we (tkL t.e t.fe ⟨a, b, X, Y⟩) t.fe.dropLast)) := hT4
    have S4 : Hid (Step F F4 w w4) := S3.out.trans (Step.undrew hS4)
    have HM4 := mkH hM4
    clear hT4 hS4 hK4 hM4 H3 S3 HM3 HM3x CTx nM q0 q1 q2 q3
    obtain ⟨mp, c7, f7, hmp⟩ := H4.out.map
    rcases hmp with ⟨_, _, hz⟩ | ⟨bm, rfl, hbm, hP, hup⟩
    · exact absurd hz hm
    have hBl := H4.out.lt B H4.out.fb
    have gm : ∀ g : Grow w4, g.w.cell? ⟨B, 7, none⟩ = some (.map (some bm)) := fun g => Grow.cell hBl c7 g
    have gx : ∀ g : Grow w4, g.w.cell? ⟨M, 2, none⟩ = some (.int .i32 X) := fun g => Grow.cell HM4.out.lt (HM4.out.at (j := 2) rfl) g
    have hne := Grow.ne w4
    have hbM : bm ≠ M := fun e => nM4 (e ▸ hbm)
    clear hP hup c7 f7 hbm
    go_wp2_with fail
    try simp only [Act.put]
    refine wp_region_tail 8 (by kernel_rfl) (by kernel_rfl) (by kernel_rfl) ?_
    simp only [stillAt, stillOp, List.set_cons_succ, List.set_cons_zero, List.getElem?_cons_succ, List.getElem?_cons_zero, Option.getD_some, List.drop_succ_cons, List.drop_zero]
    repeat (go_big_quiet_step (fail))
    refine wpQuiet_nil ?_
    rintro v4 ⟨⟨_, hb⟩, rfl⟩
    have HQ4 : Hid (Tf Yh v4 F4 B G4 ((t.ws ((t.s.make noneV).make noneV)).we (tkL t.e t.fe ⟨a, b, X, Y⟩) t.fe.dropLast)) := H4.out.below hb
    obtain ⟨mp, c7, f7, hmp⟩ := HQ4.out.map
    have hmpe : mp = .map (some bm) := Option.some.inj (c7.symm.trans (gm ⟨v4, hb⟩))
    rcases hmp with ⟨_, _, hz⟩ | ⟨bm', e', hbm', hP, hup⟩
    · exact absurd hz hm
    rw [hmpe] at e'
    cases e'
    have HPn4 := mkH hP
    have HUn4 := mkH hup
    have HMn4 : Hid (Blk v4 M 162 #[.int .i64 a, .int .i64 b, .int .i32 X, .int .i32 Y]) := HM4.out.below hb
    have Sn4 : Hid (Step F F4 w v4) := S4.out.trans (Step.of_below hb)
    clear hP hup c7 f7 hmpe gm gx hne hb hBl hbm' H4 S4 HM4
    go_wp2_with (at_mapUpdate; refine wpList_part_store rfl _ _ _ rfl rfl HPn4.out (by show t.m ≤ 100000; omega) rfl hXb (0, E) rfl ?_; intro w5 hPs hgs)
    obtain ⟨hTs, hSs⟩ := HUn4.out _ _ _ hPs hgs
    have H5 : Hid (Tf Yh w5 F4 B G4 (((t.ws ((t.s.make noneV).make noneV)).we (tkL t.e t.fe ⟨a, b, X, Y⟩) t.fe.dropLast).wp (updP t.p X (0, E)) (t.m + 1))) := hTs
    have S5 : Hid (Step F F4 w w5) := Sn4.out.trans hSs
    have HM5 : Hid (Blk w5 M 162 #[.int .i64 a, .int .i64 b, .int .i32 X, .int .i32 Y]) := (hgs.block M HMn4.out.lt (fun e => hbM (Option.some.inj e).symm)).trans HMn4.out
    clear hTs hSs hPs hgs HPn4 HUn4 Sn4 HMn4 HQ4 hbM
    obtain ⟨mp, c7, f7, hmp⟩ := H5.out.map
    rcases hmp with ⟨_, _, hz⟩ | ⟨bm, rfl, hbm, hP, hup⟩
    · exact absurd hz (Nat.succ_ne_zero _)
    have hBl := H5.out.lt B H5.out.fb
    have gm : ∀ g : Grow w5, g.w.cell? ⟨B, 7, none⟩ = some (.map (some bm)) := fun g => Grow.cell hBl c7 g
    have gx : ∀ g : Grow w5, g.w.cell? ⟨M, 3, none⟩ = some (.int .i32 Y) := fun g => Grow.cell HM5.out.lt (HM5.out.at (j := 3) rfl) g
    have hne := Grow.ne w5
    have hbM : bm ≠ M := fun e => nM4 (e ▸ hbm)
    clear hP hup c7 f7 hbm
    go_wp2_with fail
    try simp only [Act.put]
    refine wp_region_tail 8 (by kernel_rfl) (by kernel_rfl) (by kernel_rfl) ?_
    simp only [stillAt, stillOp, List.set_cons_succ, List.set_cons_zero, List.getElem?_cons_succ, List.getElem?_cons_zero, Option.getD_some, List.drop_succ_cons, List.drop_zero]
    repeat (go_big_quiet_step (fail))
    refine wpQuiet_nil ?_
    rintro v5 ⟨⟨_, hb⟩, rfl⟩
    have HQ5 : Hid (Tf Yh v5 F4 B G4 (((t.ws ((t.s.make noneV).make noneV)).we (tkL t.e t.fe ⟨a, b, X, Y⟩) t.fe.dropLast).wp (updP t.p X (0, E)) (t.m + 1))) := H5.out.below hb
    obtain ⟨mp, c7, f7, hmp⟩ := HQ5.out.map
    have hmpe : mp = .map (some bm) := Option.some.inj (c7.symm.trans (gm ⟨v5, hb⟩))
    rcases hmp with ⟨_, _, hz⟩ | ⟨bm', e', hbm', hP, hup⟩
    · exact absurd hz (Nat.succ_ne_zero _)
    rw [hmpe] at e'
    cases e'
    have HPn5 := mkH hP
    have HUn5 := mkH hup
    have HMn5 : Hid (Blk v5 M 162 #[.int .i64 a, .int .i64 b, .int .i32 X, .int .i32 Y]) := HM5.out.below hb
    have Sn5 : Hid (Step F F4 w v5) := S5.out.trans (Step.of_below hb)
    clear hP hup c7 f7 hmpe gm gx hne hb hBl hbm' H5 S5 HM5
    go_wp2_with (at_mapUpdate; refine wpList_part_store rfl _ _ _ rfl rfl HPn5.out (by show t.m + 1 ≤ 100000; omega) rfl hYb (0, E) rfl ?_; intro w6 hPs hgs)
    obtain ⟨hTs, hSs⟩ := HUn5.out _ _ _ hPs hgs
    have H6 : Hid (Tf Yh w6 F4 B G4 ((((t.ws ((t.s.make noneV).make noneV)).we (tkL t.e t.fe ⟨a, b, X, Y⟩) t.fe.dropLast).wp (updP t.p X (0, E)) (t.m + 1)).wp (updP (updP t.p X (0, E)) Y (0, E)) (t.m + 1 + 1))) := hTs
    have S6 : Hid (Step F F4 w w6) := Sn5.out.trans hSs
    have HM6 : Hid (Blk w6 M 162 #[.int .i64 a, .int .i64 b, .int .i32 X, .int .i32 Y]) := (hgs.block M HMn5.out.lt (fun e => hbM (Option.some.inj e).symm)).trans HMn5.out
    clear hTs hSs hPs hgs HPn5 HUn5 Sn5 HMn5 HQ5 hbM
    obtain ⟨e1, e2, e3⟩ := HXY.out
    have H7 : Hid (Tf Yh w6 F4 B G4 (t.addE a b)) := by
      have := H6.out
      rw [e1, e2, e3] at this
      exact this
    clear H6
    go_wp2
    go_ret
    exact ⟨_, _, by rw [← e3]; rfl, H7.out, S6.out⟩
end
end Go.Proofs.YtlmdjghcmofdlaaGreat
namespace Go.Proofs.YtlmdjghcmofdlaaGreat
open Go.RowKit
set_option linter.unusedVariables false
variable {Yh : Hx}
section
variable {w : World} {F : Nat → Prop} {B G : Nat} {t : To}
theorem map_some (bm : Nat) (w : World) : (binOp BinOp.eql 92 (.map (some bm)) (.map none)).run Tryz.prog w = .ok (.bool false) w := by kernel_rfl
theorem map_none (w : World) : (binOp BinOp.eql 92 (.map none) (.map none)).run Tryz.prog w = .ok (.bool true) w := by kernel_rfl
theorem fvertex_any (h : Tf Yh w F B G t) (sum least : Int) {k : Nat} (hle : t.le k) (hk : k ≤ 30000) : Calls Tryz.prog 47 #[.pointer (some ⟨B, 0, none⟩), .int .i64 sum, .int .i64 least] w fun e w' => ∃ F', e = .returned (.int .i64 (tkI t.v t.fv)) ∧ Tf Yh w' F' B G (t.addV sum least) ∧ Step F F' w w' := by
  have hfv := h.frs.1
  obtain ⟨mp, c7, f7, hmp⟩ := h.map
  have hlv := hle.v
  have hlm := hle.m
  have hmm := @run_makeMap Tryz.prog
  have hms := map_some
  have hmn := map_none
  have BI := mkH (h.newBd hle.s (by omega))
  have hvb := tkI_bd hfv
  obtain ⟨i, hi⟩ : ∃ i, i = newI t.s.K t.s.fr := ⟨_, rfl⟩
  obtain ⟨v, hv⟩ : ∃ v, v = tkI t.v t.fv := ⟨_, rfl⟩
  have HV := mkH hv
  rw [← hi] at BI
  rw [← hv] at hvb
  have hib := BI.out.i32
  have hw64 : IntKind.i64.wrap v = v := by simp [IntKind.wrap, IntKind.bits, IntKind.signed]; omega
  obtain ⟨tm, htm⟩ : ∃ tm, tm = t.wp t.p (t.m + 1) := ⟨_, rfl⟩
  have CM : Hid (∀ wx Fx, Tf Yh wx Fx B G tm → Calls Tryz.prog 73 #[.pointer (some ⟨B, 0, none⟩), vlc ⟨1, sum, least, 0⟩] wx fun e w' => ∃ F', e = .returned (.int .i32 i) ∧ Tf Yh w' F' B G (tm.ws (t.s.make ⟨1, sum, least, 0⟩)) ∧ Step Fx F' wx w') := fun wx Fx hx => by rw [hi]; rw [htm] at hx ⊢; exact tf_make hx _ hle.s (by omega)
  have CT : Hid (∀ wx Fx, Tf Yh wx Fx B G (tm.ws (t.s.make ⟨1, sum, least, 0⟩)) → Calls Tryz.prog 74 #[.pointer (some ⟨B, 3, none⟩), .int .i32 i] wx fun e w' => ∃ F', e = .returned (.int .i32 v) ∧ Tf Yh w' F' B G ((tm.ws (t.s.make ⟨1, sum, least, 0⟩)).wv (tkL t.v t.fv i) t.fv.dropLast) ∧ Step Fx F' wx w') := fun wx Fx hx => by rw [hv]; rw [htm] at hx ⊢; exact tf_vtake hx i BI.out (Nat.le_trans hle.fv (by omega)) (Nat.le_trans hle.v (by omega))
  have FIN : Hid (∀ wx Fx, Tf Yh wx Fx B G (((tm.ws (t.s.make ⟨1, sum, least, 0⟩)).wv (tkL t.v t.fv i) t.fv.dropLast).wp (updP tm.p i (v, 0)) (tm.m + 1)) → Tf Yh wx Fx B G (t.addV sum least)) := fun wx Fx hx => by rw [htm, hi, hv] at hx; exact hx
  have HTM : Hid (tm.m = t.m + 1) := by rw [htm]; rfl
  have hT0 : Hid (∃ F0, (∃ bm, mp = .map (some bm) ∧ Tf Yh w F0 B G tm ∧ Step F F0 w w) ∨ (mp = .map none ∧ Tf Yh ((w.alloc (.map #[] 0)).setCell ⟨B, 7, none⟩ (.map (some w.heap.size))) F0 B G tm ∧ Step F F0 w ((w.alloc (.map #[] 0)).setCell ⟨B, 7, none⟩ (.map (some w.heap.size))))) := by
    rcases hmp with ⟨rfl, hp, hm⟩ | ⟨bm, rfl, hbm, hP, hup⟩
    · obtain ⟨F0, a1, a2⟩ := h.mkmap hp
      refine ⟨F0, .inr ⟨rfl, ?_, a2⟩⟩
      rw [htm, hp]; exact a1
    · obtain ⟨a1, a2⟩ := hup w t.p (t.m + 1) (hP.mono (Nat.le_succ _)) ⟨rfl, rfl, rfl, Nat.le_refl _, fun _ _ _ => rfl⟩
      refine ⟨F, .inl ⟨bm, rfl, ?_, a2⟩⟩
      rw [htm]; exact a1
  have hba := (Below.refl w.heap.size w).alloc (Nat.le_refl _) (.map #[] 0)
  have c8 := ((bcell hba).1 B 7 (h.lt B h.fb)).trans c7
  have f8 := ((bcell hba).2 B 7 (h.lt B h.fb)).trans f7
  clear hle hi hv hfv htm h hmp hba
  obtain ⟨F0, hT0⟩ := hT0.out
  rcases hT0 with ⟨bm, rfl, hT, hS⟩ | ⟨rfl, hT, hS⟩
  · have H0 := mkH hT
    have S0 := mkH hS
    clear hT hS
    go_enter Tryz.func47, Tryz.ntmps47
    go_wp2_with fail
    refine (CM.out _ _ H0.out).mono ?_
    rintro e w1 ⟨F1, rfl, hT, hS⟩
    have H1 := mkH hT
    have S1 := mkH (S0.out.trans hS)
    clear hT hS H0 S0 c7 f7 c8 f8
    go_wp2_with fail
    refine (CT.out _ _ H1.out).mono ?_
    rintro e w2 ⟨F2, rfl, hT, hS⟩
    have H2 := mkH hT
    have S2 := mkH (S1.out.trans hS)
    clear hT hS H1 S1 CM CT
    obtain ⟨mp, c7, f7, hmp⟩ := H2.out.map
    rcases hmp with ⟨rfl, hp, hm⟩ | ⟨bm2, rfl, hbm, hP, hup⟩
    · exact absurd ((HTM.out.symm.trans hm)) (Nat.succ_ne_zero _)
    have HP := mkH hP
    have HU := mkH hup
    clear hP hup
    go_wp2_with (at_mapUpdate; refine wpList_part_store rfl _ _ _ rfl rfl HP.out (by show tm.m ≤ 100000; rw [HTM.out]; omega) rfl hib (v, 0) rfl ?_; intro w3 hPs hgs)
    obtain ⟨hTs, hSs⟩ := HU.out _ _ _ hPs hgs
    have H3 := mkH (FIN.out _ _ hTs)
    have S3 := mkH (S2.out.trans hSs)
    clear hTs hSs hPs hgs HP HU FIN H2 S2
    go_wp2
    go_ret
    exact ⟨_, ret_of (by rw [← HV.out]; go_num), H3.out, S3.out⟩
  · have H0 := mkH hT
    have S0 := mkH hS
    clear hT hS
    go_enter Tryz.func47, Tryz.ntmps47
    go_wp2_with fail
    refine (CM.out _ _ H0.out).mono ?_
    rintro e w1 ⟨F1, rfl, hT, hS⟩
    have H1 := mkH hT
    have S1 := mkH (S0.out.trans hS)
    clear hT hS H0 S0 c7 f7 c8 f8
    go_wp2_with fail
    refine (CT.out _ _ H1.out).mono ?_
    rintro e w2 ⟨F2, rfl, hT, hS⟩
    have H2 := mkH hT
    have S2 := mkH (S1.out.trans hS)
    clear hT hS H1 S1 CM CT
    obtain ⟨mp, c7, f7, hmp⟩ := H2.out.map
    rcases hmp with ⟨rfl, hp, hm⟩ | ⟨bm2, rfl, hbm, hP, hup⟩
    · exact absurd ((HTM.out.symm.trans hm)) (Nat.succ_ne_zero _)
    have HP := mkH hP
    have HU := mkH hup
    clear hP hup
    go_wp2_with (at_mapUpdate; refine wpList_part_store rfl _ _ _ rfl rfl HP.out (by show tm.m ≤ 100000; rw [HTM.out]; omega) rfl hib (v, 0) rfl ?_; intro w3 hPs hgs)
    obtain ⟨hTs, hSs⟩ := HU.out _ _ _ hPs hgs
    have H3 := mkH (FIN.out _ _ hTs)
    have S3 := mkH (S2.out.trans hSs)
    clear hTs hSs hPs hgs HP HU FIN H2 S2
    go_wp2
    go_ret
    exact ⟨_, ret_of (by rw [← HV.out]; go_num), H3.out, S3.out⟩
end
end Go.Proofs.YtlmdjghcmofdlaaGreat
namespace Go.Proofs.YtlmdjghcmofdlaaGreat
open Go.RowKit
set_option linter.unusedVariables false
variable {Yh : Hx}
def To.dropR (t : To) (v : Int) : Int := if isA t.v v = true then (if t.s.lone (t.item v) = true then 0 else 13) else 4
def To.drop (t : To) (v : Int) : To := if isA t.v v = true then (if t.s.lone (t.item v) = true then t.dropV v else t) else t
def To.linkR (t : To) (a b : Int) : Int := if isA t.v a = true ∧ isA t.v b = true then (if t.same a b = true then 5 else 0) else 4
def To.linkN (t : To) (a b : Int) : Int := if t.linkR a b = 0 then t.newE else 0
def To.linked (t : To) (a b : Int) : To := if t.linkR a b = 0 then t.link a b else t
def To.cutR (t : To) (n : Int) : Int := if isA t.e n = true then 0 else 4
def To.cut (t : To) (n : Int) : To := if isA t.e n = true then t.cutE n else t
section
variable {w : World} {F : Nat → Prop} {B G : Nat} {t : To}
theorem Sq.free_no {s : Sq} {i : Int} (h : s.lone i = false) : s.free i = s := by unfold Sq.free; rw [if_neg (by rw [h]; simp)]
theorem fdrop_any (h : Tf Yh w F B G t) (v : Int) {k : Nat} (hle : t.le k) (hk : k ≤ 30000) : Calls Tryz.prog 50 #[.pointer (some ⟨B, 0, none⟩), .int .i64 v] w fun e w' => ∃ F', e = .returned (.int .i64 (t.dropR v)) ∧ Tf Yh w' F' B G (t.drop v) ∧ Step F F' w w' := by
  have hI := fitem_any h v (Nat.le_trans hle.v (by omega))
  have HI := mkH hI
  have H0 := mkH h
  rcases h.bd.item v with ⟨hv, hb⟩ | ⟨hv, h0⟩
  · have hvb := isA_bd hv
    have hw := wrap32_in (n := v) (by have := hle.v; omega)
    have HV := mkH hv
    have hib := hb.i32
    have hi0 : ¬ t.item v = 0 := by unfold Bd at hb; omega
    have hF := tf_free h (t.item v) hib
    unfold To.dropR To.drop
    rw [if_pos hv, if_pos hv]
    have LE := mkH hle
    obtain ⟨i, hi⟩ : ∃ i, i = t.item v := ⟨_, rfl⟩
    have HII := mkH hi
    rw [← hi] at HI hI hib hi0 hF ⊢
    have HF := mkH hF
    cases hl : t.s.lone i with
    | false =>
      rw [if_neg (by simp), if_neg (by simp)]
      rw [hl] at HF
      have hfn := Sq.free_no hl
      rw [hfn] at HF
      clear h hv hb hI hle hF hi hl hfn
      go_enter Tryz.func50, Tryz.ntmps50
      go_wp2_with fail
      refine HI.out.mono ?_
      rintro e w1 ⟨rfl, rfl⟩
      go_wp2_with fail
      refine HF.out.mono ?_
      rintro e w2 ⟨F2, rfl, hT, hS⟩
      have H2 := mkH hT
      have S2 := mkH hS
      clear hT hS HF HI H0
      go_wp2
      go_ret
      exact ⟨_, rfl, H2.out, S2.out⟩
    | true =>
      rw [if_pos rfl, if_pos rfl]
      rw [hl] at HF
      have FIN : Hid (∀ wx Fx, Tf Yh wx Fx B G (((t.ws (t.s.free i)).wp (updP t.p i (0, 0)) t.m).wv (frL 0 t.v v) (t.fv ++ [v])) → Tf Yh wx Fx B G (t.dropV v)) := fun wx Fx hx => by rw [hi] at hx; exact hx
      have hdn := fun (wx : World) (ty : TypeId) => Go.Maps.drop_nil (P := Tryz.prog) (w := wx) keyP mapP (keyP_mk hib) ty
      clear h hv hb hI hle hF hi hl
      go_enter Tryz.func50, Tryz.ntmps50
      go_wp2_with fail
      refine HI.out.mono ?_
      rintro e w1 ⟨rfl, rfl⟩
      go_wp2_with fail
      refine HF.out.mono ?_
      rintro e w2 ⟨F2, rfl, hT, hS⟩
      have H2 := mkH hT
      have S2 := mkH hS
      clear hT hS HF HI H0
      obtain ⟨mp, c7, f7, hmp⟩ := H2.out.map
      have C3 : Hid (∀ wx Fx, Tf Yh wx Fx B G ((t.ws (t.s.free i)).wp (updP t.p i (0, 0)) t.m) → Calls Tryz.prog 80 #[.pointer (some ⟨B, 3, none⟩), .int .i32 v] wx fun e w' => ∃ F', e = .returned (.bool true) ∧ Tf Yh w' F' B G (((t.ws (t.s.free i)).wp (updP t.p i (0, 0)) t.m).wv (frL 0 t.v v) (t.fv ++ [v])) ∧ Step Fx F' wx w') := fun wx Fx hx => tf_vfree hx v HV.out (Nat.le_trans LE.out.fv (by omega)) (Nat.le_trans LE.out.v (by omega))
      rcases hmp with ⟨rfl, hp, hm⟩ | ⟨bm, rfl, hbm, hP, hup⟩
      · have H3 : Hid (Tf Yh w2 F2 B G ((t.ws (t.s.free i)).wp (updP t.p i (0, 0)) t.m)) := by
          have hp' : t.p = p0 := hp
          show Tf Yh _ _ _ _ _
          rw [hp', updP_p0]
          exact H2.out.eqp hp rfl
        clear hp hm H2
        go_wp2_with fail
        refine (C3.out _ _ H3.out).mono ?_
        rintro e w4 ⟨F4, rfl, hT, hS⟩
        have H4 := mkH (FIN.out _ _ hT)
        have S4 := mkH (S2.out.trans hS)
        clear hT hS H3 S2 C3 FIN c7 f7
        go_wp2
        go_ret
        exact ⟨_, rfl, H4.out, S4.out⟩
      · have HP := mkH hP
        have HU := mkH hup
        clear hP hup
        go_wp2_with (at_delete; refine wpList_part_drop rfl _ _ rfl rfl HP.out rfl hib ?_; intro w3 hP0 hg0)
        obtain ⟨hT0, hS0⟩ := HU.out _ _ _ hP0 hg0
        have H3 : Hid (Tf Yh w3 F2 B G ((t.ws (t.s.free i)).wp (updP t.p i (0, 0)) t.m)) := hT0
        have S3 := mkH (S2.out.trans hS0)
        clear hT0 hS0 hP0 hg0 HP HU H2 S2
        go_wp2_with fail
        refine (C3.out _ _ H3.out).mono ?_
        rintro e w4 ⟨F4, rfl, hT, hS⟩
        have H4 := mkH (FIN.out _ _ hT)
        have S4 := mkH (S3.out.trans hS)
        clear hT hS H3 S3 C3 FIN c7 f7
        go_wp2
        go_ret
        exact ⟨_, rfl, H4.out, S4.out⟩
  · unfold To.dropR To.drop
    rw [if_neg (by rw [hv]; simp), if_neg (by rw [hv]; simp)]
    rw [h0] at HI
    clear h hv h0 hI hle
    go_enter Tryz.func50, Tryz.ntmps50
    go_wp2_with fail
    refine HI.out.mono ?_
    rintro e w1 ⟨rfl, rfl⟩
    go_wp2
    go_ret
    exact ⟨_, rfl, H0.out, Step.refl _ _⟩
theorem flink_any (h : Tf Yh w F B G t) (a b : Int) (hm : isA t.v a = true → t.m ≠ 0) {k : Nat} (hle : t.le k) (hk : k ≤ 30000) : Calls Tryz.prog 100 #[.pointer (some ⟨B, 0, none⟩), .int .i64 a, .int .i64 b] w fun e w' => ∃ F' G', e = .returned (.tuple #[.int .i64 (t.linkN a b), .int .i64 (t.linkR a b)]) ∧ Tf Yh w' F' B G' (t.linked a b) ∧ Step F F' w w' := by
  have H0 := mkH h
  have HA := mkH (fitem_any h a (Nat.le_trans hle.v (by omega)))
  have HB := mkH (fitem_any h b (Nat.le_trans hle.v (by omega)))
  have no : ¬ (isA t.v a = true ∧ isA t.v b = true) → Hid (t.linkN a b = 0 ∧ t.linkR a b = 4 ∧ t.linked a b = t) := fun hno => by
    have e1 : t.linkR a b = 4 := by unfold To.linkR; rw [if_neg hno]
    exact ⟨by unfold To.linkN; rw [e1, if_neg (by omega)], e1, by unfold To.linked; rw [e1, if_neg (by omega)]⟩
  rcases h.bd.item a with ⟨ha, hab⟩ | ⟨ha, ha0⟩
  · rcases h.bd.item b with ⟨hb, hbb⟩ | ⟨hb, hb0⟩
    · have hai := hab.i32
      have hbi := hbb.i32
      have HS := mkH (tf_same h (t.item a) (t.item b) hai hbi)
      have ha0 : ¬ t.item a = 0 := by unfold Bd at hab; omega
      have hb0 : ¬ t.item b = 0 := by unfold Bd at hbb; omega
      cases hs : t.same a b with
      | true =>
        have e1 : t.linkR a b = 5 := by unfold To.linkR; rw [if_pos ⟨ha, hb⟩, if_pos hs]
        rw [show t.linkN a b = 0 by unfold To.linkN; rw [e1, if_neg (by omega)], e1, show t.linked a b = t by unfold To.linked; rw [e1, if_neg (by omega)]]
        rw [show decide (t.item b ∈ t.s.S (t.item a)) = true from hs] at HS
        clear h ha hb hab hbb hle hm no hs e1
        generalize t.item a = i at *
        generalize t.item b = j at *
        have ha1 : (i == 0) = false := by simpa using ha0
        have hb1 : (j == 0) = false := by simpa using hb0
        go_enter Tryz.func100, Tryz.ntmps100
        go_wp2_with fail
        refine HA.out.mono ?_
        rintro e w1 ⟨rfl, rfl⟩
        go_wp2_with fail
        refine HB.out.mono ?_
        rintro e w1 ⟨rfl, rfl⟩
        go_wp2_with fail
        refine HS.out.mono ?_
        rintro e w1 ⟨rfl, rfl⟩
        go_wp2
        go_ret2
        exact ⟨_, _, rfl, H0.out, Step.refl _ _⟩
      | false =>
        have e1 : t.linkR a b = 0 := by unfold To.linkR; rw [if_pos ⟨ha, hb⟩, if_neg (by rw [hs]; simp)]
        rw [show t.linkN a b = t.newE by unfold To.linkN; rw [e1, if_pos rfl], e1, show t.linked a b = t.link a b by unfold To.linked; rw [e1, if_pos rfl]]
        rw [show decide (t.item b ∈ t.s.S (t.item a)) = false from hs] at HS
        have hfe := h.frs.2
        have hnb := tkI_bd hfe
        have HNE := mkH (fnewEdge_any h a b (hm ha) hle hk)
        have hA1 : isA (t.addE a b).e t.newE = true := by show isA (tkL t.e t.fe _) _ = true; rw [isA_tkL hfe]; exact if_pos rfl
        have hE1 : (t.addE a b).edge t.newE = ⟨a, b, t.newX, t.newY⟩ := by show atA zeE (tkL t.e t.fe _) _ = _; rw [atA_tkL hfe _ _ (show 1 ≤ t.newE from hnb.1)]; exact if_pos rfl
        have hlen : (t.addE a b).e.length ≤ 100000 := Nat.le_trans (tkL_len _ _ _) (by have := hle.e; omega)
        have C1 : Hid (∀ wx Fx Gx, Tf Yh wx Fx B Gx (t.addE a b) → Calls Tryz.prog 127 #[.pointer (some ⟨B, 5, none⟩), .int .i32 t.newE] wx fun e w' => e = .returned (.pointer (some ⟨Gx, eloc t.newE, none⟩)) ∧ w' = wx) := fun wx Fx Gx hx => tf_eat hx t.newE hA1 hlen
        have C2 : Hid (∀ wx Fx Gx, Tf Yh wx Fx B Gx (t.addE a b) → Calls Tryz.prog 126 #[.pointer (some ⟨B, 0, none⟩), .int .i32 (t.item a), .int .i32 (t.item b), .pointer (some ⟨Gx, eloc t.newE, none⟩)] wx fun e w' => ∃ F', e = .returned (.tuple #[]) ∧ Tf Yh w' F' B Gx (t.link a b) ∧ Step Fx F' wx w') := fun wx Fx Gx hx => by
          have := fsplice_any hx (t.item a) (t.item b) t.newE hA1 hai hbi
          rw [hE1] at this
          exact this
        have hnE : 1 ≤ t.newE ∧ t.newE ≤ 100000 := by have := hle.e; show 1 ≤ tkI t.e t.fe ∧ tkI t.e t.fe ≤ 100000; omega
        clear h ha hb hab hbb hle hm no hs e1 hA1 hE1 hlen hfe hnb
        generalize t.item a = i at *
        generalize t.item b = j at *
        have ha1 : (i == 0) = false := by simpa using ha0
        have hb1 : (j == 0) = false := by simpa using hb0
        obtain ⟨E, hE⟩ : ∃ E, E = t.newE := ⟨_, rfl⟩
        have HEE := mkH hE
        rw [← hE] at hnE C1 C2 HNE
        clear hE
        have hw64 : IntKind.i64.wrap E = E := by simp [IntKind.wrap, IntKind.bits, IntKind.signed]; omega
        generalize eloc E = o at *
        go_enter Tryz.func100, Tryz.ntmps100
        go_wp2_with fail
        refine HA.out.mono ?_
        rintro e w1 ⟨rfl, rfl⟩
        go_wp2_with fail
        refine HB.out.mono ?_
        rintro e w1 ⟨rfl, rfl⟩
        go_wp2_with fail
        refine HS.out.mono ?_
        rintro e w1 ⟨rfl, rfl⟩
        go_wp2_with fail
        refine HNE.out.mono ?_
        rintro e w2 ⟨F2, G2, rfl, hT, hS⟩
        have H2 := mkH hT
        have S2 := mkH hS
        clear hT hS HNE HS HA HB H0
        go_wp2_with fail
        refine (C1.out _ _ _ H2.out).mono ?_
        rintro e w3 ⟨rfl, rfl⟩
        go_wp2_with fail
        refine (C2.out _ _ _ H2.out).mono ?_
        rintro e w4 ⟨F4, rfl, hT, hS⟩
        have H4 := mkH hT
        have S4 := mkH (S2.out.trans hS)
        clear hT hS H2 S2 C1 C2
        go_wp2
        go_ret2
        exact ⟨_, _, ret_of (by rw [← HEE.out]; go_num), H4.out, S4.out⟩
    · obtain ⟨e1, e2, e3⟩ := (no (by rw [hb]; simp)).out
      rw [e1, e2, e3]
      have ha0 : ¬ t.item a = 0 := by unfold Bd at hab; omega
      rw [hb0] at HB
      clear h ha hb hab hb0 hle hm no e1 e2 e3
      generalize t.item a = i at *
      have ha1 : (i == 0) = false := by simpa using ha0
      go_enter Tryz.func100, Tryz.ntmps100
      go_wp2_with fail
      refine HA.out.mono ?_
      rintro e w1 ⟨rfl, rfl⟩
      go_wp2_with fail
      refine HB.out.mono ?_
      rintro e w1 ⟨rfl, rfl⟩
      go_wp2
      go_ret2
      exact ⟨_, _, rfl, H0.out, Step.refl _ _⟩
  · obtain ⟨e1, e2, e3⟩ := (no (by rw [ha]; simp)).out
    rw [e1, e2, e3]
    rw [ha0] at HA
    clear h ha ha0 hle hm no e1 e2 e3
    generalize t.item b = j at *
    go_enter Tryz.func100, Tryz.ntmps100
    go_wp2_with fail
    refine HA.out.mono ?_
    rintro e w1 ⟨rfl, rfl⟩
    go_wp2_with fail
    refine HB.out.mono ?_
    rintro e w1 ⟨rfl, rfl⟩
    go_wp2
    go_ret2
    exact ⟨_, _, rfl, H0.out, Step.refl _ _⟩
end
end Go.Proofs.YtlmdjghcmofdlaaGreat
namespace Go.Proofs.YtlmdjghcmofdlaaGreat
open Go.RowKit
set_option linter.unusedVariables false
variable {Yh : Hx}
theorem To.ws_e (t : To) (s : Sq) : (t.ws s).e = t.e ∧ (t.ws s).fe = t.fe := ⟨rfl, rfl⟩
theorem To.dropI_e (t : To) (i : Int) : (t.dropI i).e = t.e ∧ (t.dropI i).fe = t.fe := by
  obtain ⟨a, b, c, d, e, f, g⟩ := t
  exact ⟨rfl, rfl⟩
section
variable {w : World} {F : Nat → Prop} {B G : Nat} {t : To}
theorem fcut_any (h : Tf Yh w F B G t) (n : Int) {k : Nat} (hle : t.le k) (hk : k ≤ 30000) : Calls Tryz.prog 82 #[.pointer (some ⟨B, 0, none⟩), .int .i64 n] w fun e w' => ∃ F', e = .returned (.int .i64 (t.cutR n)) ∧ Tf Yh w' F' B G (t.cut n) ∧ Step F F' w w' := by
  have H0 := mkH h
  cases hn : isA t.e n with
  | false =>
    have HE := mkH (fedge_no h n hn (Nat.le_trans hle.e (by omega)))
    unfold To.cutR To.cut
    rw [if_neg (by rw [hn]; simp), if_neg (by rw [hn]; simp)]
    clear h hn hle
    go_enter Tryz.func82, Tryz.ntmps82
    go_wp2_with fail
    refine HE.out.mono ?_
    rintro e w1 ⟨rfl, rfl⟩
    go_wp2
    go_ret
    exact ⟨_, rfl, H0.out, Step.refl _ _⟩
  | true =>
    have HE := mkH (fedge_yes h n hn (Nat.le_trans hle.e (by omega)))
    unfold To.cutR To.cut
    rw [if_pos hn, if_pos hn]
    have hx := h.bd.x n hn
    have hnb := isA_bd hn
    have hw := wrap32_in (n := n) (by have := hle.e; omega)
    obtain ⟨x, ex⟩ : ∃ x, x = (t.edge n).x := ⟨_, rfl⟩
    obtain ⟨y, ey⟩ : ∃ y, y = (t.edge n).y := ⟨_, rfl⟩
    have HC : Hid (∀ w' F' t', Tf Yh w' F' B G t' → t'.e = t.e → w'.cell? ⟨G, eloc n + 2, none⟩ = some (.int .i32 x) ∧ w'.cell? ⟨G, eloc n + 3, none⟩ = some (.int .i32 y)) := fun w' F' t' h' he => by
      have hn' : isA t'.e n = true := by rw [he]; exact hn
      have := h'.ecell (i := n) hn'
      rw [ex, ey, show t.edge n = t'.edge n by unfold To.edge; rw [he]]
      exact ⟨this.2.2.1, this.2.2.2.1⟩
    have HU := mkH (funsplice_any h n hn)
    obtain ⟨t3, ht3⟩ : ∃ t3, t3 = ((t.ws (t.s.unsplice x y)).dropI x).dropI y := ⟨_, rfl⟩
    have he3 : t3.e = t.e ∧ t3.fe = t.fe := by rw [ht3, (To.dropI_e _ _).1, (To.dropI_e _ _).2, (To.dropI_e _ _).1, (To.dropI_e _ _).2]; exact To.ws_e _ _
    have hfin : t3.we (frL zeE t3.e n) (t3.fe ++ [n]) = t.cutE n := by rw [he3.1, he3.2, ht3]; unfold To.cutE; rw [← ex, ← ey]
    have FIN : Hid (∀ wx Fx, Tf Yh wx Fx B G (t3.we (frL zeE t3.e n) (t3.fe ++ [n])) → Tf Yh wx Fx B G (t.cutE n)) := fun wx Fx hx => by rw [hfin] at hx; exact hx
    rw [← ex, ← ey] at HU hx
    have hxb := hx.1.i32
    have hyb := hx.2.i32
    have C4 : Hid (∀ wx Fx, Tf Yh wx Fx B G t3 → Calls Tryz.prog 110 #[.pointer (some ⟨B, 5, none⟩), .int .i32 n] wx fun e w' => ∃ F', e = .returned (.bool true) ∧ Tf Yh w' F' B G (t3.we (frL zeE t3.e n) (t3.fe ++ [n])) ∧ Step Fx F' wx w') := fun wx Fx hx => tf_efree hx n (by rw [he3.1]; exact hn) (by rw [he3.2]; exact Nat.le_trans hle.fe (by omega)) (by rw [he3.1]; exact Nat.le_trans hle.e (by omega))
    have HT3 := mkH ht3
    clear hfin he3 ht3
    clear h hn hle hx ex ey hnb
    generalize eloc n = o at *
    go_enter Tryz.func82, Tryz.ntmps82
    go_wp2_with fail
    refine HE.out.mono ?_
    rintro e w1 ⟨rfl, rfl⟩
    go_wp2_with fail
    refine HU.out.mono ?_
    rintro e w2 ⟨F2, rfl, hT, hS⟩
    have H2 := mkH hT
    have S2 := mkH hS
    obtain ⟨q1, q2⟩ := HC.out _ _ _ hT (To.ws_e _ _).1
    clear hT hS HE HU H0 q2
    go_wp2_with fail
    refine (fdropItem_any H2.out x hxb).mono ?_
    rintro e w3 ⟨F3, rfl, hT, hS⟩
    have H3 := mkH hT
    have S3 := mkH (S2.out.trans hS)
    replace q1 := (HC.out _ _ _ hT (((To.dropI_e _ _).1).trans (To.ws_e _ _).1)).2
    clear hT hS H2 S2
    go_wp2_with fail
    refine (fdropItem_any H3.out y hyb).mono ?_
    rintro e w4 ⟨F4, rfl, hT, hS⟩
    have H4 : Hid (Tf Yh w4 F4 B G t3) := by show Tf Yh _ _ _ _ _; rw [HT3.out]; exact hT
    have S4 := mkH (S3.out.trans hS)
    clear hT hS H3 S3 q1
    go_wp2_with fail
    refine (C4.out _ _ H4.out).mono ?_
    rintro e w5 ⟨F5, rfl, hT, hS⟩
    have H5 := mkH (FIN.out _ _ hT)
    have S5 := mkH (S4.out.trans hS)
    clear hT hS H4 S4 FIN C4
    go_wp2
    go_ret
    exact ⟨_, rfl, H5.out, S5.out⟩
end
end Go.Proofs.YtlmdjghcmofdlaaGreat
namespace Go.Proofs.YtlmdjghcmofdlaaGreat
open Go.RowKit
set_option linter.unusedVariables false
variable {Yh : Hx}
def vmk (b : Int) : Int := bits BinOp.and IntKind.u8 b 15
def emk (b : Int) : Int := b * 16 % 256
theorem vertexMark_any (b : Int) (w : World) : Calls Tryz.prog 113 #[.int .u8 b] w fun e w' => e = .returned (.int .u8 (vmk b)) ∧ w' = w := by
  go_enter Tryz.func113, Tryz.ntmps113
  go_wp2
  go_ret
  exact ⟨rfl, rfl⟩
theorem edgeMark_any (b : Int) (w : World) : Calls Tryz.prog 128 #[.int .u8 b] w fun e w' => e = .returned (.int .u8 (emk b)) ∧ w' = w := by
  go_enter Tryz.func128, Tryz.ntmps128
  go_wp2
  go_ret
  exact ⟨rfl, rfl⟩
section
variable {w : World} {F : Nat → Prop} {B G : Nat} {t : To}
theorem fsame_any (h : Tf Yh w F B G t) (a b : Int) {k : Nat} (hle : t.le k) (hk : k ≤ 30000) : Calls Tryz.prog 65 #[.pointer (some ⟨B, 0, none⟩), .int .i64 a, .int .i64 b] w fun e w' => e = .returned (.bool (t.same a b)) ∧ Below w.heap.size w w' := by
  have HI : Hid (∀ (g : Grow w) (v : Int), Calls Tryz.prog 78 #[.pointer (some ⟨B, 0, none⟩), .int .i64 v] g.w fun e w' => e = .returned (.int .i32 (t.item v)) ∧ Below g.w.heap.size g.w w') := fun g v => (fitem_any (h.below g.h) v (Nat.le_trans hle.v (by omega))).mono fun e w' ⟨h1, h2⟩ => ⟨h1, by rw [h2]; exact Below.refl _ _⟩
  have bd : ∀ v, -2147483648 ≤ t.item v ∧ t.item v ≤ 2147483647 := fun v => by
    rcases h.bd.item v with ⟨_, h1⟩ | ⟨_, h1⟩
    · exact h1.i32
    · rw [h1]; omega
  have HS : Hid (∀ g : Grow w, Calls Tryz.prog 92 #[.pointer (some ⟨B, 0, none⟩), .int .i32 (t.item a), .int .i32 (t.item b)] g.w fun e w' => e = .returned (.bool (t.same a b)) ∧ Below g.w.heap.size g.w w') := fun g => (tf_same (h.below g.h) _ _ (bd a) (bd b)).mono fun e w' ⟨h1, h2⟩ => ⟨h1, by rw [h2]; exact Below.refl _ _⟩
  have hne := Grow.ne w
  clear h hle bd
  generalize t.same a b = r at *
  generalize t.item = fi at *
  go_enter Tryz.func65, Tryz.ntmps65
  go_wp2_with fail
  refine wp_region_grow (by kernel_rfl) (by kernel_rfl) ?_
  repeat (go_big_quiet_step (first | (go_at_call 78; exact grow_call (HI.out _ _)) | (go_at_call 92; exact grow_call (HS.out _))))
  refine wpQuiet_nil ?_
  rintro w7 ⟨⟨_, hb7⟩, rfl⟩
  go_wp2
  go_ret
  exact ⟨rfl, hb7⟩
theorem ftotal_any (h : Tf Yh w F B G t) (v : Int) {k : Nat} (hle : t.le k) (hk : k ≤ 30000) : Calls Tryz.prog 93 #[.pointer (some ⟨B, 0, none⟩), .int .i64 v] w fun e w' => e = .returned (vlc (t.total v)) ∧ Below w.heap.size w w' := by
  have hb1 := (Below.refl w.heap.size w).alloc (Nat.le_refl _) (.cells #[.int .i64 0, .int .i64 0, .int .i64 0, .int .u8 0] 129)
  have hK := Blk.new w 129 #[.int .i64 0, .int .i64 0, .int .i64 0, .int .u8 0]
  have HI := mkH (fitem_any (h.below hb1) v (Nat.le_trans hle.v (by omega)))
  have HB := mkH hb1
  have HK := mkH hK
  rcases h.bd.item v with ⟨hv, hb⟩ | ⟨hv, h0⟩
  · have hi0 : ¬ t.item v = 0 := by unfold Bd at hb; omega
    have HT := mkH (tf_total (h.below hb1) (t.item v) hb.i32)
    unfold To.total
    rw [if_neg hi0]
    generalize hZ : sumV ((t.s.S (t.item v)).map t.s.V) = Z at *
    clear hZ
    generalize t.item v = i at *
    have hi1 : (i == 0) = false := by simpa using hi0
    clear h hle hv hb hb1 hK
    go_enter Tryz.func93, Tryz.ntmps93
    go_wp2_with fail
    refine HI.out.mono ?_
    rintro e w1 ⟨rfl, rfl⟩
    go_wp2_with fail
    refine HT.out.mono ?_
    rintro e w2 ⟨rfl, hb2⟩
    have hK2 := HK.out.below hb2
    have HB2 := mkH (HB.out.trans (hb2.mono (by simp)))
    have c0 := hK2.at (j := 0) rfl
    have c1 := hK2.at (j := 1) rfl
    have c2 := hK2.at (j := 2) rfl
    have c3 := hK2.at (j := 3) rfl
    have f0 := hK2.frozen 0
    have f1 := hK2.frozen 1
    have f2 := hK2.frozen 2
    have f3 := hK2.frozen 3
    have HK2 := mkH hK2
    clear hb2 hK2 HI HT HB HK
    go_wp2
    refine bodyPost_ret (results_cell_row rfl _ _ w.heap.size 129 _ (0, 0) _ rfl (Blk.store4 HK2.out _ _ _ _) Tryz.underlying129 rfl (by kernel_rfl)) rfl ?_
    exact ⟨rfl, ((((HB2.out.setCell (Nat.le_refl _) _).setCell (Nat.le_refl _) _).setCell (Nat.le_refl _) _).setCell (Nat.le_refl _) _)⟩
  · unfold To.total
    rw [if_pos h0]
    rw [h0] at HI
    clear h hle hv h0 hb1 hK
    go_enter Tryz.func93, Tryz.ntmps93
    go_wp2_with fail
    refine HI.out.mono ?_
    rintro e w1 ⟨rfl, rfl⟩
    go_wp2
    refine bodyPost_ret (results_cell_row rfl _ _ w.heap.size 129 _ (0, 0) _ rfl HK.out Tryz.underlying129 rfl (by kernel_rfl)) rfl ?_
    exact ⟨rfl, HB.out⟩
theorem fldX (Z : Vl) (w : World) : Sem.run Tryz.prog (Instr.field 129 (vlc Z) 0) w = .ok (.int .i64 Z.c) w ∧ Sem.run Tryz.prog (Instr.field 129 (vlc Z) 1) w = .ok (.int .i64 Z.s) w ∧ Sem.run Tryz.prog (Instr.field 129 (vlc Z) 2) w = .ok (.int .i64 Z.l) w := by
  obtain ⟨a, b, c, d⟩ := Z
  exact ⟨by kernel_rfl, by kernel_rfl, by kernel_rfl⟩
theorem fsize_any (h : Tf Yh w F B G t) (v : Int) {k : Nat} (hle : t.le k) (hk : k ≤ 30000) : Calls Tryz.prog 66 #[.pointer (some ⟨B, 0, none⟩), .int .i64 v] w fun e w' => e = .returned (.int .i64 (t.total v).c) ∧ Below w.heap.size w w' := by
  have HT := mkH (ftotal_any h v hle hk)
  have hfl := fldX
  clear h hle
  generalize t.total v = Z at *
  go_enter Tryz.func66, Tryz.ntmps66
  go_wp2_with fail
  refine HT.out.mono ?_
  rintro e w1 ⟨rfl, hb⟩
  go_wp2
  go_ret
  exact ⟨rfl, hb⟩
theorem fsum_any (h : Tf Yh w F B G t) (v : Int) {k : Nat} (hle : t.le k) (hk : k ≤ 30000) : Calls Tryz.prog 67 #[.pointer (some ⟨B, 0, none⟩), .int .i64 v] w fun e w' => e = .returned (.int .i64 (t.total v).s) ∧ Below w.heap.size w w' := by
  have HT := mkH (ftotal_any h v hle hk)
  have hfl := fldX
  clear h hle
  generalize t.total v = Z at *
  go_enter Tryz.func67, Tryz.ntmps67
  go_wp2_with fail
  refine HT.out.mono ?_
  rintro e w1 ⟨rfl, hb⟩
  go_wp2
  go_ret
  exact ⟨rfl, hb⟩
theorem fleast_any (h : Tf Yh w F B G t) (v : Int) {k : Nat} (hle : t.le k) (hk : k ≤ 30000) : Calls Tryz.prog 68 #[.pointer (some ⟨B, 0, none⟩), .int .i64 v] w fun e w' => e = .returned (.int .i64 (t.total v).l) ∧ Below w.heap.size w w' := by
  have HT := mkH (ftotal_any h v hle hk)
  have hfl := fldX
  clear h hle
  generalize t.total v = Z at *
  go_enter Tryz.func68, Tryz.ntmps68
  go_wp2_with fail
  refine HT.out.mono ?_
  rintro e w1 ⟨rfl, hb⟩
  go_wp2
  go_ret
  exact ⟨rfl, hb⟩
end
end Go.Proofs.YtlmdjghcmofdlaaGreat
namespace Go.Proofs.YtlmdjghcmofdlaaGreat
open Go.RowKit
set_option linter.unusedVariables false
variable {Yh : Hx}
def To.markR (t : To) (v b : Int) : Int := if b > 15 then 1 else if isA t.v v = true then 0 else 4
def To.mark (t : To) (v b : Int) : To := if b > 15 then t else if isA t.v v = true then t.markI (t.item v) (vmk b) else t
def To.emarkR (t : To) (n b : Int) : Int := if b > 15 then 1 else if isA t.e n = true then 0 else 4
def To.emark (t : To) (n b : Int) : To := if b > 15 then t else if isA t.e n = true then t.markI (t.edge n).x (emk b) else t
section
variable {w : World} {F : Nat → Prop} {B G : Nat} {t : To}
theorem fmarkItem_any (h : Tf Yh w F B G t) (i m : Int) (hb : -2147483648 ≤ i ∧ i ≤ 2147483647) : Calls Tryz.prog 115 #[.pointer (some ⟨B, 0, none⟩), .int .i32 i, .int .u8 m] w fun e w' => ∃ F', e = .returned (.tuple #[]) ∧ Tf Yh w' F' B G (t.markI i m) ∧ Step F F' w w' := by
  have HG := mkH (tf_get h i hb)
  have H0 := mkH h
  have FIN : Hid (∀ wx Fx, Tf Yh wx Fx B G (t.ws (t.s.set i ⟨(t.val i).c, (t.val i).s, (t.val i).l, m⟩)) → Tf Yh wx Fx B G (t.markI i m)) := fun wx Fx hx => hx
  rcases hz : t.val i with ⟨zc, zs, zl, zm⟩
  rw [hz] at HG FIN
  clear h hz
  go_enter Tryz.func115, Tryz.ntmps115
  go_wp2_with fail
  refine HG.out.mono ?_
  rintro e w1 ⟨rfl, hb1⟩
  have H1 := mkH (H0.out.below hb1)
  have S1 : Hid (Step F F w w1) := Step.of_below hb1
  clear hb1 HG H0
  have hba := (Below.refl w1.heap.size w1).alloc (Nat.le_refl _) (.cells #[.int .i64 zc, .int .i64 zs, .int .i64 zl, .int .u8 m] 129)
  have hX2 : Blk (w1.alloc (.cells #[.int .i64 zc, .int .i64 zs, .int .i64 zl, .int .u8 m] 129)) w1.heap.size 129 #[.int .i64 zc, .int .i64 zs, .int .i64 zl, .int .u8 m] := Blk.new w1 _ _
  have nX : ¬ F w1.heap.size := fun hf => Nat.lt_irrefl _ (H1.out.lt _ hf)
  have H2 := mkH (H1.out.below hba)
  have S2 := mkH (S1.out.trans (Step.of_below hba))
  clear hba H1 S1
  go_wp2_with fail
  generalize w1.alloc (.cells #[.int .i64 zc, .int .i64 zs, .int .i64 zl, .int .u8 m] 129) = w2 at *
  generalize w1.heap.size = M at *
  have C2 : Hid (Calls Tryz.prog 136 #[.pointer (some ⟨B, 0, none⟩), .int .i32 i, vlc ⟨zc, zs, zl, m⟩] w2.drew fun e w' => ∃ F', e = .returned (.bool (isK t.s.K i)) ∧ Tf Yh w' F' B G (t.ws (t.s.set i ⟨zc, zs, zl, m⟩)) ∧ Step F F' w2.drew w' ∧ Kpt F F' w2.drew w') := (tf_set H2.out.drew i ⟨zc, zs, zl, m⟩ hb).mono fun e w' ⟨F', h1, h2, h3⟩ => ⟨F', h1, h2, h3, h3.kpt⟩
  have nz : Hid (∀ wx, Blk wx M 129 #[.int .i64 zc, .int .i64 zs, .int .i64 zl, .int .u8 m] → wx.cell? ⟨M, 0, none⟩ = some (.int .i64 zc) ∧ wx.cell? ⟨M, 1, none⟩ = some (.int .i64 zs) ∧ wx.cell? ⟨M, 2, none⟩ = some (.int .i64 zl) ∧ wx.cell? ⟨M, 3, none⟩ = some (.int .u8 m)) := fun wx hx => ⟨hx.at rfl, hx.at rfl, hx.at rfl, hx.at rfl⟩
  obtain ⟨x0, x1, x2, x3⟩ := nz.out _ hX2
  have HX2 : Hid (Blk w2.drew M 129 #[.int .i64 zc, .int .i64 zs, .int .i64 zl, .int .u8 m]) := hX2
  clear hX2
  go_region_held3 (fun w' => w'.cell? ⟨M, 0, none⟩ = some (.int .i64 zc) ∧ w'.cell? ⟨M, 1, none⟩ = some (.int .i64 zs) ∧ w'.cell? ⟨M, 2, none⟩ = some (.int .i64 zl) ∧ w'.cell? ⟨M, 3, none⟩ = some (.int .u8 m))
    (first
      | go_keep
      | with_reducible exact nz.out _ hB3)
    (first
      | (go_at_call 136; refine C2.out.mono ?_; rintro e w3 ⟨F3, rfl, hT, hS, hK3⟩; have hB3 := (hK3 M _ _ HX2.out nX).1)
      | fail)
  have H3 := mkH (FIN.out _ _ hT)
  have S3 := mkH (S2.out.trans (Step.undrew hS))
  clear hT hS hK3 hB3 H2 S2 C2 x0 x1 x2 x3 HX2 nz
  go_wp2
  go_returns
  exact ⟨_, rfl, H3.out, S3.out⟩
theorem fmark_any (h : Tf Yh w F B G t) (v b : Int) {k : Nat} (hle : t.le k) (hk : k ≤ 30000) : Calls Tryz.prog 91 #[.pointer (some ⟨B, 0, none⟩), .int .i64 v, .int .u8 b] w fun e w' => ∃ F', e = .returned (.int .i64 (t.markR v b)) ∧ Tf Yh w' F' B G (t.mark v b) ∧ Step F F' w w' := by
  have HI := mkH (fitem_any h v (Nat.le_trans hle.v (by omega)))
  have H0 := mkH h
  unfold To.markR To.mark
  by_cases hb15 : b > 15
  · rw [if_pos hb15, if_pos hb15]
    clear h hle HI
    go_enter Tryz.func91, Tryz.ntmps91
    go_wp2
    go_ret
    exact ⟨_, rfl, H0.out, Step.refl _ _⟩
  · rw [if_neg hb15, if_neg hb15]
    rcases h.bd.item v with ⟨hv, hb⟩ | ⟨hv, h0⟩
    · rw [if_pos hv, if_pos hv]
      have hi0 : ¬ t.item v = 0 := by unfold Bd at hb; omega
      have HM := mkH (fmarkItem_any h (t.item v) (vmk b) hb.i32)
      have HVM := mkH (vertexMark_any b)
      clear h hv hle hb
      generalize t.item v = i at *
      generalize vmk b = m at *
      have hi1 : (i == 0) = false := by simpa using hi0
      go_enter Tryz.func91, Tryz.ntmps91
      go_wp2_with fail
      refine HI.out.mono ?_
      rintro e w0 ⟨rfl, rfl⟩
      go_wp2_with fail
      refine (HVM.out _).mono ?_
      rintro e w1 ⟨rfl, rfl⟩
      go_wp2_with fail
      refine HM.out.mono ?_
      rintro e w2 ⟨F2, rfl, hT, hS⟩
      have H2 := mkH hT
      have S2 := mkH hS
      clear hT hS HM
      go_wp2
      go_ret
      exact ⟨_, rfl, H2.out, S2.out⟩
    · rw [if_neg (by rw [hv]; simp), if_neg (by rw [hv]; simp)]
      rw [h0] at HI
      clear h hv h0 hle
      go_enter Tryz.func91, Tryz.ntmps91
      go_wp2_with fail
      refine HI.out.mono ?_
      rintro e w0 ⟨rfl, rfl⟩
      go_wp2
      go_ret
      exact ⟨_, rfl, H0.out, Step.refl _ _⟩
theorem femark_any (h : Tf Yh w F B G t) (n b : Int) {k : Nat} (hle : t.le k) (hk : k ≤ 30000) : Calls Tryz.prog 101 #[.pointer (some ⟨B, 0, none⟩), .int .i64 n, .int .u8 b] w fun e w' => ∃ F', e = .returned (.int .i64 (t.emarkR n b)) ∧ Tf Yh w' F' B G (t.emark n b) ∧ Step F F' w w' := by
  have H0 := mkH h
  unfold To.emarkR To.emark
  by_cases hb15 : b > 15
  · rw [if_pos hb15, if_pos hb15]
    clear h hle
    go_enter Tryz.func101, Tryz.ntmps101
    go_wp2
    go_ret
    exact ⟨_, rfl, H0.out, Step.refl _ _⟩
  · rw [if_neg hb15, if_neg hb15]
    cases hn : isA t.e n with
    | true =>
      have HE := mkH (fedge_yes h n hn (Nat.le_trans hle.e (by omega)))
      rw [if_pos rfl, if_pos rfl]
      obtain ⟨_, _, c2, _, hG⟩ := h.ecell hn
      rw [show (n - 1).toNat * 5 = eloc n from rfl] at c2
      have hxb := (h.bd.x n hn).1.i32
      have HC : Hid (∀ w' F' m, Tf Yh w' F' B G (t.markI (t.edge n).x m) → w'.cell? ⟨G, eloc n + 2, none⟩ = some (.int .i32 (t.edge n).x)) := fun w' F' m h' => (h'.ecell (i := n) hn).2.2.1
      have HM := mkH (fmarkItem_any h.drew (t.edge n).x (emk b) hxb)
      have HVM := mkH (edgeMark_any b)
      clear h hn hle
      generalize (t.edge n).x = x at *
      generalize emk b = m at *
      generalize eloc n = o at *
      go_enter Tryz.func101, Tryz.ntmps101
      go_wp2_with fail
      refine HE.out.mono ?_
      rintro e w0 ⟨rfl, rfl⟩
      go_wp2_with fail
      go_region_held3 (fun w' => w'.cell? ⟨G, o + 2, none⟩ = some (.int .i32 x))
        (first | go_keep | exact HC.out _ _ _ hT)
        (first
          | (go_at_call 128; refine (HVM.out _).mono ?_; rintro e w1 ⟨rfl, rfl⟩)
          | (go_at_call 115; refine HM.out.mono ?_; rintro e w2 ⟨F2, rfl, hT, hS⟩)
          | fail)
      have H2 := mkH hT
      have S2 := mkH (Step.undrew hS)
      clear hT hS HM
      go_wp2
      go_ret
      exact ⟨_, rfl, H2.out, S2.out⟩
    | false =>
      have HE := mkH (fedge_no h n hn (Nat.le_trans hle.e (by omega)))
      rw [if_neg (by simp), if_neg (by simp)]
      clear h hn hle
      go_enter Tryz.func101, Tryz.ntmps101
      go_wp2_with fail
      refine HE.out.mono ?_
      rintro e w0 ⟨rfl, rfl⟩
      go_wp2
      go_ret
      exact ⟨_, rfl, H0.out, Step.refl _ _⟩
end
end Go.Proofs.YtlmdjghcmofdlaaGreat
namespace Go.Proofs.YtlmdjghcmofdlaaGreat
open Go.RowKit
set_option linter.unusedVariables false
variable {Yh : Hx}
theorem Blk.store2 {W : World} {B : Nat} {t : TypeId} {a b : Value} (h : Blk W B t #[a, b]) (a' b' : Value) : Blk ((W.setCell ⟨B, 0, none⟩ a').setCell ⟨B, 1, none⟩ b') B t #[a', b'] := by simpa using (h.setAt 0 a').setAt 1 b'
section
variable {w : World} {F : Nat → Prop} {B G : Nat} {t : To}
theorem Tf.fd (h : Tf Yh w F B G t) (i m : Int) : -2147483648 ≤ fdS t.s.V (t.s.S i) m ∧ fdS t.s.V (t.s.S i) m ≤ 2147483647 := by
  unfold fdS
  cases hf : (t.s.S i).find? fun j => hasB (t.s.V j).m m with
  | none => simp
  | some a => exact (h.mems (i := i) (j := a) (List.mem_of_find?_eq_some hf)).i32
theorem Tf.asks (h : Tf Yh w F B G t) {q : Int} (hq : -2147483648 ≤ q ∧ q ≤ 2147483647) : ∃ mp, w.cell? ⟨B, 7, none⟩ = some mp ∧ ∀ g : Grow w, (Instr.lookup 92 mp (.int .i32 q) false).run Tryz.prog g.w = .ok (.agg #[.int .i32 (t.p q).1, .int .i32 (t.p q).2]) g.w := by
  obtain ⟨mp, c7, f7, hmp⟩ := h.map
  refine ⟨mp, c7, fun g => ?_⟩
  rcases hmp with ⟨rfl, hp, hm⟩ | ⟨bm, rfl, hbm, hP, hup⟩
  · rw [hp]; exact PM.look_nil g.w hq
  · exact (hP.kept (g.h.block bm hP.lt)).look hq
theorem ffind_any (h : Tf Yh w F B G t) (v m : Int) (hm : 0 ≤ m ∧ m ≤ 255) {k : Nat} (hle : t.le k) (hk : k ≤ 30000) : Calls Tryz.prog 112 #[.pointer (some ⟨B, 0, none⟩), .int .i64 v, .int .u8 m] w fun e w' => e = .returned (ptc (t.find v m)) ∧ Below w.heap.size w w' := by
  have hb1 := (Below.refl w.heap.size w).alloc (Nat.le_refl _) (.cells #[.int .i32 0, .int .i32 0] 132)
  have HK := mkH (Blk.new w 132 #[.int .i32 0, .int .i32 0])
  have HI := mkH (fitem_any (h.below hb1) v (Nat.le_trans hle.v (by omega)))
  have HB := mkH hb1
  rcases h.bd.item v with ⟨hv, hb⟩ | ⟨hv, h0⟩
  · have hi0 : ¬ t.item v = 0 := by unfold Bd at hb; omega
    have hq := h.fd (t.item v) m
    have HF : Hid (∀ g : Grow (w.alloc (.cells #[.int .i32 0, .int .i32 0] 132)), Calls Tryz.prog 134 #[.pointer (some ⟨B, 0, none⟩), .int .i32 (t.item v), .int .u8 m] g.w fun e w' => e = .returned (.int .i32 (fdS t.s.V (t.s.S (t.item v)) m)) ∧ Below g.w.heap.size g.w w') := fun g => tf_find ((h.below hb1).below g.h) (t.item v) m hb.i32 hm
    unfold To.find
    rw [if_neg hi0]
    obtain ⟨mp, c7, hl⟩ := (h.below hb1).asks hq
    have hBl := (h.below hb1).lt B h.fb
    generalize hq' : fdS t.s.V (t.s.S (t.item v)) m = q at *
    rcases hpq : t.p q with ⟨pa, pb⟩
    rw [hpq] at hl
    clear hpq hq'
    generalize t.item v = i at *
    have hi1 : (i == 0) = false := by simpa using hi0
    have HL := mkH hl
    clear h hle hv hb hb1 hq hl
    go_enter Tryz.func112, Tryz.ntmps112
    go_wp2_with fail
    refine HI.out.mono ?_
    rintro e w1 ⟨rfl, rfl⟩
    go_wp2_with fail
    generalize w.alloc (.cells #[.int .i32 0, .int .i32 0] 132) = w1 at *
    have gm : ∀ g : Grow w1, g.w.cell? ⟨B, 7, none⟩ = some mp := Grow.cell hBl c7
    have gl := HL.out
    have hne := Grow.ne w1
    refine wp_region_tail 11 (by kernel_rfl) (by kernel_rfl) (by kernel_rfl) ?_
    simp only [stillAt, stillOp, List.set_cons_succ, List.set_cons_zero, List.getElem?_cons_succ, List.getElem?_cons_zero, Option.getD_some, List.drop_succ_cons, List.drop_zero]
    repeat (go_big_quiet_step ((go_at_call 134; exact grow_call (HF.out _))))
    refine wpQuiet_nil ?_
    rintro w3 ⟨⟨_, hb3⟩, rfl⟩
    have hK3 := HK.out.below hb3
    have HB3 := mkH (HB.out.trans (hb3.mono HB.out.size))
    have c0 := hK3.at (j := 0) rfl
    have c1 := hK3.at (j := 1) rfl
    have f0 := hK3.frozen 0
    have f1 := hK3.frozen 1
    have HK3 := mkH hK3
    clear hb3 hK3 gm gl hne HL HF HI HB HK c7
    go_wp2
    refine bodyPost_ret (results_cell_row rfl _ _ w.heap.size 132 _ (0, 0) _ rfl (Blk.store2 HK3.out _ _) Tryz.underlying132 rfl (by kernel_rfl)) rfl ?_
    exact ⟨rfl, ((HB3.out.setCell (Nat.le_refl _) _).setCell (Nat.le_refl _) _)⟩
  · unfold To.find
    rw [if_pos h0]
    rw [h0] at HI
    clear h hle hv h0 hb1
    go_enter Tryz.func112, Tryz.ntmps112
    go_wp2_with fail
    refine HI.out.mono ?_
    rintro e w1 ⟨rfl, rfl⟩
    go_wp2
    refine bodyPost_ret (results_cell_row rfl _ _ w.heap.size 132 _ (0, 0) _ rfl HK.out Tryz.underlying132 rfl (by kernel_rfl)) rfl ?_
    exact ⟨rfl, HB.out⟩
theorem ffindV_any (h : Tf Yh w F B G t) (v b : Int) (hm : 0 ≤ vmk b ∧ vmk b ≤ 255) (hp : 0 ≤ (t.find v (vmk b)).1 ∧ (t.find v (vmk b)).1 ≤ 2147483647) {k : Nat} (hle : t.le k) (hk : k ≤ 30000) : Calls Tryz.prog 85 #[.pointer (some ⟨B, 0, none⟩), .int .i64 v, .int .u8 b] w fun e w' => e = .returned (.tuple #[.int .i64 (t.find v (vmk b)).1, .bool (decide ((t.find v (vmk b)).1 ≠ 0))]) ∧ Below w.heap.size w w' := by
  have HVM := mkH (vertexMark_any b)
  have HF := mkH (fun (wx : World) (hx : Tf Yh wx F B G t) => ffind_any hx v (vmk b) hm hle hk)
  have H0 := mkH h
  generalize t.find v (vmk b) = P at *
  obtain ⟨pa, pb⟩ := P
  simp only at hp ⊢
  rw [show ptc (pa, pb) = .agg #[.int .i32 pa, .int .i32 pb] from rfl] at HF
  clear h hle
  generalize vmk b = m at *
  have hw64 : IntKind.i64.wrap pa = pa := by simp [IntKind.wrap, IntKind.bits, IntKind.signed]; omega
  go_enter Tryz.func85, Tryz.ntmps85
  go_wp2_with fail
  refine (HVM.out _).mono ?_
  rintro e w0 ⟨rfl, rfl⟩
  go_wp2_with fail
  refine (HF.out _ H0.out).mono ?_
  rintro e w1 ⟨rfl, hb1⟩
  have HB2 : Hid (Below w0.heap.size w0 (w1.alloc (.cells #[.int .i32 pa, .int .i32 pb] 132))) := hb1.alloc hb1.size _
  have hK := Blk.new w1 132 #[.int .i32 pa, .int .i32 pb]
  clear hb1
  go_wp2_with fail
  generalize w1.alloc (.cells #[.int .i32 pa, .int .i32 pb] 132) = w2 at *
  generalize w1.heap.size = M at *
  have hMl := hK.lt
  have gx : ∀ g : Grow w2, g.w.cell? ⟨M, 0, none⟩ = some (.int .i32 pa) := fun g => Grow.cell hMl (hK.at (j := 0) rfl) g
  have hne := Grow.ne w2
  refine wp_region_grow (by kernel_rfl) (by kernel_rfl) ?_
  repeat (go_big_quiet_step (fail))
  refine wpQuiet_nil ?_
  rintro w7 ⟨⟨_, hb7⟩, rfl⟩
  have HB7 := mkH (HB2.out.trans (hb7.mono HB2.out.size))
  clear hb7 gx hne hK HB2
  go_wp2
  go_ret2
  refine ⟨ret_of ?_, HB7.out⟩
  by_cases h0 : pa = 0
  · subst h0; rfl
  · have h1 : (pa != 0) = true := by simpa using h0
    simp [h0, h1]
theorem ffindE_any (h : Tf Yh w F B G t) (v b : Int) (hm : 0 ≤ emk b ∧ emk b ≤ 255) (hp : 0 ≤ (t.find v (emk b)).2 ∧ (t.find v (emk b)).2 ≤ 2147483647) {k : Nat} (hle : t.le k) (hk : k ≤ 30000) : Calls Tryz.prog 111 #[.pointer (some ⟨B, 0, none⟩), .int .i64 v, .int .u8 b] w fun e w' => e = .returned (.tuple #[.int .i64 (t.find v (emk b)).2, .bool (decide ((t.find v (emk b)).2 ≠ 0))]) ∧ Below w.heap.size w w' := by
  have HVM := mkH (edgeMark_any b)
  have HF := mkH (fun (wx : World) (hx : Tf Yh wx F B G t) => ffind_any hx v (emk b) hm hle hk)
  have H0 := mkH h
  generalize t.find v (emk b) = P at *
  obtain ⟨pa, pb⟩ := P
  simp only at hp ⊢
  rw [show ptc (pa, pb) = .agg #[.int .i32 pa, .int .i32 pb] from rfl] at HF
  clear h hle
  generalize emk b = m at *
  have hw64 : IntKind.i64.wrap pb = pb := by simp [IntKind.wrap, IntKind.bits, IntKind.signed]; omega
  go_enter Tryz.func111, Tryz.ntmps111
  go_wp2_with fail
  refine (HVM.out _).mono ?_
  rintro e w0 ⟨rfl, rfl⟩
  go_wp2_with fail
  refine (HF.out _ H0.out).mono ?_
  rintro e w1 ⟨rfl, hb1⟩
  have HB2 : Hid (Below w0.heap.size w0 (w1.alloc (.cells #[.int .i32 pa, .int .i32 pb] 132))) := hb1.alloc hb1.size _
  have hK := Blk.new w1 132 #[.int .i32 pa, .int .i32 pb]
  clear hb1
  go_wp2_with fail
  generalize w1.alloc (.cells #[.int .i32 pa, .int .i32 pb] 132) = w2 at *
  generalize w1.heap.size = M at *
  have hMl := hK.lt
  have gx : ∀ g : Grow w2, g.w.cell? ⟨M, 1, none⟩ = some (.int .i32 pb) := fun g => Grow.cell hMl (hK.at (j := 1) rfl) g
  have hne := Grow.ne w2
  refine wp_region_grow (by kernel_rfl) (by kernel_rfl) ?_
  repeat (go_big_quiet_step (fail))
  refine wpQuiet_nil ?_
  rintro w7 ⟨⟨_, hb7⟩, rfl⟩
  have HB7 := mkH (HB2.out.trans (hb7.mono HB2.out.size))
  clear hb7 gx hne hK HB2
  go_wp2
  go_ret2
  refine ⟨ret_of ?_, HB7.out⟩
  by_cases h0 : pb = 0
  · subst h0; rfl
  · have h1 : (pb != 0) = true := by simpa using h0
    simp [h0, h1]
end
end Go.Proofs.YtlmdjghcmofdlaaGreat
namespace Go.Proofs.YtlmdjghcmofdlaaGreat
open Go.RowKit
set_option linter.unusedVariables false
theorem fnew_any (d : Option Addr) (w : World) : Calls Tryz.prog 71 #[.pointer d] w fun e w' => ∃ B, e = .returned (.pointer (some ⟨B, 0, none⟩)) ∧ w.heap.size ≤ B ∧ Blk w' B 94 #[.slice none 0 0, .slice none 0 0, .pointer d, .slice none 0 0, .slice none 0 0, .slice none 0 0, .slice none 0 0, .map none] ∧ Below w.heap.size w w' := by
  have hK := Blk.new w 85 #[.slice none 0 0, .slice none 0 0, .pointer d]
  have hb := (Below.refl w.heap.size w).alloc (Nat.le_refl _) (.cells #[.slice none 0 0, .slice none 0 0, .pointer d] 85)
  have c0 := hK.at (j := 0) rfl
  have c1 := hK.at (j := 1) rfl
  have c2 := hK.at (j := 2) rfl
  have HB := mkH hb
  clear hK hb
  go_enter Tryz.func71, Tryz.ntmps71
  go_wp2_with fail
  refine (tnew_any _ _).mono ?_
  rintro e w1 ⟨rfl, rfl⟩
  go_wp2
  go_ret
  refine ⟨_, rfl, Nat.le_succ _, ?_, HB.out.alloc HB.out.size _⟩
  have := Blk.new (w.alloc (.cells #[.slice none 0 0, .slice none 0 0, .pointer d] 85)) 94 #[.slice none 0 0, .slice none 0 0, .pointer d, .slice none 0 0, .slice none 0 0, .slice none 0 0, .slice none 0 0, .map none]
  rwa [World.size_alloc] at this
end Go.Proofs.YtlmdjghcmofdlaaGreat
namespace Go.Proofs.YtlmdjghcmofdlaaGreat
open Go.RowKit
set_option linter.unusedVariables false
def Pb (p : Int → Part) (m : Nat) : Prop := ∀ i, 0 ≤ (p i).1 ∧ (p i).1 ≤ m ∧ 0 ≤ (p i).2 ∧ (p i).2 ≤ m
theorem Pb.upd {p : Int → Part} {m : Nat} (h : Pb p m) (i : Int) {q : Part} (hq : 0 ≤ q.1 ∧ q.1 ≤ m ∧ 0 ≤ q.2 ∧ q.2 ≤ m) : Pb (updP p i q) m := fun j => by
  unfold updP; split
  · exact hq
  · exact h j
theorem Pb.mono {p : Int → Part} {m m' : Nat} (h : Pb p m) (hm : m ≤ m') : Pb p m' := fun i => by obtain ⟨h1, h2, h3, h4⟩ := h i; exact ⟨h1, by omega, h3, by omega⟩
theorem Sq.free_K (s : Sq) (i : Int) : (s.free i).K.length = s.K.length ∧ (s.free i).n = s.n := by
  unfold Sq.free; split
  · exact ⟨by simp, rfl⟩
  · exact ⟨rfl, rfl⟩
def Sq.alike (s s' : Sq) : Prop := s'.K = s.K ∧ s'.n = s.n ∧ s'.V = s.V ∧ s'.fr = s.fr
theorem Sq.alike.trans {a b c : Sq} (h : a.alike b) (k : b.alike c) : a.alike c := ⟨k.1.trans h.1, k.2.1.trans h.2.1, k.2.2.1.trans h.2.2.1, k.2.2.2.trans h.2.2.2⟩
theorem Sq.join_r (s : Sq) (i j : Int) : s.alike (s.join i j) := by obtain ⟨a, b, c, d, e⟩ := s; exact ⟨rfl, rfl, rfl, rfl⟩
theorem Sq.cut_r (s : Sq) (i : Int) : s.alike (s.cut i) := by obtain ⟨a, b, c, d, e⟩ := s; exact ⟨rfl, rfl, rfl, rfl⟩
theorem Sq.turn_r (s : Sq) (i : Int) : s.alike (s.turn i) := (Sq.cut_r _ _).trans (Sq.join_r _ _ _)
theorem Sq.splice_K (s : Sq) (i j x y : Int) : s.alike (s.splice i j x y) := ((((Sq.turn_r _ _).trans (Sq.turn_r _ _)).trans (Sq.join_r _ _ _)).trans (Sq.join_r _ _ _)).trans (Sq.join_r _ _ _)
theorem Sq.unsplice_K (s : Sq) (x y : Int) : s.alike (s.unsplice x y) := (((Sq.turn_r _ _).trans (Sq.cut_r _ _)).trans (Sq.cut_r _ _)).trans (Sq.cut_r _ _)
structure To.Wf (t : To) (k : Nat) : Prop where
  le : t.le k
  pb : Pb t.p k
  fv : ∀ f ∈ t.fv, 1 ≤ f ∧ f ≤ t.v.length
  fe : ∀ f ∈ t.fe, 1 ≤ f ∧ f ≤ t.e.length
  mv : ∀ v, isA t.v v = true → t.m ≠ 0
theorem To.Wf.mono {t : To} {k k' : Nat} (h : t.Wf k) (hk : k ≤ k') : t.Wf k' := ⟨h.le.mono hk, h.pb.mono hk, h.fv, h.fe, h.mv⟩
theorem to0_wf : to0.Wf 0 := ⟨⟨⟨Nat.le_refl _, Nat.le_refl _⟩, Nat.le_refl _, Nat.le_refl _, Nat.le_refl _, Nat.le_refl _, Nat.le_refl _⟩, fun i => ⟨Int.le_refl _, Int.le_refl _, Int.le_refl _, Int.le_refl _⟩, fun f hf => (by cases hf), fun f hf => (by cases hf), fun v hv => (by simp [isA, to0] at hv)⟩
theorem tkL_len' {α : Type} {L : List (α × Bool)} {fr : List Int} (x : α) : L.length ≤ (tkL L fr x).length := by
  rcases List.eq_nil_or_concat fr with rfl | ⟨fr', f, rfl⟩
  · rw [tkL_nil]; simp
  · rw [List.concat_eq_append, tkL_snoc]; simp
theorem mem_dropLast {fr : List Int} {f : Int} (h : f ∈ fr.dropLast) : f ∈ fr := List.dropLast_subset fr h
theorem To.Wf.addV {t : To} {k : Nat} (h : t.Wf k) (a b : Int) : (t.addV a b).Wf (k + 1) := by
  have hb := tkI_bd h.fv
  have hs := Sq.le_make h.le.s ⟨1, a, b, 0⟩
  refine ⟨⟨Sq.le_mono hs (by omega), Nat.le_trans (tkL_len _ _ _) (Nat.succ_le_succ h.le.v), ?_, Nat.le_trans h.le.e (Nat.le_succ _), Nat.le_trans h.le.fe (Nat.le_succ _), ?_⟩, ?_, fun f hf => ?_, h.fe, fun v _ => Nat.succ_ne_zero _⟩
  · show t.fv.dropLast.length ≤ k + 1
    have := h.le.fv
    rw [List.length_dropLast]; omega
  · show t.m + 1 + 1 ≤ 3 * (k + 1)
    have := h.le.m; omega
  · have hl := h.le.v
    refine (h.pb.mono (Nat.le_succ k)).upd _ ⟨?_, ?_, Int.le_refl _, ?_⟩
    · show 0 ≤ tkI t.v t.fv; omega
    · show tkI t.v t.fv ≤ _; omega
    · show (0 : Int) ≤ ((k + 1 : Nat) : Int); omega
  · have h1 := h.fv f (mem_dropLast hf)
    have h2 := tkL_len' (L := t.v) (fr := t.fv) (newI t.s.K t.s.fr)
    show 1 ≤ f ∧ f ≤ ((tkL t.v t.fv (newI t.s.K t.s.fr)).length : Int)
    omega
theorem To.Wf.dropV {t : To} {k : Nat} (h : t.Wf k) {v : Int} (hv : isA t.v v = true) : (t.dropV v).Wf (k + 1) := by
  have hvb := isA_bd hv
  have hK := Sq.free_K t.s (t.item v)
  have hle := h.le
  refine ⟨⟨⟨?_, ?_⟩, ?_, ?_, Nat.le_trans hle.e (Nat.le_succ _), Nat.le_trans hle.fe (Nat.le_succ _), Nat.le_trans hle.m (by omega)⟩, ?_, fun f hf => ?_, h.fe, fun u hu => ?_⟩
  · show (t.s.free (t.item v)).K.length ≤ _; rw [hK.1]; have := hle.s.1; omega
  · show (t.s.free (t.item v)).n ≤ _; rw [hK.2]; have := hle.s.2; omega
  · show (frL 0 t.v v).length ≤ _; rw [frL_len]; have := hle.v; omega
  · show (t.fv ++ [v]).length ≤ _; rw [List.length_append]; have := hle.fv; simp; omega
  · exact (h.pb.mono (Nat.le_succ k)).upd _ ⟨Int.le_refl _, by show (0 : Int) ≤ ((k + 1 : Nat) : Int); omega, Int.le_refl _, by show (0 : Int) ≤ ((k + 1 : Nat) : Int); omega⟩
  · show 1 ≤ f ∧ f ≤ ((frL 0 t.v v).length : Int)
    rw [frL_len]
    rcases List.mem_append.1 hf with h1 | h1
    · exact h.fv f h1
    · simp at h1; omega
  · have hu' : isA (frL 0 t.v v) u = true := hu
    rw [isA_frL 0 hv] at hu'
    split at hu'
    · cases hu'
    · exact h.mv u hu'
theorem To.Wf.drop {t : To} {k : Nat} (h : t.Wf k) (v : Int) : (t.drop v).Wf (k + 1) := by
  unfold To.drop
  split
  · split
    · rename_i hv _; exact h.dropV hv
    · exact h.mono (Nat.le_succ _)
  · exact h.mono (Nat.le_succ _)
theorem To.Wf.link {t : To} {k : Nat} (h : t.Wf k) {a b : Int} (ha : isA t.v a = true) : (t.link a b).Wf (k + 1) := by
  have hle := h.le
  have hs1 := Sq.le_make hle.s noneV
  have hs2 := Sq.le_make hs1 noneV
  have hb := tkI_bd h.fe
  have hle' := hle.e
  refine ⟨⟨⟨?_, ?_⟩, Nat.le_trans hle.v (Nat.le_succ _), Nat.le_trans hle.fv (Nat.le_succ _), Nat.le_trans (tkL_len _ _ _) (Nat.succ_le_succ hle.e), ?_, ?_⟩, ?_, h.fv, fun f hf => ?_, fun u hu => Nat.succ_ne_zero _⟩
  · show (((t.s.make noneV).make noneV).splice _ _ _ _).K.length ≤ _; rw [(Sq.splice_K _ _ _ _ _).1]; have := hs2.1; omega
  · show (((t.s.make noneV).make noneV).splice _ _ _ _).n ≤ _; rw [(Sq.splice_K _ _ _ _ _).2.1]; have := hs2.2; omega
  · show t.fe.dropLast.length ≤ k + 1; rw [List.length_dropLast]; have := hle.fe; omega
  · show t.m + 1 + 1 ≤ 3 * (k + 1); have := hle.m; omega
  · have hq : 0 ≤ ((0, t.newE) : Part).1 ∧ ((0, t.newE) : Part).1 ≤ ((k + 1 : Nat) : Int) ∧ 0 ≤ ((0, t.newE) : Part).2 ∧ ((0, t.newE) : Part).2 ≤ ((k + 1 : Nat) : Int) := by
      refine ⟨Int.le_refl _, by show (0 : Int) ≤ _; omega, ?_, ?_⟩
      · show 0 ≤ tkI t.e t.fe; omega
      · show tkI t.e t.fe ≤ _; omega
    exact ((h.pb.mono (Nat.le_succ k)).upd _ hq).upd _ hq
  · have h1 := h.fe f (mem_dropLast hf)
    have h2 := tkL_len' (L := t.e) (fr := t.fe) (⟨a, b, t.newX, t.newY⟩ : Edg)
    show 1 ≤ f ∧ f ≤ ((tkL t.e t.fe (⟨a, b, t.newX, t.newY⟩ : Edg)).length : Int)
    omega
theorem To.linkR_zero {t : To} {a b : Int} (h : t.linkR a b = 0) : isA t.v a = true ∧ isA t.v b = true ∧ t.same a b = false := by
  unfold To.linkR at h
  split at h
  · rename_i h1
    split at h
    · omega
    · rename_i h2; exact ⟨h1.1, h1.2, by simpa using h2⟩
  · omega
theorem To.Wf.linked {t : To} {k : Nat} (h : t.Wf k) (a b : Int) : (t.linked a b).Wf (k + 1) := by
  unfold To.linked
  split
  · rename_i h1; exact h.link (To.linkR_zero h1).1
  · exact h.mono (Nat.le_succ _)
theorem To.cutE_eq (t : To) (n : Int) : t.cutE n = ⟨((t.s.unsplice (t.edge n).x (t.edge n).y).free (t.edge n).x).free (t.edge n).y, t.v, t.fv, frL zeE t.e n, t.fe ++ [n], updP (updP t.p (t.edge n).x (0, 0)) (t.edge n).y (0, 0), t.m⟩ := by
  unfold To.cutE
  generalize t.s.unsplice (t.edge n).x (t.edge n).y = s1
  generalize (t.edge n).x = x
  generalize (t.edge n).y = y
  obtain ⟨a, b, c, d, e, f, g⟩ := t
  rfl
theorem To.Wf.cutE {t : To} {k : Nat} (h : t.Wf k) {n : Int} (hn : isA t.e n = true) : (t.cutE n).Wf (k + 1) := by
  have hle := h.le
  have hnb := isA_bd hn
  rw [To.cutE_eq]
  have hU := Sq.unsplice_K t.s (t.edge n).x (t.edge n).y
  generalize t.s.unsplice (t.edge n).x (t.edge n).y = s1 at *
  generalize (t.edge n).x = x at *
  generalize (t.edge n).y = y at *
  have hK1 := Sq.free_K s1 x
  have hK2 := Sq.free_K (s1.free x) y
  have e1 : s1.K.length = t.s.K.length ∧ s1.n = t.s.n := by rw [hU.1, hU.2.1]; exact ⟨rfl, rfl⟩
  refine ⟨⟨⟨?_, ?_⟩, Nat.le_trans hle.v (Nat.le_succ _), Nat.le_trans hle.fv (Nat.le_succ _), ?_, ?_, Nat.le_trans hle.m (by omega)⟩, ?_, h.fv, fun f hf => ?_, h.mv⟩
  · show ((s1.free x).free y).K.length ≤ _; rw [hK2.1, hK1.1, e1.1]; have := hle.s.1; omega
  · show ((s1.free x).free y).n ≤ _; rw [hK2.2, hK1.2, e1.2]; have := hle.s.2; omega
  · show (frL zeE t.e n).length ≤ _; rw [frL_len]; have := hle.e; omega
  · show (t.fe ++ [n]).length ≤ _; rw [List.length_append]; have := hle.fe; simp; omega
  · have hq : 0 ≤ ((0, 0) : Part).1 ∧ ((0, 0) : Part).1 ≤ ((k + 1 : Nat) : Int) ∧ 0 ≤ ((0, 0) : Part).2 ∧ ((0, 0) : Part).2 ≤ ((k + 1 : Nat) : Int) := ⟨Int.le_refl _, by show (0 : Int) ≤ _; omega, Int.le_refl _, by show (0 : Int) ≤ _; omega⟩
    exact ((h.pb.mono (Nat.le_succ k)).upd _ hq).upd _ hq
  · show 1 ≤ f ∧ f ≤ ((frL zeE t.e n).length : Int)
    rw [frL_len]
    rcases List.mem_append.1 hf with h1 | h1
    · exact h.fe f h1
    · simp at h1; omega
theorem To.Wf.cut {t : To} {k : Nat} (h : t.Wf k) (n : Int) : (t.cut n).Wf (k + 1) := by
  unfold To.cut
  split
  · rename_i hn; exact h.cutE hn
  · exact h.mono (Nat.le_succ _)
theorem To.Wf.ws {t : To} {k : Nat} (h : t.Wf k) {s : Sq} (hK : s.K = t.s.K) (hn : s.n = t.s.n) : (t.ws s).Wf k := ⟨⟨⟨by show s.K.length ≤ _; rw [hK]; exact h.le.s.1, by show s.n ≤ _; rw [hn]; exact h.le.s.2⟩, h.le.v, h.le.fv, h.le.e, h.le.fe, h.le.m⟩, h.pb, h.fv, h.fe, h.mv⟩
theorem To.Wf.mark {t : To} {k : Nat} (h : t.Wf k) (v b : Int) : (t.mark v b).Wf k := by
  unfold To.mark; split
  · exact h
  · split
    · exact h.ws rfl rfl
    · exact h
theorem To.Wf.emark {t : To} {k : Nat} (h : t.Wf k) (v b : Int) : (t.emark v b).Wf k := by
  unfold To.emark; split
  · exact h
  · split
    · exact h.ws rfl rfl
    · exact h
theorem To.Wf.find {t : To} {k : Nat} (h : t.Wf k) (hk : k ≤ 30000) (v m : Int) : (0 ≤ (t.find v m).1 ∧ (t.find v m).1 ≤ 2147483647) ∧ (0 ≤ (t.find v m).2 ∧ (t.find v m).2 ≤ 2147483647) := by
  unfold To.find; split
  · exact ⟨⟨by decide, by decide⟩, by decide, by decide⟩
  · obtain ⟨h1, h2, h3, h4⟩ := h.pb (fdS t.s.V (t.s.S (t.item v)) m)
    exact ⟨⟨h1, by omega⟩, h3, by omega⟩
theorem vmk_bd (b : Int) : 0 ≤ vmk b ∧ vmk b ≤ 255 := by
  have := bounds_u8 (wf_bits BinOp.and IntKind.u8 b 15)
  unfold vmk; omega
theorem emk_bd (b : Int) : 0 ≤ emk b ∧ emk b ≤ 255 := by unfold emk; omega
end Go.Proofs.YtlmdjghcmofdlaaGreat
