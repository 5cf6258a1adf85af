/- Layer 7 (tour): splicing and unsplicing tours, edges' items. -/
import Derived.Test.YtpbnhbpkfdhedaaTourFun
namespace Go.Proofs.Ytpbnhbpkfdhedaa
open Go.RowKit
set_option linter.unusedVariables false
section
variable {w : World} {F : Nat → Prop} {B G : Nat} {t : To}
set_option maxHeartbeats 1600000 in
theorem fsplice_any (h : Tf w F B G t) (i j n : Int) (hn : isA t.e n = true) (hi : -2147483648 ≤ i ∧ i ≤ 2147483647) (hj : -2147483648 ≤ j ∧ j ≤ 2147483647) : Calls Try.prog 75 #[.pointer (some ⟨B, 0, none⟩), .int .i32 i, .int .i32 j, .pointer (some ⟨G, eloc n, none⟩)] w fun e w' => ∃ F', e = .returned (.tuple #[]) ∧ Tf w' F' B G (t.ws (t.s.splice i j (t.edge n).x (t.edge n).y)) ∧ Step F F' w w' := by
  have H0 : Hid (Tf w F B G t) := h
  have S0 : Hid (Step F F w w) := Step.refl F w
  have hx := h.bd.x n hn
  have HN := hid_mk hn
  obtain ⟨x, ex⟩ : ∃ x, x = (t.edge n).x := ⟨_, rfl⟩
  obtain ⟨y, ey⟩ : ∃ y, y = (t.edge n).y := ⟨_, rfl⟩
  have HC : Hid (∀ w' F' s', Tf w' F' B G (t.ws s') → w'.cell? ⟨G, eloc n + 2, none⟩ = some (.int .i32 x) ∧ w'.cell? ⟨G, eloc n + 3, none⟩ = some (.int .i32 y)) := fun w' F' s' h' => by rw [ex, ey]; exact ⟨(h'.ecell (i := n) hn).2.2.1, (h'.ecell (i := n) hn).2.2.2.1⟩
  rw [← ex, ← ey] at hx ⊢
  have hxb := hx.1.i32
  have hyb := hx.2.i32
  clear h hn hx ex ey
  generalize eloc n = o at *
  go_enter Try.func75, Try.ntmps75
  go_wp2_with fail
  refine (fturn_any H0.out i hi).mono ?_
  rintro e w1 ⟨F1, rfl, hT, hS⟩
  have H1 : Hid (Tf w1 F1 B G (t.ws (t.s.turn i))) := hT
  have S1 : Hid (Step F F1 w w1) := S0.out.trans hS
  clear hT hS H0 S0
  go_wp2_with fail
  refine (fturn_any H1.out j hj).mono ?_
  rintro e w2 ⟨F2, rfl, hT, hS⟩
  have H2 : Hid (Tf w2 F2 B G (t.ws ((t.s.turn i).turn j))) := hT
  have S2 : Hid (Step F F2 w w2) := S1.out.trans hS
  clear hT hS H1 S1
  have hc := (HC.out _ _ _ H2.out)
  obtain ⟨hc1, hc2⟩ := hc
  go_wp2_with fail
  go_region_held3 (fun w' => w'.cell? ⟨G, o + 2, none⟩ = some (.int .i32 x))
    (first | go_keep | (first | exact (HC.out _ _ _ hT).1 | exact True.intro))
    (first | (go_at_call 16; refine (tf_join H2.out.drew i x hi hxb).mono ?_; rintro e w3 ⟨F3, rfl, hT, hS⟩) | fail)
  clear hc1 hc2
  replace hS := Step.undrew hS
  have H3 : Hid (Tf w3 F3 B G (t.ws (((t.s.turn i).turn j).join i x))) := hT
  have S3 : Hid (Step F F3 w w3) := S2.out.trans hS
  clear hT hS H2 S2
  go_wp2_with fail
  refine (tf_join H3.out i j hi hj).mono ?_
  rintro e w4 ⟨F4, rfl, hT, hS⟩
  have H4 : Hid (Tf w4 F4 B G (t.ws ((((t.s.turn i).turn j).join i x).join i j))) := hT
  have S4 : Hid (Step F F4 w w4) := S3.out.trans hS
  clear hT hS H3 S3
  have hc := (HC.out _ _ _ H4.out)
  obtain ⟨hc1, hc2⟩ := hc
  go_wp2_with fail
  go_region_held3 (fun w' => w'.cell? ⟨G, o + 3, none⟩ = some (.int .i32 y))
    (first | go_keep | (first | exact (HC.out _ _ _ hT).2 | exact True.intro))
    (first | (go_at_call 16; refine (tf_join H4.out.drew i y hi hyb).mono ?_; rintro e w5 ⟨F5, rfl, hT, hS⟩) | fail)
  clear hc1 hc2
  replace hS := Step.undrew hS
  have H5 : Hid (Tf w5 F5 B G (t.ws (t.s.splice i j x y))) := hT
  have S5 : Hid (Step F F5 w w5) := S4.out.trans hS
  clear hT hS H4 S4
  go_wp2
  go_returns
  exact ⟨_, rfl, H5.out, S5.out⟩
set_option maxHeartbeats 1600000 in
theorem funsplice_any (h : Tf w F B G t) (n : Int) (hn : isA t.e n = true) : Calls Try.prog 80 #[.pointer (some ⟨B, 0, none⟩), .pointer (some ⟨G, eloc n, none⟩)] w fun e w' => ∃ F', e = .returned (.tuple #[]) ∧ Tf w' F' B G (t.ws (t.s.unsplice (t.edge n).x (t.edge n).y)) ∧ Step F F' w w' := by
  have H0 : Hid (Tf w F B G t) := h
  have S0 : Hid (Step F F w w) := Step.refl F w
  have hx := h.bd.x n hn
  have HN := hid_mk hn
  obtain ⟨x, ex⟩ : ∃ x, x = (t.edge n).x := ⟨_, rfl⟩
  obtain ⟨y, ey⟩ : ∃ y, y = (t.edge n).y := ⟨_, rfl⟩
  have HC : Hid (∀ w' F' s', Tf w' F' B G (t.ws s') → w'.cell? ⟨G, eloc n + 2, none⟩ = some (.int .i32 x) ∧ w'.cell? ⟨G, eloc n + 3, none⟩ = some (.int .i32 y)) := fun w' F' s' h' => by rw [ex, ey]; exact ⟨(h'.ecell (i := n) hn).2.2.1, (h'.ecell (i := n) hn).2.2.2.1⟩
  rw [← ex, ← ey] at hx ⊢
  have hxb := hx.1.i32
  have hyb := hx.2.i32
  clear h hn hx ex ey
  generalize eloc n = o at *
  obtain ⟨hc1, hc2⟩ := HC.out _ _ t.s H0.out
  go_enter Try.func80, Try.ntmps80
  go_wp2_with fail
  refine (fturn_any H0.out x hxb).mono ?_
  rintro e w1 ⟨F1, rfl, hT, hS⟩
  have H1 : Hid (Tf w1 F1 B G (t.ws (t.s.turn x))) := hT
  have S1 : Hid (Step F F1 w w1) := S0.out.trans hS
  clear hT hS H0 S0
  clear hc1 hc2
  have hc := (HC.out _ _ _ H1.out)
  obtain ⟨hc1, hc2⟩ := hc
  go_wp2_with fail
  go_region_held3 (fun w' => w'.cell? ⟨G, o + 3, none⟩ = some (.int .i32 y))
    (first | go_keep | (first | exact (HC.out _ _ _ hT).2 | exact True.intro))
    (first | (go_at_call 20; refine (tf_cut H1.out.drew y hyb).mono ?_; rintro e w2 ⟨F2, rfl, hT, hS⟩) | fail)
  clear hc1 hc2
  replace hS := Step.undrew hS
  have H2 : Hid (Tf w2 F2 B G (t.ws (t.s.uns2 x y))) := hT
  have S2 : Hid (Step F F2 w w2) := S1.out.trans hS
  clear hT hS H1 S1
  obtain ⟨hc1, hc2⟩ := HC.out _ _ _ H2.out
  obtain ⟨q, hq⟩ : ∃ q, q = nxS ((t.s.uns2 x y).S x) x := ⟨_, rfl⟩
  have hqb := H2.out.nx x
  have hNx := tf_next H2.out.drew x hxb
  rw [show (t.ws (t.s.uns2 x y)).s = t.s.uns2 x y from rfl, ← hq] at hqb hNx
  have HNx := hid_mk hNx
  have HQ := hid_mk hq
  clear hNx hq
  go_wp2_with fail
  go_region_held3 (fun w' => w'.cell? ⟨G, o + 2, none⟩ = some (.int .i32 x))
    (first | go_keep | (first | exact (HC.out _ _ _ hT).1 | exact True.intro))
    (first | (go_at_call 45; refine HNx.out.mono ?_; rintro e wq ⟨rfl, rfl⟩) | (go_at_call 20; refine (tf_cut H2.out.drew q hqb).mono ?_; rintro e w3 ⟨F3, rfl, hT, hS⟩) | fail)
  clear hc1 hc2 HNx
  replace hS := Step.undrew hS
  replace hT : Tf w3 F3 B G (t.ws (t.s.uns3 x y)) := by show Tf _ _ _ _ (t.ws ((t.s.uns2 x y).cut _)); rw [← HQ.out]; exact hT
  clear HQ
  have H3 : Hid (Tf w3 F3 B G (t.ws (t.s.uns3 x y))) := hT
  have S3 : Hid (Step F F3 w w3) := S2.out.trans hS
  clear hT hS H2 S2
  clear hqb
  obtain ⟨hc1, hc2⟩ := HC.out _ _ _ H3.out
  obtain ⟨q, hq⟩ : ∃ q, q = nxS ((t.s.uns3 x y).S y) y := ⟨_, rfl⟩
  have hqb := H3.out.nx y
  have hNx := tf_next H3.out.drew y hyb
  rw [show (t.ws (t.s.uns3 x y)).s = t.s.uns3 x y from rfl, ← hq] at hqb hNx
  have HNx := hid_mk hNx
  have HQ := hid_mk hq
  clear hNx hq
  go_wp2_with fail
  go_region_held3 (fun w' => w'.cell? ⟨G, o + 3, none⟩ = some (.int .i32 y))
    (first | go_keep | (first | exact (HC.out _ _ _ hT).2 | exact True.intro))
    (first | (go_at_call 45; refine HNx.out.mono ?_; rintro e wq ⟨rfl, rfl⟩) | (go_at_call 20; refine (tf_cut H3.out.drew q hqb).mono ?_; rintro e w4 ⟨F4, rfl, hT, hS⟩) | fail)
  clear hc1 hc2 HNx
  replace hS := Step.undrew hS
  replace hT : Tf w4 F4 B G (t.ws (t.s.unsplice x y)) := by show Tf _ _ _ _ (t.ws ((t.s.uns3 x y).cut _)); rw [← HQ.out]; exact hT
  clear HQ
  have H4 : Hid (Tf w4 F4 B G (t.ws (t.s.unsplice x y))) := hT
  have S4 : Hid (Step F F4 w w4) := S3.out.trans hS
  clear hT hS H3 S3
  go_wp2
  go_returns
  exact ⟨_, rfl, H4.out, S4.out⟩
end
end Go.Proofs.Ytpbnhbpkfdhedaa
