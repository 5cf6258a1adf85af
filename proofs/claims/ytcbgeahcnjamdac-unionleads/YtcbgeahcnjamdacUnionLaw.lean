/- Layer 11 (union): the law's awake; the walks of UnionNobody and UnionKnown. -/
import Derived.Test.YtcbgeahcnjamdacUnionNew
namespace Go.Proofs.Ytcbgeahcnjamdac
open Go.RowKit
set_option linter.unusedVariables false

theorem ujoin_any {w : World} {B G H : Nat} {L : List Int} (h : Un w B G H L) (a b : Int) : Calls Try.prog 8 #[.pointer (some ⟨B, 0, none⟩), .int .i64 a, .int .i64 b] w fun e w' => e = .returned (.bool (joinB L a b)) ∧ Un w' B G H (joinL L a b) ∧ Thru B G H w w' := by
  cases hj : joinB L a b with
  | true => exact ujoin_yes h hj
  | false =>
    rw [joinL_no hj]
    exact (ujoin_no h.uv hj).mono fun e w' ⟨h1, h2⟩ => ⟨h1, by rw [h2]; exact h, by rw [h2]; exact Thru.refl _ _ _ _⟩

set_option maxRecDepth 100000 in
set_option maxHeartbeats 3200000 in
theorem uawake_any (w : World) : Calls Try.prog 5 #[] w fun e w' => e = .returned (.bool true) ∧ Below w.heap.size w w' := by
  obtain ⟨L0, h0⟩ : ∃ L, L = idN 5 := ⟨_, rfl⟩
  obtain ⟨L1, h1⟩ : ∃ L, L = joinL L0 3 4 := ⟨_, rfl⟩
  obtain ⟨L2, h2⟩ : ∃ L, L = joinL L1 4 1 := ⟨_, rfl⟩
  have j1 : Hid (joinB L0 3 4 = true) := by show _ = _; subst h0; decide
  have j2 : Hid (joinB L1 4 1 = true) := by show _ = _; subst h1 h0; decide
  have j3 : Hid (joinB L2 3 1 = false) := by show _ = _; subst h2 h1 h0; decide
  have m1 : Hid (nameN L2 4 = 1) := by show _ = _; subst h2 h1 h0; decide
  have m2 : Hid (sizeN L2 3 = 3) := by show _ = _; subst h2 h1 h0; decide
  have m3 : Hid (setsN L2 = 3) := by show _ = _; subst h2 h1 h0; decide
  have m4 : Hid (sameN L2 1 3 = true) := by show _ = _; subst h2 h1 h0; decide
  have m5 : Hid (sameN L2 0 1 = false) := by show _ = _; subst h2 h1 h0; decide
  have m6 : Hid ((L2.length : Int) = 5) := by show _ = _; subst h2 h1 h0; decide
  have H0 : Hid (∀ w B G H, Un w B G H (idN 5) → Un w B G H L0) := fun w B G H h => by rw [h0]; exact h
  have H1 : Hid (joinL L0 3 4 = L1) := h1.symm
  have H2 : Hid (joinL L1 4 1 = L2) := h2.symm
  clear h0 h1 h2
  go_enter Try.func5, Try.ntmps5
  go_wp2_with fail
  refine (unew_yes 5 w (by decide)).mono ?_
  rintro e w1 ⟨B, G, H, rfl, hU, hb, hBGH⟩
  have U1 := hid_mk (H0.out _ _ _ _ hU)
  have HB := hid_mk hBGH
  have hs1 := hb.size
  have B1 := hid_mk hb
  clear hU hb hBGH
  go_wp2_with fail
  refine (ujoin_any U1.out 3 4).mono ?_
  rintro e w2 ⟨rfl, hU, hT⟩
  rw [j1.out]
  rw [H1.out] at hU
  have U2 := hid_mk hU
  have B2 := hid_mk (Thru.start B1.out (Nat.le_refl _) hT HB.out)
  clear hU hT U1 B1
  go_wp2_with fail
  refine (ujoin_any U2.out 4 1).mono ?_
  rintro e w3 ⟨rfl, hU, hT⟩
  rw [j2.out]
  rw [H2.out] at hU
  have U3 := hid_mk hU
  have B3 := hid_mk (Thru.start B2.out (Nat.le_refl _) hT HB.out)
  clear hU hT U2 B2
  go_wp2_with fail
  refine (ujoin_no U3.out.uv j3.out).mono ?_
  rintro e w4 ⟨rfl, rfl⟩
  go_wp2_with fail
  refine (uname_any U3.out.uv 4).mono ?_
  rintro e w5 ⟨rfl, hb⟩
  rw [m1.out]
  have U4 := hid_mk (U3.out.below hb)
  have B4 := hid_mk (below_step B3.out hb (Nat.le_refl _))
  clear hb U3 B3
  go_wp2_with fail
  refine (usize_any U4.out.uv 3).mono ?_
  rintro e w6 ⟨rfl, hb⟩
  rw [m2.out]
  have U5 := hid_mk (U4.out.below hb)
  have B5 := hid_mk (below_step B4.out hb (Nat.le_refl _))
  clear hb U4 B4
  go_wp2_with fail
  refine (usets_any U5.out.uv).mono ?_
  rintro e w7 ⟨rfl, rfl⟩
  rw [m3.out]
  go_wp2_with fail
  refine (usame_any U5.out.uv 1 3).mono ?_
  rintro e w7 ⟨rfl, rfl⟩
  rw [m4.out]
  go_wp2_with fail
  refine (usame_any U5.out.uv 0 1).mono ?_
  rintro e w7 ⟨rfl, rfl⟩
  rw [m5.out]
  go_wp2_with fail
  refine (ulen_any U5.out.uv).mono ?_
  rintro e w7 ⟨rfl, rfl⟩
  rw [m6.out]
  go_wp2
  go_ret
  exact ⟨rfl, B5.out⟩

end Go.Proofs.Ytcbgeahcnjamdac
