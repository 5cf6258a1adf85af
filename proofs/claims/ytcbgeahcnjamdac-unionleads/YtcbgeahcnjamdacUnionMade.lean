/- Layer 11 (union): Name, Size, Same, Join, New. -/
import Derived.Test.YtcbgeahcnjamdacUnionFun
namespace Go.Proofs.Ytcbgeahcnjamdac
open Go.RowKit
set_option linter.unusedVariables false

theorem UV.mk {w : World} {p : Value} {L : List Int} (h : UV w p L) {a : Int} (ha : memN L a = true) : ∃ B G H A M, p = .pointer (some ⟨B, 0, none⟩) ∧ UnX w B G H L.length A M (setsN L) ∧ Ut L.length A M L := by
  rcases h with ⟨rfl, _⟩ | ⟨B, G, H, rfl, h⟩
  · have := memN_iff.1 ha; simp at this; omega
  · obtain ⟨A, M, h1, h2⟩ := h.ex
    exact ⟨B, G, H, A, M, rfl, h1, h2⟩
/-- A member's top: what top answers, whatever was drawn. -/
theorem UnX.top {w : World} {B G H : Nat} {L : List Int} {A M : Nat → Int} (h1 : UnX w B G H L.length A M (setsN L)) (h2 : Ut L.length A M L) (hl : L.length ≤ 4194304) {a : Int} (ha : memN L a = true) : ∃ r, r < L.length ∧ A r < 0 ∧ lAt L r = lAt L a.toNat ∧
    ∀ w', Below w.heap.size w w' → Calls Try.prog 15 #[.pointer (some ⟨B, 0, none⟩), .int .i64 a] w' fun e w'' => e = .returned (.int .i32 r) ∧ w'' = w' := by
  obtain ⟨a0, a1⟩ := memN_iff.1 ha
  obtain ⟨t0, rfl⟩ : ∃ t : Nat, a = (t : Int) := ⟨a.toNat, by omega⟩
  obtain ⟨k0, r, hup, hr⟩ := h2.up t0 (by omega)
  exact ⟨r, hup.top.1, hup.top.2, hr, fun w' hb => utop_fix ⟨h1.blk.below hb, h1.ra.below hb, h1.rm.below hb, h1.ne⟩ h2.bd hl hup⟩
theorem below_drew (w : World) (n : Nat) : Below w.heap.size w (w.drewN n) := ⟨rfl, rfl, rfl, Nat.le_refl _, fun _ _ => rfl⟩
theorem toNat_ex {r : Int} (h : 0 ≤ r) : ∃ k : Nat, r = (k : Int) := ⟨r.toNat, by omega⟩
set_option maxHeartbeats 800000 in
theorem uname_any {w : World} {p : Value} {L : List Int} (h : UV w p L) (a : Int) : Calls Try.prog 11 #[p, .int .i64 a] w fun e w' => e = .returned (.int .i64 (nameN L a)) ∧ Below w.heap.size w w' := by
  have HU : Hid (UV w p L) := h
  have hl := h.len
  cases ha : memN L a with
  | false =>
    have hz : nameN L a = -1 := by unfold nameN; rw [ha]; rfl
    have HM : Hid (memN L a = false) := ha
    rw [hz]
    clear h ha hz
    go_enter Try.func11, Try.ntmps11
    go_wp2_with fail
    refine (umember_any HU.out a).mono ?_
    rintro e w1 ⟨rfl, rfl⟩
    rw [HM.out]
    go_wp2
    go_ret
    exact ⟨rfl, Below.refl _ _⟩
  | true =>
    have hz : nameN L a = lAt L a.toNat := by unfold nameN; rw [ha]; rfl
    have HM : Hid (memN L a = true) := ha
    rw [hz]
    obtain ⟨B, G, H, A, M, rfl, hx, hu⟩ := h.mk ha
    obtain ⟨r, r1, r2, r3, ht⟩ := hx.top hu hl ha
    have c1 := hx.blk.at (j := 1) rfl
    simp only [List.getElem_toArray, List.getElem_cons_zero, List.getElem_cons_succ] at c1
    have HT : Hid (∀ nq, Calls Try.prog 15 #[.pointer (some ⟨B, 0, none⟩), .int .i64 a] (w.drewN nq) fun e w' => e = .returned (.int .i32 r) ∧ w' = w.drewN nq) := fun nq => ht _ (below_drew w nq)
    have d1 := hx.rm.at r1
    have hlo := hu.nm.lo r r1
    rw [hu.least r r1 r2, r3] at d1
    rw [r3] at hlo
    clear r2 r3 hx hu ht h ha hz
    generalize lAt L a.toNat = x at *
    generalize L.length = n at *
    go_enter Try.func11, Try.ntmps11
    go_wp2_with fail
    refine (umember_any HU.out a).mono ?_
    rintro e w1 ⟨rfl, rfl⟩
    rw [HM.out]
    go_wp2_with fail
    go_quiet ((go_at_call 15; exact Calls.quiet_of_same (HT.out _)))
    go_wp2
    go_ret
    exact ⟨rfl, below_drew _ _⟩
set_option maxHeartbeats 800000 in
theorem usize_any {w : World} {p : Value} {L : List Int} (h : UV w p L) (a : Int) : Calls Try.prog 10 #[p, .int .i64 a] w fun e w' => e = .returned (.int .i64 (sizeN L a)) ∧ Below w.heap.size w w' := by
  have HU : Hid (UV w p L) := h
  have hl := h.len
  cases ha : memN L a with
  | false =>
    have hz : sizeN L a = 0 := by unfold sizeN; rw [ha]; rfl
    have HM : Hid (memN L a = false) := ha
    rw [hz]
    clear h ha hz
    go_enter Try.func10, Try.ntmps10
    go_wp2_with fail
    refine (umember_any HU.out a).mono ?_
    rintro e w1 ⟨rfl, rfl⟩
    rw [HM.out]
    go_wp2
    go_ret
    exact ⟨rfl, Below.refl _ _⟩
  | true =>
    have hz : sizeN L a = (L.count (lAt L a.toNat) : Int) := by unfold sizeN; rw [ha]; rfl
    have HM : Hid (memN L a = true) := ha
    rw [hz]
    obtain ⟨B, G, H, A, M, rfl, hx, hu⟩ := h.mk ha
    obtain ⟨r, r1, r2, r3, ht⟩ := hx.top hu hl ha
    have c1 := hx.blk.at (j := 0) rfl
    simp only [List.getElem_toArray, List.getElem_cons_zero] at c1
    have HT : Hid (∀ nq, Calls Try.prog 15 #[.pointer (some ⟨B, 0, none⟩), .int .i64 a] (w.drewN nq) fun e w' => e = .returned (.int .i32 r) ∧ w' = w.drewN nq) := fun nq => ht _ (below_drew w nq)
    have d1 := hx.ra.at r1
    have hcn := List.count_le_length (a := lAt L a.toNat) (l := L)
    rw [hu.cnt r r1 r2, r3] at d1
    clear r2 r3 hx hu ht h ha hz
    generalize L.count (lAt L a.toNat) = x at *
    generalize L.length = n at *
    go_enter Try.func10, Try.ntmps10
    go_wp2_with fail
    refine (umember_any HU.out a).mono ?_
    rintro e w1 ⟨rfl, rfl⟩
    rw [HM.out]
    go_wp2_with fail
    go_quiet ((go_at_call 15; exact Calls.quiet_of_same (HT.out _)))
    go_wp2
    go_ret
    exact ⟨ret_of (congrArg (Value.int .i64) (by omega)), below_drew _ _⟩
set_option maxHeartbeats 800000 in
theorem usame_any {w : World} {p : Value} {L : List Int} (h : UV w p L) (a b : Int) : Calls Try.prog 9 #[p, .int .i64 a, .int .i64 b] w fun e w' => e = .returned (.bool (sameN L a b)) ∧ w' = w := by
  have HU : Hid (UV w p L) := h
  have hl := h.len
  cases ha : memN L a with
  | false =>
    have hz : sameN L a b = false := by unfold sameN; rw [ha]; rfl
    have HM : Hid (memN L a = false) := ha
    rw [hz]
    clear h ha hz
    go_enter Try.func9, Try.ntmps9
    go_wp2_with fail
    refine (umember_any HU.out a).mono ?_
    rintro e w1 ⟨rfl, rfl⟩
    rw [HM.out]
    go_wp2
    go_ret
    exact ⟨rfl, rfl⟩
  | true =>
  cases hb : memN L b with
  | false =>
    have hz : sameN L a b = false := by unfold sameN; rw [hb]; simp
    have HM : Hid (memN L a = true) := ha
    have HM2 : Hid (memN L b = false) := hb
    rw [hz]
    clear h ha hz hb
    go_enter Try.func9, Try.ntmps9
    go_wp2_with fail
    refine (umember_any HU.out a).mono ?_
    rintro e w1 ⟨rfl, rfl⟩
    rw [HM.out]
    go_wp2_with fail
    refine (umember_any HU.out b).mono ?_
    rintro e w1 ⟨rfl, rfl⟩
    rw [HM2.out]
    go_wp2
    go_ret
    exact ⟨rfl, rfl⟩
  | true =>
    have hz : sameN L a b = decide (lAt L a.toNat = lAt L b.toNat) := by unfold sameN; rw [ha, hb]; rfl
    have HM : Hid (memN L a = true) := ha
    have HM2 : Hid (memN L b = true) := hb
    rw [hz]
    obtain ⟨B, G, H, A, M, rfl, hx, hu⟩ := h.mk ha
    obtain ⟨r, r1, r2, r3, ht⟩ := hx.top hu hl ha
    obtain ⟨q, q1, q2, q3, hq⟩ := hx.top hu hl hb
    have HT : Hid (∀ w', Below w.heap.size w w' → Calls Try.prog 15 #[.pointer (some ⟨B, 0, none⟩), .int .i64 a] w' fun e w'' => e = .returned (.int .i32 r) ∧ w'' = w') := ht
    have HQ : Hid (∀ w', Below w.heap.size w w' → Calls Try.prog 15 #[.pointer (some ⟨B, 0, none⟩), .int .i64 b] w' fun e w'' => e = .returned (.int .i32 q) ∧ w'' = w') := hq
    have HE : Hid ((r = q) ↔ lAt L a.toNat = lAt L b.toNat) := by
      rw [← r3, ← q3]
      exact ⟨fun e => by rw [e], fun e => hu.one r q r1 q1 r2 q2 e⟩
    clear h ha hb hz hx hu ht hq r2 r3 q2 q3
    go_enter Try.func9, Try.ntmps9
    go_wp2_with fail
    refine (umember_any HU.out a).mono ?_
    rintro e w1 ⟨rfl, rfl⟩
    rw [HM.out]
    go_wp2_with fail
    refine (umember_any HU.out b).mono ?_
    rintro e w1 ⟨rfl, rfl⟩
    rw [HM2.out]
    go_wp2_with fail
    refine (HT.out _ (Below.refl _ _)).mono ?_
    rintro e w1 ⟨rfl, rfl⟩
    go_wp2_with fail
    refine (HQ.out _ (Below.refl _ _)).mono ?_
    rintro e w1 ⟨rfl, rfl⟩
    clear HT HQ HU HM HM2
    go_wp2
    go_ret
    exact ⟨ret_of (congrArg Value.bool (decide_eq_decide.2 (Int.natCast_inj.trans HE.out))), rfl⟩
end Go.Proofs.Ytcbgeahcnjamdac
