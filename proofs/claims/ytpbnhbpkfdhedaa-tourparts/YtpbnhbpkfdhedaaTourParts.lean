/- Layer 7's statement TourParts (by tools/gen_tourparts.py). -/
import Derived.Test.YtpbnhbpkfdhedaaTourTree
import Derived.Test.YtpbnhbpkfdhedaaTourAwake
import Derived.Test.YtpbnhbpkfdhedaaTourGreat
import Derived.Test.YtpbnhbpkfdhedaaOpens
import Derived.Lib.MinMax
namespace Go.Proofs.Ytpbnhbpkfdhedaa
open Go.RowKit
set_option linter.unusedVariables false
/-- A forest that was made since w, to which at most k things were done. -/
structure Sol (w wr : World) (F : Nat → Prop) (B G : Nat) (t : To) (k : Nat) : Prop where
  f : Tf wr F B G t
  ff : ∀ j, F j → w.heap.size ≤ j
  below : Below w.heap.size w wr
  wf : t.Wf k
section
variable {w wr wr' : World} {F F' : Nat → Prop} {B G G' : Nat} {t t' : To} {k k' : Nat}
theorem Sol.grow (h : Sol w wr F B G t k) (hb : Below wr.heap.size wr wr') : Sol w wr' F B G t k := ⟨h.f.below hb, h.ff, h.below.trans (hb.mono h.below.size), h.wf⟩
theorem Sol.step (h : Sol w wr F B G t k) (h1 : Tf wr' F' B G' t') (hS : Step F F' wr wr') (hw : t'.Wf k') : Sol w wr' F' B G' t' k' := ⟨h1, hS.from h.below.size h.ff, hS.start h.below (Nat.le_refl _) h.ff, hw⟩
theorem Sol.tb (h : Sol w wr F B G t k) : Tb t := h.f.tb
theorem Sol.mono (h : Sol w wr F B G t k) (hk : k ≤ k') : Sol w wr F B G t k' := ⟨h.f, h.ff, h.below, h.wf.mono hk⟩
theorem sol_same (h : Sol w wr F B G t k) (hk : k ≤ 10000) (a b : Int) : Calls Try.prog 36 #[.pointer (some ⟨B, 0, none⟩), .int .i64 a, .int .i64 b] wr fun e w' => e = .returned (.bool (t.same a b)) ∧ Sol w w' F B G t k := (fsame_any h.f a b h.wf.le hk).mono fun e w' ⟨h1, h2⟩ => ⟨h1, h.grow h2⟩
theorem sol_size (h : Sol w wr F B G t k) (hk : k ≤ 10000) (a : Int) : Calls Try.prog 37 #[.pointer (some ⟨B, 0, none⟩), .int .i64 a] wr fun e w' => e = .returned (.int .i64 (t.total a).c) ∧ Sol w w' F B G t k := (fsize_any h.f a h.wf.le hk).mono fun e w' ⟨h1, h2⟩ => ⟨h1, h.grow h2⟩
theorem sol_sum (h : Sol w wr F B G t k) (hk : k ≤ 10000) (a : Int) : Calls Try.prog 38 #[.pointer (some ⟨B, 0, none⟩), .int .i64 a] wr fun e w' => e = .returned (.int .i64 (t.total a).s) ∧ Sol w w' F B G t k := (fsum_any h.f a h.wf.le hk).mono fun e w' ⟨h1, h2⟩ => ⟨h1, h.grow h2⟩
theorem sol_least (h : Sol w wr F B G t k) (hk : k ≤ 10000) (a : Int) : Calls Try.prog 39 #[.pointer (some ⟨B, 0, none⟩), .int .i64 a] wr fun e w' => e = .returned (.int .i64 (t.total a).l) ∧ Sol w w' F B G t k := (fleast_any h.f a h.wf.le hk).mono fun e w' ⟨h1, h2⟩ => ⟨h1, h.grow h2⟩
theorem sol_ends (h : Sol w wr F B G t k) (hk : k ≤ 10000) (a : Int) : Calls Try.prog 33 #[.pointer (some ⟨B, 0, none⟩), .int .i64 a] wr fun e w' => e = .returned (.tuple #[.int .i64 (t.endA a), .int .i64 (t.endB a), .bool (isA t.e a)]) ∧ Sol w w' F B G t k := (fends_any h.f a h.wf.le hk).mono fun e w' ⟨h1, h2⟩ => ⟨h1, h.grow h2⟩
theorem sol_vertex (h : Sol w wr F B G t k) (hk : k ≤ 10000) (a b : Int) : Calls Try.prog 25 #[.pointer (some ⟨B, 0, none⟩), .int .i64 a, .int .i64 b] wr fun e w' => ∃ F', e = .returned (.int .i64 (tkI t.v t.fv)) ∧ Sol w w' F' B G (t.addV a b) (k + 1) := (fvertex_any h.f a b h.wf.le hk).mono fun e w' ⟨F', h1, h2, h3⟩ => ⟨F', h1, h.step h2 h3 (h.wf.addV a b)⟩
theorem sol_link (h : Sol w wr F B G t k) (hk : k ≤ 10000) (a b : Int) : Calls Try.prog 26 #[.pointer (some ⟨B, 0, none⟩), .int .i64 a, .int .i64 b] wr fun e w' => ∃ F' G', e = .returned (.tuple #[.int .i64 (t.linkN a b), .int .i64 (t.linkR a b)]) ∧ Sol w w' F' B G' (t.linked a b) (k + 1) := (flink_any h.f a b (h.wf.mv a) h.wf.le hk).mono fun e w' ⟨F', G', h1, h2, h3⟩ => ⟨F', G', h1, h.step h2 h3 (h.wf.linked a b)⟩
theorem sol_cut (h : Sol w wr F B G t k) (hk : k ≤ 10000) (a : Int) : Calls Try.prog 28 #[.pointer (some ⟨B, 0, none⟩), .int .i64 a] wr fun e w' => ∃ F', e = .returned (.int .i64 (t.cutR a)) ∧ Sol w w' F' B G (t.cut a) (k + 1) := (fcut_any h.f a h.wf.le hk).mono fun e w' ⟨F', h1, h2, h3⟩ => ⟨F', h1, h.step h2 h3 (h.wf.cut a)⟩
end
set_option maxRecDepth 100000 in
set_option maxHeartbeats 4000000 in
theorem tourparts_walk (ao : Option Addr) (ca : Nat) (xs : List Int) (many : Int) (lo : Option Addr) (cl : Nat) (ls : List Int) (edge ya yb : Int) (w : World)
    (ha : UAt w ao xs) (hwa : Wu xs) (hla : xs.length ≤ 9223372036854775807) (hmany : 0 ≤ many ∧ many ≤ 255) (hl : NAt .u8 w lo ls) (hwl : ∀ i, i < ls.length → 0 ≤ lAt ls i ∧ lAt ls i ≤ 255) (hll : ls.length ≤ 9223372036854775807) (hedge : 0 ≤ edge ∧ edge ≤ 255) (hya : 0 ≤ ya ∧ ya ≤ 255) (hyb : 0 ≤ yb ∧ yb ≤ 255) :
    Calls Try.prog 7 #[.slice ao xs.length ca, .int .u8 many, .slice lo ls.length cl, .int .u8 edge, .int .u8 ya, .int .u8 yb] w fun e w' => e = .returned (.bool true) ∧ Below w.heap.size w w' := by
  have HA : Hid (UAt w ao xs ∧ Wu xs) := ⟨ha, hwa⟩
  have HL : Hid (NAt .u8 w lo ls ∧ ∀ i, i < ls.length → 0 ≤ lAt ls i ∧ lAt ls i ≤ 255) := ⟨hl, hwl⟩
  clear ha hwa hl hwl
  obtain ⟨na, hna⟩ : ∃ m, m = xs.length := ⟨_, rfl⟩
  have HNA : Hid (xs.length = na) := hna.symm
  obtain ⟨m, hm⟩ : ∃ m, m = ls.length := ⟨_, rfl⟩
  have HM : Hid (ls.length = m) := hm.symm
  rw [← hna] at hla ⊢
  rw [← hm] at hll ⊢
  clear hna hm
  go_enter Try.func7, Try.ntmps7
  go_wp2_with fail
  refine (tawk_any w).mono ?_
  rintro e w1 ⟨rfl, hb1⟩
  have HW1 : Hid (Below w.heap.size w w1) := hb1
  clear hb1
  go_wp2_with fail
  refine (great7_any ao ca na none 0 0 [] w1 rfl (by omega) hla (.inl rfl)).mono ?_
  rintro e w2 ⟨g1, rfl, hg1, hb2⟩
  have HW2 : Hid (Below w.heap.size w w2) := HW1.out.trans (hb2.mono HW1.out.size)
  clear hb2 HW1 hg1
  cases g1 with
  | true =>
    go_wp2
    go_ret
    exact ⟨rfl, HW2.out⟩
  | false =>
    have hrem : many.tmod 59 = many % 59 := Int.tmod_eq_emod_of_nonneg hmany.1
    obtain ⟨n, hn⟩ : ∃ n : Nat, 2 + many % 59 = (n : Int) := ⟨(2 + many % 59).toNat, by omega⟩
    have hn2 : 2 ≤ n ∧ n ≤ 60 := by omega
    go_wp2_with fail
    have hM1 := made7_any ao ca xs w2 (HA.out.1.below HW2.out) HA.out.2 (by rw [HNA.out]; exact hla)
    rw [HNA.out] at hM1
    refine hM1.mono ?_
    rintro e w4 ⟨Bf, Ff, rfl, hT, hF, hb4⟩
    have HS0 : Hid (Sol w w4 Ff Bf 0 to0 0 ∧ Pt n 0 to0) := ⟨⟨hT, fun k hk => Nat.le_trans HW2.out.size (hF k hk), HW2.out.trans (hb4.mono HW2.out.size), to0_wf⟩, pt0 n⟩
    clear hT hF hb4 HW2 hM1 HA
    go_wp2_with fail
    clear hrem hn hmany
    go_loopw [15, 16, 17, 18] (fun vi _ _ _ wr => ∃ (k : Nat) (t : To) (F1 : Nat → Prop) (G1 : Nat), vi = .int .i64 ((k : Int) + 1) ∧ k ≤ n ∧ Hid (Sol w wr F1 Bf G1 t (2 * k) ∧ Pt n k t)) (fun vi _ _ _ _ => n + 1 - (intOf vi).toNat)
    case atStart => exact ⟨0, to0, Ff, 0, rfl, Nat.zero_le _, HS0.out⟩
    case round =>
      obtain ⟨k, t, F1, G1, rfl, hkn, HS⟩ := hrel
      clear HS0
      by_cases hlt : k < n
      · have hle : (k : Int) + 1 ≤ (n : Int) := by omega
        go_wp2_with fail
        obtain ⟨a0, ha0⟩ : ∃ a0 : Int, a0 = wrap64 (((k : Int) + 1) * ((k : Int) + 1)) := ⟨_, rfl⟩
        have hc := sol_vertex HS.out.1 (by omega) a0 ((n : Int) - ((k : Int) + 1))
        rw [(HS.out.2.add HS.out.1.tb a0).2.1] at hc
        rw [ha0] at hc
        refine hc.mono ?_
        rintro e w5 ⟨F5, rfl, h5⟩
        rw [← ha0] at h5
        have HS5 := hid_mk (And.intro h5 (And.intro HS.out.2 HS.out.1.tb))
        clear h5 hc HS ha0
        by_cases hk0 : k = 0
        · have hk1 : (k : Int) + 1 = 1 := by omega
          have HP : Hid (Pt n (k + 1) (t.addV a0 ((n : Int) - ((k : Int) + 1)))) := by
            have h1 := HS5.out.2.1
            have h2 := HS5.out.2.2
            clear HS5
            subst hk0
            exact h1.one1 h2 a0 (by omega)
          go_wp2_with fail
          go_roundw
          case rel => exact ⟨k + 1, _, F5, G1, by go_num, by omega, HS5.out.1.mono (by omega), HP.out⟩
          case measure => simp [intOf]; omega
        · have hk1 : ¬ (k : Int) + 1 = 1 := by omega
          have hk1' : decide ((k : Int) + 1 = 1) = false := by simpa using hk1
          have hk2 : 1 ≤ k := by omega
          obtain ⟨q, hq⟩ : ∃ q : Nat, k = q + 1 := ⟨k - 1, by omega⟩
          by_cases hlen : q < m
          · rcases HL.out.1 with h | ⟨b, off, rfl, hbl, hcs⟩
            · have := HM.out; rw [h] at this; simp at this; omega
            · have c1 := hcs q (by rw [HM.out]; exact hlen)
              have hx := HL.out.2 q (by rw [HM.out]; exact hlen)
              clear hcs
              replace c1 := (HS5.out.1.below.cell (p := ⟨b, _, none⟩) hbl).trans c1
              obtain ⟨x, hxe⟩ : ∃ x, x = lAt ls q := ⟨_, rfl⟩
              rw [← hxe] at c1 hx
              clear hxe
              have hlen' : (q : Int) < (m : Int) := by omega
              have hmod : x.tmod (k : Int) = x % (k : Int) := Int.tmod_eq_emod_of_nonneg hx.1
              have hm1 : 0 ≤ x % (k : Int) := Int.emod_nonneg _ (by omega)
              have hm2 : x % (k : Int) < (k : Int) := Int.emod_lt_of_pos _ (by omega)
              have hub : 1 ≤ 1 + x % (k : Int) ∧ 1 + x % (k : Int) ≤ (k : Int) := by omega
              have hv2 : (k : Int) + 1 - 2 = (q : Int) := by omega
              have hv1 : (k : Int) + 1 - 1 = (k : Int) := by omega
              have hkne : ¬ (k : Int) = 0 := by omega
              have HQE := hid_mk hq
              clear hq
              obtain ⟨q1, q2, q3⟩ := HS5.out.2.1.more HS5.out.2.2 hk2 (by omega) a0 (1 + x % (k : Int)) hub HS5.out.1.tb
              have hc := sol_link HS5.out.1 (by omega) ((k : Int) + 1) (1 + x % (k : Int))
              rw [q1, q2] at hc
              have HQ := hid_mk q3
              have HC := hid_mk hc
              clear q1 q2 q3 hc
              go_wp2_with fail
              refine HC.out.mono ?_
              rintro e w6 ⟨F6, G6, rfl, h6⟩
              have HS6 := hid_mk (And.intro h6 (HQ.out h6.tb))
              clear h6 HQ HC HS5
              go_wp2_with fail
              go_roundw
              case rel => exact ⟨k + 1, _, F6, G6, by go_num, by omega, HS6.out.1.mono (by omega), HS6.out.2⟩
              case measure => simp [intOf]; omega
          · have hlen' : ¬ (q : Int) < (m : Int) := by omega
            have hub : (1 : Int) ≤ 1 ∧ (1 : Int) ≤ (k : Int) := by omega
            have hv2 : (k : Int) + 1 - 2 = (q : Int) := by omega
            have HQE := hid_mk hq
            clear hq
            obtain ⟨q1, q2, q3⟩ := HS5.out.2.1.more HS5.out.2.2 hk2 (by omega) a0 1 hub HS5.out.1.tb
            have hc := sol_link HS5.out.1 (by omega) ((k : Int) + 1) 1
            rw [q1, q2] at hc
            have HQ := hid_mk q3
            have HC := hid_mk hc
            clear q1 q2 q3 hc
            go_wp2_with fail
            refine HC.out.mono ?_
            rintro e w6 ⟨F6, G6, rfl, h6⟩
            have HS6 := hid_mk (And.intro h6 (HQ.out h6.tb))
            clear h6 HQ HC HS5
            go_wp2_with fail
            go_roundw
            case rel => exact ⟨k + 1, _, F6, G6, by go_num, by omega, HS6.out.1.mono (by omega), HS6.out.2⟩
            case measure => simp [intOf]; omega
      · have hle : ¬ (k : Int) + 1 ≤ (n : Int) := by omega
        have hkn' : k = n := by omega
        subst hkn'
        have HP := hid_mk HS.out.2
        have HB := hid_mk HS.out.1.tb
        obtain ⟨z1, z2, z3⟩ := HP.out.total HB.out (by omega)
        have HS6 := hid_mk HS.out.1
        clear HS
        obtain ⟨sm, hsm⟩ : ∃ sm, sm = (t.total k).s := ⟨_, rfl⟩
        go_wp2_with fail
        have hc := sol_size HS6.out (by omega) 1
        rw [z1] at hc
        refine hc.mono ?_
        rintro e x11 ⟨rfl, h11⟩
        have HS11 := hid_mk h11
        clear h11 hc HS6
        go_wp2_with fail
        have hc := sol_sum HS11.out (by omega) (k : Int)
        rw [← hsm] at hc
        refine hc.mono ?_
        rintro e x12 ⟨rfl, h12⟩
        have HS12 := hid_mk h12
        clear h12 hc HS11
        go_wp2_with fail
        have hc := sol_least HS12.out (by omega) 1
        rw [z3] at hc
        refine hc.mono ?_
        rintro e x13 ⟨rfl, h13⟩
        have HS13 := hid_mk h13
        clear h13 hc HS12
        have hmod : edge.tmod ((k : Int) - 1) = edge % ((k : Int) - 1) := Int.tmod_eq_emod_of_nonneg hedge.1
        have hm1 : 0 ≤ edge % ((k : Int) - 1) := Int.emod_nonneg _ (by omega)
        have hm2 : edge % ((k : Int) - 1) < (k : Int) - 1 := Int.emod_lt_of_pos _ (by omega)
        obtain ⟨x, hx⟩ : ∃ x : Int, x = 1 + edge % ((k : Int) - 1) := ⟨_, rfl⟩
        have hxb : 1 ≤ x ∧ x < (k : Int) := by omega
        obtain ⟨he, hcR, M, N, hP⟩ := HP.out.cut HB.out (by omega) hxb
        have HX := hid_mk hx
        have hkne : ¬ (k : Int) - 1 = 0 := by omega
        obtain ⟨p, hp⟩ : ∃ p, p = t.endA x := ⟨_, rfl⟩
        obtain ⟨q, hq⟩ : ∃ q, q = t.endB x := ⟨_, rfl⟩
        obtain ⟨t2, ht2⟩ : ∃ t2, t2 = t.cut x := ⟨_, rfl⟩
        rw [← hp, ← hq, ← ht2] at hP
        rw [z2] at hsm
        have HPs := hid_mk hP
        have HSM := hid_mk hsm
        clear hP HP hsm z1 z2 z3 hx
        have HE := hid_mk (And.intro he (And.intro hp hq))
        clear hp hq
        have HCR := hid_mk (And.intro hcR ht2)
        clear hcR ht2 he
        go_wp2_with fail
        have hc := sol_ends HS13.out (by omega) x
        rw [HE.out.1, ← HE.out.2.1, ← HE.out.2.2, HX.out] at hc
        refine hc.mono ?_
        rintro e w7 ⟨rfl, h7⟩
        have HS7 := hid_mk h7
        clear h7 hc HE HS13
        go_wp2_with fail
        have hc := sol_cut HS7.out (by omega) x
        rw [HCR.out.1, ← HCR.out.2, HX.out] at hc
        refine hc.mono ?_
        rintro e w8 ⟨F8, rfl, h8⟩
        have HS8 := hid_mk h8
        clear h8 hc HCR HS7 HB hmod hm1 hm2 hkne hxb HX
        obtain ⟨cp, hcp⟩ : ∃ z, z = (t2.total p).c := ⟨_, rfl⟩
        obtain ⟨cq, hcq⟩ : ∃ z, z = (t2.total q).c := ⟨_, rfl⟩
        obtain ⟨sp, hsp⟩ : ∃ z, z = (t2.total p).s := ⟨_, rfl⟩
        obtain ⟨sq, hsq⟩ : ∃ z, z = (t2.total q).s := ⟨_, rfl⟩
        obtain ⟨lp, hlp⟩ : ∃ z, z = (t2.total p).l := ⟨_, rfl⟩
        obtain ⟨lq, hlq⟩ : ∃ z, z = (t2.total q).l := ⟨_, rfl⟩
        obtain ⟨g1, g2, g3⟩ := HPs.out.sums HS8.out.tb (by omega)
        have hpq := HPs.out.pq
        rw [← hcp, ← hcq] at g1
        rw [← hsp, ← hsq, ← HSM.out] at g2
        rw [← hlp, ← hlq] at g3
        replace g1 : wrap64 (cp + cq) = (k : Int) := g1
        replace g2 : wrap64 (sp + sq) = sm := g2
        have HCP := hid_mk (And.intro hcp hcq)
        have HSP := hid_mk (And.intro hsp hsq)
        have HLP := hid_mk (And.intro hlp hlq)
        have HPQ := hid_mk hpq
        clear hcp hcq hsp hsq hlp hlq hpq
        go_wp2_with fail
        have hc := sol_same HS8.out (by omega) p q
        rw [HPQ.out] at hc
        refine hc.mono ?_
        rintro e x14 ⟨rfl, h14⟩
        have HS14 := hid_mk h14
        clear h14 hc HS8
        go_wp2_with fail
        have hc := sol_size HS14.out (by omega) p
        rw [← HCP.out.1] at hc
        refine hc.mono ?_
        rintro e x15 ⟨rfl, h15⟩
        have HS15 := hid_mk h15
        clear h15 hc HS14
        go_wp2_with fail
        have hc := sol_size HS15.out (by omega) q
        rw [← HCP.out.2] at hc
        refine hc.mono ?_
        rintro e x16 ⟨rfl, h16⟩
        have HS16 := hid_mk h16
        clear h16 hc HS15
        go_wp2_with fail
        have hc := sol_sum HS16.out (by omega) p
        rw [← HSP.out.1] at hc
        refine hc.mono ?_
        rintro e x17 ⟨rfl, h17⟩
        have HS17 := hid_mk h17
        clear h17 hc HS16
        go_wp2_with fail
        have hc := sol_sum HS17.out (by omega) q
        rw [← HSP.out.2] at hc
        refine hc.mono ?_
        rintro e x18 ⟨rfl, h18⟩
        have HS18 := hid_mk h18
        clear h18 hc HS17
        go_wp2_with fail
        have hc := sol_least HS18.out (by omega) p
        rw [← HLP.out.1] at hc
        refine hc.mono ?_
        rintro e x19 ⟨rfl, h19⟩
        have HS19 := hid_mk h19
        clear h19 hc HS18
        go_wp2_with fail
        have hc := sol_least HS19.out (by omega) q
        rw [← HLP.out.2] at hc
        refine hc.mono ?_
        rintro e x20 ⟨rfl, h20⟩
        have HS20 := hid_mk h20
        clear h20 hc HS19
        go_wp2_with fail
        clear g1 g2 g3 HLP HPQ
        go_loopw [26] (fun vi wr => ∃ (j : Nat), vi = .int .i64 ((j : Int) + 1) ∧ j ≤ k ∧ Hid (Sol w wr F8 Bf G1 t2 (2 * k + 1))) (fun vi _ => k + 1 - (intOf vi).toNat)
        case atStart => exact ⟨0, rfl, Nat.zero_le _, HS20.out⟩
        case round =>
          obtain ⟨j, rfl, hjk, HT⟩ := hrel
          clear HS20
          by_cases hjl : j < k
          · have hle2 : (j : Int) + 1 ≤ (k : Int) := by omega
            rcases HPs.out.each HT.out.tb (v := (j : Int) + 1) (by omega) with ⟨a1, a2, a3⟩ | ⟨a1, a2, a3⟩
            · rw [← HCP.out.1] at a3
              have HA1 := hid_mk a1
              have HA2 := hid_mk a2
              have HA3 := hid_mk a3
              clear a1 a2 a3
              go_wp2_with fail
              have hc := sol_same HT.out (by omega) ((j : Int) + 1) p
              rw [HA1.out] at hc
              refine hc.mono ?_
              rintro e x21 ⟨rfl, h21⟩
              have HS21 := hid_mk h21
              clear h21 hc HT
              go_wp2_with fail
              have hc := sol_same HS21.out (by omega) ((j : Int) + 1) q
              rw [HA2.out] at hc
              refine hc.mono ?_
              rintro e x22 ⟨rfl, h22⟩
              have HS22 := hid_mk h22
              clear h22 hc HS21
              go_wp2_with fail
              have hc := sol_same HS22.out (by omega) ((j : Int) + 1) p
              rw [HA1.out] at hc
              refine hc.mono ?_
              rintro e x23 ⟨rfl, h23⟩
              have HS23 := hid_mk h23
              clear h23 hc HS22
              go_wp2_with fail
              have hc := sol_size HS23.out (by omega) ((j : Int) + 1)
              rw [HA3.out] at hc
              refine hc.mono ?_
              rintro e x24 ⟨rfl, h24⟩
              have HS24 := hid_mk h24
              clear h24 hc HS23
              go_wp2_with fail
              have hc := sol_size HS24.out (by omega) p
              rw [← HCP.out.1] at hc
              refine hc.mono ?_
              rintro e x25 ⟨rfl, h25⟩
              have HS25 := hid_mk h25
              clear h25 hc HS24
              go_wp2_with fail
              have hc := sol_same HS25.out (by omega) ((j : Int) + 1) q
              rw [HA2.out] at hc
              refine hc.mono ?_
              rintro e x26 ⟨rfl, h26⟩
              have HS26 := hid_mk h26
              clear h26 hc HS25
              go_wp2_with fail
              go_roundw
              case rel => exact ⟨j + 1, by go_num, by omega, HS26.out⟩
              case measure => simp [intOf]; omega
            · rw [← HSP.out.2] at a3
              have HA1 := hid_mk a1
              have HA2 := hid_mk a2
              have HA3 := hid_mk a3
              clear a1 a2 a3
              go_wp2_with fail
              have hc := sol_same HT.out (by omega) ((j : Int) + 1) p
              rw [HA1.out] at hc
              refine hc.mono ?_
              rintro e x27 ⟨rfl, h27⟩
              have HS27 := hid_mk h27
              clear h27 hc HT
              go_wp2_with fail
              have hc := sol_same HS27.out (by omega) ((j : Int) + 1) q
              rw [HA2.out] at hc
              refine hc.mono ?_
              rintro e x28 ⟨rfl, h28⟩
              have HS28 := hid_mk h28
              clear h28 hc HS27
              go_wp2_with fail
              have hc := sol_same HS28.out (by omega) ((j : Int) + 1) p
              rw [HA1.out] at hc
              refine hc.mono ?_
              rintro e x29 ⟨rfl, h29⟩
              have HS29 := hid_mk h29
              clear h29 hc HS28
              go_wp2_with fail
              have hc := sol_same HS29.out (by omega) ((j : Int) + 1) q
              rw [HA2.out] at hc
              refine hc.mono ?_
              rintro e x30 ⟨rfl, h30⟩
              have HS30 := hid_mk h30
              clear h30 hc HS29
              go_wp2_with fail
              have hc := sol_sum HS30.out (by omega) ((j : Int) + 1)
              rw [HA3.out] at hc
              refine hc.mono ?_
              rintro e x31 ⟨rfl, h31⟩
              have HS31 := hid_mk h31
              clear h31 hc HS30
              go_wp2_with fail
              have hc := sol_sum HS31.out (by omega) q
              rw [← HSP.out.2] at hc
              refine hc.mono ?_
              rintro e x32 ⟨rfl, h32⟩
              have HS32 := hid_mk h32
              clear h32 hc HS31
              go_wp2_with fail
              go_roundw
              case rel => exact ⟨j + 1, by go_num, by omega, HS32.out⟩
              case measure => simp [intOf]; omega
          · have hle2 : ¬ (j : Int) + 1 ≤ (k : Int) := by omega
            have hmc : ya.tmod (k : Int) = ya % (k : Int) := Int.tmod_eq_emod_of_nonneg hya.1
            have hmd : yb.tmod (k : Int) = yb % (k : Int) := Int.tmod_eq_emod_of_nonneg hyb.1
            have hc1 : 0 ≤ ya % (k : Int) := Int.emod_nonneg _ (by omega)
            have hc2 : ya % (k : Int) < (k : Int) := Int.emod_lt_of_pos _ (by omega)
            have hd1 : 0 ≤ yb % (k : Int) := Int.emod_nonneg _ (by omega)
            have hd2 : yb % (k : Int) < (k : Int) := Int.emod_lt_of_pos _ (by omega)
            have hkne : ¬ (k : Int) = 0 := by omega
            go_wp2_with fail
            go_quiet (fail)
            generalize hwq : wr.drewN nq = wq
            have HU : Hid (Sol w wq F8 Bf G1 t2 (2 * k + 1)) := by rw [← hwq]; exact HT.out.grow ⟨rfl, rfl, rfl, Nat.le_refl _, fun _ _ => rfl⟩
            clear hwq HT
            obtain ⟨c, hc⟩ : ∃ c : Int, 1 + ya % (k : Int) = c := ⟨_, rfl⟩
            obtain ⟨d, hd⟩ : ∃ d : Int, 1 + yb % (k : Int) = d := ⟨_, rfl⟩
            have hcb : 1 ≤ c ∧ c ≤ (k : Int) := by omega
            have hdb : 1 ≤ d ∧ d ≤ (k : Int) := by omega
            clear hmc hmd hc1 hc2 hd1 hd2
            rcases HPs.out.again HU.out.tb (by omega) hcb hdb with ⟨r1, r2, r3, r4⟩ | ⟨r1, r2⟩
            · have hk := sol_link HU.out (by omega) c d
              rw [r1, r2] at hk
              obtain ⟨y, hy⟩ : ∃ y, y = t2.linkN c d := ⟨_, rfl⟩
              rw [← hy] at hk
              have HK := hid_mk hk
              obtain ⟨z, hz⟩ : ∃ z, z = (t2.total c).c := ⟨_, rfl⟩
              rw [← hz] at r4
              have HZ := hid_mk hz
              have HR := hid_mk r3
              clear hk hy hz r1 r2 r3
              go_wp2_with fail
              refine HK.out.mono ?_
              rintro e w9 ⟨F9, G9, rfl, h9⟩
              have HS9 := hid_mk h9
              clear h9 HK
              go_wp2_with fail
              have hk := sol_size HS9.out (by omega) c
              rw [← HZ.out] at hk
              refine hk.mono ?_
              rintro e w10 ⟨rfl, h10⟩
              have HS10 := hid_mk h10
              clear h10 hk HS9
              go_wp2_with fail
              have hk := sol_same HS10.out (by omega) c d
              rw [HR.out] at hk
              refine hk.mono ?_
              rintro e w11 ⟨rfl, h11⟩
              have HS11 := hid_mk h11
              clear h11 hk HS10
              go_wp2
              go_ret
              exact ⟨rfl, HS11.out.below⟩
            · have hk := sol_link HU.out (by omega) c d
              rw [r1] at hk
              obtain ⟨y, hy⟩ : ∃ y, y = t2.linkN c d := ⟨_, rfl⟩
              rw [← hy] at hk
              obtain ⟨t3, ht3⟩ : ∃ t3, t3 = t2.linked c d := ⟨_, rfl⟩
              rw [← ht3] at hk r2
              have HK := hid_mk hk
              have HR := hid_mk r2
              clear hk hy r1 r2 ht3
              go_wp2_with fail
              refine HK.out.mono ?_
              rintro e w9 ⟨F9, G9, rfl, h9⟩
              have HS9 := hid_mk h9
              clear h9 HK
              have HV := hid_mk (HR.out HS9.out.tb)
              clear HR
              go_wp2_with fail
              have hk := sol_size HS9.out (by omega) c
              rw [HV.out.1] at hk
              refine hk.mono ?_
              rintro e w10 ⟨rfl, h10⟩
              have HS10 := hid_mk h10
              clear h10 hk HS9
              go_wp2_with fail
              have hc := sol_sum HS10.out (by omega) p
              rw [HV.out.2.1] at hc
              refine hc.mono ?_
              rintro e x33 ⟨rfl, h33⟩
              have HS33 := hid_mk h33
              clear h33 hc HS10
              go_wp2_with fail
              have hc := sol_least HS33.out (by omega) q
              rw [HV.out.2.2.1] at hc
              refine hc.mono ?_
              rintro e x34 ⟨rfl, h34⟩
              have HS34 := hid_mk h34
              clear h34 hc HS33
              go_wp2_with fail
              have hc := sol_same HS34.out (by omega) p q
              rw [HV.out.2.2.2] at hc
              refine hc.mono ?_
              rintro e x35 ⟨rfl, h35⟩
              have HS35 := hid_mk h35
              clear h35 hc HS34
              go_wp2
              go_ret
              exact ⟨rfl, HS35.out.below⟩
end Go.Proofs.Ytpbnhbpkfdhedaa
