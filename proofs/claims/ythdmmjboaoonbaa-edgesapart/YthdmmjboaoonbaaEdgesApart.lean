/- The walk EdgesApart. -/
import Derived.Test.YthdmmjboaoonbaaEdgesApSum
import Derived.Maps.RangeWalk
namespace Go.Proofs.Ythdmmjboaoonbaa
open Go.RowKit
set_option linter.unusedVariables false

abbrev Cl4 (W : World) (b : Nat) (d v l e : Int) : Prop := W.cell? ⟨b, 0, none⟩ = some (.int .u8 d) ∧ W.cell? ⟨b, 1, none⟩ = some (.int .i64 v) ∧ W.cell? ⟨b, 2, none⟩ = some (.int .i64 l) ∧ W.cell? ⟨b, 3, none⟩ = some (.int .i64 e)
def OkK (q : Int × Int × Int → Option Int) : Prop := ∀ x, (q x).isSome = true → okT x
theorem OkK.upd {q : Int × Int × Int → Option Int} (h : OkK q) {x : Int × Int × Int} (hx : okT x) (c : Int) : OkK (updQ q x (some c)) := fun y hy => by
  by_cases e : y = x
  · exact e ▸ hx
  · rw [updQ_ne e] at hy; exact h y hy
theorem len_step {q : Int × Int × Int → Option Int} {x : Int × Int × Int} {n m : Nat} (h : m = if (q x).isSome then n else n + 1) : m ≤ n + 1 := by
  rw [h]; split <;> omega

set_option maxRecDepth 100000 in
set_option maxHeartbeats 12800000 in
theorem edgesapart_walk (ao : Option Addr) (ca : Nat) (qs : List A9.Ac) (v l : Int) (w : World) (hkq : A9.AcAt w ao qs) (hlq : qs.length ≤ 9223372036854775807) (hv : -9223372036854775808 ≤ v ∧ v ≤ 9223372036854775807) (hl : -9223372036854775808 ≤ l ∧ l ≤ 9223372036854775807) :
    Calls Try.prog 6 #[.slice ao qs.length ca, .int .i64 v, .int .i64 l] w fun e w' => e = .returned (.bool true) ∧ Below w.heap.size w w' := by
  by_cases h200 : 150 < qs.length
  · generalize qs.length = m at *
    have hmi : (150 : Int) < (m : Int) := by omega
    clear hkq
    go_enter Try.func6, Try.ntmps6
    go_wp2_with fail
    refine (wakes9_any w).mono ?_
    rintro x w1 ⟨rfl, hb⟩
    go_wp2
    go_ret
    exact ⟨rfl, hb⟩
  have HKQ := hid_mk hkq
  have hP0 : Hid (okP (v, l)) := ⟨hv, hl⟩
  obtain ⟨m, hm⟩ : ∃ m, m = qs.length := ⟨_, rfl⟩
  have HM := hid_mk hm
  rw [← hm] at h200 hlq ⊢
  have hmi : ¬ (150 : Int) < (m : Int) := by omega
  clear hkq hm hv hl
  obtain ⟨lt, hlt0⟩ := litsA_ex
  have HLT := hid_mk hlt0
  clear hlt0
  go_enter Try.func6, Try.ntmps6
  go_wp2_with fail
  refine (nb_new w).mono ?_
  rintro x w1 ⟨B1, rfl, h1⟩
  have H1 := hid_mk h1
  clear h1
  go_wp2_with fail
  refine (nb_new w1).mono ?_
  rintro x w2 ⟨B2, rfl, h2⟩
  have HA1 := hid_mk (Ap.start H1.out h2)
  clear H1 h2
  have hmm := @run_makeMap Try.prog
  go_wp2
  clear hmm
  generalize w2.heap.size = bm at *
  go_loopw [10] (fun v10 wr => ∃ (j : Nat) (s1 s2 : Bg) (q : Int × Int × Int → Option Int) (K : List (Int × Int × Int)) (X : World) (G : Nat → Prop), v10 = .int .i64 j ∧ j ≤ m ∧ K.length ≤ j ∧ Hid (Ap w X G wr B1 B2 bm s1 s2 q K.length (2 * j)) ∧ Hid (Gh v l s1 s2 q K) ∧ Hid (OkK q)) (fun v10 _ => m - (intOf v10).toNat)
  case atStart => exact ⟨0, bg0, bg0, fun _ => none, [], w, _, rfl, Nat.zero_le _, Nat.le_refl _, HA1.out, Gh.nil v l, fun x hx => by cases hx⟩
  case round =>
    obtain ⟨j, s1, s2, q, K, X0, G0, rfl, hjm, hKj, HA, HG, HO⟩ := hrel
    by_cases hlt : j < m
    · rcases HKQ.out with hq0 | ⟨b, off, rfl, hbl, hc⟩
      · have := HM.out; rw [hq0] at this; simp at this; omega
      · obtain ⟨hin, hok⟩ := hc j (by rw [← HM.out]; exact hlt)
        replace hin := hin.below HA.out.bl hbl
        obtain ⟨od, ov, ol, oe⟩ := hok
        have hlti : (j : Int) < (m : Int) := by omega
        generalize A9.aAt qs j = qq at *
        obtain ⟨qd, qv, ql, qe⟩ := qq
        obtain ⟨d0, d1, d2, d3⟩ := hin
        simp only at od ov ol oe d0 d1 d2 d3
        obtain ⟨X, hX⟩ : ∃ X, X = (wr.alloc (.cells #[.int .u8 qd, .int .i64 qv, .int .i64 ql, .int .i64 qe] 53)).alloc (.cells #[.int .u8 0, .int .i64 qv, .int .i64 ql, .int .i64 qe] 53) := ⟨_, rfl⟩
        have hbX : Below wr.heap.size wr X := by rw [hX]; exact below_new ((Below.refl _ _).alloc (Nat.le_refl _) _) (Nat.le_refl _) _
        have hXs : X.heap.size = wr.heap.size + 2 := by rw [hX]; simp
        have HA2 := hid_mk (HA.out.round hbX)
        have p1 : Blk X wr.heap.size 53 #[.int .u8 qd, .int .i64 qv, .int .i64 ql, .int .i64 qe] := by rw [hX]; exact (Blk.new wr _ _).alloc _
        have p2 : Blk X (wr.heap.size + 1) 53 #[.int .u8 0, .int .i64 qv, .int .i64 ql, .int .i64 qe] := by
          rw [hX]
          have := Blk.new (wr.alloc (.cells #[.int .u8 qd, .int .i64 qv, .int .i64 ql, .int .i64 qe] 53)) 53 #[.int .u8 0, .int .i64 qv, .int .i64 ql, .int .i64 qe]
          rwa [World.size_alloc] at this
        have hT : Hid (okT (qv, ql, qe)) := ⟨ov, ol, oe⟩
        have CL : Hid (∀ W s1 s2 q cnt k, Ap w X (fun j => wr.heap.size ≤ j ∧ j < X.heap.size) W B1 B2 bm s1 s2 q cnt k → Cl4 W wr.heap.size qd qv ql qe ∧ Cl4 W (wr.heap.size + 1) 0 qv ql qe) := fun W s1 s2 q cnt k ha => by
          have b1 := ha.blk (j := wr.heap.size) ⟨Nat.le_refl _, by omega⟩ p1
          have b2 := ha.blk (j := wr.heap.size + 1) ⟨by omega, by omega⟩ p2
          exact ⟨⟨b1.at rfl, b1.at rfl, b1.at rfl, b1.at rfl⟩, b2.at rfl, b2.at rfl, b2.at rfl, b2.at rfl⟩
        clear hc hbX HA p1 p2 hXs
        obtain ⟨GX, hGX⟩ : ∃ GX, GX = (fun j => wr.heap.size ≤ j ∧ j < X.heap.size) := ⟨_, rfl⟩
        rw [← hGX] at HA2 CL
        clear hGX
        have hj150 : j < 150 := by omega
        by_cases hd0 : qd = 0
        case pos =>
          have hd1 : (qd == 0) = true := by simpa using hd0
          clear hd0
          by_cases hE : putE s1 qv ql qe = 0
          case pos =>
            by_cases hpv : qv = v
            case neg =>
              have hpv1 : (qv == v) = false := by simpa using hpv
              have HNE : Hid ((qv, ql) ≠ (v, l)) := fun e0 => hpv (congrArg Prod.fst e0)
              clear hpv
              have HP := HA2.out.put1 (by omega) hT.out
              rw [hE, show putB s1 qv ql qe = s1.put (qv, ql) qe from if_pos hE] at HP
              have HPP := hid_mk HP
              have HE := hid_mk hE
              clear HP hE
              go_wp2_with fail
              rw [← hX]
              clear hX d0 d1 d2 d3
              refine HPP.out.mono ?_
              rintro r W4 ⟨rfl, hA4⟩
              have HA4 := hid_mk hA4
              clear hA4 HPP HA2
              obtain ⟨⟨k0, k1, k2, k3⟩, z0, z1, z2, z3⟩ := CL.out _ _ _ _ _ _ HA4.out
              go_wp2_with (first | (refine wpList_num_in rfl _ _ _ rfl KA (by rw [Try.underlying3]) rfl HA4.out.map (Nat.lt_of_le_of_lt (Nat.le_trans hKj (Nat.le_of_lt hj150)) (by decide)) (qv, ql, qe) rfl hT.out 1 (by decide) rfl ?_; intro W5 hm5 hg5; have HA5 := hid_mk (HA4.out.stored hm5 hg5); obtain ⟨⟨y0, y1, y2, y3⟩, x0, x1, x2, x3⟩ := CL.out _ _ _ _ _ _ HA5.out) | fail)
              clear hm5 hg5 k0 k1 k2 k3 z0 z1 z2 z3 HA4
              obtain ⟨K', hK', hG'⟩ := HG.out.put1 (x := (qv, ql, qe)) (putE_notin HE.out) HNE.out
              have HG2 := hid_mk hG'
              have HO2 := hid_mk (HO.out.upd hT.out 1)
              have hK2 := len_step hK'
              rw [← hK'] at HA5
              clear hG' hK' HG HO HNE HE
              refine (HA5.out.of1 (by omega) hP0.out (most := 1000) (by decide)).mono ?_
              rintro r W5 ⟨wo, wc, rfl, hwant, hb5⟩
              have HR5 := hid_mk (HA5.out.below hb5)
              have HW5 := hid_mk hwant
              clear hb5 hwant HA5
              go_wp2_with fail
              refine (HR5.out.swap.of1 (by omega) hP0.out (most := 1000) (by decide)).mono ?_
              rintro r W6 ⟨go, gc, rfl, hgot, hb6⟩
              rw [HR5.out.same HG2.out] at hgot ⊢
              have HR6 := hid_mk (HR5.out.below hb6)
              have HG6 := hid_mk hgot
              have HW6 := hid_mk (HW5.out.below hb6)
              have hfl := HR6.out.ok.len (v, l)
              have hfn := firstN_len ((s1.put (qv, ql) qe).L (v, l)) 1000
              clear hb6 hgot HR5 HW5
              generalize firstN ((s1.put (qv, ql) qe).L (v, l)) 1000 = ff at *
              go_wp2_with fail
              refine (same9_to ff ff HW6.out HG6.out rfl rfl (by omega) (by omega) true (by simp)).mono ?_
              rintro r W7 ⟨rfl, hb7⟩
              have HR7 := hid_mk ((HR6.out.below hb7).mono (k' := 2 * (j + 1)) (by omega))
              have HGe := HG2
              clear hb7 HR6 HG6 HW6
              go_wp2
              go_roundw
              case rel => exact ⟨j + 1, _, _, _, K', _, _, by go_num, by omega, by omega, HR7.out, HGe.out, HO2.out⟩
              case measure => simp [intOf]; omega
            have hpv1 : (qv == v) = true := by simpa using hpv
            by_cases hpl : ql = l
            case neg =>
              have hpl1 : (ql == l) = false := by simpa using hpl
              have HNE : Hid ((qv, ql) ≠ (v, l)) := fun e0 => hpl (congrArg Prod.snd e0)
              clear hpl hpv
              have HP := HA2.out.put1 (by omega) hT.out
              rw [hE, show putB s1 qv ql qe = s1.put (qv, ql) qe from if_pos hE] at HP
              have HPP := hid_mk HP
              have HE := hid_mk hE
              clear HP hE
              go_wp2_with fail
              rw [← hX]
              clear hX d0 d1 d2 d3
              refine HPP.out.mono ?_
              rintro r W4 ⟨rfl, hA4⟩
              have HA4 := hid_mk hA4
              clear hA4 HPP HA2
              obtain ⟨⟨k0, k1, k2, k3⟩, z0, z1, z2, z3⟩ := CL.out _ _ _ _ _ _ HA4.out
              go_wp2_with (first | (refine wpList_num_in rfl _ _ _ rfl KA (by rw [Try.underlying3]) rfl HA4.out.map (Nat.lt_of_le_of_lt (Nat.le_trans hKj (Nat.le_of_lt hj150)) (by decide)) (qv, ql, qe) rfl hT.out 1 (by decide) rfl ?_; intro W5 hm5 hg5; have HA5 := hid_mk (HA4.out.stored hm5 hg5); obtain ⟨⟨y0, y1, y2, y3⟩, x0, x1, x2, x3⟩ := CL.out _ _ _ _ _ _ HA5.out) | fail)
              clear hm5 hg5 k0 k1 k2 k3 z0 z1 z2 z3 HA4
              obtain ⟨K', hK', hG'⟩ := HG.out.put1 (x := (qv, ql, qe)) (putE_notin HE.out) HNE.out
              have HG2 := hid_mk hG'
              have HO2 := hid_mk (HO.out.upd hT.out 1)
              have hK2 := len_step hK'
              rw [← hK'] at HA5
              clear hG' hK' HG HO HNE HE
              refine (HA5.out.of1 (by omega) hP0.out (most := 1000) (by decide)).mono ?_
              rintro r W5 ⟨wo, wc, rfl, hwant, hb5⟩
              have HR5 := hid_mk (HA5.out.below hb5)
              have HW5 := hid_mk hwant
              clear hb5 hwant HA5
              go_wp2_with fail
              refine (HR5.out.swap.of1 (by omega) hP0.out (most := 1000) (by decide)).mono ?_
              rintro r W6 ⟨go, gc, rfl, hgot, hb6⟩
              rw [HR5.out.same HG2.out] at hgot ⊢
              have HR6 := hid_mk (HR5.out.below hb6)
              have HG6 := hid_mk hgot
              have HW6 := hid_mk (HW5.out.below hb6)
              have hfl := HR6.out.ok.len (v, l)
              have hfn := firstN_len ((s1.put (qv, ql) qe).L (v, l)) 1000
              clear hb6 hgot HR5 HW5
              generalize firstN ((s1.put (qv, ql) qe).L (v, l)) 1000 = ff at *
              go_wp2_with fail
              refine (same9_to ff ff HW6.out HG6.out rfl rfl (by omega) (by omega) true (by simp)).mono ?_
              rintro r W7 ⟨rfl, hb7⟩
              have HR7 := hid_mk ((HR6.out.below hb7).mono (k' := 2 * (j + 1)) (by omega))
              have HGe := HG2
              clear hb7 HR6 HG6 HW6
              go_wp2
              go_roundw
              case rel => exact ⟨j + 1, _, _, _, K', _, _, by go_num, by omega, by omega, HR7.out, HGe.out, HO2.out⟩
              case measure => simp [intOf]; omega
            clear hpv1
            subst hpv hpl
            have HP := HA2.out.put1 (by omega) hT.out
            rw [hE, show putB s1 qv ql qe = s1.put (qv, ql) qe from if_pos hE] at HP
            have HPP := hid_mk HP
            have HE := hid_mk hE
            clear HP hE
            go_wp2_with fail
            rw [← hX]
            clear hX d0 d1 d2 d3
            refine HPP.out.mono ?_
            rintro r W4 ⟨rfl, hA4⟩
            have HA4 := hid_mk hA4
            clear hA4 HPP HA2
            obtain ⟨⟨k0, k1, k2, k3⟩, z0, z1, z2, z3⟩ := CL.out _ _ _ _ _ _ HA4.out
            go_wp2_with (first | (refine wpList_num_in rfl _ _ _ rfl KA (by rw [Try.underlying3]) rfl HA4.out.map (Nat.lt_of_le_of_lt (Nat.le_trans hKj (Nat.le_of_lt hj150)) (by decide)) (qv, ql, qe) rfl hT.out 1 (by decide) rfl ?_; intro W5 hm5 hg5; have HA5 := hid_mk (HA4.out.stored hm5 hg5); obtain ⟨⟨y0, y1, y2, y3⟩, x0, x1, x2, x3⟩ := CL.out _ _ _ _ _ _ HA5.out) | fail)
            clear hm5 hg5 k0 k1 k2 k3 z0 z1 z2 z3 HA4
            have HP2 := HA5.out.put2 (by omega) hT.out
            have hE2 : putE s2 qv ql qe = 0 := by have := HE.out; unfold putE at this ⊢; rw [HG.out.same]; exact this
            rw [hE2, show putB s2 qv ql qe = s2.put (qv, ql) qe from if_pos hE2] at HP2
            obtain ⟨K', hK', hG'⟩ := HG.out.put2 (e := qe) (putE_notin HE.out)
            have HG2 := hid_mk hG'
            have HO2 := hid_mk (HO.out.upd hT.out 1)
            have hK2 := len_step hK'
            rw [← hK'] at HP2
            have HPP2 := hid_mk HP2
            clear hG' hK' HG HO HE HP2 hE2 HA5
            refine HPP2.out.mono ?_
            rintro r W44 ⟨rfl, hA6⟩
            have HA6 := hid_mk hA6
            clear hA6 HPP2
            go_wp2_with fail
            refine (HA6.out.of1 (by omega) hP0.out (most := 1000) (by decide)).mono ?_
            rintro r W5 ⟨wo, wc, rfl, hwant, hb5⟩
            have HR5 := hid_mk (HA6.out.below hb5)
            have HW5 := hid_mk hwant
            clear hb5 hwant HA6
            go_wp2_with fail
            refine (HR5.out.swap.of1 (by omega) hP0.out (most := 1000) (by decide)).mono ?_
            rintro r W6 ⟨go, gc, rfl, hgot, hb6⟩
            rw [HR5.out.same HG2.out] at hgot ⊢
            have HR6 := hid_mk (HR5.out.below hb6)
            have HG6 := hid_mk hgot
            have HW6 := hid_mk (HW5.out.below hb6)
            have hfl := HR6.out.ok.len (qv, ql)
            have hfn := firstN_len ((s1.put (qv, ql) qe).L (qv, ql)) 1000
            clear hb6 hgot HR5 HW5
            generalize firstN ((s1.put (qv, ql) qe).L (qv, ql)) 1000 = ff at *
            go_wp2_with fail
            refine (same9_to ff ff HW6.out HG6.out rfl rfl (by omega) (by omega) true (by simp)).mono ?_
            rintro r W7 ⟨rfl, hb7⟩
            have HR7 := hid_mk ((HR6.out.below hb7).mono (k' := 2 * (j + 1)) (by omega))
            have HGe := HG2
            clear hb7 HR6 HG6 HW6
            go_wp2
            go_roundw
            case rel => exact ⟨j + 1, _, _, _, K', _, _, by go_num, by omega, by omega, HR7.out, HGe.out, HO2.out⟩
            case measure => simp [intOf]; omega
          by_cases hpv : qv = v
          case neg =>
            have hpv1 : (qv == v) = false := by simpa using hpv
            have HNE : Hid ((qv, ql) ≠ (v, l)) := fun e0 => hpv (congrArg Prod.fst e0)
            clear hpv
            have HP := HA2.out.put1 (by omega) hT.out
            rw [show putB s1 qv ql qe = s1 from if_neg hE] at HP
            have hE2 : (putE s1 qv ql qe == 0) = false := by simpa using hE
            obtain ⟨pe, hpe⟩ : ∃ pe, pe = putE s1 qv ql qe := ⟨_, rfl⟩
            rw [← hpe] at HP hE2
            clear hpe
            have HPP := hid_mk HP
            have HE := hid_mk hE
            clear HP hE
            go_wp2_with fail
            rw [← hX]
            clear hX d0 d1 d2 d3
            refine HPP.out.mono ?_
            rintro r W4 ⟨rfl, hA4⟩
            have HA4 := hid_mk hA4
            clear hA4 HPP HA2
            obtain ⟨⟨k0, k1, k2, k3⟩, z0, z1, z2, z3⟩ := CL.out _ _ _ _ _ _ HA4.out
            go_wp2_with fail
            have HG2 := HG
            have HO2 := HO
            clear HNE HE HG HO
            refine (HA4.out.of1 (by omega) hP0.out (most := 1000) (by decide)).mono ?_
            rintro r W5 ⟨wo, wc, rfl, hwant, hb5⟩
            have HR5 := hid_mk (HA4.out.below hb5)
            have HW5 := hid_mk hwant
            clear hb5 hwant HA4
            go_wp2_with fail
            refine (HR5.out.swap.of1 (by omega) hP0.out (most := 1000) (by decide)).mono ?_
            rintro r W6 ⟨go, gc, rfl, hgot, hb6⟩
            rw [HR5.out.same HG2.out] at hgot ⊢
            have HR6 := hid_mk (HR5.out.below hb6)
            have HG6 := hid_mk hgot
            have HW6 := hid_mk (HW5.out.below hb6)
            have hfl := HR6.out.ok.len (v, l)
            have hfn := firstN_len (s1.L (v, l)) 1000
            clear hb6 hgot HR5 HW5
            generalize firstN (s1.L (v, l)) 1000 = ff at *
            go_wp2_with fail
            refine (same9_to ff ff HW6.out HG6.out rfl rfl (by omega) (by omega) true (by simp)).mono ?_
            rintro r W7 ⟨rfl, hb7⟩
            have HR7 := hid_mk ((HR6.out.below hb7).mono (k' := 2 * (j + 1)) (by omega))
            have HGe := HG2
            clear hb7 HR6 HG6 HW6
            go_wp2
            go_roundw
            case rel => exact ⟨j + 1, _, _, _, K, _, _, by go_num, by omega, by omega, HR7.out, HGe.out, HO2.out⟩
            case measure => simp [intOf]; omega
          have hpv1 : (qv == v) = true := by simpa using hpv
          by_cases hpl : ql = l
          case neg =>
            have hpl1 : (ql == l) = false := by simpa using hpl
            have HNE : Hid ((qv, ql) ≠ (v, l)) := fun e0 => hpl (congrArg Prod.snd e0)
            clear hpl hpv
            have HP := HA2.out.put1 (by omega) hT.out
            rw [show putB s1 qv ql qe = s1 from if_neg hE] at HP
            have hE2 : (putE s1 qv ql qe == 0) = false := by simpa using hE
            obtain ⟨pe, hpe⟩ : ∃ pe, pe = putE s1 qv ql qe := ⟨_, rfl⟩
            rw [← hpe] at HP hE2
            clear hpe
            have HPP := hid_mk HP
            have HE := hid_mk hE
            clear HP hE
            go_wp2_with fail
            rw [← hX]
            clear hX d0 d1 d2 d3
            refine HPP.out.mono ?_
            rintro r W4 ⟨rfl, hA4⟩
            have HA4 := hid_mk hA4
            clear hA4 HPP HA2
            obtain ⟨⟨k0, k1, k2, k3⟩, z0, z1, z2, z3⟩ := CL.out _ _ _ _ _ _ HA4.out
            go_wp2_with fail
            have HG2 := HG
            have HO2 := HO
            clear HNE HE HG HO
            refine (HA4.out.of1 (by omega) hP0.out (most := 1000) (by decide)).mono ?_
            rintro r W5 ⟨wo, wc, rfl, hwant, hb5⟩
            have HR5 := hid_mk (HA4.out.below hb5)
            have HW5 := hid_mk hwant
            clear hb5 hwant HA4
            go_wp2_with fail
            refine (HR5.out.swap.of1 (by omega) hP0.out (most := 1000) (by decide)).mono ?_
            rintro r W6 ⟨go, gc, rfl, hgot, hb6⟩
            rw [HR5.out.same HG2.out] at hgot ⊢
            have HR6 := hid_mk (HR5.out.below hb6)
            have HG6 := hid_mk hgot
            have HW6 := hid_mk (HW5.out.below hb6)
            have hfl := HR6.out.ok.len (v, l)
            have hfn := firstN_len (s1.L (v, l)) 1000
            clear hb6 hgot HR5 HW5
            generalize firstN (s1.L (v, l)) 1000 = ff at *
            go_wp2_with fail
            refine (same9_to ff ff HW6.out HG6.out rfl rfl (by omega) (by omega) true (by simp)).mono ?_
            rintro r W7 ⟨rfl, hb7⟩
            have HR7 := hid_mk ((HR6.out.below hb7).mono (k' := 2 * (j + 1)) (by omega))
            have HGe := HG2
            clear hb7 HR6 HG6 HW6
            go_wp2
            go_roundw
            case rel => exact ⟨j + 1, _, _, _, K, _, _, by go_num, by omega, by omega, HR7.out, HGe.out, HO2.out⟩
            case measure => simp [intOf]; omega
          clear hpv1
          subst hpv hpl
          have HP := HA2.out.put1 (by omega) hT.out
          rw [show putB s1 qv ql qe = s1 from if_neg hE] at HP
          have hE2 : (putE s1 qv ql qe == 0) = false := by simpa using hE
          obtain ⟨pe, hpe⟩ : ∃ pe, pe = putE s1 qv ql qe := ⟨_, rfl⟩
          rw [← hpe] at HP hE2
          clear hpe
          have HPP := hid_mk HP
          have HE := hid_mk hE
          clear HP hE
          go_wp2_with fail
          rw [← hX]
          clear hX d0 d1 d2 d3
          refine HPP.out.mono ?_
          rintro r W4 ⟨rfl, hA4⟩
          have HA4 := hid_mk hA4
          clear hA4 HPP HA2
          obtain ⟨⟨k0, k1, k2, k3⟩, z0, z1, z2, z3⟩ := CL.out _ _ _ _ _ _ HA4.out
          go_wp2_with fail
          have HP2 := HA4.out.put2 (by omega) hT.out
          have hE3 : putE s2 qv ql qe ≠ 0 := by have := HE.out; unfold putE at this ⊢; rw [HG.out.same]; exact this
          rw [show putB s2 qv ql qe = s2 from if_neg hE3] at HP2
          have HPP2 := hid_mk HP2
          have HG2 := HG
          have HO2 := HO
          clear HG HO HE HP2 hE3 HA4
          refine HPP2.out.mono ?_
          rintro r W44 ⟨rfl, hA6⟩
          have HA6 := hid_mk hA6
          clear hA6 HPP2
          go_wp2_with fail
          refine (HA6.out.of1 (by omega) hP0.out (most := 1000) (by decide)).mono ?_
          rintro r W5 ⟨wo, wc, rfl, hwant, hb5⟩
          have HR5 := hid_mk (HA6.out.below hb5)
          have HW5 := hid_mk hwant
          clear hb5 hwant HA6
          go_wp2_with fail
          refine (HR5.out.swap.of1 (by omega) hP0.out (most := 1000) (by decide)).mono ?_
          rintro r W6 ⟨go, gc, rfl, hgot, hb6⟩
          rw [HR5.out.same HG2.out] at hgot ⊢
          have HR6 := hid_mk (HR5.out.below hb6)
          have HG6 := hid_mk hgot
          have HW6 := hid_mk (HW5.out.below hb6)
          have hfl := HR6.out.ok.len (qv, ql)
          have hfn := firstN_len (s1.L (qv, ql)) 1000
          clear hb6 hgot HR5 HW5
          generalize firstN (s1.L (qv, ql)) 1000 = ff at *
          go_wp2_with fail
          refine (same9_to ff ff HW6.out HG6.out rfl rfl (by omega) (by omega) true (by simp)).mono ?_
          rintro r W7 ⟨rfl, hb7⟩
          have HR7 := hid_mk ((HR6.out.below hb7).mono (k' := 2 * (j + 1)) (by omega))
          have HGe := HG2
          clear hb7 HR6 HG6 HW6
          go_wp2
          go_roundw
          case rel => exact ⟨j + 1, _, _, _, K, _, _, by go_num, by omega, by omega, HR7.out, HGe.out, HO2.out⟩
          case measure => simp [intOf]; omega
        have hd1 : (qd == 0) = false := by simpa using hd0
        have HN1 := hid_mk HA2.out.ok.nodup
        clear hd0
        by_cases hE : qe ∈ s1.L (qv, ql)
        case pos =>
          by_cases hpv : qv = v
          case neg =>
            have hpv1 : (qv == v) = false := by simpa using hpv
            have HNE : Hid ((qv, ql) ≠ (v, l)) := fun e0 => hpv (congrArg Prod.fst e0)
            clear hpv
            have HP := HA2.out.take1 (by omega) hT.out
            rw [decide_eq_true hE, show takeB s1 qv ql qe = s1.take (qv, ql) qe from if_pos hE] at HP
            have HPP := hid_mk HP
            have HE := hid_mk hE
            clear HP hE
            go_wp2_with fail
            rw [← hX]
            clear hX d0 d1 d2 d3
            refine HPP.out.mono ?_
            rintro r W4 ⟨rfl, hA4⟩
            have HA4 := hid_mk hA4
            clear hA4 HPP HA2
            obtain ⟨⟨k0, k1, k2, k3⟩, z0, z1, z2, z3⟩ := CL.out _ _ _ _ _ _ HA4.out
            go_wp2_with (first | (refine wpList_num_in rfl _ _ _ rfl KA (by rw [Try.underlying3]) rfl HA4.out.map (Nat.lt_of_le_of_lt (Nat.le_trans hKj (Nat.le_of_lt hj150)) (by decide)) (qv, ql, qe) rfl hT.out 0 (by decide) rfl ?_; intro W5 hm5 hg5; have HA5 := hid_mk (HA4.out.stored hm5 hg5); obtain ⟨⟨y0, y1, y2, y3⟩, x0, x1, x2, x3⟩ := CL.out _ _ _ _ _ _ HA5.out) | fail)
            clear hm5 hg5 k0 k1 k2 k3 z0 z1 z2 z3 HA4
            obtain ⟨hG', hq'⟩ := HG.out.take1 HN1.out (x := (qv, ql, qe)) HE.out HNE.out
            rw [if_pos hq'] at HA5
            have HG2 := hid_mk hG'
            have HO2 := hid_mk (HO.out.upd hT.out 0)
            clear hG' hq' HG HO HNE HE
            refine (HA5.out.of1 (by omega) hP0.out (most := 1000) (by decide)).mono ?_
            rintro r W5 ⟨wo, wc, rfl, hwant, hb5⟩
            have HR5 := hid_mk (HA5.out.below hb5)
            have HW5 := hid_mk hwant
            clear hb5 hwant HA5
            go_wp2_with fail
            refine (HR5.out.swap.of1 (by omega) hP0.out (most := 1000) (by decide)).mono ?_
            rintro r W6 ⟨go, gc, rfl, hgot, hb6⟩
            rw [HR5.out.same HG2.out] at hgot ⊢
            have HR6 := hid_mk (HR5.out.below hb6)
            have HG6 := hid_mk hgot
            have HW6 := hid_mk (HW5.out.below hb6)
            have hfl := HR6.out.ok.len (v, l)
            have hfn := firstN_len ((s1.take (qv, ql) qe).L (v, l)) 1000
            clear hb6 hgot HR5 HW5
            generalize firstN ((s1.take (qv, ql) qe).L (v, l)) 1000 = ff at *
            go_wp2_with fail
            refine (same9_to ff ff HW6.out HG6.out rfl rfl (by omega) (by omega) true (by simp)).mono ?_
            rintro r W7 ⟨rfl, hb7⟩
            have HR7 := hid_mk ((HR6.out.below hb7).mono (k' := 2 * (j + 1)) (by omega))
            have HGe := HG2
            clear hb7 HR6 HG6 HW6
            go_wp2
            go_roundw
            case rel => exact ⟨j + 1, _, _, _, K, _, _, by go_num, by omega, by omega, HR7.out, HGe.out, HO2.out⟩
            case measure => simp [intOf]; omega
          have hpv1 : (qv == v) = true := by simpa using hpv
          by_cases hpl : ql = l
          case neg =>
            have hpl1 : (ql == l) = false := by simpa using hpl
            have HNE : Hid ((qv, ql) ≠ (v, l)) := fun e0 => hpl (congrArg Prod.snd e0)
            clear hpl hpv
            have HP := HA2.out.take1 (by omega) hT.out
            rw [decide_eq_true hE, show takeB s1 qv ql qe = s1.take (qv, ql) qe from if_pos hE] at HP
            have HPP := hid_mk HP
            have HE := hid_mk hE
            clear HP hE
            go_wp2_with fail
            rw [← hX]
            clear hX d0 d1 d2 d3
            refine HPP.out.mono ?_
            rintro r W4 ⟨rfl, hA4⟩
            have HA4 := hid_mk hA4
            clear hA4 HPP HA2
            obtain ⟨⟨k0, k1, k2, k3⟩, z0, z1, z2, z3⟩ := CL.out _ _ _ _ _ _ HA4.out
            go_wp2_with (first | (refine wpList_num_in rfl _ _ _ rfl KA (by rw [Try.underlying3]) rfl HA4.out.map (Nat.lt_of_le_of_lt (Nat.le_trans hKj (Nat.le_of_lt hj150)) (by decide)) (qv, ql, qe) rfl hT.out 0 (by decide) rfl ?_; intro W5 hm5 hg5; have HA5 := hid_mk (HA4.out.stored hm5 hg5); obtain ⟨⟨y0, y1, y2, y3⟩, x0, x1, x2, x3⟩ := CL.out _ _ _ _ _ _ HA5.out) | fail)
            clear hm5 hg5 k0 k1 k2 k3 z0 z1 z2 z3 HA4
            obtain ⟨hG', hq'⟩ := HG.out.take1 HN1.out (x := (qv, ql, qe)) HE.out HNE.out
            rw [if_pos hq'] at HA5
            have HG2 := hid_mk hG'
            have HO2 := hid_mk (HO.out.upd hT.out 0)
            clear hG' hq' HG HO HNE HE
            refine (HA5.out.of1 (by omega) hP0.out (most := 1000) (by decide)).mono ?_
            rintro r W5 ⟨wo, wc, rfl, hwant, hb5⟩
            have HR5 := hid_mk (HA5.out.below hb5)
            have HW5 := hid_mk hwant
            clear hb5 hwant HA5
            go_wp2_with fail
            refine (HR5.out.swap.of1 (by omega) hP0.out (most := 1000) (by decide)).mono ?_
            rintro r W6 ⟨go, gc, rfl, hgot, hb6⟩
            rw [HR5.out.same HG2.out] at hgot ⊢
            have HR6 := hid_mk (HR5.out.below hb6)
            have HG6 := hid_mk hgot
            have HW6 := hid_mk (HW5.out.below hb6)
            have hfl := HR6.out.ok.len (v, l)
            have hfn := firstN_len ((s1.take (qv, ql) qe).L (v, l)) 1000
            clear hb6 hgot HR5 HW5
            generalize firstN ((s1.take (qv, ql) qe).L (v, l)) 1000 = ff at *
            go_wp2_with fail
            refine (same9_to ff ff HW6.out HG6.out rfl rfl (by omega) (by omega) true (by simp)).mono ?_
            rintro r W7 ⟨rfl, hb7⟩
            have HR7 := hid_mk ((HR6.out.below hb7).mono (k' := 2 * (j + 1)) (by omega))
            have HGe := HG2
            clear hb7 HR6 HG6 HW6
            go_wp2
            go_roundw
            case rel => exact ⟨j + 1, _, _, _, K, _, _, by go_num, by omega, by omega, HR7.out, HGe.out, HO2.out⟩
            case measure => simp [intOf]; omega
          clear hpv1
          subst hpv hpl
          have HP := HA2.out.take1 (by omega) hT.out
          rw [decide_eq_true hE, show takeB s1 qv ql qe = s1.take (qv, ql) qe from if_pos hE] at HP
          have HPP := hid_mk HP
          have HE := hid_mk hE
          clear HP hE
          go_wp2_with fail
          rw [← hX]
          clear hX d0 d1 d2 d3
          refine HPP.out.mono ?_
          rintro r W4 ⟨rfl, hA4⟩
          have HA4 := hid_mk hA4
          clear hA4 HPP HA2
          obtain ⟨⟨k0, k1, k2, k3⟩, z0, z1, z2, z3⟩ := CL.out _ _ _ _ _ _ HA4.out
          go_wp2_with (first | (refine wpList_num_in rfl _ _ _ rfl KA (by rw [Try.underlying3]) rfl HA4.out.map (Nat.lt_of_le_of_lt (Nat.le_trans hKj (Nat.le_of_lt hj150)) (by decide)) (qv, ql, qe) rfl hT.out 0 (by decide) rfl ?_; intro W5 hm5 hg5; have HA5 := hid_mk (HA4.out.stored hm5 hg5); obtain ⟨⟨y0, y1, y2, y3⟩, x0, x1, x2, x3⟩ := CL.out _ _ _ _ _ _ HA5.out) | fail)
          clear hm5 hg5 k0 k1 k2 k3 z0 z1 z2 z3 HA4
          have HP2 := HA5.out.take2 (by omega) hT.out
          have hE2 : qe ∈ s2.L (qv, ql) := by rw [HG.out.same]; exact HE.out
          rw [decide_eq_true hE2, show takeB s2 qv ql qe = s2.take (qv, ql) qe from if_pos hE2] at HP2
          obtain ⟨hG', hq'⟩ := HG.out.take2 HN1.out (e := qe) HE.out
          rw [if_pos hq'] at HP2
          have HG2 := hid_mk hG'
          have HO2 := hid_mk (HO.out.upd hT.out 0)
          have HPP2 := hid_mk HP2
          clear hG' hq' HG HO HE HP2 hE2 HA5
          refine HPP2.out.mono ?_
          rintro r W44 ⟨rfl, hA6⟩
          have HA6 := hid_mk hA6
          clear hA6 HPP2
          go_wp2_with fail
          refine (HA6.out.of1 (by omega) hP0.out (most := 1000) (by decide)).mono ?_
          rintro r W5 ⟨wo, wc, rfl, hwant, hb5⟩
          have HR5 := hid_mk (HA6.out.below hb5)
          have HW5 := hid_mk hwant
          clear hb5 hwant HA6
          go_wp2_with fail
          refine (HR5.out.swap.of1 (by omega) hP0.out (most := 1000) (by decide)).mono ?_
          rintro r W6 ⟨go, gc, rfl, hgot, hb6⟩
          rw [HR5.out.same HG2.out] at hgot ⊢
          have HR6 := hid_mk (HR5.out.below hb6)
          have HG6 := hid_mk hgot
          have HW6 := hid_mk (HW5.out.below hb6)
          have hfl := HR6.out.ok.len (qv, ql)
          have hfn := firstN_len ((s1.take (qv, ql) qe).L (qv, ql)) 1000
          clear hb6 hgot HR5 HW5
          generalize firstN ((s1.take (qv, ql) qe).L (qv, ql)) 1000 = ff at *
          go_wp2_with fail
          refine (same9_to ff ff HW6.out HG6.out rfl rfl (by omega) (by omega) true (by simp)).mono ?_
          rintro r W7 ⟨rfl, hb7⟩
          have HR7 := hid_mk ((HR6.out.below hb7).mono (k' := 2 * (j + 1)) (by omega))
          have HGe := HG2
          clear hb7 HR6 HG6 HW6
          go_wp2
          go_roundw
          case rel => exact ⟨j + 1, _, _, _, K, _, _, by go_num, by omega, by omega, HR7.out, HGe.out, HO2.out⟩
          case measure => simp [intOf]; omega
        by_cases hpv : qv = v
        case neg =>
          have hpv1 : (qv == v) = false := by simpa using hpv
          have HNE : Hid ((qv, ql) ≠ (v, l)) := fun e0 => hpv (congrArg Prod.fst e0)
          clear hpv
          have HP := HA2.out.take1 (by omega) hT.out
          rw [decide_eq_false hE, show takeB s1 qv ql qe = s1 from if_neg hE] at HP
          have HPP := hid_mk HP
          have HE := hid_mk hE
          clear HP hE
          go_wp2_with fail
          rw [← hX]
          clear hX d0 d1 d2 d3
          refine HPP.out.mono ?_
          rintro r W4 ⟨rfl, hA4⟩
          have HA4 := hid_mk hA4
          clear hA4 HPP HA2
          obtain ⟨⟨k0, k1, k2, k3⟩, z0, z1, z2, z3⟩ := CL.out _ _ _ _ _ _ HA4.out
          go_wp2_with fail
          have HG2 := HG
          have HO2 := HO
          clear HNE HE HG HO
          refine (HA4.out.of1 (by omega) hP0.out (most := 1000) (by decide)).mono ?_
          rintro r W5 ⟨wo, wc, rfl, hwant, hb5⟩
          have HR5 := hid_mk (HA4.out.below hb5)
          have HW5 := hid_mk hwant
          clear hb5 hwant HA4
          go_wp2_with fail
          refine (HR5.out.swap.of1 (by omega) hP0.out (most := 1000) (by decide)).mono ?_
          rintro r W6 ⟨go, gc, rfl, hgot, hb6⟩
          rw [HR5.out.same HG2.out] at hgot ⊢
          have HR6 := hid_mk (HR5.out.below hb6)
          have HG6 := hid_mk hgot
          have HW6 := hid_mk (HW5.out.below hb6)
          have hfl := HR6.out.ok.len (v, l)
          have hfn := firstN_len (s1.L (v, l)) 1000
          clear hb6 hgot HR5 HW5
          generalize firstN (s1.L (v, l)) 1000 = ff at *
          go_wp2_with fail
          refine (same9_to ff ff HW6.out HG6.out rfl rfl (by omega) (by omega) true (by simp)).mono ?_
          rintro r W7 ⟨rfl, hb7⟩
          have HR7 := hid_mk ((HR6.out.below hb7).mono (k' := 2 * (j + 1)) (by omega))
          have HGe := HG2
          clear hb7 HR6 HG6 HW6
          go_wp2
          go_roundw
          case rel => exact ⟨j + 1, _, _, _, K, _, _, by go_num, by omega, by omega, HR7.out, HGe.out, HO2.out⟩
          case measure => simp [intOf]; omega
        have hpv1 : (qv == v) = true := by simpa using hpv
        by_cases hpl : ql = l
        case neg =>
          have hpl1 : (ql == l) = false := by simpa using hpl
          have HNE : Hid ((qv, ql) ≠ (v, l)) := fun e0 => hpl (congrArg Prod.snd e0)
          clear hpl hpv
          have HP := HA2.out.take1 (by omega) hT.out
          rw [decide_eq_false hE, show takeB s1 qv ql qe = s1 from if_neg hE] at HP
          have HPP := hid_mk HP
          have HE := hid_mk hE
          clear HP hE
          go_wp2_with fail
          rw [← hX]
          clear hX d0 d1 d2 d3
          refine HPP.out.mono ?_
          rintro r W4 ⟨rfl, hA4⟩
          have HA4 := hid_mk hA4
          clear hA4 HPP HA2
          obtain ⟨⟨k0, k1, k2, k3⟩, z0, z1, z2, z3⟩ := CL.out _ _ _ _ _ _ HA4.out
          go_wp2_with fail
          have HG2 := HG
          have HO2 := HO
          clear HNE HE HG HO
          refine (HA4.out.of1 (by omega) hP0.out (most := 1000) (by decide)).mono ?_
          rintro r W5 ⟨wo, wc, rfl, hwant, hb5⟩
          have HR5 := hid_mk (HA4.out.below hb5)
          have HW5 := hid_mk hwant
          clear hb5 hwant HA4
          go_wp2_with fail
          refine (HR5.out.swap.of1 (by omega) hP0.out (most := 1000) (by decide)).mono ?_
          rintro r W6 ⟨go, gc, rfl, hgot, hb6⟩
          rw [HR5.out.same HG2.out] at hgot ⊢
          have HR6 := hid_mk (HR5.out.below hb6)
          have HG6 := hid_mk hgot
          have HW6 := hid_mk (HW5.out.below hb6)
          have hfl := HR6.out.ok.len (v, l)
          have hfn := firstN_len (s1.L (v, l)) 1000
          clear hb6 hgot HR5 HW5
          generalize firstN (s1.L (v, l)) 1000 = ff at *
          go_wp2_with fail
          refine (same9_to ff ff HW6.out HG6.out rfl rfl (by omega) (by omega) true (by simp)).mono ?_
          rintro r W7 ⟨rfl, hb7⟩
          have HR7 := hid_mk ((HR6.out.below hb7).mono (k' := 2 * (j + 1)) (by omega))
          have HGe := HG2
          clear hb7 HR6 HG6 HW6
          go_wp2
          go_roundw
          case rel => exact ⟨j + 1, _, _, _, K, _, _, by go_num, by omega, by omega, HR7.out, HGe.out, HO2.out⟩
          case measure => simp [intOf]; omega
        clear hpv1
        subst hpv hpl
        have HP := HA2.out.take1 (by omega) hT.out
        rw [decide_eq_false hE, show takeB s1 qv ql qe = s1 from if_neg hE] at HP
        have HPP := hid_mk HP
        have HE := hid_mk hE
        clear HP hE
        go_wp2_with fail
        rw [← hX]
        clear hX d0 d1 d2 d3
        refine HPP.out.mono ?_
        rintro r W4 ⟨rfl, hA4⟩
        have HA4 := hid_mk hA4
        clear hA4 HPP HA2
        obtain ⟨⟨k0, k1, k2, k3⟩, z0, z1, z2, z3⟩ := CL.out _ _ _ _ _ _ HA4.out
        go_wp2_with fail
        have HP2 := HA4.out.take2 (by omega) hT.out
        have hE3 : qe ∉ s2.L (qv, ql) := by rw [HG.out.same]; exact HE.out
        rw [decide_eq_false hE3, show takeB s2 qv ql qe = s2 from if_neg hE3] at HP2
        have HPP2 := hid_mk HP2
        have HG2 := HG
        have HO2 := HO
        clear HG HO HE HP2 hE3 HA4
        refine HPP2.out.mono ?_
        rintro r W44 ⟨rfl, hA6⟩
        have HA6 := hid_mk hA6
        clear hA6 HPP2
        go_wp2_with fail
        refine (HA6.out.of1 (by omega) hP0.out (most := 1000) (by decide)).mono ?_
        rintro r W5 ⟨wo, wc, rfl, hwant, hb5⟩
        have HR5 := hid_mk (HA6.out.below hb5)
        have HW5 := hid_mk hwant
        clear hb5 hwant HA6
        go_wp2_with fail
        refine (HR5.out.swap.of1 (by omega) hP0.out (most := 1000) (by decide)).mono ?_
        rintro r W6 ⟨go, gc, rfl, hgot, hb6⟩
        rw [HR5.out.same HG2.out] at hgot ⊢
        have HR6 := hid_mk (HR5.out.below hb6)
        have HG6 := hid_mk hgot
        have HW6 := hid_mk (HW5.out.below hb6)
        have hfl := HR6.out.ok.len (qv, ql)
        have hfn := firstN_len (s1.L (qv, ql)) 1000
        clear hb6 hgot HR5 HW5
        generalize firstN (s1.L (qv, ql)) 1000 = ff at *
        go_wp2_with fail
        refine (same9_to ff ff HW6.out HG6.out rfl rfl (by omega) (by omega) true (by simp)).mono ?_
        rintro r W7 ⟨rfl, hb7⟩
        have HR7 := hid_mk ((HR6.out.below hb7).mono (k' := 2 * (j + 1)) (by omega))
        have HGe := HG2
        clear hb7 HR6 HG6 HW6
        go_wp2
        go_roundw
        case rel => exact ⟨j + 1, _, _, _, K, _, _, by go_num, by omega, by omega, HR7.out, HGe.out, HO2.out⟩
        case measure => simp [intOf]; omega
    · obtain rfl : j = m := by omega
      obtain ⟨D, hown, hsz, hN⟩ := HA.out.map
      have HN := hid_mk hN
      have HSZ := hid_mk hsz
      clear hN hsz
      have hKm : K.length ≤ 150 := by omega
      clear HM HKQ hlq h200 hmi hKj hjm hlt
      generalize wr = wb at *
      go_wp2_with (first
        | (at_range; refine wpList_range_own _ rfl _ 69 rfl 53 3 KA.K KA.u (plainElem Try.prog 3) bm _ D rfl hown ?_; intro w0 hrg0 hg0 hs0)
        | fail)
      go_frame
      go_loopw [13] (fun v13 wq => ∃ (n : Int) (left : Lit → Bool) (cnt : Nat), v13 = .int .i64 n ∧ wq.ranges Try.prog 53 (plainElem Try.prog 3) bm wb.heap.size K.length D left cnt ∧ Hid (Below wb.heap.size wb wq) ∧ Hid (Sof lt D K q left n)) (fun _ wq => wq.rangeLeft bm wb.heap.size)
      case atStart =>
        refine ⟨0, _, _, rfl, hrg0, ⟨hg0.os, hg0.tape, hg0.output, hg0.size, fun j hj => hg0.block j hj (by simp)⟩, ?_⟩
        exact Sof.start HLT.out HN.out HG.out HO.out
      case round =>
        clear hrg0 hg0 hs0 hown
        obtain ⟨n, left, cnt, rfl, hrg, HB, HS⟩ := hrel
        go_wp2_with (first
          | (at_next; refine wpList_next_ranges _ rfl _ rfl 53 KA.K (plainElem Try.prog 3) mkA (Value.int .i64) (fun key kl hk => keyA_inv hk) (fun v y hv => (plainElem_int_inv (by rw [Try.underlying3]) hv).imp fun _ h => h.1) bm wb.heap.size _ _ _ _ rfl hrg ?_ ?_)
          | fail)
        · intro hc0 hl0
          have hn := HS.out.end_ HG.out hl0
          subst hn
          have HA3 := hid_mk (HA.out.below HB.out)
          have HL2 := HA3.out.swap.len1
          rw [HG.out.n2] at HL2
          have HL3 := hid_mk HL2
          clear HL2 hrg HS HSZ HN HB HA HO hl0
          go_wp2_with fail
          refine HA3.out.len1.mono ?_
          rintro r W1 ⟨rfl, rfl⟩
          go_wp2_with fail
          refine HL3.out.mono ?_
          rintro r W2 ⟨rfl, rfl⟩
          go_wp2_with fail
          refine (HA3.out.swap.many1 hP0.out).mono ?_
          rintro r W3 ⟨rfl, rfl⟩
          go_wp2_with fail
          refine (wakes9_any _).mono ?_
          rintro r W4 ⟨rfl, hb4⟩
          have HF := hid_mk (HA3.out.below hb4).bl
          clear hb4 HA3 HL3
          go_wp2
          go_ret
          exact ⟨rfl, HF.out⟩
        · intro x0 x1 x2 x3 c kl ya yb W1 cnt1 hkx hlx hRc hat hrg1 hlt1 hg1 hs1 hen
          obtain ⟨hTx, hc01, hdc, hS'⟩ := Sof.step HLT.out HS.out HN.out HG.out HO.out (x := (x0, x1, x2, x3)) (y := (ya, yb)) hkx hlx hRc hat
          have HS' := hid_mk hS'
          obtain ⟨b0, b1⟩ := HS.out.bd
          have hLeft := hrg.left_eq
          have HB1 : Hid (Below wb.heap.size wb W1) := ⟨hg1.os.trans HB.out.os, hg1.tape.trans HB.out.tape, hg1.output.trans HB.out.output, Nat.le_trans HB.out.size hg1.size, fun j hj => (hg1.block j (Nat.lt_of_lt_of_le hj HB.out.size) (fun e => by have := Option.some.inj e; omega)).trans (HB.out.block j hj)⟩
          obtain ⟨X, hX⟩ : ∃ X, X = W1.alloc (.cells #[.int .u8 x0, .int .i64 x1, .int .i64 x2, .int .i64 x3] 53) := ⟨_, rfl⟩
          have hBX : Below wb.heap.size wb X := by rw [hX]; exact below_new HB1.out (Nat.le_refl _) _
          have HHas := (HA.out.below hBX).has1 hTx
          rw [show decide (x3 ∈ s1.L (x1, x2)) = (c == 1) from hdc] at HHas
          have HHas2 := hid_mk HHas
          have HBX := hid_mk hBX
          have hrg2 : X.ranges Try.prog 53 (plainElem Try.prog 3) bm wb.heap.size K.length D (fun z => left z && !z.sameKey kl) cnt1 := by rw [hX]; exact hrg1.alloc _
          have hL2 := hrg2.left_eq
          have HRG := hid_mk hrg2
          clear hrg2 HHas hBX hS' hdc hTx hRc hat hkx hlx hrg hrg1 hg1 hs1 HS HB HB1
          go_wp2_with fail
          rw [← hX]
          clear hX hen
          refine HHas2.out.mono ?_
          rintro r W2 ⟨rfl, rfl⟩
          go_wp2
          go_roundw
          case rel => exact ⟨n + c, _, cnt1, by rcases hc01 with rfl | rfl <;> go_num, HRG.out, HBX.out, HS'.out⟩
          case measure => rw [hL2, hLeft]; exact hlt1
end Go.Proofs.Ythdmmjboaoonbaa
