/- The walk of UnionOrder. -/
import Derived.Test.YtcbgeahcnjamdabUnionDuo
namespace Go.Proofs.Ytcbgeahcnjamdab
open Go.RowKit
set_option linter.unusedVariables false

set_option maxRecDepth 100000 in
set_option maxHeartbeats 6400000 in
theorem uorder_walk (n : Int) (ao : Option Addr) (cap : Nat) (qs : List A11.Ac) (w : World) (hn : 0 ≤ n ∧ n ≤ 255) (hk : A11.AcAt w ao qs) (hl : qs.length ≤ 9223372036854775807) :
    Calls Try.prog 6 #[.int .u8 n, .slice ao qs.length cap] w fun e w' => e = .returned (.bool true) ∧ Below w.heap.size w w' := by
  obtain ⟨m, hm⟩ : ∃ m, m = qs.length := ⟨_, rfl⟩
  have HM := hid_mk hm.symm
  have HK := hid_mk hk
  rw [← hm] at hl ⊢
  clear hk hm
  obtain ⟨n, rfl⟩ : ∃ k : Nat, n = (k : Int) := ⟨n.toNat, by omega⟩
  by_cases hbig : 300 < m ∨ 200 < n
  · go_enter Try.func6, Try.ntmps6
    go_wp2_with fail
    refine (uawake_any _).mono ?_
    rintro e w1 ⟨rfl, hb1⟩
    by_cases h3 : 300 < m
    · go_wp2
      go_ret
      exact ⟨rfl, hb1⟩
    · have h2 : 200 < n := by omega
      go_wp2
      go_ret
      exact ⟨rfl, hb1⟩
  have hm3 : m ≤ 300 := by omega
  have hn2 : n ≤ 200 := by omega
  clear hbig hl hn
  go_enter Try.func6, Try.ntmps6
  go_wp2_with fail
  refine (uawake_any _).mono ?_
  rintro e w1 ⟨rfl, hb1⟩
  have HB1 := hid_mk hb1
  clear hb1
  go_wp2_with fail
  refine (unew_yes n w1 (by omega)).mono ?_
  rintro e w2 ⟨B, G, H, rfl, hU, hb2, hBGH⟩
  have HU2 := hid_mk hU
  have HB2 := hid_mk (below_step HB1.out hb2 (Nat.le_refl _))
  have HL2 := hid_mk (show w.heap.size ≤ B ∧ w.heap.size ≤ G ∧ w.heap.size ≤ H by have := HB1.out.size; omega)
  clear hU hb2 hBGH HB1
  go_wp2_with fail
  refine (unew_yes n w2 (by omega)).mono ?_
  rintro e w3 ⟨B', G', H', rfl, hV, hb3, hBGH⟩
  have HD := hid_mk (Duu.made HU2.out HB2.out HL2.out hV hb3 hBGH)
  clear hV hb3 hBGH HU2 HB2 HL2
  go_wp2
  go_loopw [9, 10] (fun c v wr => ∃ (k : Nat) (md : Int), k ≤ m ∧ 0 ≤ md ∧ md ≤ n ∧ v = .int .i64 k ∧ c = .int .i64 md ∧ Hid (md = madeN n (prs qs k)) ∧ Hid (Duu w wr B G H (unL n (prs qs k)) B' G' H' (idN n))) (fun _ v _ => m - (intOf v).toNat)
  case atStart => exact ⟨0, 0, by omega, by omega, by omega, rfl, rfl, (madeN_nil n).symm, HD.out⟩
  case round =>
    clear HD
    obtain ⟨k, md, hk, md0, md1, rfl, rfl, HC, HD⟩ := hrel
    by_cases hlt : k < m
    · rcases HK.out with h | ⟨b, off, rfl, hbl, hc⟩
      · have := HM.out; rw [h] at this; simp at this; omega
      have hci := hc k (by rw [HM.out]; exact hlt)
      obtain ⟨y0, y1⟩ := hci.1.below HD.out.bl hbl
      have hus := unL_succ n (show k < qs.length by rw [HM.out]; exact hlt)
      have hms := made_succ n (show k < qs.length by rw [HM.out]; exact hlt)
      have hmb := made_bd n (prs qs (k + 1))
      rw [hms, ← HC.out] at hmb
      have z0 : wr.drew.cell? ⟨b, off + k * 2, none⟩ = some (.int .i64 (A11.aAt qs k).a) := y0
      have z1 : wr.drew.cell? ⟨b, off + k * 2 + 1, none⟩ = some (.int .i64 (A11.aAt qs k).b) := y1
      have HDd := hid_mk (HD.out.below (Below.refl _ _).drew)
      have CU := hid_mk (ujoin_any HDd.out.u (A11.aAt qs k).a (A11.aAt qs k).b)
      have HE : Hid (∀ W, Un W B G H (joinL (unL n (prs qs k)) (A11.aAt qs k).a (A11.aAt qs k).b) → Thru B G H wr.drew W → Duu w W B G H (unL n (prs qs (k + 1))) B' G' H' (idN n)) := fun W h1 t1 => by rw [hus]; exact HDd.out.stepU h1 t1
      have HMS : Hid (madeN n (prs qs (k + 1)) = md + if joinB (unL n (prs qs k)) (A11.aAt qs k).a (A11.aAt qs k).b then 1 else 0) := by show _ = _; rw [hms, ← HC.out]
      have HO : Hid (∀ W o, Thru B G H wr.drew W → W.cell? ⟨b, o, none⟩ = wr.drew.cell? ⟨b, o, none⟩) := fun W o ht => World.cell?_of_block (w := wr.drew) (ht.block b (by have := HDd.out.bl.size; omega) (by have := HDd.out.lo; omega) (by have := HDd.out.lo; omega) (by have := HDd.out.lo; omega))
      clear hci hc hus hms HC HD HDd
      generalize joinL (unL n (prs qs k)) (A11.aAt qs k).a (A11.aAt qs k).b = L' at *
      generalize joinB (unL n (prs qs k)) (A11.aAt qs k).a (A11.aAt qs k).b = t at *
      generalize (A11.aAt qs k).a = qa at *
      generalize (A11.aAt qs k).b = qb at *
      go_wp2
      go_region_held3 (fun w' => w'.cell? ⟨b, off + k * 2, none⟩ = some (.int .i64 qa) ∧ w'.cell? ⟨b, off + k * 2 + 1, none⟩ = some (.int .i64 qb))
        (first
          | go_keep
          | exact ⟨(HO.out _ _ hT4).trans z0, (HO.out _ _ hT4).trans z1⟩)
        (first
          | (go_at_call 11; refine CU.out.mono ?_; rintro e w4 ⟨rfl, hU4, hT4⟩)
          | fail)
      have HF := hid_mk (HE.out _ hU4 hT4)
      rename_i hHeld
      clear hHeld hU4 hT4 HE HO CU y0 y1 z0 z1 hbl
      cases t with
      | true =>
        simp only [if_true] at hmb
        have HM2 : Hid (md + 1 = madeN n (prs qs (k + 1))) := HMS.out.symm
        clear HMS
        go_wp2
        go_roundw
        case rel => exact ⟨k + 1, md + 1, by omega, by omega, by omega, by go_num, by go_num, HM2, HF⟩
        case measure => simp [intOf]; omega
      | false =>
        have HM2 : Hid (md = madeN n (prs qs (k + 1))) := by show _ = _; rw [HMS.out]; simp
        clear HMS hmb
        go_wp2
        go_roundw
        case rel => exact ⟨k + 1, md, by omega, by omega, by omega, by go_num, by go_num, HM2, HF⟩
        case measure => simp [intOf]; omega
    · obtain rfl : k = m := by omega
      generalize wr = wo at *
      obtain ⟨L, hL⟩ : ∃ L, L = unL n (prs qs k) := ⟨_, rfl⟩
      have HLL := hid_mk hL
      rw [← hL] at HD
      clear hL
      go_wp2
      go_loopw [11] (fun v wr => ∃ j : Nat, j ≤ k ∧ v = .int .i64 ((k : Int) - 1 - j) ∧ Hid (Duu w wr B G H L B' G' H' (unL n ((rev qs).take j)))) (fun v _ => ((intOf v) + 1).toNat)
      case atStart => exact ⟨0, by omega, by simp, HD.out⟩
      case round =>
        clear HD
        obtain ⟨j, hj, rfl, HD⟩ := hrel
        by_cases hlt2 : j < k
        · obtain ⟨i, hi⟩ : ∃ i : Nat, i + (j + 1) = k := ⟨k - (j + 1), by omega⟩
          have hii : (k : Int) - 1 - j = i := by omega
          rw [hii]
          rcases HK.out with h | ⟨b, off, rfl, hbl, hc⟩
          · have := HM.out; rw [h] at this; simp at this; omega
          have hci := hc i (by rw [HM.out]; omega)
          obtain ⟨y0, y1⟩ := hci.1.below HD.out.bl hbl
          have hrs := rev_succ (qs := qs) (j := j) (k := i) (by rw [HM.out]; exact hi)
          have z0 : wr.drew.cell? ⟨b, off + i * 2, none⟩ = some (.int .i64 (A11.aAt qs i).a) := y0
          have z1 : wr.drew.cell? ⟨b, off + i * 2 + 1, none⟩ = some (.int .i64 (A11.aAt qs i).b) := y1
          have HDd := hid_mk (HD.out.below (Below.refl _ _).drew)
          have CU := hid_mk (ujoin_any HDd.out.v (A11.aAt qs i).b (A11.aAt qs i).a)
          have HE : Hid (∀ W, Un W B' G' H' (joinL (unL n ((rev qs).take j)) (A11.aAt qs i).b (A11.aAt qs i).a) → Thru B' G' H' wr.drew W → Duu w W B G H L B' G' H' (unL n ((rev qs).take (j + 1)))) := fun W h1 t1 => by rw [hrs, unL_snoc]; exact HDd.out.stepV h1 t1
          have HO : Hid (∀ W o, Thru B' G' H' wr.drew W → W.cell? ⟨b, o, none⟩ = wr.drew.cell? ⟨b, o, none⟩) := fun W o ht => World.cell?_of_block (w := wr.drew) (ht.block b (by have := HDd.out.bl.size; omega) (by have := HDd.out.lo; omega) (by have := HDd.out.lo; omega) (by have := HDd.out.lo; omega))
          have A1 := hid_mk hi
          have hik : i < k := by omega
          clear hci hc hrs HD HDd hii hi
          generalize joinL (unL n ((rev qs).take j)) (A11.aAt qs i).b (A11.aAt qs i).a = L' at *
          generalize joinB (unL n ((rev qs).take j)) (A11.aAt qs i).b (A11.aAt qs i).a = t at *
          generalize (A11.aAt qs i).a = qa at *
          generalize (A11.aAt qs i).b = qb at *
          go_wp2
          go_region_held3 (fun w' => w'.cell? ⟨b, off + i * 2, none⟩ = some (.int .i64 qa) ∧ w'.cell? ⟨b, off + i * 2 + 1, none⟩ = some (.int .i64 qb))
            (first
              | go_keep
              | exact ⟨(HO.out _ _ hT4).trans z0, (HO.out _ _ hT4).trans z1⟩)
            (first
              | (go_at_call 11; refine CU.out.mono ?_; rintro e w4 ⟨rfl, hU4, hT4⟩)
              | fail)
          have HF := hid_mk (HE.out _ hU4 hT4)
          rename_i hHeld
          clear hHeld hU4 hT4 HE HO CU y0 y1 z0 z1 hbl
          go_wp2
          go_roundw
          case rel => exact ⟨j + 1, by omega, (congrArg (Value.int IntKind.i64) (by have := A1.out; omega)), HF⟩
          case measure => have := A1.out; simp [intOf] <;> omega
        · obtain rfl : j = k := by omega
          have hneg : ¬ (0 : Int) ≤ (j : Int) - 1 - j := by omega
          have HD2 : Hid (Duu w wr B G H L B' G' H' L) := by
            have h := HD.out
            rw [show (rev qs).take j = (rev qs).take (rev qs).length by rw [rev_len, HM.out], unL_rev, HM.out, ← HLL.out] at h
            exact h
          have HMD : Hid (setsN L = (n : Int) - md) := by show _ = _; rw [HC.out, HLL.out]; unfold madeN; omega
          have HLn : Hid (L.length = n ∧ Nm L) := by rw [HLL.out]; exact ⟨(unL_nm n _).2, (unL_nm n _).1⟩
          clear HD HC
          generalize wr = wo2 at *
          go_wp2
          go_loopw [12] (fun v wr => ∃ i : Nat, i ≤ n ∧ v = .int .i64 i ∧ Hid (Duu w wr B G H L B' G' H' L)) (fun v _ => n - (intOf v).toNat)
          case atStart => exact ⟨0, by omega, rfl, HD2⟩
          case round =>
            clear HD2
            obtain ⟨i, hi, rfl, HD⟩ := hrel
            by_cases hin : i < n
            · have hnm := nameN_name HLn.out.2 i (by rw [HLn.out.1]; exact hin)
              have HN : Hid (nameN L (nameN L i) = nameN L i) := hnm.1
              have hle := hnm.2
              clear hnm
              have C1 := hid_mk (uname_any HD.out.u.uv (i : Int))
              go_wp2_with fail
              refine C1.out.mono ?_
              rintro e w4 ⟨rfl, hb⟩
              have HD4 := hid_mk (HD.out.below hb)
              have C2 := hid_mk (uname_any HD4.out.v.uv (i : Int))
              clear hb C1 HD
              go_wp2_with fail
              refine C2.out.mono ?_
              rintro e w5 ⟨rfl, hb⟩
              have HD5 := hid_mk (HD4.out.below hb)
              have C3 := hid_mk (usize_any HD5.out.u.uv (i : Int))
              clear hb C2 HD4
              go_wp2_with fail
              refine C3.out.mono ?_
              rintro e w6 ⟨rfl, hb⟩
              have HD6 := hid_mk (HD5.out.below hb)
              have C4 := hid_mk (usize_any HD6.out.v.uv (i : Int))
              clear hb C3 HD5
              go_wp2_with fail
              refine C4.out.mono ?_
              rintro e w7 ⟨rfl, hb⟩
              have HD7 := hid_mk (HD6.out.below hb)
              have C5 := hid_mk (uname_any HD7.out.u.uv (i : Int))
              clear hb C4 HD6
              go_wp2_with fail
              refine C5.out.mono ?_
              rintro e w8 ⟨rfl, hb⟩
              have HD8 := hid_mk (HD7.out.below hb)
              have C6 := hid_mk (uname_any HD8.out.u.uv (nameN L i))
              rw [HN.out] at C6
              clear hb C5 HD7
              go_wp2_with fail
              refine C6.out.mono ?_
              rintro e w9 ⟨rfl, hb⟩
              have HD9 := hid_mk (HD8.out.below hb)
              have C7 := hid_mk (uname_any HD9.out.u.uv (i : Int))
              clear hb C6 HD8
              go_wp2_with fail
              refine C7.out.mono ?_
              rintro e w10 ⟨rfl, hb⟩
              have HD10 := hid_mk (HD9.out.below hb)
              have C8 := hid_mk (uname_any HD10.out.u.uv (i : Int))
              clear hb C7 HD9
              go_wp2_with fail
              refine C8.out.mono ?_
              rintro e w11 ⟨rfl, hb⟩
              have HD11 := hid_mk (HD10.out.below hb)
              clear hb C8 HD10 HN
              generalize nameN L (i : Int) = x at *
              generalize sizeN L (i : Int) = y at *
              go_wp2
              go_roundw
              case rel => exact ⟨i + 1, by omega, by go_num, HD11⟩
              case measure => simp [intOf]; omega
            · have C1 := hid_mk (usets_any HD.out.u.uv)
              have C2 := hid_mk (usets_any HD.out.v.uv)
              rw [HMD.out] at C1 C2
              go_wp2_with fail
              refine C1.out.mono ?_
              rintro e w4 ⟨rfl, rfl⟩
              go_wp2_with fail
              refine C2.out.mono ?_
              rintro e w5 ⟨rfl, rfl⟩
              go_wp2_with fail
              refine C1.out.mono ?_
              rintro e w6 ⟨rfl, rfl⟩
              have HF := hid_mk HD.out.bl
              clear C1 C2 HD HMD HLn HLL
              go_wp2
              go_ret
              exact ⟨rfl, HF.out⟩
end Go.Proofs.Ytcbgeahcnjamdab
