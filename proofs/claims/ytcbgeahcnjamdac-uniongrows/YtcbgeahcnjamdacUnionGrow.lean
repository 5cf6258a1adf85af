/- The walk of UnionGrows. -/
import Derived.Test.YtcbgeahcnjamdacUnionDuo
import Derived.Lib.MinMax
namespace Go.Proofs.Ytcbgeahcnjamdac
open Go.RowKit
set_option linter.unusedVariables false

section
variable {L : List Int} {a b : Int}
theorem grow_size (hN : Nm L) (hj : joinB L a b = true) : sizeN (joinL L a b) a = sizeN L a + sizeN L b := by
  obtain ⟨ha, hb, hne⟩ := joinB_iff.1 hj
  obtain ⟨a0, a1⟩ := memN_iff.1 ha
  unfold sizeN
  rw [memN_join, ha, hb]
  simp only [if_true]
  rw [joinL_at hj (by omega), joinL_yes hj]
  have : subN (lAt L a.toNat) (lAt L b.toNat) (lAt L a.toNat) = min (lAt L a.toNat) (lAt L b.toNat) := by
    rcases subN_cases (lAt L a.toNat) (lAt L b.toNat) (lAt L a.toNat) with ⟨e, s⟩ | ⟨n, s⟩ <;> rw [s] <;> omega
  rw [this, count_sub hne]
  omega
theorem grow_name (hN : Nm L) (hj : joinB L a b = true) : nameN (joinL L a b) b = min (nameN L a) (nameN L b) := by
  obtain ⟨ha, hb, hne⟩ := joinB_iff.1 hj
  obtain ⟨b0, b1⟩ := memN_iff.1 hb
  unfold nameN
  rw [memN_join, ha, hb]
  simp only [if_true]
  rw [joinL_at hj (by omega)]
  rcases subN_cases (lAt L a.toNat) (lAt L b.toNat) (lAt L b.toNat) with ⟨e, s⟩ | ⟨n, s⟩ <;> rw [s] <;> omega
theorem grow_in (hj : joinB L a b = true) {i : Int} (hi : memN L i = true) (h : sameN L i a = true ∨ sameN L i b = true) : sameN (joinL L a b) i a = true := by
  obtain ⟨ha, hb, hne⟩ := joinB_iff.1 hj
  obtain ⟨a0, a1⟩ := memN_iff.1 ha
  obtain ⟨i0, i1⟩ := memN_iff.1 hi
  unfold sameN at h ⊢
  rw [memN_join, memN_join, hi, ha]
  rw [hi, ha, hb] at h
  simp at h ⊢
  rw [joinL_at hj (by omega), joinL_at hj (by omega)]
  rcases h with h | h
  · rw [h]
  · rw [h]
    rcases subN_cases (lAt L a.toNat) (lAt L b.toNat) (lAt L b.toNat) with ⟨e, s⟩ | ⟨n, s⟩ <;> rcases subN_cases (lAt L a.toNat) (lAt L b.toNat) (lAt L a.toNat) with ⟨e', s'⟩ | ⟨n', s'⟩ <;> rw [s, s'] <;> omega
theorem grow_out (hj : joinB L a b = true) {i : Int} (hi : memN L i = true) (h1 : sameN L i a = false) (h2 : sameN L i b = false) : nameN (joinL L a b) i = nameN L i ∧ sizeN (joinL L a b) i = sizeN L i ∧ sameN (joinL L a b) i a = false := by
  obtain ⟨ha, hb, hne⟩ := joinB_iff.1 hj
  obtain ⟨a0, a1⟩ := memN_iff.1 ha
  obtain ⟨i0, i1⟩ := memN_iff.1 hi
  unfold sameN at h1 h2
  rw [hi, ha] at h1
  rw [hi, hb] at h2
  simp at h1 h2
  have e1 : lAt (joinL L a b) i.toNat = lAt L i.toNat := by
    rw [joinL_at hj (by omega)]
    rcases subN_cases (lAt L a.toNat) (lAt L b.toNat) (lAt L i.toNat) with ⟨e, s⟩ | ⟨n, s⟩ <;> rw [s] <;> omega
  have e2 : lAt (joinL L a b) a.toNat = min (lAt L a.toNat) (lAt L b.toNat) := by
    rw [joinL_at hj (by omega)]
    rcases subN_cases (lAt L a.toNat) (lAt L b.toNat) (lAt L a.toNat) with ⟨e, s⟩ | ⟨n, s⟩ <;> rw [s] <;> omega
  refine ⟨?_, ?_, ?_⟩
  · unfold nameN; rw [memN_join, hi]; simp [e1]
  · unfold sizeN
    rw [memN_join, hi]
    simp only [if_true]
    rw [e1, joinL_yes hj, count_sub_ne h1 h2]
  · unfold sameN
    rw [memN_join, memN_join, hi, ha]
    simp
    rw [e1, e2]
    omega
theorem grow_sets (hN : Nm L) (hj : joinB L a b = true) : setsN (joinL L a b) = setsN L - 1 := setsN_join hN hj
/-- Why a join is none. -/
theorem grow_no (hN : Nm L) (hj : joinB L a b = false) : (sameN L a b = true) ∨ (sameN L a b = false ∧ nameN L a = -1) ∨ (sameN L a b = false ∧ 0 ≤ nameN L a ∧ nameN L b = -1) := by
  cases ha : memN L a with
  | false => exact .inr (.inl ⟨by unfold sameN; rw [ha]; rfl, by unfold nameN; rw [ha]; rfl⟩)
  | true =>
    cases hb : memN L b with
    | false =>
      obtain ⟨a0, a1⟩ := memN_iff.1 ha
      have := hN.lo a.toNat (by omega)
      exact .inr (.inr ⟨by unfold sameN; rw [hb]; simp, by unfold nameN; rw [ha]; simp; omega, by unfold nameN; rw [hb]; rfl⟩)
    | true =>
      left
      unfold joinB at hj
      unfold sameN
      rw [ha, hb] at hj ⊢
      simpa using hj
end

set_option maxRecDepth 100000 in
set_option maxHeartbeats 6400000 in
theorem ugrow_walk (n : Int) (ao : Option Addr) (cap : Nat) (qs : List A11.Ac) (xa xb : Int) (w : World) (hn : 0 ≤ n ∧ n ≤ 255) (hk : A11.AcAt w ao qs) (hl : qs.length ≤ 9223372036854775807) :
    Calls Try.prog 4 #[.int .u8 n, .slice ao qs.length cap, .agg #[.int .i64 xa, .int .i64 xb]] w fun e w' => e = .returned (.bool true) ∧ Below w.heap.size w w' := by
  obtain ⟨w0, hw0⟩ : ∃ w0, w0 = w.alloc (.cells #[.int .i64 xa, .int .i64 xb] 31) := ⟨_, rfl⟩
  have hb0 : Below w.heap.size w w0 := by rw [hw0]; exact (Below.refl _ _).alloc (Nat.le_refl _) _
  have hX0 : Blk w0 w.heap.size 31 #[.int .i64 xa, .int .i64 xb] := by rw [hw0]; exact Blk.new w _ _
  have HB0 := hid_mk hb0
  have HX0 := hid_mk hX0
  have HK : Hid (A11.AcAt w0 ao qs) := hk.below hb0
  obtain ⟨m, hm⟩ : ∃ m, m = qs.length := ⟨_, rfl⟩
  have HM := hid_mk hm.symm
  rw [← hm] at hl ⊢
  clear hb0 hX0 hk hm
  have HW0 := hid_mk hw0.symm
  clear hw0
  obtain ⟨n, rfl⟩ : ∃ k : Nat, n = (k : Int) := ⟨n.toNat, by omega⟩
  by_cases hbig : 300 < m ∨ 200 < n
  · go_enter Try.func4, Try.ntmps4
    go_wp2_with fail
    rw [HW0.out]
    refine (uawake_any _).mono ?_
    rintro e w1 ⟨rfl, hb1⟩
    have HB1 := hid_mk (below_step HB0.out hb1 (Nat.le_refl _))
    clear hb1
    by_cases h3 : 300 < m
    · go_wp2
      go_ret
      exact ⟨rfl, HB1.out⟩
    · have h2 : 200 < n := by omega
      go_wp2
      go_ret
      exact ⟨rfl, HB1.out⟩
  have hm3 : m ≤ 300 := by omega
  have hn2 : n ≤ 200 := by omega
  clear hbig hl hn
  go_enter Try.func4, Try.ntmps4
  go_wp2_with fail
  rw [HW0.out]
  refine (uawake_any _).mono ?_
  rintro e w1 ⟨rfl, hb1⟩
  have HB1 := hid_mk hb1
  clear hb1
  go_wp2_with fail
  refine (unew_yes n w1 (by omega)).mono ?_
  rintro e w2 ⟨B, G, H, rfl, hU, hb2, hBGH⟩
  have HU2 := hid_mk hU
  have HB2 := hid_mk (below_step HB1.out hb2 (Nat.le_refl _))
  have HL2 := hid_mk (show w0.heap.size ≤ B ∧ w0.heap.size ≤ G ∧ w0.heap.size ≤ H by have := HB1.out.size; omega)
  clear hU hb2 hBGH HB1
  go_wp2_with fail
  refine (unew_yes n w2 (by omega)).mono ?_
  rintro e w3 ⟨B', G', H', rfl, hV, hb3, hBGH⟩
  have HD := hid_mk (Duu.made HU2.out HB2.out HL2.out hV hb3 hBGH)
  clear hV hb3 hBGH HU2 HB2 HL2 HW0
  go_wp2
  go_loopw [11] (fun v wr => ∃ k : Nat, k ≤ m ∧ v = .int .i64 k ∧ Hid (∃ L, Duu w0 wr B G H L B' G' H' L ∧ L.length = n)) (fun v _ => m - (intOf v).toNat)
  case atStart => exact ⟨0, by omega, rfl, _, HD.out, idN_len n⟩
  case round =>
    clear HD
    obtain ⟨k, hk, rfl, HD⟩ := hrel
    obtain ⟨L, hD, hLn⟩ := HD.out
    clear HD
    by_cases hlt : k < m
    · rcases HK.out with h | ⟨b, off, rfl, hbl, hc⟩
      · have := HM.out; rw [h] at this; simp at this; omega
      have hci := hc k (by rw [HM.out]; exact hlt)
      obtain ⟨y0, y1⟩ := hci.1.below hD.bl hbl
      have z0 : wr.drew.cell? ⟨b, off + k * 2, none⟩ = some (.int .i64 (A11.aAt qs k).a) := y0
      have z1 : wr.drew.cell? ⟨b, off + k * 2 + 1, none⟩ = some (.int .i64 (A11.aAt qs k).b) := y1
      generalize (A11.aAt qs k).a = qa at *
      generalize (A11.aAt qs k).b = qb at *
      have HDd := hid_mk (hD.below (Below.refl _ _).drew)
      have CU := hid_mk (ujoin_any HDd.out.u qa qb)
      have HO : Hid (∀ W o, Thru B G H wr.drew W → W.cell? ⟨b, o, none⟩ = wr.drew.cell? ⟨b, o, none⟩) := fun W o ht => World.cell?_of_block (w := wr.drew) (ht.block b (by have := HDd.out.bl.size; omega) (by have := HDd.out.lo; omega) (by have := HDd.out.lo; omega) (by have := HDd.out.lo; omega))
      have HE : Hid (∀ W, Un W B G H (joinL L qa qb) → Thru B G H wr.drew W → Duu w0 W B G H (joinL L qa qb) B' G' H' L) := fun W h1 t1 => HDd.out.stepU h1 t1
      have HLn := hid_mk (show (joinL L qa qb).length = n by rw [joinL_len]; exact hLn)
      have Hbl := hid_mk hbl
      clear hD hci hc hbl HX0 HB0 hLn HDd
      generalize hL' : joinL L qa qb = L' at *
      have HL' := hid_mk hL'
      clear hL'
      generalize joinB L qa qb = t at *
      go_wp2
      go_region_held3 (fun w' => w'.cell? ⟨b, off + k * 2, none⟩ = some (.int .i64 qa) ∧ w'.cell? ⟨b, off + k * 2 + 1, none⟩ = some (.int .i64 qb))
        (first
          | go_keep
          | exact ⟨(HO.out _ _ hT4).trans z0, (HO.out _ _ hT4).trans z1⟩)
        (first
          | (go_at_call 8; refine CU.out.mono ?_; rintro e w4 ⟨rfl, hU4, hT4⟩)
          | fail)
      have HD4 := hid_mk (HE.out _ hU4 hT4)
      rename_i hHeld
      have u0 : w4.drew.cell? ⟨b, off + k * 2, none⟩ = some (.int .i64 qa) := (HO.out w4 _ hT4).trans z0
      have u1 : w4.drew.cell? ⟨b, off + k * 2 + 1, none⟩ = some (.int .i64 qb) := (HO.out w4 _ hT4).trans z1
      have v0 : w4.cell? ⟨b, off + k * 2, none⟩ = some (.int .i64 qa) := u0
      have v1 : w4.cell? ⟨b, off + k * 2 + 1, none⟩ = some (.int .i64 qb) := u1
      clear hHeld hU4 hT4 HE HO CU y0 y1 z0 z1
      have HDd := hid_mk (HD4.out.below (Below.refl _ _).drew)
      have CV : Hid (Calls Try.prog 8 #[.pointer (some ⟨B', 0, none⟩), .int .i64 qa, .int .i64 qb] w4.drew fun e w' => e = .returned (.bool (joinB L qa qb)) ∧ Un w' B' G' H' L' ∧ Thru B' G' H' w4.drew w') := by
        have h := ujoin_any HDd.out.v qa qb
        rw [HL'.out] at h
        exact h
      have HO : Hid (∀ W o, Thru B' G' H' w4.drew W → W.cell? ⟨b, o, none⟩ = w4.drew.cell? ⟨b, o, none⟩) := fun W o ht => World.cell?_of_block (w := w4.drew) (ht.block b (by have := HDd.out.bl.size; have := Hbl.out; omega) (by have := HDd.out.lo; have := Hbl.out; omega) (by have := HDd.out.lo; have := Hbl.out; omega) (by have := HDd.out.lo; have := Hbl.out; omega))
      have HE : Hid (∀ W, Un W B' G' H' L' → Thru B' G' H' w4.drew W → ∃ L, Duu w0 W B G H L B' G' H' L ∧ L.length = n) := fun W h1 t1 => ⟨L', HDd.out.stepV h1 t1, HLn.out⟩
      clear HD4 HDd Hbl HLn HL'
      generalize joinB L qa qb = t at *
      go_wp2
      go_region_held3 (fun w' => w'.cell? ⟨b, off + k * 2, none⟩ = some (.int .i64 qa) ∧ w'.cell? ⟨b, off + k * 2 + 1, none⟩ = some (.int .i64 qb))
        (first
          | go_keep
          | exact ⟨(HO.out _ _ hT5).trans u0, (HO.out _ _ hT5).trans u1⟩)
        (first
          | (go_at_call 8; refine CV.out.mono ?_; rintro e w5 ⟨rfl, hU5, hT5⟩)
          | fail)
      have HF := hid_mk (HE.out _ hU5 hT5)
      rename_i hHeld
      clear hHeld hU5 hT5 HE HO CV u0 u1 v0 v1
      go_wp2
      go_roundw
      case rel => exact ⟨k + 1, by omega, by go_num, HF⟩
      case measure => simp [intOf]; omega
    · obtain rfl : k = m := by omega
      have HD := hid_mk hD
      clear hD
      have hXr : Blk wr w.heap.size 31 #[.int .i64 xa, .int .i64 xb] := HX0.out.below HD.out.bl
      have x0 := hXr.at (j := 0) rfl
      have x1 := hXr.at (j := 1) rfl
      simp only [List.getElem_toArray, List.getElem_cons_zero, List.getElem_cons_succ] at x0 x1
      clear hXr
      have CJ := hid_mk (ujoin_any HD.out.v xa xb)
      have hN := HD.out.u.nm
      have hlen := HD.out.u.len
      go_wp2_with fail
      refine CJ.out.mono ?_
      rintro e w4 ⟨rfl, hV4, hT4⟩
      have HD4 := hid_mk (HD.out.stepV hV4 hT4)
      clear hV4 hT4 CJ HD x0 x1 HK HM
      cases hj : joinB L xa xb with
      | false =>
        rw [joinL_no hj] at HD4
        have hXr : Blk w4 w.heap.size 31 #[.int .i64 xa, .int .i64 xb] := HX0.out.below HD4.out.bl
        have x0 := hXr.at (j := 0) rfl
        have x1 := hXr.at (j := 1) rfl
        simp only [List.getElem_toArray, List.getElem_cons_zero, List.getElem_cons_succ] at x0 x1
        clear hXr
        have CS := hid_mk (usame_any HD4.out.u.uv xa xb)
        rcases grow_no hN hj with hs | ⟨hs, hna⟩ | ⟨hs, hna, hnb⟩
        · rw [hs] at CS
          have HD9 := hid_mk HD4.out
          clear hs hN hj
          go_wp2_with fail
          refine CS.out.mono ?_
          rintro e w5 ⟨rfl, rfl⟩
          clear CS HD4
          have C8 := hid_mk (usets_any HD9.out.v.uv)
          have C9 := hid_mk (usets_any HD9.out.u.uv)
          have HF := hid_mk (below_step HB0.out HD9.out.bl (Nat.le_refl _))
          go_wp2_with fail
          refine C8.out.mono ?_
          rintro e w10 ⟨rfl, rfl⟩
          go_wp2_with fail
          refine C9.out.mono ?_
          rintro e w11 ⟨rfl, rfl⟩
          generalize setsN L = ss at *
          clear C8 C9 HD9
          go_wp2
          go_ret
          exact ⟨rfl, HF.out⟩
        · rw [hs] at CS
          have C1 := hid_mk (uname_any HD4.out.u.uv xa)
          rw [hna] at C1
          clear hs hN hj hna
          go_wp2_with fail
          refine CS.out.mono ?_
          rintro e w5 ⟨rfl, rfl⟩
          clear CS
          go_wp2_with fail
          refine C1.out.mono ?_
          rintro e w6 ⟨rfl, hb⟩
          have HD9 := hid_mk (HD4.out.below hb)
          clear hb HD4 C1
          have C8 := hid_mk (usets_any HD9.out.v.uv)
          have C9 := hid_mk (usets_any HD9.out.u.uv)
          have HF := hid_mk (below_step HB0.out HD9.out.bl (Nat.le_refl _))
          go_wp2_with fail
          refine C8.out.mono ?_
          rintro e w10 ⟨rfl, rfl⟩
          go_wp2_with fail
          refine C9.out.mono ?_
          rintro e w11 ⟨rfl, rfl⟩
          generalize setsN L = ss at *
          clear C8 C9 HD9
          go_wp2
          go_ret
          exact ⟨rfl, HF.out⟩
        · rw [hs] at CS
          have C1 := hid_mk (uname_any HD4.out.u.uv xa)
          have HNB := hid_mk hnb
          clear hs hN hj hnb
          generalize nameN L xa = na at *
          have hna' : decide (na < 0) = false := by simpa using hna
          go_wp2_with fail
          refine CS.out.mono ?_
          rintro e w5 ⟨rfl, rfl⟩
          clear CS
          go_wp2_with fail
          refine C1.out.mono ?_
          rintro e w6 ⟨rfl, hb⟩
          have HD5 := hid_mk (HD4.out.below hb)
          clear hb HD4 C1 x0 x1
          have C2 := hid_mk (uname_any HD5.out.u.uv xb)
          rw [HNB.out] at C2
          have hXr : Blk w6 w.heap.size 31 #[.int .i64 xa, .int .i64 xb] := HX0.out.below HD5.out.bl
          have x0 := hXr.at (j := 0) rfl
          have x1 := hXr.at (j := 1) rfl
          simp only [List.getElem_toArray, List.getElem_cons_zero, List.getElem_cons_succ] at x0 x1
          clear hXr
          go_wp2_with fail
          refine C2.out.mono ?_
          rintro e w7 ⟨rfl, hb⟩
          have HD9 := hid_mk (HD5.out.below hb)
          clear hb HD5 C2
          have C8 := hid_mk (usets_any HD9.out.v.uv)
          have C9 := hid_mk (usets_any HD9.out.u.uv)
          have HF := hid_mk (below_step HB0.out HD9.out.bl (Nat.le_refl _))
          go_wp2_with fail
          refine C8.out.mono ?_
          rintro e w10 ⟨rfl, rfl⟩
          go_wp2_with fail
          refine C9.out.mono ?_
          rintro e w11 ⟨rfl, rfl⟩
          generalize setsN L = ss at *
          clear C8 C9 HD9
          go_wp2
          go_ret
          exact ⟨rfl, HF.out⟩
      | true =>
        have hz := grow_size hN hj
        have hnm := grow_name hN hj
        have hss := grow_sets hN hj
        obtain ⟨hma, hmb, _⟩ := joinB_iff.1 hj
        have hsame : sameN L xa xb = false := by
          have := (joinB_iff.1 hj).2.2
          unfold sameN; simp [this]
        have HI : Hid (∀ i : Nat, i < n → ((sameN L i xa = true ∨ sameN L i xb = true) → sameN (joinL L xa xb) i xa = true) ∧ (sameN L i xa = false → sameN L i xb = false → nameN (joinL L xa xb) i = nameN L i ∧ sizeN (joinL L xa xb) i = sizeN L i ∧ sameN (joinL L xa xb) i xa = false)) := fun i hi => by
          have hm : memN L i = true := memN_iff.2 ⟨by omega, by rw [hLn]; omega⟩
          exact ⟨grow_in hj hm, grow_out hj hm⟩
        have hsb1 := sizeN_bd L xa
        have hsb2 := sizeN_bd L xb
        have hsb3 := setsN_bd L
        have hnb1 := nmN_in hN hma
        have hnb2 := nmN_in hN hmb
        have hX4 : Blk w4 w.heap.size 31 #[.int .i64 xa, .int .i64 xb] := HX0.out.below HD4.out.bl
        have gn := Grow.ne w4
        have g0 : ∀ g : Grow w4, g.w.cell? ⟨w.heap.size, 0, none⟩ = some (.int .i64 xa) := fun g => Grow.cell hX4.lt (hX4.at (j := 0) rfl) g
        have g1 : ∀ g : Grow w4, g.w.cell? ⟨w.heap.size, 1, none⟩ = some (.int .i64 xb) := fun g => Grow.cell hX4.lt (hX4.at (j := 1) rfl) g
        have x0 := hX4.at (j := 0) rfl
        have x1 := hX4.at (j := 1) rfl
        simp only [List.getElem_toArray, List.getElem_cons_zero, List.getElem_cons_succ] at x0 x1
        generalize joinL L xa xb = M at *
        have hD5 := HD4.out
        have hND : ∀ g : Grow w4, Duu w0 g.w B G H L B' G' H' M := fun g => hD5.below g.h
        have R1 : Hid (∀ g : Grow w4, Calls Try.prog 9 #[.pointer (some ⟨B, 0, none⟩), .int .i64 xa, .int .i64 xb] g.w fun e w' => e = .returned (.bool false) ∧ Below g.w.heap.size g.w w') := fun g => (usame_any (hND g).u.uv xa xb).mono fun e w' h => ⟨by rw [← hsame]; exact h.1, by rw [h.2]; exact Below.refl _ _⟩
        have R2 : Hid (∀ g : Grow w4, Calls Try.prog 10 #[.pointer (some ⟨B', 0, none⟩), .int .i64 xa] g.w fun e w' => e = .returned (.int .i64 (sizeN L xa + sizeN L xb)) ∧ Below g.w.heap.size g.w w') := fun g => by rw [← hz]; exact usize_any (hND g).v.uv xa
        have R3 : Hid (∀ g : Grow w4, Calls Try.prog 10 #[.pointer (some ⟨B, 0, none⟩), .int .i64 xa] g.w fun e w' => e = .returned (.int .i64 (sizeN L xa)) ∧ Below g.w.heap.size g.w w') := fun g => usize_any (hND g).u.uv xa
        have R4 : Hid (∀ g : Grow w4, Calls Try.prog 10 #[.pointer (some ⟨B, 0, none⟩), .int .i64 xb] g.w fun e w' => e = .returned (.int .i64 (sizeN L xb)) ∧ Below g.w.heap.size g.w w') := fun g => usize_any (hND g).u.uv xb
        have R5 : Hid (∀ g : Grow w4, Calls Try.prog 11 #[.pointer (some ⟨B', 0, none⟩), .int .i64 xb] g.w fun e w' => e = .returned (.int .i64 (min (nameN L xa) (nameN L xb))) ∧ Below g.w.heap.size g.w w') := fun g => by rw [← hnm]; exact uname_any (hND g).v.uv xb
        have R6 : Hid (∀ g : Grow w4, Calls Try.prog 11 #[.pointer (some ⟨B, 0, none⟩), .int .i64 xa] g.w fun e w' => e = .returned (.int .i64 (nameN L xa)) ∧ Below g.w.heap.size g.w w') := fun g => uname_any (hND g).u.uv xa
        have R7 : Hid (∀ g : Grow w4, Calls Try.prog 11 #[.pointer (some ⟨B, 0, none⟩), .int .i64 xb] g.w fun e w' => e = .returned (.int .i64 (nameN L xb)) ∧ Below g.w.heap.size g.w w') := fun g => uname_any (hND g).u.uv xb
        have R8 : Hid (∀ g : Grow w4, Calls Try.prog 12 #[.pointer (some ⟨B', 0, none⟩)] g.w fun e w' => e = .returned (.int .i64 (setsN L - 1)) ∧ Below g.w.heap.size g.w w') := fun g => (usets_any (hND g).v.uv).mono fun e w' h => ⟨by rw [← hss]; exact h.1, by rw [h.2]; exact Below.refl _ _⟩
        have R9 : Hid (∀ g : Grow w4, Calls Try.prog 12 #[.pointer (some ⟨B, 0, none⟩)] g.w fun e w' => e = .returned (.int .i64 (setsN L)) ∧ Below g.w.heap.size g.w w') := fun g => (usets_any (hND g).u.uv).mono fun e w' h => ⟨h.1, by rw [h.2]; exact Below.refl _ _⟩
        have HLn := hid_mk hLn
        clear hz hnm hss hsame hN hj hma hmb hX4 hD5 hND hLn
        generalize sizeN L xa = z1 at *
        generalize sizeN L xb = z2 at *
        generalize nameN L xa = n1 at *
        generalize nameN L xb = n2 at *
        generalize setsN L = ss at *
        go_wp2
        refine wp_region_grow (by kernel_rfl) (by kernel_rfl) ?_
        repeat (go_big_quiet_step (first
          | (go_at_call 9; exact grow_call (R1.out _))
          | (go_at_call 10; first | with_reducible exact grow_call (R2.out _) | with_reducible exact grow_call (R3.out _) | with_reducible exact grow_call (R4.out _))
          | (go_at_call 11; first | with_reducible exact grow_call (R5.out _) | with_reducible exact grow_call (R6.out _) | with_reducible exact grow_call (R7.out _))
          | (go_at_call 12; first | with_reducible exact grow_call (R8.out _) | with_reducible exact grow_call (R9.out _))
          | fail))
        refine wpQuiet_nil ?_
        rintro w5 ⟨⟨_, hb5⟩, rfl⟩
        have HD5 := hid_mk (HD4.out.below hb5)
        clear hb5 R1 R2 R3 R4 R5 R6 R7 R8 R9 g0 g1 gn HD4 x0 x1 hsb1 hsb2 hsb3 hnb1 hnb2
        go_wp2
        go_loopw [13] (fun v wr => ∃ i : Nat, i ≤ n ∧ v = .int .i64 i ∧ Hid (Duu w0 wr B G H L B' G' H' M)) (fun v _ => n - (intOf v).toNat)
        case atStart => exact ⟨0, by omega, rfl, HD5⟩
        case round =>
          clear HD5
          obtain ⟨i, hi, rfl, HD⟩ := hrel
          by_cases hin : i < n
          · obtain ⟨i1, i2⟩ := HI.out i hin
            have hXr : Blk wr w.heap.size 31 #[.int .i64 xa, .int .i64 xb] := HX0.out.below HD.out.bl
            have x0 := hXr.at (j := 0) rfl
            have x1 := hXr.at (j := 1) rfl
            simp only [List.getElem_toArray, List.getElem_cons_zero, List.getElem_cons_succ] at x0 x1
            clear hXr
            have CA := hid_mk (usame_any HD.out.u.uv (i : Int) xa)
            have CB := hid_mk (usame_any HD.out.u.uv (i : Int) xb)
            have CV := hid_mk (usame_any HD.out.v.uv (i : Int) xa)
            cases ha : sameN L i xa with
            | true =>
              rw [i1 (.inl ha)] at CV
              rw [ha] at CA
              clear i1 i2 ha CB
              go_wp2_with fail
              refine CA.out.mono ?_
              rintro e w6 ⟨rfl, rfl⟩
              go_wp2_with fail
              refine CV.out.mono ?_
              rintro e w7 ⟨rfl, rfl⟩
              clear CA CV
              go_wp2
              go_roundw
              case rel => exact ⟨i + 1, by omega, by go_num, HD⟩
              case measure => simp [intOf]; omega
            | false =>
            rw [ha] at CA
            cases hb : sameN L i xb with
            | true =>
              rw [i1 (.inr hb)] at CV
              rw [hb] at CB
              clear i1 i2 ha hb
              go_wp2_with fail
              refine CA.out.mono ?_
              rintro e w6 ⟨rfl, rfl⟩
              go_wp2_with fail
              refine CB.out.mono ?_
              rintro e w6 ⟨rfl, rfl⟩
              go_wp2_with fail
              refine CV.out.mono ?_
              rintro e w7 ⟨rfl, rfl⟩
              clear CA CB CV
              go_wp2
              go_roundw
              case rel => exact ⟨i + 1, by omega, by go_num, HD⟩
              case measure => simp [intOf]; omega
            | false =>
              rw [hb] at CB
              obtain ⟨j1, j2, j3⟩ := i2 ha hb
              have J1 := hid_mk j1
              have J2 := hid_mk j2
              have J3 := hid_mk j3
              clear i1 i2 ha hb j1 j2 j3 CV
              go_wp2_with fail
              refine CA.out.mono ?_
              rintro e w6 ⟨rfl, rfl⟩
              go_wp2_with fail
              refine CB.out.mono ?_
              rintro e w6 ⟨rfl, rfl⟩
              have C1 := hid_mk (uname_any HD.out.v.uv (i : Int))
              rw [J1.out] at C1
              clear CA CB x0 x1
              go_wp2_with fail
              refine C1.out.mono ?_
              rintro e w7 ⟨rfl, hb⟩
              have HD7 := hid_mk (HD.out.below hb)
              have C2 := hid_mk (uname_any HD7.out.u.uv (i : Int))
              clear hb C1 HD
              go_wp2_with fail
              refine C2.out.mono ?_
              rintro e w8 ⟨rfl, hb⟩
              have HD8 := hid_mk (HD7.out.below hb)
              have C3 := hid_mk (usize_any HD8.out.v.uv (i : Int))
              rw [J2.out] at C3
              clear hb C2 HD7
              go_wp2_with fail
              refine C3.out.mono ?_
              rintro e w9 ⟨rfl, hb⟩
              have HD9 := hid_mk (HD8.out.below hb)
              have C4 := hid_mk (usize_any HD9.out.u.uv (i : Int))
              clear hb C3 HD8
              go_wp2_with fail
              refine C4.out.mono ?_
              rintro e w10 ⟨rfl, hb⟩
              have HD10 := hid_mk (HD9.out.below hb)
              have C5 := hid_mk (usame_any HD10.out.v.uv (i : Int) xa)
              rw [J3.out] at C5
              clear hb C4 HD9
              have hXr : Blk w10 w.heap.size 31 #[.int .i64 xa, .int .i64 xb] := HX0.out.below HD10.out.bl
              have x0 := hXr.at (j := 0) rfl
              have x1 := hXr.at (j := 1) rfl
              simp only [List.getElem_toArray, List.getElem_cons_zero, List.getElem_cons_succ] at x0 x1
              clear hXr
              generalize nameN L (i : Int) = p1 at *
              generalize sizeN L (i : Int) = p2 at *
              go_wp2_with fail
              refine C5.out.mono ?_
              rintro e w11 ⟨rfl, rfl⟩
              clear C5 x0 x1 J1 J2 J3
              go_wp2
              go_roundw
              case rel => exact ⟨i + 1, by omega, by go_num, HD10⟩
              case measure => simp [intOf]; omega
          · have HF := hid_mk (below_step HB0.out HD.out.bl (Nat.le_refl _))
            clear HD HI
            go_wp2
            go_ret
            exact ⟨rfl, HF.out⟩
end Go.Proofs.Ytcbgeahcnjamdac
