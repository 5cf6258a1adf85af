/- The walk EdgesStill. -/
import Derived.Test.YthdmmjboaoonbabEdgesStPlain
import Derived.Test.YthdmmjboaoonbabEdgesActs9
import Derived.Test.YthdmmjboaoonbabOpensI
import Derived.Test.YthdmmjboaoonbabAppendAny
import Derived.Sort.CutIn
import Derived.Shelf.RegionOpen
namespace Go.Proofs.Ythdmmjboaoonbab
open Go.RowKit
attribute [local go_sem] Oper.semAt_some
set_option linter.unusedVariables false

set_option maxRecDepth 100000 in
set_option maxHeartbeats 3200000 in
theorem still_great (ao : Option Addr) (ca n : Nat) (mo at0 : Int) (ao3 : Option Addr) (ca3 m : Nat) (w : World) (h : 40 < n ∨ 60 < m) (h1 : n ≤ 9223372036854775807) (h2 : m ≤ 9223372036854775807) :
    Calls Try.prog 3 #[.slice ao n ca, .int .u8 mo, .int .u8 at0, .slice ao3 m ca3] w fun e w' => e = .returned (.bool true) ∧ Below w.heap.size w w' := by
  obtain ⟨W0, hW0⟩ : ∃ W0, W0 = (w.alloc (.cells #[.int .u8 at0] 5)).alloc (.cells #[.slice ao3 m ca3] 23) := ⟨_, rfl⟩
  have HB0 : Hid (Below w.heap.size w W0) := by rw [hW0]; exact below_new ((Below.refl _ _).alloc (Nat.le_refl _) _) (Nat.le_refl _) _
  have c2 : ((w.alloc (.cells #[.int .u8 at0] 5)).alloc (.cells #[.slice ao3 m ca3] 23)).cell? ⟨w.heap.size + 1, 0, none⟩ = some (.slice ao3 m ca3) := by
    have := (Blk.new (w.alloc (.cells #[.int .u8 at0] 5)) 23 #[.slice ao3 m ca3]).cell1
    rwa [World.size_alloc] at this
  by_cases hn : 40 < n
  · have hn1 : (40 : Int) < (n : Int) := by omega
    skip
    clear h hn
    refine (callsIn_wide (n := 12)).1 ?_
    refine callsIn_of_wp_marks Try.func3 rfl trivial ?_ rfl
    simp only [Try.ntmps3, List.size_toArray, List.length_cons, List.length_nil, Nat.reduceAdd, Nat.reduceSub, Array.replicate_succ, Array.replicate_zero, List.push_toArray, List.append_toArray, List.nil_append, List.cons_append]
    gi_wp2_with fail
    refine ⟨trivial, ?_⟩
    gi_at_call 5
    refine (callsIn_wide.2 (wakes9_any _)).mono ?_
    rintro e w1 ⟨rfl, hb1⟩
    rw [← hW0] at hb1
    have HB := hid_mk (HB0.out.trans (hb1.mono HB0.out.size))
    clear hb1 HB0 c2 hW0
    gi_wp2
    refine ⟨.bool true, ?_, rfl, HB.out⟩
    simp [results, Try.f3, go_sem]
  have hn1 : ¬ (40 : Int) < (n : Int) := by omega
  have hm1 : (60 : Int) < (m : Int) := by omega
  clear h hn
  refine (callsIn_wide (n := 12)).1 ?_
  refine callsIn_of_wp_marks Try.func3 rfl trivial ?_ rfl
  simp only [Try.ntmps3, List.size_toArray, List.length_cons, List.length_nil, Nat.reduceAdd, Nat.reduceSub, Array.replicate_succ, Array.replicate_zero, List.push_toArray, List.append_toArray, List.nil_append, List.cons_append]
  gi_wp2_with fail
  refine ⟨trivial, ?_⟩
  gi_at_call 5
  refine (callsIn_wide.2 (wakes9_any _)).mono ?_
  rintro e w1 ⟨rfl, hb1⟩
  rw [← hW0] at hb1
  have HB := hid_mk (HB0.out.trans (hb1.mono HB0.out.size))
  clear hb1 HB0 c2 hW0
  gi_wp2
  refine ⟨.bool true, ?_, rfl, HB.out⟩
  simp [results, Try.f3, go_sem]
set_option maxRecDepth 100000 in
set_option maxHeartbeats 12800000 in
theorem still_small (ao : Option Addr) (ca n : Nat) (xs : List Int) (mo at0 : Int) (ao3 : Option Addr) (ca3 m : Nat) (qs : List A9.Ac) (w : World) (hk0 : NAt .i64 w ao xs) (hx0 : ∀ i, i < xs.length → -9223372036854775808 ≤ lAt xs i ∧ lAt xs i ≤ 9223372036854775807) (hn : n = xs.length) (hmo : 0 ≤ mo ∧ mo ≤ 255) (hat : 0 ≤ at0 ∧ at0 ≤ 255) (hk3 : A9.AcAt w ao3 qs) (hm : m = qs.length) (h1 : n ≤ 40) (h2 : m ≤ 60) :
    Calls Try.prog 3 #[.slice ao n ca, .int .u8 mo, .int .u8 at0, .slice ao3 m ca3] w fun e w' => e = .returned (.bool true) ∧ Below w.heap.size w w' := by
  have HKX := hid_mk hk0
  have HX := hid_mk hx0
  have HKQ := hid_mk hk3
  have HN := hid_mk hn
  have HM := hid_mk hm
  clear hk0 hx0 hk3 hn hm
  have hn1 : ¬ (40 : Int) < (n : Int) := by omega
  have hm1 : ¬ (60 : Int) < (m : Int) := by omega
  have hnil := ofF_nil
  obtain ⟨i0, hi, hz0, hz1, hz2⟩ := info_parts infoI6
  obtain ⟨W0, hW0⟩ : ∃ W0, W0 = (w.alloc (.cells #[.int .u8 at0] 5)).alloc (.cells #[.slice ao3 m ca3] 23) := ⟨_, rfl⟩
  have HB0 : Hid (Below w.heap.size w W0) := by rw [hW0]; exact below_new ((Below.refl _ _).alloc (Nat.le_refl _) _) (Nat.le_refl _) _
  have g1 : Blk W0 w.heap.size 5 #[.int .u8 at0] := by rw [hW0]; exact (Blk.new w _ _).alloc _
  have g2 : Blk W0 (w.heap.size + 1) 23 #[.slice ao3 m ca3] := by
    rw [hW0]
    have := Blk.new (w.alloc (.cells #[.int .u8 at0] 5)) 23 #[.slice ao3 m ca3]
    rwa [World.size_alloc] at this
  have HG1 := hid_mk g1
  have HG2 := hid_mk g2
  have c2 := g2.cell1
  rw [hW0] at c2
  clear g1 g2
  refine (callsIn_wide (n := 12)).1 ?_
  refine callsIn_of_wp_marks Try.func3 rfl trivial ?_ rfl
  simp only [Try.ntmps3, List.size_toArray, List.length_cons, List.length_nil, Nat.reduceAdd, Nat.reduceSub, Array.replicate_succ, Array.replicate_zero, List.push_toArray, List.append_toArray, List.nil_append, List.cons_append]
  gi_wp2_with fail
  refine ⟨trivial, ?_⟩
  gi_at_call 6
  rw [← hW0]
  refine (callsIn_wide.2 (nb_new' W0)).mono ?_
  rintro e W1 ⟨B, rfl, hN1⟩
  obtain ⟨X, hX⟩ : ∃ X, X = W1.alloc (.cells #[.pointer (some ⟨B, 0, none⟩)] 25) := ⟨_, rfl⟩
  obtain ⟨G, hG⟩ : ∃ G : Nat → Prop, G = fun j => j = w.heap.size ∨ j = w.heap.size + 1 ∨ j = W1.heap.size := ⟨_, rfl⟩
  obtain ⟨hL0, q1, q2, q3, hW1⟩ := l1_start HB0.out HG1.out HG2.out hN1 hX hG
  have HL0 := hid_mk hL0
  have Q1 := hid_mk q1
  have Q2 := hid_mk q2
  have Q3 := hid_mk q3
  have HGW : Hid (G w.heap.size ∧ G (w.heap.size + 1) ∧ G W1.heap.size) := by rw [hG]; exact ⟨.inl rfl, .inr (.inl rfl), .inr (.inr rfl)⟩
  have HGE : Hid (∀ j, G j → j = w.heap.size ∨ j = w.heap.size + 1 ∨ j = W1.heap.size) := fun j hj => by rw [hG] at hj; exact hj
  clear hW0 HB0 HG1 HG2 c2 hN1 hL0 q1 q2 q3 hG
  gi_wp2_with fail
  rw [← hX]
  clear hX
  gi_loopw [10, 11] (fun v10 v11 wr => ∃ (j : Nat) (s : Bg) (u : Value), u = v10 ∧ v11 = .int .i64 j ∧ j ≤ n ∧ Hid (L1 w X G wr B s j u (s.L p31))) (fun v10 v11 _ => n - (intOf v11).toNat)
  case atStart => exact ⟨0, bg0, _, rfl, rfl, Nat.zero_le _, HL0.out⟩
  case round =>
    obtain ⟨j, s, u, rfl, rfl, hjn, HL⟩ := hrel
    by_cases hlt : j < n
    · rcases HKX.out with hq0 | ⟨b, off, rfl, hbl, hc⟩
      · have := HN.out; rw [hq0] at this; simp at this; omega
      · have hlti : (j : Int) < (n : Int) := by omega
        have hjx : j < xs.length := by rw [← HN.out]; exact hlt
        have he0 := hid_mk (HX.out j hjx)
        have ce : wr.cell? ⟨b, off + j, none⟩ = some (.int .i64 (lAt xs j)) := (HL.out.bl.cell (p := ⟨b, off + j, none⟩) hbl).trans (hc j hjx)
        generalize lAt xs j = ee at *
        clear hc
        have HLd := hid_mk (HL.out.below (Below.refl wr.heap.size wr).drew)
        have c9 := (HL.out.cell HGW.out.2.2 Q3.out).cell1
        have hlen : (s.L p31).length ≤ j := by obtain ⟨F, g1, _⟩ := HL.out.ex; exact g1.1.len p31
        gi_wp2_with fail
        refine wpIn_wide.2 ?_
        by_cases hE : putE s 3 1 ee = 0
        case pos =>
          have HP := HLd.out.put (by omega) he0.out
          rw [hE, show putB s 3 1 ee = s.put (3, 1) ee from if_pos hE] at HP
          have HPP := hid_mk HP
          clear HP hE HL
          have d9 : wr.drew.cell? ⟨W1.heap.size, 0, none⟩ = some (.pointer (some ⟨B, 0, none⟩)) := c9
          have de : wr.drew.cell? ⟨b, off + j, none⟩ = some (.int .i64 ee) := ce
          go_region_held3 (fun w' => w'.cell? ⟨W1.heap.size, 0, none⟩ = some (.pointer (some ⟨B, 0, none⟩)) ∧ w'.cell? ⟨b, off + j, none⟩ = some (.int .i64 ee))
            (first | (go_split_ands; assumption) | go_keep)
            (first
              | (go_at_call 7; refine HPP.out.mono ?_; rintro r w2 ⟨rfl, h2⟩; have HL2 := hid_mk h2; have k9 := (HL2.out.cell HGW.out.2.2 Q3.out).cell1; have ke : w2.cell? ⟨b, off + j, none⟩ = some (.int .i64 ee) := (HL2.out.bl.cell (p := ⟨b, off + j, none⟩) hbl).trans ((HLd.out.bl.cell (p := ⟨b, off + j, none⟩) hbl).symm.trans de))
              | fail)
          rename_i hHeld
          clear hHeld HPP HLd c9 ce d9 de h2
          have HV2 : Hid (RowW (w2.alloc (.cells #[.int .i64 ee] 3)) 3 1 u (s.L p31).length (i6s (s.L p31))) := HL2.out.row.kept fun q hq => heap_alloc_old _ _ q (HL2.out.row.lt hq)
          gi_wp2_with (gi_at_builtin; refine wpListIn_append_row _ rfl _ _ 22 rfl 3 i0 (.int .i64 0) 1 8 Try.underlying22 hi hz0 hz1 hz2 rfl _ _ _ rfl HV2.out ⟨w2.heap.size, 0, none⟩ 1 1 [.int .i64 ee] rfl rfl (World.news_of_block (Blk.new w2 _ _)) (by simp [Value.oneCell']) (by omega) (by unfold maxLen; omega) (by omega) ?_)
          intro g cap w3 hown hgrow hat3 hlt3
          have hL3 := HL2.out.push ((Below.refl w2.heap.size w2).alloc (Nat.le_refl _) _) hown hgrow (hat3.imp id (fun e => by rw [e]; simp))
          rw [show s.L p31 ++ [ee] = (s.put (3, 1) ee).L p31 by simp [Bg.put, updQ_at, p31]] at hL3
          have HL3 := hid_mk hL3
          clear hL3 hown hgrow hat3 hlt3 HV2 HL2 k9 ke
          gi_wp2
          go_roundw
          case rel => exact ⟨j + 1, _, _, rfl, by go_num, by omega, HL3.out⟩
          case measure => simp [intOf]; omega
        have HP := HLd.out.put (by omega) he0.out
        rw [show putB s 3 1 ee = s from if_neg hE] at HP
        have hE2 : (putE s 3 1 ee == 0) = false := by simpa using hE
        obtain ⟨pe, hpe⟩ : ∃ pe, pe = putE s 3 1 ee := ⟨_, rfl⟩
        rw [← hpe] at HP hE2
        have HPP := hid_mk HP
        clear HP hE HL hpe
        have d9 : wr.drew.cell? ⟨W1.heap.size, 0, none⟩ = some (.pointer (some ⟨B, 0, none⟩)) := c9
        have de : wr.drew.cell? ⟨b, off + j, none⟩ = some (.int .i64 ee) := ce
        go_region_held3 (fun w' => w'.cell? ⟨W1.heap.size, 0, none⟩ = some (.pointer (some ⟨B, 0, none⟩)) ∧ w'.cell? ⟨b, off + j, none⟩ = some (.int .i64 ee))
          (first | (go_split_ands; assumption) | go_keep)
          (first
            | (go_at_call 7; refine HPP.out.mono ?_; rintro r w2 ⟨rfl, h2⟩; have HL2 := hid_mk h2; have k9 := (HL2.out.cell HGW.out.2.2 Q3.out).cell1; have ke : w2.cell? ⟨b, off + j, none⟩ = some (.int .i64 ee) := (HL2.out.bl.cell (p := ⟨b, off + j, none⟩) hbl).trans ((HLd.out.bl.cell (p := ⟨b, off + j, none⟩) hbl).symm.trans de))
            | fail)
        rename_i hHeld
        clear hHeld HPP HLd c9 ce d9 de h2 k9 ke
        gi_wp2
        go_roundw
        case rel => exact ⟨j + 1, _, _, rfl, by go_num, by omega, HL2.out⟩
        case measure => simp [intOf]; omega
    · obtain rfl : j = n := by omega
      generalize wr = w9 at *
      have hNb : 1 ≤ 1 + mo % 50 ∧ 1 + mo % 50 ≤ 50 := by omega
      obtain ⟨A0, hA0⟩ : ∃ A0, A0 = (w9.alloc (.cells #[.int .i64 (1 + mo % 50)] 3)).alloc (.cells #[.slice none 0 0] 22) := ⟨_, rfl⟩
      have hbA : Below w9.heap.size w9 A0 := by rw [hA0]; exact below_new ((Below.refl _ _).alloc (Nat.le_refl _) _) (Nat.le_refl _) _
      have t1 : Blk A0 w9.heap.size 3 #[.int .i64 (1 + mo % 50)] := by rw [hA0]; exact (Blk.new w9 _ _).alloc _
      have t2 : Blk A0 (w9.heap.size + 1) 22 #[.slice none 0 0] := by
        rw [hA0]
        have := Blk.new (w9.alloc (.cells #[.int .i64 (1 + mo % 50)] 3)) 22 #[.slice none 0 0]
        rwa [World.size_alloc] at this
      have c9 := ((HL.out.below hbA).cell HGW.out.2.2 Q3.out).cell1
      have HT1 := hid_mk t1
      have HT2 := hid_mk t2
      have HbA := hid_mk hbA
      rw [hA0] at c9
      obtain ⟨a0, c0, hu0⟩ := HL.out.row.form
      subst hu0
      clear t1 t2 hbA
      gi_wp2_with fail
      refine ⟨trivial, ?_⟩
      gi_at_call 8
      rw [← hA0]
      clear hA0 c9
      refine (callsIn_wide.2 (bof_ab _ _ _ _)).mono ?_
      rintro e A1 ⟨a1, b1, d1, rfl, hx1, _, _, _, hb1⟩
      have c9 := ((((HL.out.below HbA.out).below hb1)).cell HGW.out.2.2 Q3.out).cell1
      have Hb1 := hid_mk hb1
      clear hx1 hb1
      gi_wp2_with fail
      refine ⟨trivial, ?_⟩
      gi_at_call 8
      refine (callsIn_wide.2 (bof_ab _ _ _ _)).mono ?_
      rintro e X2 ⟨a2, b2, d2, rfl, hx2, _, _, _, hb2⟩
      clear c9
      have hbX : Below w9.heap.size w9 X2 := (HbA.out.trans (Hb1.out.mono HbA.out.size)).trans (hb2.mono (Nat.le_trans HbA.out.size Hb1.out.size))
      have HLX := hid_mk (HL.out.below hbX)
      have q1x := hid_mk (HLX.out.cell HGW.out.1 Q1.out)
      have q2x := hid_mk (HLX.out.cell HGW.out.2.1 Q2.out)
      have q3x := hid_mk (HLX.out.cell HGW.out.2.2 Q3.out)
      have t1x := hid_mk ((HT1.out.below Hb1.out).below hb2)
      have t2x := hid_mk ((HT2.out.below Hb1.out).below hb2)
      have hbXs := hbX.size
      have htl := t2x.out.lt
      obtain ⟨G2, hG2⟩ : ∃ G2 : Nat → Prop, G2 = fun q => G q ∨ q = w9.heap.size ∨ (Value.slice a0 (s.L p31).length c0).ownBlock = some q := ⟨_, rfl⟩
      have HGM : Hid (G2 w.heap.size ∧ G2 (w.heap.size + 1) ∧ G2 W1.heap.size ∧ G2 w9.heap.size ∧ ∀ q, (Value.slice a0 (s.L p31).length c0).ownBlock = some q → G2 q) := by
        rw [hG2]; exact ⟨.inl HGW.out.1, .inl HGW.out.2.1, .inl HGW.out.2.2, .inr (.inl rfl), fun q hq => .inr (.inr hq)⟩
      obtain ⟨bm, cm, hR0⟩ := HL.out.walk (A := X2) hbX (gb := w9.heap.size + 1) t2x.out (by omega) (G' := G2) (fun q hq => by
        rw [hG2] at hq
        have hsz := HL.out.sz
        rcases hq with hq | rfl | hq
        · have := HL.out.gl q hq; exact ⟨by omega, by omega, fun _ => .inl hq⟩
        · exact ⟨by omega, by omega, fun h => by omega⟩
        · have := HL.out.row.lt hq; exact ⟨by omega, by omega, fun _ => .inr hq⟩)
      have HR0 := hid_mk hR0
      obtain ⟨F2, hF2, _⟩ := HLX.out.ex
      have HSQ := hid_mk (of1_seq (n := 11) (by omega) a2 b2 d2 (v := 3) (l := 1) ⟨by decide, by decide⟩ hF2 (by omega) hx2)
      have HBX := hid_mk hbX
      clear hx2 hb2 hF2 hbX hR0 hG2 hnil Hb1 HT1 HT2 HbA
      obtain ⟨N, hN⟩ : ∃ N : Nat, 1 + mo % 50 = (N : Int) := ⟨(1 + mo % 50).toNat, by omega⟩
      rw [hN] at t1x hNb ⊢
      clear hN
      gi_wp2_with fail
      refine range_ownZ rfl (by omega) (gf := 15) (lb := #[.pointer (some ⟨a2, 0, none⟩), .pointer (some ⟨b2, 0, none⟩), .pointer (some ⟨d2, 0, none⟩)]) rfl trivial (enters_of Try.func15 (by kernel_rfl) rfl) HSQ.out (Below.refl _ _) (fun _ => rfl)
        (fun Z pre A => Rs w X2 G2 (w9.heap.size + 1) Z B bm cm (s.L p31) (j + 60 * pre.length) pre A ∧ (pre.length : Int) < N)
        (fun Z cc pre A => (cc = .exit 2 ∧ (pre.length : Int) = N) ∧ Rs w X2 G2 (w9.heap.size + 1) Z B bm cm (s.L p31) (j + 60 * pre.length) pre A)
        (fun Z => OwnFrom.and (Rs.own w X2 G2 (w9.heap.size + 1) Z B bm cm (s.L p31) (fun pre => j + 60 * pre.length)) (fun _ _ _ _ hs _ _ => hs))
        (fun Z cc => OwnFrom.and (fun _ _ _ _ hs _ _ => hs) (Rs.own w X2 G2 (w9.heap.size + 1) Z B bm cm (s.L p31) (fun pre => j + 60 * pre.length)))
        (fun Z => ⟨HR0.out Z, by simp; omega⟩) (fun _ _ _ _ => trivial) ?a1 ?assign ?body ?done ?stop
      case assign =>
        intro lq x A Kk hK
        gi_wp2
        exact hK
      case body =>
        rintro lq Z pre x A hZ0 hZ1 ⟨hR, hml⟩ ⟨hpl, hpx⟩

        have HLne : Hid (s.L p31 ≠ []) := fun h => by rw [show s.L (3, 1) = [] from h] at hpl; cases hpl
        have hLn : (s.L p31).length ≤ 40 := by obtain ⟨F, g1, _⟩ := HLX.out.ex; have := g1.1.len p31; omega
        have hplt : pre.length < 40 := by have : pre.length < (s.L p31).length := hpl; omega
        have HPX := hid_mk hpx
        have hZX : X2.heap.size ≤ Z := by omega
        have HR := hid_mk hR
        have hatb : 0 ≤ at0 % 40 ∧ at0 % 40 < 40 := by omega
        obtain ⟨cp, hp⟩ : ∃ cp : Int, cp = (pre.length : Int) := ⟨_, rfl⟩
        clear hR hpl hpx hp
        have c6 := (HR.out.blk HGM.out.1 q1x.out).cell1
        have c12 := (HR.out.blk HGM.out.2.2.2.1 t1x.out).cell1
        obtain ⟨s', u', e1, e2, e3, e4, e5, e6⟩ := HR.out.ex
        obtain ⟨ga, gc, hgu⟩ := e4.form
        have cv := e3.cell1
        subst hgu
        by_cases heq : (pre.length : Int) = at0 % 40
        case neg =>
          have heq1 : ((pre.length : Int) == at0 % 40) = false := by simpa using heq
          clear heq
          have HB0 := hid_mk (BK.refl X2.heap.size Z A)
          skip
          skip
          have hu4 : (Value.slice ga pre.length gc).ownBlock ≠ some (w9.heap.size + 1) := fun h => by have := e5 _ h; omega
          have c12 := (HR.out.blk HGM.out.2.2.2.1 t1x.out).cell1
          have HV2 : Hid (RowW (A.alloc (.cells #[.int .i64 x] 3)) 3 1 (Value.slice ga pre.length gc) pre.length (i6s pre)) := e4.kept fun q hq => heap_alloc_old _ _ q (e4.lt hq)
          gi_wp2_with (gi_at_builtin; refine wpListIn_append_row _ rfl _ _ 22 rfl 3 i0 (.int .i64 0) 1 8 Try.underlying22 hi hz0 hz1 hz2 rfl _ _ _ rfl HV2.out ⟨A.heap.size, 0, none⟩ 1 1 [.int .i64 x] rfl rfl (World.news_of_block (Blk.new A _ _)) (by simp [Value.oneCell']) (by omega) (by unfold maxLen; omega) (by omega) ?_)
          intro g cap w2 hown hgrow hat9 hlt9
          obtain ⟨p1, p2, p3, p4, p5, p6⟩ := Bag.push e3 e4 hu4 hown hgrow (by simpa using hat9)
          have cv2 := p6.cell1
          have fv2 := p6.frozen 0
          have cv3 := p1.cell1
          obtain ⟨hR5, hB5⟩ := HR.out.push (A2 := w2.setCell ⟨w9.heap.size + 1, 0, none⟩ (.slice (some ⟨g, 0, none⟩) (pre.length + 1) cap)) ⟨s', e1, e2, e3, e4, e5, e6⟩ HLne.out hZ1 hZX p1 p2 (hat9.imp id (fun e => by rw [e]; simp)) p4.size p5 ⟨hgrow.os, hgrow.tape, hgrow.output⟩
          have HPl : Hid ((pre ++ [x]).length = pre.length + 1) := by show _ = _; simp
          have HR6 := hid_mk (hR5.mono (k' := j + 60 * (pre ++ [x]).length) (by rw [HPl.out]; omega))
          have HB6 := hid_mk (HB0.out.trans hB5)
          have cm := (hR5.blk HGM.out.2.2.2.1 t1x.out).cell1
          clear e1 e2 e3 e4 e5 e6 hR5 hB5 p1 p2 p3 p4 p5 p6 hown hgrow hat9 hlt9 HV2 cv
          by_cases hcmp : (pre.length : Int) + 1 = N
          case pos =>
            have hc1 : (((pre.length : Int) + 1) == N) = true := by simpa using hcmp
            have hc2 := hid_mk hcmp
            clear hcmp
            gi_wp2
            exact ⟨HB6.out, ⟨rfl, by rw [HPl.out]; exact_mod_cast hc2.out⟩, HR6.out⟩
          have hc1 : (((pre.length : Int) + 1) == N) = false := by simpa using hcmp
          have hc2 : Hid ((pre.length : Int) + 1 < N) := by show _ < _; omega
          clear hcmp
          gi_wp2
          exact ⟨HB6.out, HR6.out, by rw [HPl.out]; exact_mod_cast hc2.out⟩
        have heq1 : ((pre.length : Int) == at0 % 40) = true := by simpa using heq
        clear heq e1 e2 e3 e4 e5 e6
        gi_wp2_with fail
        gi_loopw [15] (fun v15 wr => ∃ kk : Nat, v15 = .int .i64 kk ∧ kk ≤ m ∧ Hid (Rs w X2 G2 (w9.heap.size + 1) Z B bm cm (s.L p31) (j + 60 * pre.length + kk) pre wr) ∧ Hid (BK X2.heap.size Z A wr) ∧ Z ≤ wr.heap.size) (fun v15 _ => m - (intOf v15).toNat)
        case atStart => exact ⟨0, rfl, Nat.zero_le _, HR.out, BK.refl _ _ _, hZ1⟩
        case round =>
          clear c6 c12 cv
          obtain ⟨kk, rfl, hkm, HRk, HBk, hZk⟩ := hrel
          have c7 := (HRk.out.blk HGM.out.2.1 q2x.out).cell1
          have c9 := (HRk.out.blk HGM.out.2.2.1 q3x.out).cell1
          by_cases hlt2 : kk < m
          · rcases HKQ.out with hq0 | ⟨b3, off3, rfl, hbl3, hc3⟩
            · have := HM.out; rw [hq0] at this; simp at this; omega
            · obtain ⟨hin, hok⟩ := hc3 kk (by rw [← HM.out]; exact hlt2)
              have hlti2 : (kk : Int) < (m : Int) := by omega
              replace hin := hin.below HRk.out.bl hbl3
              obtain ⟨od, ov, ol, oe⟩ := hok
              generalize A9.aAt qs kk = qq at *
              obtain ⟨qd, qv, ql, qe⟩ := qq
              obtain ⟨d0, d1, d2, d3⟩ := hin
              simp only at od ov ol oe d0 d1 d2 d3
              have HOE := hid_mk oe
              have HRd := hid_mk (OwnFrom.below (Rs.own w X2 G2 (w9.heap.size + 1) Z B bm cm (s.L p31) (fun _ => j + 60 * pre.length + kk)) HRk.out ((Below.refl wr.heap.size wr).drew))
              have hZd : Z ≤ wr.drew.heap.size := hZk
              have hmx : Try.prog.follows .mixedOrders = true := by kernel_rfl
              clear hc3 ov ol oe d1 d2
              by_cases hd0 : qd = 0
              case pos =>
                have hd1 : (qd == 0) = true := by simpa using hd0
                clear hd0 od
                gi_wp2_with fail
                gi_region_with_o (refine ⟨trivial, ?_⟩; gi_at_call 7; refine (CallsIn.inRound lq (callsIn_wide.2 (HRd.out.put HLne.out hZd hZX (by omega) HOE.out))).mono ?_; rintro r w4 ⟨⟨r', rfl⟩, hR4, hB4⟩)
                all_goals (have HR5 := hid_mk hR4; have HB5 := hid_mk (HBk.out.trans ((BK.of_below (Below.refl _ _).drew hZk).trans hB4)); have hZ5 := Nat.le_trans hZd hB4.size; clear hR4 hB4 HRk HBk HRd; gi_wp2; go_roundw)
                all_goals first
                  | exact ⟨kk + 1, by go_num, by omega, HR5.out, HB5.out, hZ5⟩
                  | (simp [intOf]; omega)
              have hd1 : (qd == 0) = false := by simpa using hd0
              clear hd0 od
              gi_wp2_with fail
              gi_region_with_o (refine ⟨trivial, ?_⟩; gi_at_call 9; refine (CallsIn.inRound lq (callsIn_wide.2 (HRd.out.take HLne.out hZd hZX (by omega) HOE.out))).mono ?_; rintro r w4 ⟨⟨r', rfl⟩, hR4, hB4⟩)
              all_goals (have HR5 := hid_mk hR4; have HB5 := hid_mk (HBk.out.trans ((BK.of_below (Below.refl _ _).drew hZk).trans hB4)); have hZ5 := Nat.le_trans hZd hB4.size; clear hR4 hB4 HRk HBk HRd; gi_wp2; go_roundw)
              all_goals first
                | exact ⟨kk + 1, by go_num, by omega, HR5.out, HB5.out, hZ5⟩
                | (simp [intOf]; omega)
          · obtain rfl : kk = m := by omega
            clear c9
            obtain ⟨s', u', e1, e2, e3, e4, e5, e6⟩ := HRk.out.ex
            have cv := e3.cell1
            skip
            have hu4 : (u').ownBlock ≠ some (w9.heap.size + 1) := fun h => by have := e5 _ h; omega
            have c12 := (HRk.out.blk HGM.out.2.2.2.1 t1x.out).cell1
            have HV2 : Hid (RowW (wr.alloc (.cells #[.int .i64 x] 3)) 3 1 (u') pre.length (i6s pre)) := e4.kept fun q hq => heap_alloc_old _ _ q (e4.lt hq)
            gi_wp2_with (gi_at_builtin; refine wpListIn_append_row _ rfl _ _ 22 rfl 3 i0 (.int .i64 0) 1 8 Try.underlying22 hi hz0 hz1 hz2 rfl _ _ _ rfl HV2.out ⟨wr.heap.size, 0, none⟩ 1 1 [.int .i64 x] rfl rfl (World.news_of_block (Blk.new wr _ _)) (by simp [Value.oneCell']) (by omega) (by unfold maxLen; omega) (by omega) ?_)
            intro g cap w2 hown hgrow hat9 hlt9
            obtain ⟨p1, p2, p3, p4, p5, p6⟩ := Bag.push e3 e4 hu4 hown hgrow (by simpa using hat9)
            have cv2 := p6.cell1
            have fv2 := p6.frozen 0
            have cv3 := p1.cell1
            obtain ⟨hR5, hB5⟩ := HRk.out.push (A2 := w2.setCell ⟨w9.heap.size + 1, 0, none⟩ (.slice (some ⟨g, 0, none⟩) (pre.length + 1) cap)) ⟨s', e1, e2, e3, e4, e5, e6⟩ HLne.out hZk hZX p1 p2 (hat9.imp id (fun e => by rw [e]; simp)) p4.size p5 ⟨hgrow.os, hgrow.tape, hgrow.output⟩
            have HPl : Hid ((pre ++ [x]).length = pre.length + 1) := by show _ = _; simp
            have HR6 := hid_mk (hR5.mono (k' := j + 60 * (pre ++ [x]).length) (by rw [HPl.out]; omega))
            have HB6 := hid_mk (HBk.out.trans hB5)
            have cm := (hR5.blk HGM.out.2.2.2.1 t1x.out).cell1
            clear e1 e2 e3 e4 e5 e6 hR5 hB5 p1 p2 p3 p4 p5 p6 hown hgrow hat9 hlt9 HV2 cv
            by_cases hcmp : (pre.length : Int) + 1 = N
            case pos =>
              have hc1 : (((pre.length : Int) + 1) == N) = true := by simpa using hcmp
              have hc2 := hid_mk hcmp
              clear hcmp
              gi_wp2
              exact ⟨HB6.out, ⟨rfl, by rw [HPl.out]; exact_mod_cast hc2.out⟩, HR6.out⟩
            have hc1 : (((pre.length : Int) + 1) == N) = false := by simpa using hcmp
            have hc2 : Hid ((pre.length : Int) + 1 < N) := by show _ < _; omega
            clear hcmp
            gi_wp2
            exact ⟨HB6.out, HR6.out, by rw [HPl.out]; exact_mod_cast hc2.out⟩
      case stop =>
        rintro D Z cc pre A hD hpre ⟨⟨rfl, hpN⟩, hR⟩ hK
        have HR := hid_mk hR
        have HK := hid_mk hK
        have HWr : Hid (RowW A 3 1 (.slice a0 (s.L p31).length c0) (s.L p31).length (i6s (s.L p31))) := HLX.out.row.kept fun q hq => HR.out.kept q (HGM.out.2.2.2.2 q hq)
        have hLn : (s.L p31).length ≤ 40 := by obtain ⟨F, g1, _⟩ := HLX.out.ex; have := g1.1.len p31; omega
        obtain ⟨s', u', e1, e2, e3, e4, e5, e6⟩ := HR.out.ex
        obtain ⟨ga, gc, hgu⟩ := e4.form
        subst hgu
        have c13 := e3.cell1
        have c12 := (HR.out.blk HGM.out.2.2.2.1 t1x.out).cell1
        have HGB := hid_mk e3.lt
        have HG : Hid (NAt .i64 A ga pre) := e4.nat6 rfl
        obtain ⟨sb, Fb, hBg, hnb⟩ := HR.out.bag
        have HBg := hid_mk hBg
        have HNn := hid_mk hnb
        clear hR hK e1 e2 e3 e4 e5 e6 hBg hnb
        have hpN' : pre.length = N := by exact_mod_cast hpN
        have hple : pre.length ≤ (s.L p31).length := hpre.length_le
        have hE : pre = (s.L p31).take N := by
          obtain ⟨t, ht⟩ := hpre
          show pre = (s.L (3, 1)).take N
          rw [← ht, ← hpN']
          simp
        have HE := hid_mk hE
        have HpN := hid_mk hpN'
        clear hpN hE hpre
        by_cases hlong : N < (s.L p31).length
        case pos =>
          obtain ⟨gw, cw, hgw⟩ := HWr.out.led (by omega)
          cases hgw
          have hcap := (RowW.capLe HWr.out).1
          have hcut := RowW.cut HWr.out (k := N) (by omega)
          rw [Nat.mul_one, show (i6s (s.L p31)).take N = i6s pre by rw [HE.out]; simp [i6s]] at hcut
          have HWn : Hid (NAt .i64 A (some ⟨gw, 0, none⟩) pre) := (show RowW A 3 1 (.slice (some ⟨gw, 0, none⟩) N c0) N (i6s pre) from hcut).nat6 HpN.out.symm
          have hlo1 : ((N : Int) < ((s.L p31).length : Int)) := by omega
          have hlo2 : (N : Int) ≤ (c0 : Int) := by omega
          clear hcut hpN'

          have k9 := (HR.out.blk HGM.out.2.2.1 q3x.out).cell1
          have d9 : A.drew.cell? ⟨W1.heap.size, 0, none⟩ = some (.pointer (some ⟨B, 0, none⟩)) := k9
          have d13 : A.drew.cell? ⟨w9.heap.size + 1, 0, none⟩ = some (.slice ga pre.length gc) := c13
          have HNg := hid_mk (HG.out.below (Below.refl A.heap.size A).drew)
          have HNw := hid_mk (HWn.out.below (Below.refl A.heap.size A).drew)
          have HBd := hid_mk (HBg.out.drew)
          have l9 : W1.heap.size < A.drew.heap.size := (HR.out.blk HGM.out.2.2.1 q3x.out).lt
          have l13 : w9.heap.size + 1 < A.drew.heap.size := HGB.out
          clear HG HWn HBg
          gi_wp2_with fail
          refine wpIn_wide.2 ?_
          go_region_held3 (fun w' => w'.cell? ⟨W1.heap.size, 0, none⟩ = some (.pointer (some ⟨B, 0, none⟩)) ∧ w'.cell? ⟨w9.heap.size + 1, 0, none⟩ = some (.slice ga pre.length gc))
            (first | (go_split_ands; assumption) | go_keep)
            (first
              | (go_at_call 10; refine (same9_to pre pre HNg.out HNw.out rfl HpN.out (by omega) (by omega) true (by simp)).mono ?_; rintro r w4 ⟨rfl, hb4⟩; have k1 : w4.cell? ⟨W1.heap.size, 0, none⟩ = some (.pointer (some ⟨B, 0, none⟩)) := (hb4.cell (p := ⟨W1.heap.size, 0, none⟩) l9).trans d9; have k2 : w4.cell? ⟨w9.heap.size + 1, 0, none⟩ = some (.slice ga pre.length gc) := (hb4.cell (p := ⟨w9.heap.size + 1, 0, none⟩) l13).trans d13; have HB4 := hid_mk (HBd.out.below hb4); have Hb4 := hid_mk hb4; have HMa := hid_mk (many_n HB4.out HNn.out); have HLn := hid_mk (blen_any HB4.out))
              | (go_at_call 11; refine HMa.out.mono ?_; rintro r w5 ⟨rfl, rfl⟩)
              | (go_at_call 12; refine HLn.out.mono ?_; rintro r w6 ⟨rfl, rfl⟩)
              | (go_at_call 5; refine (wakes9_any _).mono ?_; rintro r w7 ⟨rfl, hb7⟩; have y1 := (hb7.cell (p := ⟨W1.heap.size, 0, none⟩) (Nat.lt_of_lt_of_le l9 Hb4.out.size)).trans k1; have y2 := (hb7.cell (p := ⟨w9.heap.size + 1, 0, none⟩) (Nat.lt_of_lt_of_le l13 Hb4.out.size)).trans k2)
              | fail)
          have HK4 : Hid (w7.heap[D]? = some (.deferred (some []))) := by
            have hDl : D < A.drew.heap.size := (Array.getElem?_eq_some_iff.1 HK.out).1
            exact (hb7.block D (Nat.lt_of_lt_of_le hDl Hb4.out.size)).trans ((Hb4.out.block D hDl).trans HK.out)
          have HZ : Hid (Below w.heap.size w w7 ∧ w.heap.size ≤ D) := by
            have h0 := HR.out.bl.size
            have h1 : w.heap.size ≤ A.drew.heap.size := h0
            refine ⟨((HR.out.bl.trans (Below.refl _ A).drew).trans (Hb4.out.mono h1)).trans (hb7.mono (Nat.le_trans h1 Hb4.out.size)), ?_⟩
            have := HR.out.s0
            omega
          clear hb7 hb4 Hb4 HMa HLn HB4 HBd HNg HNw d9 d13 k9 HK
          gi_wp2
          refine ⟨by simp, .inl ⟨_, _, rfl, run_takeDeferred HK4.out, ?_⟩⟩
          have hpb : Below D w7 (w7.putObj D (.deferred none)) := ⟨rfl, rfl, rfl, by simp, fun q hq => World.putObj_heap_other (by omega)⟩
          refine ⟨.bool true, ?_, rfl, HZ.out.1.trans (hpb.mono HZ.out.2)⟩
          simp [results, Try.f3, go_sem]
        have heqL : (s.L p31).length = N := by omega
        have hpL : pre = s.L p31 := by rw [HE.out, List.take_of_length_le (by omega)]
        have HPL := hid_mk hpL
        have HWn : Hid (NAt .i64 A a0 pre) := by rw [HPL.out]; exact HWr.out.nat6 rfl
        have hlo1 : ¬ ((N : Int) < ((s.L p31).length : Int)) := by omega
        have hLp : (s.L p31).length = pre.length := by rw [← HPL.out]
        clear hpN' hlong heqL hpL
        rw [hLp] at hlo1 hLn ⊢
        clear hLp
        have k9 := (HR.out.blk HGM.out.2.2.1 q3x.out).cell1
        have d9 : A.drew.cell? ⟨W1.heap.size, 0, none⟩ = some (.pointer (some ⟨B, 0, none⟩)) := k9
        have d13 : A.drew.cell? ⟨w9.heap.size + 1, 0, none⟩ = some (.slice ga pre.length gc) := c13
        have HNg := hid_mk (HG.out.below (Below.refl A.heap.size A).drew)
        have HNw := hid_mk (HWn.out.below (Below.refl A.heap.size A).drew)
        have HBd := hid_mk (HBg.out.drew)
        have l9 : W1.heap.size < A.drew.heap.size := (HR.out.blk HGM.out.2.2.1 q3x.out).lt
        have l13 : w9.heap.size + 1 < A.drew.heap.size := HGB.out
        clear HG HWn HBg
        gi_wp2_with fail
        refine wpIn_wide.2 ?_
        go_region_held3 (fun w' => w'.cell? ⟨W1.heap.size, 0, none⟩ = some (.pointer (some ⟨B, 0, none⟩)) ∧ w'.cell? ⟨w9.heap.size + 1, 0, none⟩ = some (.slice ga pre.length gc))
          (first | (go_split_ands; assumption) | go_keep)
          (first
            | (go_at_call 10; refine (same9_to pre pre HNg.out HNw.out rfl rfl (by omega) (by omega) true (by simp)).mono ?_; rintro r w4 ⟨rfl, hb4⟩; have k1 : w4.cell? ⟨W1.heap.size, 0, none⟩ = some (.pointer (some ⟨B, 0, none⟩)) := (hb4.cell (p := ⟨W1.heap.size, 0, none⟩) l9).trans d9; have k2 : w4.cell? ⟨w9.heap.size + 1, 0, none⟩ = some (.slice ga pre.length gc) := (hb4.cell (p := ⟨w9.heap.size + 1, 0, none⟩) l13).trans d13; have HB4 := hid_mk (HBd.out.below hb4); have Hb4 := hid_mk hb4; have HMa := hid_mk (many_n HB4.out HNn.out); have HLn := hid_mk (blen_any HB4.out))
            | (go_at_call 11; refine HMa.out.mono ?_; rintro r w5 ⟨rfl, rfl⟩)
            | (go_at_call 12; refine HLn.out.mono ?_; rintro r w6 ⟨rfl, rfl⟩)
            | (go_at_call 5; refine (wakes9_any _).mono ?_; rintro r w7 ⟨rfl, hb7⟩; have y1 := (hb7.cell (p := ⟨W1.heap.size, 0, none⟩) (Nat.lt_of_lt_of_le l9 Hb4.out.size)).trans k1; have y2 := (hb7.cell (p := ⟨w9.heap.size + 1, 0, none⟩) (Nat.lt_of_lt_of_le l13 Hb4.out.size)).trans k2)
            | fail)
        have HK4 : Hid (w7.heap[D]? = some (.deferred (some []))) := by
          have hDl : D < A.drew.heap.size := (Array.getElem?_eq_some_iff.1 HK.out).1
          exact (hb7.block D (Nat.lt_of_lt_of_le hDl Hb4.out.size)).trans ((Hb4.out.block D hDl).trans HK.out)
        have HZ : Hid (Below w.heap.size w w7 ∧ w.heap.size ≤ D) := by
          have h0 := HR.out.bl.size
          have h1 : w.heap.size ≤ A.drew.heap.size := h0
          refine ⟨((HR.out.bl.trans (Below.refl _ A).drew).trans (Hb4.out.mono h1)).trans (hb7.mono (Nat.le_trans h1 Hb4.out.size)), ?_⟩
          have := HR.out.s0
          omega
        clear hb7 hb4 Hb4 HMa HLn HB4 HBd HNg HNw d9 d13 k9 HK
        gi_wp2
        refine ⟨by simp, .inl ⟨_, _, rfl, run_takeDeferred HK4.out, ?_⟩⟩
        have hpb : Below D w7 (w7.putObj D (.deferred none)) := ⟨rfl, rfl, rfl, by simp, fun q hq => World.putObj_heap_other (by omega)⟩
        refine ⟨.bool true, ?_, rfl, HZ.out.1.trans (hpb.mono HZ.out.2)⟩
        simp [results, Try.f3, go_sem]
      case done =>
        rintro D Z pre A hD hys ⟨hR, hml⟩ hK
        have HR := hid_mk hR
        have HK := hid_mk hK
        have HWr : Hid (RowW A 3 1 (.slice a0 (s.L p31).length c0) (s.L p31).length (i6s (s.L p31))) := HLX.out.row.kept fun q hq => HR.out.kept q (HGM.out.2.2.2.2 q hq)
        have hLn : (s.L p31).length ≤ 40 := by obtain ⟨F, g1, _⟩ := HLX.out.ex; have := g1.1.len p31; omega
        obtain ⟨s', u', e1, e2, e3, e4, e5, e6⟩ := HR.out.ex
        obtain ⟨ga, gc, hgu⟩ := e4.form
        subst hgu
        have c13 := e3.cell1
        have c12 := (HR.out.blk HGM.out.2.2.2.1 t1x.out).cell1
        have HGB := hid_mk e3.lt
        have HG : Hid (NAt .i64 A ga pre) := e4.nat6 rfl
        obtain ⟨sb, Fb, hBg, hnb⟩ := HR.out.bag
        have HBg := hid_mk hBg
        have HNn := hid_mk hnb
        clear hR hK e1 e2 e3 e4 e5 e6 hBg hnb
        have hpL : pre = s.L p31 := hys
        have HPL := hid_mk hpL
        have HWn : Hid (NAt .i64 A a0 pre) := by rw [HPL.out]; exact HWr.out.nat6 rfl
        have hLp : (s.L p31).length = pre.length := by rw [← HPL.out]
        have hlo1 : ¬ ((N : Int) < ((s.L p31).length : Int)) := by omega
        clear hys hpL
        rw [hLp] at hlo1 hLn ⊢
        clear hLp
        have k9 := (HR.out.blk HGM.out.2.2.1 q3x.out).cell1
        have d9 : A.drew.cell? ⟨W1.heap.size, 0, none⟩ = some (.pointer (some ⟨B, 0, none⟩)) := k9
        have d13 : A.drew.cell? ⟨w9.heap.size + 1, 0, none⟩ = some (.slice ga pre.length gc) := c13
        have HNg := hid_mk (HG.out.below (Below.refl A.heap.size A).drew)
        have HNw := hid_mk (HWn.out.below (Below.refl A.heap.size A).drew)
        have HBd := hid_mk (HBg.out.drew)
        have l9 : W1.heap.size < A.drew.heap.size := (HR.out.blk HGM.out.2.2.1 q3x.out).lt
        have l13 : w9.heap.size + 1 < A.drew.heap.size := HGB.out
        clear HG HWn HBg
        gi_wp2_with fail
        refine wpIn_wide.2 ?_
        go_region_held3 (fun w' => w'.cell? ⟨W1.heap.size, 0, none⟩ = some (.pointer (some ⟨B, 0, none⟩)) ∧ w'.cell? ⟨w9.heap.size + 1, 0, none⟩ = some (.slice ga pre.length gc))
          (first | (go_split_ands; assumption) | go_keep)
          (first
            | (go_at_call 10; refine (same9_to pre pre HNg.out HNw.out rfl rfl (by omega) (by omega) true (by simp)).mono ?_; rintro r w4 ⟨rfl, hb4⟩; have k1 : w4.cell? ⟨W1.heap.size, 0, none⟩ = some (.pointer (some ⟨B, 0, none⟩)) := (hb4.cell (p := ⟨W1.heap.size, 0, none⟩) l9).trans d9; have k2 : w4.cell? ⟨w9.heap.size + 1, 0, none⟩ = some (.slice ga pre.length gc) := (hb4.cell (p := ⟨w9.heap.size + 1, 0, none⟩) l13).trans d13; have HB4 := hid_mk (HBd.out.below hb4); have Hb4 := hid_mk hb4; have HMa := hid_mk (many_n HB4.out HNn.out); have HLn := hid_mk (blen_any HB4.out))
            | (go_at_call 11; refine HMa.out.mono ?_; rintro r w5 ⟨rfl, rfl⟩)
            | (go_at_call 12; refine HLn.out.mono ?_; rintro r w6 ⟨rfl, rfl⟩)
            | (go_at_call 5; refine (wakes9_any _).mono ?_; rintro r w7 ⟨rfl, hb7⟩; have y1 := (hb7.cell (p := ⟨W1.heap.size, 0, none⟩) (Nat.lt_of_lt_of_le l9 Hb4.out.size)).trans k1; have y2 := (hb7.cell (p := ⟨w9.heap.size + 1, 0, none⟩) (Nat.lt_of_lt_of_le l13 Hb4.out.size)).trans k2)
            | fail)
        have HK4 : Hid (w7.heap[D]? = some (.deferred (some []))) := by
          have hDl : D < A.drew.heap.size := (Array.getElem?_eq_some_iff.1 HK.out).1
          exact (hb7.block D (Nat.lt_of_lt_of_le hDl Hb4.out.size)).trans ((Hb4.out.block D hDl).trans HK.out)
        have HZ : Hid (Below w.heap.size w w7 ∧ w.heap.size ≤ D) := by
          have h0 := HR.out.bl.size
          have h1 : w.heap.size ≤ A.drew.heap.size := h0
          refine ⟨((HR.out.bl.trans (Below.refl _ A).drew).trans (Hb4.out.mono h1)).trans (hb7.mono (Nat.le_trans h1 Hb4.out.size)), ?_⟩
          have := HR.out.s0
          omega
        clear hb7 hb4 Hb4 HMa HLn HB4 HBd HNg HNw d9 d13 k9 HK
        gi_wp2
        refine ⟨by simp, .inl ⟨_, _, rfl, run_takeDeferred HK4.out, ?_⟩⟩
        have hpb : Below D w7 (w7.putObj D (.deferred none)) := ⟨rfl, rfl, rfl, by simp, fun q hq => World.putObj_heap_other (by omega)⟩
        refine ⟨.bool true, ?_, rfl, HZ.out.1.trans (hpb.mono HZ.out.2)⟩
        simp [results, Try.f3, go_sem]
end Go.Proofs.Ythdmmjboaoonbab
