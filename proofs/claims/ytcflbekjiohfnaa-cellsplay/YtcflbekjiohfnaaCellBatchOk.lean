/- Batch, where nothing is wrong. -/
import Derived.Test.YtcflbekjiohfnaaCellBatchTwo
namespace Go.Proofs.Ytcflbekjiohfnaa
open Go.RowKit
set_option linter.unusedVariables false
attribute [local go_sem ↓] Go.wp_at_zero Go.wp_at_succ

theorem filt_snoc {cs : List Int} {i : Nat} (q : Int → Bool) (h : i < cs.length) : (cs.take (i + 1)).filter q = (cs.take i).filter q ++ (if q (lAt cs i) = true then [lAt cs i] else []) := by
  rw [ltake_snoc h, List.filter_append]
  congr 1
  by_cases hq : q (lAt cs i) = true
  · rw [if_pos hq]; simp [hq]
  · rw [if_neg hq]; simp [hq]
theorem touched_len (es : List Ed) : (touchedL es).length ≤ es.length := by
  have := Lib.compact_length_le (srt (es.map (·.1)))
  rw [List.length_mergeSort, List.length_map] at this
  exact this
theorem touched_mem {es : List Ed} {c : Int} (h : c ∈ touchedL es) : ∃ e ∈ es, e.1 = c := by
  have := ((touched_plain (es.map fun e : Ed => e.1)).2 c).1 h
  exact List.mem_map.1 this

theorem keepS {wr : World} {K o B : Nat} {v x1 x2 sl : Value} {t : TypeId} (hB : B < wr.heap.size) (hn : B ≠ K) (hc : wr.cell? ⟨B, 3, none⟩ = some sl) :
    ((wr.setCell ⟨K, o, none⟩ v).alloc (.cells #[x1, x2] t)).drew.cell? ⟨B, 3, none⟩ = some sl ∧ ((wr.setCell ⟨K, o, none⟩ v).alloc (.cells #[x1, x2] t)).drew.cell? ⟨wr.heap.size, 0, none⟩ = some x1 ∧ ((wr.setCell ⟨K, o, none⟩ v).alloc (.cells #[x1, x2] t)).drew.cell? ⟨wr.heap.size, 1, none⟩ = some x2 := by
  have hs : (wr.setCell ⟨K, o, none⟩ v).heap.size = wr.heap.size := by show (wr.heap.modify _ _).size = _; rw [Array.size_modify]
  have hN := (Blk.new (wr.setCell ⟨K, o, none⟩ v) t #[x1, x2]).cells2
  rw [hs] at hN
  refine ⟨?_, hN⟩
  show ((wr.setCell ⟨K, o, none⟩ v).alloc _).cell? _ = _
  rw [((Below.refl _ (wr.setCell ⟨K, o, none⟩ v)).alloc (Nat.le_refl _) _).cell (p := ⟨B, 3, none⟩) (by rw [hs]; exact hB), cell_other hn]
  exact hc

set_option maxRecDepth 100000 in
set_option maxHeartbeats 3200000 in
theorem batch_yes {w : World} {F : Nat → Prop} {B K T : Nat} {zw zh : Int} {ks : List Kd} {cl : Int} {L : List Int} (h : Own w F B K T zw zh ks cl L) (ao : Option Addr) (cap : Nat) (es : List Ed) (he : EAt w ao es) (hoff : EOff ao es K) (hr : errB ks.length L.length es = 0) :
    Calls Try.prog 13 #[.pointer (some ⟨B, 0, none⟩), .slice ao es.length cap] w fun e w' => ∃ v, e = .returned (.tuple #[v, .int .i64 0]) ∧ IS w' w.heap.size v (diffs L (puts L es)) ∧ Own w' F B K T zw zh ks cl (puts L es) ∧ But w.heap.size K w w' := by
  obtain ⟨hk, hcell, hlen⟩ := errB_zero hr
  have hl1 := h.l1.1
  have n1 := h.tab.n1
  have hBlt := h.blk.lt
  have hKlt := h.row.lt
  have hne := h.ne
  have c3 : w.cell? ⟨B, 3, none⟩ = some (.slice (some ⟨K, 0, none⟩) L.length L.length) := h.blk.at (j := 3) rfl
  have HC : Hid (Calls Try.prog 37 #[.pointer (some ⟨B, 0, none⟩), .slice ao es.length cap] w fun e w' => e = .returned (.int .i64 0) ∧ Below w.heap.size w w') := hr ▸ refuses_any h.gv ao cap es (by omega) he
  have HO : Hid (Own w F B K T zw zh ks cl L) := h
  have HE : Hid (EAt w ao es) := he
  have HF : Hid (EOff ao es K) := hoff
  have HK : Hid (∀ e ∈ es, 0 ≤ e.2 ∧ e.2 < ks.length) := hk
  have HX : Hid (∀ e ∈ es, 0 ≤ e.1 ∧ e.1 < L.length) := hcell
  have hcl := touched_len es
  clear h he hoff hr hk hcell
  obtain ⟨cs, hcs⟩ : ∃ cs, touchedL es = cs := ⟨_, rfl⟩
  have HCS : Hid (touchedL es = cs) := hcs
  have HIn : Hid (∀ c ∈ cs, 0 ≤ c ∧ c < L.length) := by
    intro c hc
    rw [← hcs] at hc
    obtain ⟨e, he, rfl⟩ := touched_mem hc
    exact HX.out e he
  rw [hcs] at hcl
  clear hcs
  obtain ⟨i0, hi, hz0, hz1, hz2⟩ := info_parts Try.infoI
  go_enter Try.func13, Try.ntmps13
  go_wp2_with fail
  refine Calls.mono HC.out ?_
  rintro e w1 ⟨rfl, hb1⟩
  go_wp2_with fail
  refine (touched_any ao cap es w1 hlen (HE.out.below hb1)).mono ?_
  rintro e w2 ⟨R, capR, rfl, hR1, hR2, HRc, hb2⟩
  rw [HCS.out]
  rw [HCS.out] at HRc
  have hB2 : Below w.heap.size w w2 := below_step hb1 hb2 (Nat.le_refl _)
  go_wp2_with fail
  refine (kindsOf_any (HO.out.below hB2) R capR cs (by omega) HRc.out HIn.out).mono ?_
  rintro e w3 ⟨A, rfl, hA1, HA, hb3⟩
  have hB3 : Below w.heap.size w w3 := below_step hB2 hb3 (Nat.le_refl _)
  have HRc3 : Hid (∀ i, i < cs.length → w3.cell? ⟨R, i, none⟩ = some (.int .i64 (lAt cs i))) := fun i hi => (hb3.cell (p := ⟨R, i, none⟩) hR2).trans (HRc.out i hi)
  have hA2 : A < w3.heap.size := HA.out.lt
  have hR3 : R < w3.heap.size := Nat.lt_of_lt_of_le hR2 hb3.size
  have hs1 := hb1.size
  have hs2 := hb2.size
  have hs3 := hB3.size
  have HO3 : Hid (Own w3 F B K T zw zh ks cl L) := HO.out.below hB3
  have HE3 : Hid (EAt w3 ao es) := HE.out.below hB3
  have c33 := (hB3.cell (p := ⟨B, 3, none⟩) hBlt).trans c3
  clear HRc hb1 hb2 hb3 c3 HE
  generalize hN : es.length = N at *
  generalize hM : L.length = M at *
  generalize hD : cs.length = D at *
  go_wp2
  go_loopw [27] (fun i wr => ∃ k : Nat, k ≤ N ∧ i = .int .i64 k ∧ Hid (Blk wr K 5 (rowOf (puts L (es.take k)))) ∧ But w3.heap.size K w3 wr) (fun i _ => N - (intOf i).toNat)
  case atStart => exact ⟨0, Nat.zero_le _, rfl, HO3.out.row, But.refl _ _ _⟩
  case round =>
    obtain ⟨k, hkn, rfl, HR, hBut⟩ := hrel
    have hsz := hBut.size
    by_cases hlt : k < N
    · rcases (HE3.out.but (n := 0) hBut HF.out) with h | ⟨b, off, rfl, hc⟩
      · rw [h] at hN; simp at hN; omega
      · obtain ⟨e0, e1⟩ := hc k (by omega)
        have hblt : b < wr.heap.size := cell_lt e0
        have hx := HX.out (eAt es k) (eAt_mem (by omega))
        have hy := HK.out (eAt es k) (eAt_mem (by omega))
        have c3r := (hBut.cell (o := 3) (Nat.lt_of_lt_of_le hBlt hs3) hne).trans c33
        have hl2 : (puts L (es.take k)).length = M := by rw [puts_len]; exact hM
        have k0 := HR.out.at (rowOf_at (L := puts L (es.take k)) (i := (eAt es k).1.toNat) (by omega))
        have f0 := HR.out.frozen (eAt es k).1.toNat
        have HS : Hid (puts L (es.take (k + 1)) = put (puts L (es.take k)) (eAt es k).1 (eAt es k).2) := puts_snoc L (by omega)
        have hKwr : K < wr.heap.size := by omega
        have hBwr : B < wr.heap.size := by omega
        have hBne : B ≠ wr.heap.size := by omega
        have hKne : K ≠ wr.heap.size := by omega
        clear hc
        generalize eAt es k = x at *
        obtain ⟨x1, x2⟩ := x
        simp only at hx hy e0 e1 k0 f0 HS
        generalize lAt (puts L (es.take k)) x1.toNat = y at *
        have hx0 := hx.1
        have hx1 := hx.2
        have hy0 := hy.1
        have hy1 : x2 < 256 := by omega
        go_wp2
        obtain ⟨X, hX⟩ : ∃ X, X = wr.alloc (.cells #[.int .i64 x1, .int .i64 x2] 36) := ⟨_, rfl⟩
        have hXb : Below wr.heap.size wr X := by rw [hX]; exact (Below.refl _ _).alloc (Nat.le_refl _) _
        have hXs : X.heap.size = wr.heap.size + 1 := by rw [hX]; simp
        have hXe := (Blk.new wr 36 #[.int .i64 x1, .int .i64 x2])
        rw [← hX] at hXe
        rw [← hX]
        have hne1 := Grow.ne X
        have g3 := Grow.cell (X := X) (by omega) ((hXb.cell (p := ⟨B, 3, none⟩) hBwr).trans c3r)
        have g0 := Grow.cell (X := X) (by omega) hXe.cells2.1
        have g1 := Grow.cell (X := X) (by omega) hXe.cells2.2
        clear hX hXe hXs
        have HXb : Hid (Below wr.heap.size wr X) := hXb
        clear hXb
        refine wp_region_tail 10 (by kernel_rfl) (by kernel_rfl) (by kernel_rfl) ?_
        simp only [stillAt, stillOp, List.set_cons_succ, List.set_cons_zero, List.getElem?_cons_succ, List.getElem?_cons_zero, Option.getD_some, List.drop_succ_cons, List.drop_zero]
        repeat (go_big_quiet_step (fail))
        refine wpQuiet_nil ?_
        rintro w4 ⟨⟨_, hb4⟩, rfl⟩
        have hb5 := HXb.out.trans (hb4.mono HXb.out.size)
        have k4 := (hb5.cell (p := ⟨K, x1.toNat, none⟩) hKwr).trans k0
        have f4 := (hb5.frozen (p := ⟨K, x1.toNat, none⟩) hKwr).trans f0
        go_wp2
        go_roundw
        case rel =>
          refine ⟨k + 1, by omega, by go_num, ?_, ?_⟩
          · show Blk _ _ _ _
            rw [HS.out, ← rowOf_put]
            have h5 := (HR.out.below hb5).setAt x1.toNat (.int .u8 x2)
            first
              | exact h5
              | (rw [int_wrap_u8 hy0 hy1]; exact h5)
          · exact (hBut.step (Below.but K hb5) (Nat.le_refl _)).set _ _
        case measure => simp [intOf]; omega
    · have hke : k = N := by omega
      subst hke
      rw [← hN, List.take_length] at HR
      obtain ⟨w4, hw4⟩ : ∃ w4, w4 = wr := ⟨_, rfl⟩
      have HK4 : Hid (Blk w4 K 5 (rowOf (puts L es))) := by rw [hw4]; exact HR
      have HA4 : Hid (Blk w4 A 5 (rowOf (fillTo (fun i => lAt L (lAt cs i).toNat) D D))) := by rw [hw4]; exact HA.out.but hBut hA2 (by omega)
      have HR4 : Hid (∀ i, i < cs.length → w4.cell? ⟨R, i, none⟩ = some (.int .i64 (lAt cs i))) := fun i hi => by rw [hw4]; exact (hBut.cell hR3 (by omega)).trans (HRc3.out i (by omega))
      have c34 : w4.cell? ⟨B, 3, none⟩ = some (.slice (some ⟨K, 0, none⟩) M M) := by rw [hw4]; exact (hBut.cell (o := 3) (Nat.lt_of_lt_of_le hBlt hs3) hne).trans c33
      have hBut4 : But w.heap.size K w w4 := by rw [hw4]; exact (Below.but K hB3).trans (hBut.mono hs3)
      have hs4 : w3.heap.size ≤ w4.heap.size := by rw [hw4]; exact hsz
      have HQ : Hid (cs.filter (fun c => lAt (puts L es) c.toNat != lAt L c.toNat) = diffs L (puts L es)) := by
        have := batch_plain (L := L) (es := es) (by rw [hM]; exact HX.out)
        rw [← HCS.out]; exact this
      have HKin : Hid (Kin ks.length (puts L es)) := HO.out.kin.puts _ HK.out
      have HKin0 : Hid (Kin ks.length L) := HO.out.kin
      have hLl : (puts L es).length = M := by rw [puts_len]; exact hM
      generalize hLp : puts L es = L' at *
      have hst : Below w4.heap.size w4 wr := by rw [hw4]; exact Below.refl _ _
      clear hBut HR HA HRc3 c33 hw4 HO3 HE3 HC
      go_wp2
      go_loopw [11, 44] (fun s i wr' => ∃ (k : Nat) (sv : Value), sv = s ∧ k ≤ D ∧ i = .int .i64 k ∧ Hid (IS wr' w4.heap.size sv ((cs.take k).filter (fun c => lAt L' c.toNat != lAt L c.toNat))) ∧ Below w4.heap.size w4 wr') (fun _ i _ => D - (intOf i).toNat)
      case atStart => exact ⟨0, _, rfl, Nat.zero_le _, rfl, by show IS _ _ _ _; simp; exact IS.nil _ _, hst⟩
      case round =>
        obtain ⟨j, s, hs, hjn, rfl, HI, hB5⟩ := hrel
        subst hs
        have hsz5 := hB5.size
        by_cases hlt2 : j < D
        · have r0 := HR4.out j (by omega)
          have r5 := (hB5.cell (p := ⟨R, j, none⟩) (show R < w4.heap.size by omega)).trans r0
          have hx := HIn.out (lAt cs j) (lAt_mem (by omega))
          have c35 := (hB5.cell (p := ⟨B, 3, none⟩) (cell_lt c34)).trans c34
          have k5 := (hB5.cell (p := ⟨K, (lAt cs j).toNat, none⟩) HK4.out.lt).trans (HK4.out.at (rowOf_at (L := L') (i := (lAt cs j).toNat) (by omega)))
          have a5 := (hB5.cell (p := ⟨A, j, none⟩) HA4.out.lt).trans (HA4.out.at (rowOf_at (L := fillTo (fun i => lAt L (lAt cs i).toNat) D D) (i := j) (by rw [fillTo_len]; exact hlt2)))
          rw [show lAt (fillTo (fun i => lAt L (lAt cs i).toNat) D D) j = lAt L (lAt cs j).toNat from by rw [lAt_eq (by rw [fillTo_len]; exact hlt2)]; simp [fillTo, hlt2]] at a5
          have HS : Hid ((cs.take (j + 1)).filter (fun c => lAt L' c.toNat != lAt L c.toNat) = (cs.take j).filter (fun c => lAt L' c.toNat != lAt L c.toNat) ++ (if (lAt L' (lAt cs j).toNat != lAt L (lAt cs j).toNat) = true then [lAt cs j] else [])) := filt_snoc _ (by omega)
          have b1 := HKin.out.at (i := (lAt cs j).toNat) (by omega)
          have b2 := HKin0.out.at (i := (lAt cs j).toNat) (by omega)
          have hfl : ((cs.take j).filter (fun c => lAt L' c.toNat != lAt L c.toNat)).length ≤ D := Nat.le_trans (List.length_filter_le _ _) (by rw [List.length_take]; omega)
          have hBwr : B < wr.heap.size := Nat.lt_of_lt_of_le (cell_lt c34) hsz5
          have hKwr : K < wr.heap.size := Nat.lt_of_lt_of_le HK4.out.lt hsz5
          have hAwr : A < wr.heap.size := Nat.lt_of_lt_of_le HA4.out.lt hsz5
          generalize (cs.take j).filter (fun c => lAt L' c.toNat != lAt L c.toNat) = fs at *
          generalize lAt L' (lAt cs j).toNat = p at *
          generalize lAt L (lAt cs j).toNat = q at *
          generalize lAt cs j = x at *
          have g0 := Grow.cell hBwr c35
          have g1 := Grow.cell hKwr k5
          have g2 := Grow.cell hAwr a5
          have gn := Grow.ne wr
          clear r0
          go_wp2
          refine wp_region_grow (by kernel_rfl) (by kernel_rfl) ?_
          repeat (go_big_quiet_step (fail))
          refine wpQuiet_nil ?_
          rintro w6 ⟨⟨_, hb6⟩, rfl⟩
          clear g0 g1 g2 gn
          have hB6 := below_step hB5 hb6 (Nat.le_refl _)
          have HI6 : Hid (IS w6 w4.heap.size s fs) := HI.out.below hb6
          have hsz6 := hB6.size
          by_cases hpq : p = q
          · have e0 : (p != q) = false := by simp [hpq]
            rw [e0]
            have HS' : Hid ((cs.take (j + 1)).filter (fun c => lAt L' c.toNat != lAt L c.toNat) = fs) := by show _ = _; rw [HS.out, e0]; simp
            clear HS
            go_wp2
            go_roundw
            case rel => exact ⟨j + 1, _, rfl, by omega, by go_num, by rw [HS'.out]; exact HI6, hB6⟩
            case measure => simp [intOf]; omega
          · have e0 : (p != q) = true := by simp [hpq]
            rw [e0]
            have HS' : Hid ((cs.take (j + 1)).filter (fun c => lAt L' c.toNat != lAt L c.toNat) = fs ++ [x]) := by show _ = _; rw [HS.out, e0]; simp
            have hown : w6.ownsRow w4.heap.size 3 1 s fs.length (ints fs) := HI6.out
            clear HS e0
            go_wp2_with (at_builtin; refine wpList_append_own _ rfl _ _ 29 rfl w4.heap.size 3 i0 (.int .i64 0) 1 8 Try.underlying29 hi hz0 hz1 hz2 rfl (by decide) _ _ _ rfl (hown.alloc _) ⟨w6.heap.size, 0, none⟩ 1 1 [.int .i64 x] rfl rfl (int_news (Blk.new w6 3 #[.int .i64 x])) (by simp [Value.oneCell']) (by unfold maxLen; omega) (by omega) (by simp; omega) ?_)
            intro v' w7 hown2 hgrow _
            have hB7 := (below_new hB6 (Nat.le_refl _) (.cells #[.int .i64 x] 3)).grown hgrow (by simp; omega) (fun r hr => (hown.lt r hr).1)
            have HI7 : Hid (IS w7 w4.heap.size v' (fs ++ [x])) := by
              show IS _ _ _ _
              unfold IS
              rw [show (fs ++ [x]).length = fs.length + 1 by simp, show ints (fs ++ [x]) = ints fs ++ [.int .i64 x] by simp [ints]]
              exact hown2
            clear hown2 hgrow hown
            go_wp2
            go_roundw
            case rel => exact ⟨j + 1, _, rfl, by omega, by go_num, by rw [HS'.out]; exact HI7, hB7⟩
            case measure => simp [intOf]; omega
        · have hje : j = cs.length := by omega
          rw [hje, List.take_length, HQ.out] at HI
          go_wp2
          go_ret2
          have hBf : But w.heap.size K w wr := hBut4.step (Below.but K hB5) (Nat.le_refl _)
          subst hLp
          exact ⟨s, rfl, HI.out.mono (by omega), HO.out.put hBf (HK4.out.below hB5) (hLl.trans hM.symm) HKin.out, hBf⟩
end Go.Proofs.Ytcflbekjiohfnaa
