/- The document's answer of layer 12 (tidewalkref12): Beside. -/
import Derived.Test.YtabgplniaiehpabTileRefB
import Derived.Deep.RegionHeld3
namespace Go.Proofs.Ytabgplniaiehpab.Pl
open Go.RowKit
set_option linter.unusedVariables false
theorem of_uv {W H c a : Int} (hc : inB W H c = true) (ha : tileB W H a = true) (h1 : c % W / 8 = a % tW W H) (h2 : c / W / 8 = a / tW W H) : ofN W H c = a := by
  obtain ⟨o1, o2, o3, _⟩ := of_bd hc
  have t5 := (at_bd (show inB (tW W H) (tH W H) a = true from ha)).2.2.2.2.2.2.2.2.2.2
  have s5 := (at_bd (show inB (tW W H) (tH W H) (ofN W H c) = true from o1)).2.2.2.2.2.2.2.2.2.2
  rw [o2, o3, h1, h2] at s5
  omega
theorem pair_cells {W H a b X Y X' Y' : Int} (hr : rt W H = true) (ha : tileB W H a = true) (hb : tileB W H b = true) (x0 : 0 ≤ X) (x1 : X < W) (y0 : 0 ≤ Y) (y1 : Y < H) (x0' : 0 ≤ X') (x1' : X' < W) (y0' : 0 ≤ Y') (y1' : Y' < H)
    (e1 : X / 8 = a % tW W H) (e2 : Y / 8 = a / tW W H) (e3 : X' / 8 = b % tW W H) (e4 : Y' / 8 = b / tW W H) (hd : apartN X X' + apartN Y Y' = 1) : ∃ x ∈ cellsL W H a, ∃ y ∈ nearL W H x, inB W H y = true ∧ ofN W H y = b := by
  obtain ⟨k1, k2, k3⟩ := coords hr x0 x1 y0 y1 rfl
  obtain ⟨m1, m2, m3⟩ := coords hr x0' x1' y0' y1' rfl
  refine ⟨Y * W + X, cells_mem.2 ⟨ha, k1, of_uv k1 ha (by rw [k2]; exact e1) (by rw [k3]; exact e2)⟩, Y' * W + X', (near_iff k1).2 ⟨m1, ?_⟩, m1, of_uv m1 hb (by rw [m2]; exact e3) (by rw [m3]; exact e4)⟩
  rw [away_of k1 m1, k2, k3, m2, m3]; exact hd
theorem tbes_iff {W H a b : Int} : b ∈ tbesL W H a ↔ a ≠ b ∧ ∃ x ∈ cellsL W H a, ∃ y ∈ nearL W H x, rofN W H y = b := by
  constructor
  · intro h
    have ha : tileB W H a = true := by
      cases k : tileB W H a with
      | true => rfl
      | false => unfold tbesL at h; rw [near_no k] at h; cases h
    have ha' : inB (tW W H) (tH W H) a = true := ha
    obtain ⟨h1, h2⟩ := (near_iff ha').1 h
    have hb : tileB W H b = true := h1
    have hr := tileB_rt ha
    refine ⟨fun e => (tbes_back ha h).2 e.symm, ?_⟩
    suffices hs : ∃ x ∈ cellsL W H a, ∃ y ∈ nearL W H x, inB W H y = true ∧ ofN W H y = b by
      obtain ⟨x, hx, y, hy, k1, k2⟩ := hs
      exact ⟨x, hx, y, hy, by unfold rofN; rw [if_pos k1]; exact k2⟩
    rw [away_of ha' h1] at h2
    obtain ⟨_, _, _, _, _, _, p1, p2, p3, p4, _⟩ := at_bd ha'
    obtain ⟨_, _, _, _, _, _, q1, q2, q3, q4, _⟩ := at_bd h1
    obtain ⟨a1, a2, a3, a4, _⟩ := rt_iff.1 hr
    have w1 := sideT_bd a1 a2
    have w2 := sideT_bd a3 a4
    have e1 := (tWH_yes hr).1
    have e2 := (tWH_yes hr).2
    have P2 := p2
    have P4 := p4
    have Q2 := q2
    have Q4 := q4
    rw [e1] at P2 Q2
    rw [e2] at P4 Q4
    unfold apartN at h2
    have hP := fun X Y X' Y' => pair_cells (W := W) (H := H) (a := a) (b := b) (X := X) (Y := Y) (X' := X') (Y' := Y') hr ha hb
    generalize a % tW W H = u at *
    generalize a / tW W H = v at *
    generalize b % tW W H = u' at *
    generalize b / tW W H = v' at *
    have hcs : (v = v' ∧ u' = u + 1) ∨ (v = v' ∧ u = u' + 1) ∨ (u = u' ∧ v' = v + 1) ∨ (u = u' ∧ v = v' + 1) := by omega
    rcases hcs with ⟨k1, k2⟩ | ⟨k1, k2⟩ | ⟨k1, k2⟩ | ⟨k1, k2⟩
    · exact hP (8 * u + 7) (8 * v) (8 * u + 8) (8 * v) (by omega) (by omega) (by omega) (by omega) (by omega) (by omega) (by omega) (by omega) (by omega) (by omega) (by omega) (by omega) (by unfold apartN; omega)
    · exact hP (8 * u) (8 * v) (8 * u - 1) (8 * v) (by omega) (by omega) (by omega) (by omega) (by omega) (by omega) (by omega) (by omega) (by omega) (by omega) (by omega) (by omega) (by unfold apartN; omega)
    · exact hP (8 * u) (8 * v + 7) (8 * u) (8 * v + 8) (by omega) (by omega) (by omega) (by omega) (by omega) (by omega) (by omega) (by omega) (by omega) (by omega) (by omega) (by omega) (by unfold apartN; omega)
    · exact hP (8 * u) (8 * v) (8 * u) (8 * v - 1) (by omega) (by omega) (by omega) (by omega) (by omega) (by omega) (by omega) (by omega) (by omega) (by omega) (by omega) (by omega) (by unfold apartN; omega)
  · rintro ⟨hne, x, hx, y, hy, hb⟩
    obtain ⟨ht, hxi, ho⟩ := cells_mem.1 hx
    obtain ⟨hyi, hor⟩ := of_near hxi hy
    unfold rofN at hb
    rw [if_pos hyi] at hb
    rw [ho, hb] at hor
    exact hor.resolve_left hne
theorem rowW_of {w : World} {base e size n : Nat} {v : Value} {xs : List Value} (h : w.ownsRow base e size v n xs) : RowW w e size v n xs :=
  ⟨h.1, h.2.imp id fun ⟨g, cap, cur, a1, a2, a3, a4, a5, a6, a7⟩ => ⟨g, cap, cur, a1, a3, a4, a5, Nat.le_of_eq a6.symm, a7⟩⟩
set_option maxRecDepth 100000 in
set_option maxHeartbeats 6400000 in
theorem rtbeside_any (W H a b : Int) (w : World) : Calls Try.prog 21 #[sz W H, .int .i64 a, .int .i64 b] w fun e w' => e = .returned (.bool (decide (b ∈ tbesL W H a))) ∧ Below w.heap.size w w' := by
  by_cases hab : a = b
  · have hF : decide (b ∈ tbesL W H a) = false := decide_eq_false fun h => (tbes_iff.1 h).1 hab
    have e2 : (a == b) = true := by simpa using hab
    rw [hF]
    clear hF
    go_enter Try.func21, Try.ntmps21
    go_wp2
    go_ret
    exact ⟨rfl, (Below.refl _ _).alloc (Nat.le_refl _) _⟩
  have e2 : (a == b) = false := by simpa using hab
  have CL := hid_mk (fun X => rtcells_any W H a X)
  have CN := hid_mk (fun x X => rnear_any W H x X)
  have CO := hid_mk (fun y X => rof_any W H y X)
  have hlen := cells_len64 W H a
  have HIF := hid_mk (tbes_iff (W := W) (H := H) (a := a) (b := b))
  obtain ⟨r, hr⟩ : ∃ r, r = decide (b ∈ tbesL W H a) := ⟨_, rfl⟩
  rw [← hr]
  have HT : Hid (∀ x ∈ cellsL W H a, ∀ y ∈ nearL W H x, rofN W H y = b → r = true) := fun x hx y hy h => by rw [hr]; exact decide_eq_true (HIF.out.2 ⟨hab, x, hx, y, hy, h⟩)
  have HF : Hid ((∀ x ∈ cellsL W H a, ∀ y ∈ nearL W H x, rofN W H y ≠ b) → r = false) := fun h => by rw [hr]; exact decide_eq_false fun k => by obtain ⟨_, x, hx, y, hy, e⟩ := HIF.out.1 k; exact h x hx y hy e
  clear hr HIF hab
  generalize cellsL W H a = L at *
  obtain ⟨m, hm⟩ : ∃ m, m = L.length := ⟨_, rfl⟩
  rw [← hm] at hlen
  have HM := hid_mk hm
  obtain ⟨w1, hw1⟩ : ∃ w1, w1 = w.alloc (.cells #[.int .i64 W, .int .i64 H] 23) := ⟨_, rfl⟩
  obtain ⟨bz, hbz⟩ : ∃ bz, bz = w.heap.size := ⟨_, rfl⟩
  have x1 : Blk w1 bz 23 #[.int .i64 W, .int .i64 H] := by rw [hw1, hbz]; exact Blk.new w _ _
  have HB : Hid (Below w.heap.size w w1) := by show Below _ _ _; rw [hw1]; exact (Below.refl _ _).alloc (Nat.le_refl _) _
  have HX := hid_mk x1
  have HBZ := hid_mk hbz
  clear x1 hbz hm
  go_enter Try.func21, Try.ntmps21
  go_wp2_with fail
  rw [← hw1, ← HBZ.out]
  clear hw1
  refine (CL.out w1).mono ?_
  rintro e w2 ⟨v, rfl, ho, hb⟩
  have HX2 := hid_mk (HX.out.below hb)
  have HB2 := hid_mk (below_step HB.out hb (Nat.le_refl _))
  obtain ⟨ao, cap, rfl⟩ := ho.1.form
  have hr := ho.1
  rw [← HM.out] at hr
  have HO2 := hid_mk hr
  rw [← HM.out]
  clear hb HX HB ho hr
  go_wp2
  go_loopw [8] (fun vi wr => ∃ i : Nat, vi = .int .i64 i ∧ i ≤ m ∧ Hid (∀ x ∈ L.take i, ∀ y ∈ nearL W H x, rofN W H y ≠ b) ∧ Hid (RowW wr 3 1 (.slice ao m cap) m (iCs L)) ∧ Hid (Blk wr bz 23 #[.int .i64 W, .int .i64 H]) ∧ Hid (Below w.heap.size w wr)) (fun vi _ => m - (intOf vi).toNat)
  case atStart => exact ⟨0, rfl, Nat.zero_le _, (fun x hx => by cases hx), HO2.out, HX2.out, HB2.out⟩
  case round =>
    clear HX2 HB2 HO2
    obtain ⟨i, rfl, hi, HNo, HO, HX, HB⟩ := hrel
    by_cases hlt : i < m
    · have hil : i < L.length := by rw [← HM.out]; exact hlt
      have hii : (i : Int) < (m : Int) := by omega
      obtain ⟨g, cap', e0⟩ := HO.out.led (by omega)
      cases e0
      have hgl := HO.out.lt (k := g) rfl
      have cg := HO.out.cell (iCs_at hil)
      obtain ⟨c0, c1⟩ := HX.out.cells2
      have hzl := HX.out.lt
      have HTK := hid_mk (take_snocL hil)
      have HXM : Hid (L[i] ∈ L) := List.getElem_mem hil
      generalize L[i] = x at *
      have d0 : wr.drew.cell? ⟨bz, 0, none⟩ = some (.int .i64 W) := c0
      have d1 : wr.drew.cell? ⟨bz, 1, none⟩ = some (.int .i64 H) := c1
      have d2 : wr.drew.cell? ⟨g, i, none⟩ = some (.int .i64 x) := cg
      have CN2 := hid_mk (CN.out x)
      clear c0 c1 cg
      go_wp2_with fail
      go_region_held3 (fun w' => w'.cell? ⟨bz, 0, none⟩ = some (.int .i64 W) ∧ w'.cell? ⟨bz, 1, none⟩ = some (.int .i64 H) ∧ w'.cell? ⟨g, i, none⟩ = some (.int .i64 x))
        (first | (go_split_ands; assumption) | go_keep)
        (first | (go_at_call 33; refine (CN2.out _).mono ?_; rintro e w3 ⟨v, rfl, hrow, hb⟩; have j0 : w3.cell? ⟨bz, 0, none⟩ = some (.int .i64 W) := (hb.cell (p := ⟨bz, 0, none⟩) hzl).trans d0; have j1 : w3.cell? ⟨bz, 1, none⟩ = some (.int .i64 H) := (hb.cell (p := ⟨bz, 1, none⟩) hzl).trans d1; have j2 : w3.cell? ⟨g, i, none⟩ = some (.int .i64 x) := (hb.cell (p := ⟨g, i, none⟩) hgl).trans d2) | fail)
      rename_i hHeld
      clear hHeld j0 j1 j2 d0 d1 d2 CN2
      have hbw : Below wr.heap.size wr w3 := (Below.refl _ wr).drew.trans hb
      have HX3 := hid_mk (HX.out.below hbw)
      have HB3 := hid_mk (below_step HB.out hbw (Nat.le_refl _))
      have HO3 : Hid (RowW w3 3 1 (.slice (some ⟨g, 0, none⟩) m cap) m (iCs L)) := HO.out.kept fun q hq => hbw.block q (HO.out.lt hq)
      have hrw := rowW_of hrow
      obtain ⟨bo, cp, rfl⟩ := hrw.form
      have hnl := nearL_len W H x
      have HTX := hid_mk (fun y hy h => HT.out x HXM.out y hy h)
      have HNX : Hid ((∀ y ∈ nearL W H x, rofN W H y ≠ b) → ∀ x' ∈ L.take (i + 1), ∀ y ∈ nearL W H x', rofN W H y ≠ b) := fun h x' hx' y hy => by
        rw [HTK.out, List.mem_append, List.mem_singleton] at hx'
        rcases hx' with hx' | rfl
        · exact HNo.out x' hx' y hy
        · exact h y hy
      have HR3 : Hid (RowW w3 3 1 (.slice bo (nearL W H x).length cp) (nearL W H x).length (iCs (nearL W H x))) := hrw
      clear hb hbw hrow hrw HX HB HO HNo HTK HXM hgl hzl
      generalize nearL W H x = N at *
      obtain ⟨q, hq⟩ : ∃ q, q = N.length := ⟨_, rfl⟩
      have HQ := hid_mk hq
      rw [← hq] at HR3 hnl ⊢
      clear hq
      generalize wr = wo at *
      go_wp2
      go_loopw [10] (fun vk wr => ∃ k : Nat, vk = .int .i64 k ∧ k ≤ q ∧ Hid (∀ y ∈ N.take k, rofN W H y ≠ b) ∧ Hid (RowW wr 3 1 (.slice (some ⟨g, 0, none⟩) m cap) m (iCs L)) ∧ Hid (RowW wr 3 1 (.slice bo q cp) q (iCs N)) ∧ Hid (Blk wr bz 23 #[.int .i64 W, .int .i64 H]) ∧ Hid (Below w.heap.size w wr)) (fun vk _ => q - (intOf vk).toNat)
      case atStart => exact ⟨0, rfl, Nat.zero_le _, (fun y hy => by cases hy), HO3.out, HR3.out, HX3.out, HB3.out⟩
      case round =>
        clear HO3 HR3 HX3 HB3
        obtain ⟨k, rfl, hk, HNk, HO, HR, HX, HB⟩ := hrel
        by_cases hlk : k < q
        · have hkl : k < N.length := by rw [← HQ.out]; exact hlk
          have hki : (k : Int) < (q : Int) := by omega
          obtain ⟨g2, cap2, e1⟩ := HR.out.led (by omega)
          cases e1
          have hgl := HR.out.lt (k := g2) rfl
          have cg := HR.out.cell (iCs_at hkl)
          obtain ⟨c0, c1⟩ := HX.out.cells2
          have hzl := HX.out.lt
          have gn := Grow.ne wr
          have h0 : ∀ g' : Grow wr, g'.w.cell? ⟨bz, 0, none⟩ = some (.int .i64 W) := fun g' => Grow.cell hzl c0 g'
          have h1 : ∀ g' : Grow wr, g'.w.cell? ⟨bz, 1, none⟩ = some (.int .i64 H) := fun g' => Grow.cell hzl c1 g'
          have h2 : ∀ g' : Grow wr, g'.w.cell? ⟨g2, k, none⟩ = some (.int .i64 N[k]) := fun g' => Grow.cell hgl cg g'
          have HTK := hid_mk (take_snocL hkl)
          have HYM : Hid (N[k] ∈ N) := List.getElem_mem hkl
          generalize N[k] = y at *
          have CO2 := hid_mk (CO.out y)
          have HTY := hid_mk (fun h => HTX.out y HYM.out h)
          generalize hro : rofN W H y = ro at *
          have HRO := hid_mk hro
          clear c0 c1 cg hro HYM
          go_wp2_with fail
          refine wp_region_grow (by kernel_rfl) (by kernel_rfl) ?_
          repeat (go_big_quiet_step ((go_at_call 12; exact grow_call (CO2.out _))))
          refine wpQuiet_nil ?_
          rintro w4 ⟨⟨_, hb⟩, rfl⟩
          have HX4 := hid_mk (HX.out.below hb)
          have HB4 := hid_mk (below_step HB.out hb (Nat.le_refl _))
          have HO4 : Hid (RowW w4 3 1 (.slice (some ⟨g, 0, none⟩) m cap) m (iCs L)) := HO.out.kept fun q hq => hb.block q (HO.out.lt hq)
          have HR4 : Hid (RowW w4 3 1 (.slice (some ⟨g2, 0, none⟩) q cp) q (iCs N)) := HR.out.kept fun q hq => hb.block q (HR.out.lt hq)
          clear hb HX HB HO HR h0 h1 h2 gn CO2 hgl hzl
          by_cases hrb : ro = b
          · have hE := HTY.out hrb
            subst hE
            have e3 : (ro == b) = true := by simpa using hrb
            clear hrb HTY
            go_wp2
            go_ret
            exact ⟨rfl, HB4.out⟩
          · have e3 : (ro == b) = false := by simpa using hrb
            have HN4 : Hid (∀ y' ∈ N.take (k + 1), rofN W H y' ≠ b) := fun y' hy' => by
              rw [HTK.out, List.mem_append, List.mem_singleton] at hy'
              rcases hy' with hy' | rfl
              · exact HNk.out y' hy'
              · rw [HRO.out]; exact hrb
            clear hrb HTY
            go_wp2
            go_roundw
            case rel => exact ⟨k + 1, by go_num, by omega, HN4.out, HO4.out, HR4.out, HX4.out, HB4.out⟩
            case measure => simp [intOf]; omega
        · obtain rfl : q = k := by omega
          have hki : ¬ (q : Int) < (q : Int) := by omega
          have HN5 := hid_mk (HNX.out (by have := HNk.out; rw [HQ.out, List.take_length] at this; exact this))
          clear HNk
          go_wp2
          go_roundw
          case rel => exact ⟨i + 1, by go_num, by omega, HN5.out, HO.out, HX.out, HB.out⟩
          case measure => simp [intOf]; omega
    · obtain rfl : m = i := by omega
      have hii : ¬ (m : Int) < (m : Int) := by omega
      have hE := HF.out (by have := HNo.out; rw [HM.out, List.take_length] at this; exact this)
      subst hE
      go_wp2
      go_ret
      exact ⟨rfl, HB.out⟩
end Go.Proofs.Ytabgplniaiehpab.Pl
