/- The walk of UnionLeads. -/
import Derived.Test.YtcbgeahcnjamdacUnionLeadPlain
namespace Go.Proofs.Ytcbgeahcnjamdac
open Go.RowKit
set_option linter.unusedVariables false

/-- Truths in a block. -/
def RowB (W : World) (G n : Nat) (S : Nat → Bool) : Prop := ∃ cs : Array Value, Blk W G 4 cs ∧ ∀ i, i < n → cs[i]? = some (.bool (S i))
section
variable {W W' : World} {G n : Nat} {S : Nat → Bool}
theorem RowB.lt (h : RowB W G n S) : G < W.heap.size := by obtain ⟨cs, h, _⟩ := h; exact h.lt
theorem RowB.at (h : RowB W G n S) {i : Nat} (hi : i < n) : W.cell? ⟨G, i, none⟩ = some (.bool (S i)) := by obtain ⟨cs, h, k⟩ := h; exact h.at (k i hi)
theorem RowB.frozen (h : RowB W G n S) (o : Nat) : W.frozen? ⟨G, o, none⟩ = false := by obtain ⟨cs, h, k⟩ := h; exact h.frozen o
theorem RowB.below (h : RowB W G n S) (hb : Below W.heap.size W W') : RowB W' G n S := by obtain ⟨cs, h, k⟩ := h; exact ⟨cs, h.below hb, k⟩
theorem RowB.set (h : RowB W G n S) (i : Nat) : RowB (W.setCell ⟨G, i, none⟩ (.bool true)) G n (setB S i) := by
  obtain ⟨cs, h, k⟩ := h
  refine ⟨_, h.setAt i _, fun j hj => ?_⟩
  by_cases e : j = i
  · subst e
    have := (Array.getElem?_eq_some_iff.1 (k j hj)).1
    rw [setB_at, Array.getElem?_setIfInBounds_self_of_lt this]
  · rw [setB_ne _ e, Array.getElem?_setIfInBounds_ne (Ne.symm e)]; exact k j hj
theorem RowB.made (W : World) (n : Nat) : RowB (W.alloc (.cells (Array.replicate n (.bool false)) 4)) W.heap.size n (fun _ => false) :=
  ⟨_, Blk.new W _ _, fun i hi => by simp [hi]⟩
end
theorem Try.infoBool : (Try.prog.info? 4).map (fun i => (i.zero, i.size, i.bytes)) = some (some (.bool false), 1, 1) := by kernel_rfl
theorem make_bool8 (m : Nat) (hm : m ≤ 255) (w : World) : (Instr.makeSlice 32 (.int .u8 m) (.int .u8 m)).run Try.prog w = .ok (.slice (some ⟨w.heap.size, 0, none⟩) m m) (w.alloc (.cells (Array.replicate m (.bool false)) 4)) := by
  obtain ⟨i0, hi, hz0, hz1, hz2⟩ := info_parts Try.infoBool
  have h := run_make (P := Try.prog) w 32 4 i0 (.bool false) Try.underlying32 hi hz0 .u8 .u8 m m (by omega) (by omega) (by rw [hz2]; omega) (by omega)
  rw [h, hz1]
  simp only [Int.toNat_natCast, Nat.mul_one]
  rw [← made_one32]
  rfl
/-- The law's own test: is a number a member? -/
theorem uin_any (n : Nat) (hn : n ≤ 255) (i : Int) {w : World} {N : Nat} (h : w.cell? ⟨N, 0, none⟩ = some (.int .u8 n)) : Calls Try.prog 7 #[.int .i64 i, .pointer (some ⟨N, 0, none⟩)] w fun e w' => e = .returned (.bool (inN n i)) ∧ w' = w := by
  by_cases c1 : 0 ≤ i
  · go_enter Try.func7, Try.ntmps7
    go_wp2
    go_ret
    exact ⟨ret_of (congrArg Value.bool (by simp [inN, c1])), rfl⟩
  · have hd : decide (0 ≤ i) = false := by simpa using c1
    go_enter Try.func7, Try.ntmps7
    go_wp2
    go_ret
    exact ⟨ret_of (congrArg Value.bool (show _ = inN n i from by unfold inN; rw [hd]; rfl)), rfl⟩

set_option maxRecDepth 100000 in
set_option maxHeartbeats 6400000 in
theorem ulead_walk (n : Int) (ao : Option Addr) (cap : Nat) (qs : List A11.Ac) (w : World) (hn : 0 ≤ n ∧ n ≤ 255) (hk : A11.AcAt w ao qs) (hl : qs.length ≤ 9223372036854775807) :
    Calls Try.prog 3 #[.int .u8 n, .slice ao qs.length cap] w fun e w' => e = .returned (.bool true) ∧ Below w.heap.size w w' := by
  obtain ⟨n, rfl⟩ : ∃ k : Nat, n = (k : Int) := ⟨n.toNat, by omega⟩
  obtain ⟨w0, hw0⟩ : ∃ w0, w0 = w.alloc (.cells #[.int .u8 n] 5) := ⟨_, rfl⟩
  have hb0 : Below w.heap.size w w0 := by rw [hw0]; exact (Below.refl _ _).alloc (Nat.le_refl _) _
  have hX0 : Blk w0 w.heap.size 5 #[.int .u8 n] := by rw [hw0]; exact Blk.new w _ _
  have HB0 := hid_mk hb0
  have HX0 := hid_mk hX0
  have HK : Hid (A11.AcAt w0 ao qs) := hk.below hb0
  obtain ⟨m, hm⟩ : ∃ m, m = qs.length := ⟨_, rfl⟩
  have HM := hid_mk hm.symm
  rw [← hm] at hl ⊢
  clear hb0 hX0 hk hm
  have HW0 := hid_mk hw0.symm
  have hN0 : w.heap.size < w0.heap.size := HX0.out.lt
  clear hw0
  by_cases hbig : 100 < m ∨ 60 < n
  · go_enter Try.func3, Try.ntmps3
    go_wp2_with fail
    rw [HW0.out]
    refine (uawake_any _).mono ?_
    rintro e w1 ⟨rfl, hb1⟩
    have hX := (HX0.out.below hb1).at (j := 0) rfl
    simp only [List.getElem_toArray, List.getElem_cons_zero] at hX
    have HB1 := hid_mk (below_step HB0.out hb1 (Nat.le_refl _))
    clear hb1
    by_cases h3 : 100 < m
    · go_wp2
      go_ret
      exact ⟨rfl, HB1.out⟩
    · have h2 : 60 < n := by omega
      go_wp2
      go_ret
      exact ⟨rfl, HB1.out⟩
  have hm3 : m ≤ 100 := by omega
  have hn2 : n ≤ 60 := by omega
  clear hbig hl hn
  have hmf : ∀ (fn : Fn) (first cap : Array Value) (w : World), (Instr.makeFunc fn first cap).run Try.prog w = .ok (.func fn first cap) w := fun _ _ _ _ => rfl
  go_enter Try.func3, Try.ntmps3
  go_wp2_with fail
  rw [HW0.out]
  refine (uawake_any _).mono ?_
  rintro e w1 ⟨rfl, hb1⟩
  have HB1 := hid_mk hb1
  have x0 := (HX0.out.below hb1).at (j := 0) rfl
  simp only [List.getElem_toArray, List.getElem_cons_zero] at x0
  clear hb1
  go_wp2_with fail
  refine (unew_yes n w1 (by omega)).mono ?_
  rintro e w2 ⟨B, G, H, rfl, hU, hb2, hBGH⟩
  have HU2 := hid_mk hU
  have HB2 := hid_mk (below_step HB1.out hb2 (Nat.le_refl _))
  have HL2 := hid_mk (show w0.heap.size ≤ B ∧ w0.heap.size ≤ G ∧ w0.heap.size ≤ H by have := HB1.out.size; omega)
  clear hU hb2 hBGH HB1 x0 HW0
  go_wp2
  go_loopw [8] (fun v wr => ∃ k : Nat, k ≤ m ∧ v = .int .i64 k ∧ Hid (Un wr B G H (unL n (prs qs k))) ∧ Hid (Below w0.heap.size w0 wr)) (fun v _ => m - (intOf v).toNat)
  case atStart => exact ⟨0, by omega, rfl, HU2, HB2⟩
  case round =>
    clear HU2 HB2
    obtain ⟨k, hk, rfl, HU, HB⟩ := hrel
    by_cases hlt : k < m
    · rcases HK.out with h | ⟨b, off, rfl, hbl, hc⟩
      · have := HM.out; rw [h] at this; simp at this; omega
      have hci := hc k (by rw [HM.out]; exact hlt)
      obtain ⟨y0, y1⟩ := hci.1.below HB.out hbl
      have hus := unL_succ n (show k < qs.length by rw [HM.out]; exact hlt)
      have z0 : wr.drew.cell? ⟨b, off + k * 2, none⟩ = some (.int .i64 (A11.aAt qs k).a) := y0
      have z1 : wr.drew.cell? ⟨b, off + k * 2 + 1, none⟩ = some (.int .i64 (A11.aAt qs k).b) := y1
      have CU := hid_mk (ujoin_any (HU.out.below (Below.refl _ _).drew) (A11.aAt qs k).a (A11.aAt qs k).b)
      rw [← hus] at CU
      have HO : Hid (∀ W o, Thru B G H wr.drew W → W.cell? ⟨b, o, none⟩ = wr.drew.cell? ⟨b, o, none⟩) := fun W o ht => World.cell?_of_block (w := wr.drew) (ht.block b (by have := HB.out.size; have : wr.drew.heap.size = wr.heap.size := rfl; omega) (by have := HL2.out; omega) (by have := HL2.out; omega) (by have := HL2.out; omega))
      have HE : Hid (∀ W, Thru B G H wr.drew W → Below w0.heap.size w0 W) := fun W t1 => Thru.start (HB.out.drew) (Nat.le_refl _) t1 HL2.out
      clear hci hc hus HB HU
      generalize joinB (unL n (prs qs k)) (A11.aAt qs k).a (A11.aAt qs k).b = t at *
      generalize (A11.aAt qs k).a = qa at *
      generalize (A11.aAt qs k).b = qb at *
      go_wp2
      go_region_held3 (fun w' => w'.cell? ⟨b, off + k * 2, none⟩ = some (.int .i64 qa) ∧ w'.cell? ⟨b, off + k * 2 + 1, none⟩ = some (.int .i64 qb))
        (first
          | go_keep
          | exact ⟨(HO.out _ _ hT4).trans z0, (HO.out _ _ hT4).trans z1⟩)
        (first
          | (go_at_call 8; refine CU.out.mono ?_; rintro e w4 ⟨rfl, hU4, hT4⟩)
          | fail)
      have HF := hid_mk (HE.out _ hT4)
      have HU5 := hid_mk hU4
      rename_i hHeld
      clear hHeld hU4 hT4 HE HO CU y0 y1 z0 z1 hbl
      go_wp2
      go_roundw
      case rel => exact ⟨k + 1, by omega, by go_num, HU5, HF⟩
      case measure => simp [intOf]; omega
    · obtain rfl : k = m := by omega
      obtain ⟨L, hL⟩ : ∃ L, L = unL n (prs qs k) := ⟨_, rfl⟩
      have HLL : Hid (L = unL n (prs qs qs.length)) := by show _ = _; rw [HM.out]; exact hL
      have hLn : Hid (L.length = n ∧ Nm L) := by rw [hL]; exact ⟨(unL_nm n _).2, (unL_nm n _).1⟩
      rw [← hL] at HU
      clear hL
      generalize wr = wo at *
      have BX : Hid (∀ W, Below w0.heap.size w0 W → W.cell? ⟨w.heap.size, 0, none⟩ = some (.int .u8 n)) := fun W hb => (HX0.out.below hb).at (j := 0) rfl
      have x0 := BX.out wo HB.out
      go_wp2
      go_loopw [9, 10] (fun vall va wr => ∃ (a : Nat) (al : Int), a ≤ n ∧ 0 ≤ al ∧ al ≤ n ∧ va = .int .i64 a ∧ vall = .int .i64 al ∧ Hid (al = allN L a) ∧ Hid (Un wr B G H L) ∧ Hid (Below w0.heap.size w0 wr)) (fun _ va _ => n - (intOf va).toNat)
      case atStart => exact ⟨0, 0, by omega, by omega, by omega, rfl, rfl, rfl, HU, HB⟩
      case round =>
        clear HU HB x0
        obtain ⟨a, al, ha, al0, al1, rfl, rfl, HA, HU, HB⟩ := hrel
        have x0 := BX.out wr HB.out
        by_cases han : a < n
        · have hmk := make_bool8 n (by omega) wr
          have hR0 := RowB.made wr n
          obtain ⟨Mb, hMb⟩ : ∃ Mb, Mb = wr.heap.size := ⟨_, rfl⟩
          obtain ⟨W1, hW1⟩ : ∃ W1, W1 = wr.alloc (.cells (Array.replicate n (.bool false)) 4) := ⟨_, rfl⟩
          rw [← hMb, ← hW1] at hmk hR0
          have k0 := hR0.at han
          have f0 := hR0.frozen a
          have hbW : Below wr.heap.size wr W1 := by rw [hW1]; exact (Below.refl _ _).alloc (Nat.le_refl _) _
          have HR1 := hid_mk (hR0.set a)
          have hbX : Below wr.heap.size wr (W1.setCell ⟨Mb, a, none⟩ (.bool true)) := Below.setCell (p := ⟨Mb, a, none⟩) hbW (by show wr.heap.size ≤ Mb; omega) _
          have HU1 := hid_mk (HU.out.below hbX)
          have HB1 := hid_mk (below_step HB.out hbX (Nat.le_refl _))
          have HMb : Hid (w0.heap.size ≤ Mb ∧ Mb ≠ B ∧ Mb ≠ G ∧ Mb ≠ H) := by have := HU.out.lt; have := HB.out.size; exact ⟨by omega, by omega, by omega, by omega⟩
          clear hR0 hbW hbX hMb hW1 HU HB
          go_wp2
          go_loopg [12] (2 * unm n (setB (fun _ => false) a) + 1) (fun q vmo wq => ∃ (S : Nat → Bool) (mo : Bool), vmo = .bool mo ∧ q = 2 * unm n S + (if mo then 1 else 0) ∧ Hid (RowB wq Mb n S) ∧ Hid (Sound n qs a S) ∧ Hid (mo = false → ClosedTo n qs S qs.length) ∧ Hid (Un wq B G H L) ∧ Hid (Below w0.heap.size w0 wq))
          case atStart => exact ⟨_, true, rfl, by simp, HR1, Sound.start n qs a, (fun h => by cases h), HU1, HB1⟩
          case round =>
            clear HR1 HU1 HB1 x0 k0 f0 hmk
            obtain ⟨S, mo, rfl, hq, HR, HS, HC, HU, HB⟩ := hrel
            have A0 : Aside (gk = 2 * unm n S + (if mo then 1 else 0)) := hq
            clear hq
            cases mo with
            | true =>
              go_wp2
              go_loopw [12, 13] (fun vmo vi wx => ∃ (j : Nat) (S2 : Nat → Bool) (mo2 : Bool), j ≤ k ∧ vi = .int .i64 j ∧ vmo = .bool mo2 ∧ Hid (RowB wx Mb n S2) ∧ Hid (Sound n qs a S2) ∧ Hid ((mo2 = true ∧ unm n S2 < unm n S) ∨ (mo2 = false ∧ S2 = S ∧ ClosedTo n qs S j)) ∧ Hid (Un wx B G H L) ∧ Hid (Below w0.heap.size w0 wx)) (fun _ vi _ => k - (intOf vi).toNat)
              case atStart => exact ⟨0, S, false, by omega, rfl, rfl, HR, HS, .inr ⟨rfl, rfl, ClosedTo.zero n qs S⟩, HU, HB⟩
              case round =>
                clear HR HS HC HU HB
                obtain ⟨j, S2, mo2, hj, rfl, rfl, HR, HS, HC, HU, HB⟩ := hrel
                by_cases hjk : j < k
                · rcases HK.out with h | ⟨b, off, rfl, hbl, hc⟩
                  · have := HM.out; rw [h] at this; simp at this; omega
                  have hjq : j < qs.length := by rw [HM.out]; exact hjk
                  have hci := hc j hjq
                  obtain ⟨y0, y1⟩ := hci.1.below HB.out hbl
                  clear hc hci hbl
                  have CS : Hid (inN n (A11.aAt qs j).a = true → inN n (A11.aAt qs j).b = true → S2 (A11.aAt qs j).a.toNat ≠ S2 (A11.aAt qs j).b.toNat → Sound n qs a (setB (setB S2 (A11.aAt qs j).a.toNat) (A11.aAt qs j).b.toNat)) := fun h1 h2 h3 => HS.out.step hjq h1 h2 h3
                  have CC : Hid (ClosedTo n qs S j → (inN n (A11.aAt qs j).a = true → inN n (A11.aAt qs j).b = true → S (A11.aAt qs j).a.toNat = S (A11.aAt qs j).b.toNat) → ClosedTo n qs S (j + 1)) := fun h1 h2 => h1.succ h2
                  generalize (A11.aAt qs j).a = x at *
                  generalize (A11.aAt qs j).b = y at *
                  go_wp2
                  go_quiet (fail)
                  go_wp2
                  generalize hwd : World.drewN wr _ = wd
                  have hbd : Below wr.heap.size wr wd := by rw [← hwd]; exact below_drew _ _
                  have HR2 := hid_mk (HR.out.below hbd)
                  have HU2 := hid_mk (HU.out.below hbd)
                  have HB2 := hid_mk (below_step HB.out hbd (Nat.le_refl _))
                  clear hwd hbd y0 y1 HR HU HB
                  have CI : Hid (∀ c t, inN n c = t → ∀ nq, Calls Try.prog 7 #[.int .i64 c, .pointer (some ⟨w.heap.size, 0, none⟩)] (wd.drewN nq) fun e w' => e = .returned (.bool t) ∧ w' = wd.drewN nq) := fun c t ht nq => by rw [← ht]; exact uin_any n (by omega) c (BX.out _ (below_step HB2.out (below_drew wd nq) (Nat.le_refl _)))
                  cases hx : inN n x with
                  | false =>
                    have CX := hid_mk (CI.out x _ hx)
                    have HC2 : Hid ((mo2 = true ∧ unm n S2 < unm n S) ∨ (mo2 = false ∧ S2 = S ∧ ClosedTo n qs S (j + 1))) := HC.out.imp id (fun ⟨e1, e2, e3⟩ => ⟨e1, e2, CC.out e3 (fun h => absurd h (by rw [hx]; decide))⟩)
                    have HR3 : Hid (∀ nq, RowB (wd.drewN nq) Mb n S2) := fun nq => HR2.out.below (below_drew _ _)
                    have HU3 : Hid (∀ nq, Un (wd.drewN nq) B G H L) := fun nq => HU2.out.below (below_drew _ _)
                    have HB3 : Hid (∀ nq, Below w0.heap.size w0 (wd.drewN nq)) := fun nq => below_step HB2.out (below_drew _ _) (Nat.le_refl _)
                    clear HC CC CS HR2 HU2 HB2
                    clear CI hx
                    go_wp2
                    go_quiet ((go_at_call 7; exact Calls.quiet_of_same (CX.out _)))
                    go_wp2
                    go_roundw
                    case rel => exact ⟨j + 1, S2, mo2, by omega, by go_num, rfl, HR3.out _, HS, HC2, HU3.out _, HB3.out _⟩
                    case measure => simp [intOf]; omega
                  | true =>
                  have CX := hid_mk (CI.out x _ hx)
                  cases hy : inN n y with
                  | false =>
                    have CY := hid_mk (CI.out y _ hy)
                    have HC2 : Hid ((mo2 = true ∧ unm n S2 < unm n S) ∨ (mo2 = false ∧ S2 = S ∧ ClosedTo n qs S (j + 1))) := HC.out.imp id (fun ⟨e1, e2, e3⟩ => ⟨e1, e2, CC.out e3 (fun _ h => absurd h (by rw [hy]; decide))⟩)
                    have HR3 : Hid (∀ nq, RowB (wd.drewN nq) Mb n S2) := fun nq => HR2.out.below (below_drew _ _)
                    have HU3 : Hid (∀ nq, Un (wd.drewN nq) B G H L) := fun nq => HU2.out.below (below_drew _ _)
                    have HB3 : Hid (∀ nq, Below w0.heap.size w0 (wd.drewN nq)) := fun nq => below_step HB2.out (below_drew _ _) (Nat.le_refl _)
                    clear HC CC CS HR2 HU2 HB2
                    clear CI hx hy
                    go_wp2
                    go_quiet ((go_at_call 7; first | with_reducible exact Calls.quiet_of_same (CX.out _) | with_reducible exact Calls.quiet_of_same (CY.out _)))
                    go_wp2
                    go_roundw
                    case rel => exact ⟨j + 1, S2, mo2, by omega, by go_num, rfl, HR3.out _, HS, HC2, HU3.out _, HB3.out _⟩
                    case measure => simp [intOf]; omega
                  | true =>
                    have CY := hid_mk (CI.out y _ hy)
                    obtain ⟨x0', x1'⟩ := inN_iff.1 hx
                    obtain ⟨y0', y1'⟩ := inN_iff.1 hy
                    have CS2 : Hid (S2 x.toNat ≠ S2 y.toNat → Sound n qs a (setB (setB S2 x.toNat) y.toNat)) := CS.out hx hy
                    have CC2 : Hid (ClosedTo n qs S j → S x.toNat = S y.toNat → ClosedTo n qs S (j + 1)) := fun h1 h2 => CC.out h1 (fun _ _ => h2)
                    clear CI hx hy CS CC
                    obtain ⟨x, rfl⟩ := toNat_ex x0'
                    obtain ⟨y, rfl⟩ := toNat_ex y0'
                    simp only [Int.toNat_natCast] at CS2 CC2
                    have hxn : x < n := by omega
                    have hyn : y < n := by omega
                    have q0 := HR2.out.at hxn
                    have q1 := HR2.out.at hyn
                    by_cases hne : S2 x = S2 y
                    · have HC2 : Hid ((mo2 = true ∧ unm n S2 < unm n S) ∨ (mo2 = false ∧ S2 = S ∧ ClosedTo n qs S (j + 1))) := HC.out.imp id (fun ⟨e1, e2, e3⟩ => ⟨e1, e2, CC2.out e3 (by rw [← e2]; exact hne)⟩)
                      have HR3 : Hid (∀ nq, RowB (wd.drewN nq) Mb n S2) := fun nq => HR2.out.below (below_drew _ _)
                      have HU3 : Hid (∀ nq, Un (wd.drewN nq) B G H L) := fun nq => HU2.out.below (below_drew _ _)
                      have HB3 : Hid (∀ nq, Below w0.heap.size w0 (wd.drewN nq)) := fun nq => below_step HB2.out (below_drew _ _) (Nat.le_refl _)
                      rw [hne] at q0
                      clear HC CC2 CS2 HR2 HU2 HB2 hne
                      generalize S2 y = by' at *
                      go_wp2
                      go_quiet ((go_at_call 7; first | with_reducible exact Calls.quiet_of_same (CX.out _) | with_reducible exact Calls.quiet_of_same (CY.out _)))
                      go_wp2
                      go_roundw
                      case rel => exact ⟨j + 1, S2, mo2, by omega, by go_num, rfl, HR3.out _, HS, HC2, HU3.out _, HB3.out _⟩
                      case measure => simp [intOf]; omega
                    · have HS3 := hid_mk (CS2.out hne)
                      have hun := unm_set2 hxn hyn hne
                      have HC2 : Hid (unm n (setB (setB S2 x) y) < unm n S) := by
                        show _ < _
                        rcases HC.out with ⟨_, h⟩ | ⟨_, h, _⟩
                        · omega
                        · rw [← h]; exact hun
                      have hbb : (S2 x = true ∧ S2 y = false) ∨ (S2 x = false ∧ S2 y = true) := by
                        cases e1 : S2 x <;> cases e2 : S2 y
                        · exact absurd (e1.trans e2.symm) hne
                        · exact .inr ⟨rfl, rfl⟩
                        · exact .inl ⟨rfl, rfl⟩
                        · exact absurd (e1.trans e2.symm) hne
                      clear HC CC2 CS2 hun hne
                      rcases hbb with ⟨b1, b2⟩ | ⟨b1, b2⟩
                      · rw [b1] at q0
                        rw [b2] at q1
                        clear b1 b2
                        go_wp2
                        go_quiet ((go_at_call 7; first | with_reducible exact Calls.quiet_of_same (CX.out _) | with_reducible exact Calls.quiet_of_same (CY.out _)))
                        generalize hwd : World.drewN wd _ = we
                        have hbd : Below wd.heap.size wd we := by rw [← hwd]; exact below_drew _ _
                        have r0 := HR2.out.below hbd
                        have c0 := r0.at hxn
                        have f0 := r0.frozen x
                        have r1 := r0.set x
                        have c1 := r1.at hyn
                        have f1 := r1.frozen y
                        have HR3 := hid_mk (r1.set y)
                        have HU3 : Hid (Un ((we.setCell ⟨Mb, x, none⟩ (.bool true)).setCell ⟨Mb, y, none⟩ (.bool true)) B G H L) := (HU2.out.below hbd).kept (fun k hk => (Below.heap_setCell _ ⟨Mb, y, none⟩ _ k (by show k ≠ Mb; have := HMb.out; omega)).trans (Below.heap_setCell _ ⟨Mb, x, none⟩ _ k (by show k ≠ Mb; have := HMb.out; omega)))
                        have HB3 : Hid (Below w0.heap.size w0 ((we.setCell ⟨Mb, x, none⟩ (.bool true)).setCell ⟨Mb, y, none⟩ (.bool true))) := Below.setCell (p := ⟨Mb, y, none⟩) (Below.setCell (p := ⟨Mb, x, none⟩) (below_step HB2.out hbd (Nat.le_refl _)) HMb.out.1 _) HMb.out.1 _
                        clear hwd hbd r0 r1 HR2 HU2 HB2 q0 q1 CX CY
                        go_wp2
                        go_roundw
                        case rel => exact ⟨j + 1, _, true, by omega, by go_num, rfl, HR3, HS3, hid_mk (.inl ⟨rfl, HC2.out⟩), HU3, HB3⟩
                        case measure => simp [intOf]; omega
                      · rw [b1] at q0
                        rw [b2] at q1
                        clear b1 b2
                        go_wp2
                        go_quiet ((go_at_call 7; first | with_reducible exact Calls.quiet_of_same (CX.out _) | with_reducible exact Calls.quiet_of_same (CY.out _)))
                        generalize hwd : World.drewN wd _ = we
                        have hbd : Below wd.heap.size wd we := by rw [← hwd]; exact below_drew _ _
                        have r0 := HR2.out.below hbd
                        have c0 := r0.at hxn
                        have f0 := r0.frozen x
                        have r1 := r0.set x
                        have c1 := r1.at hyn
                        have f1 := r1.frozen y
                        have HR3 := hid_mk (r1.set y)
                        have HU3 : Hid (Un ((we.setCell ⟨Mb, x, none⟩ (.bool true)).setCell ⟨Mb, y, none⟩ (.bool true)) B G H L) := (HU2.out.below hbd).kept (fun k hk => (Below.heap_setCell _ ⟨Mb, y, none⟩ _ k (by show k ≠ Mb; have := HMb.out; omega)).trans (Below.heap_setCell _ ⟨Mb, x, none⟩ _ k (by show k ≠ Mb; have := HMb.out; omega)))
                        have HB3 : Hid (Below w0.heap.size w0 ((we.setCell ⟨Mb, x, none⟩ (.bool true)).setCell ⟨Mb, y, none⟩ (.bool true))) := Below.setCell (p := ⟨Mb, y, none⟩) (Below.setCell (p := ⟨Mb, x, none⟩) (below_step HB2.out hbd (Nat.le_refl _)) HMb.out.1 _) HMb.out.1 _
                        clear hwd hbd r0 r1 HR2 HU2 HB2 q0 q1 CX CY
                        go_wp2
                        go_roundw
                        case rel => exact ⟨j + 1, _, true, by omega, by go_num, rfl, HR3, HS3, hid_mk (.inl ⟨rfl, HC2.out⟩), HU3, HB3⟩
                        case measure => simp [intOf]; omega
                · obtain rfl : j = k := by omega
                  have hd : 2 * unm n S2 + (if mo2 then 1 else 0) < 2 * unm n S + 1 := by
                    rcases HC.out with ⟨h1, h2⟩ | ⟨h1, h2, _⟩
                    · subst h1; simp; omega
                    · subst h1 h2; simp
                  have HC2 : Hid (mo2 = false → ClosedTo n qs S2 qs.length) := fun h => by
                    rcases HC.out with ⟨h1, h2⟩ | ⟨h1, h2, h3⟩
                    · rw [h] at h1; cases h1
                    · rw [h2, HM.out]; exact h3
                  have A1 : Aside (2 * unm n S2 + (if mo2 then 1 else 0) < gk) := by have := A0.out; simp only [if_true] at this; show _ < _; omega
                  clear hd HC
                  go_wp2
                  go_roundg (2 * unm n S2 + (if mo2 then 1 else 0))
                  case rel => exact ⟨S2, mo2, rfl, rfl, HR, HS, HC2, HU, HB⟩
                  case measure => exact A1.out
            | false =>
              have HC1 := hid_mk (HC.out rfl)
              have CM : Hid (∀ b : Nat, b < n → sameN L a b = S b) := fun b hb => by rw [HLL.out]; exact met_same han hb HS.out HC1.out
              have CZ : Hid (sizeN L a = (metN S n : Nat)) := by show _ = _; rw [HLL.out]; exact met_size han HS.out HC1.out
              have CA : Hid (∀ k : Int, sizeN L a = k → allN L (a + 1) = al + if nameN L a = a then k else 0) := fun k hk => by rw [HA.out]; rw [HLL.out] at hk ⊢; exact allN_step han hk
              have hab := allN_le hLn.out.2 (a + 1) (by rw [hLn.out.1]; omega)
              rw [hLn.out.1] at hab
              have hmS := metN_le S n
              clear HC HC1 HS A0
              generalize wr = wz at *
              go_wp2
              go_loopw [16, 17] (fun vk vb wr => ∃ b : Nat, b ≤ n ∧ vb = .int .i64 b ∧ vk = .int .i64 (metN S b : Nat) ∧ Hid (RowB wr Mb n S) ∧ Hid (Un wr B G H L) ∧ Hid (Below w0.heap.size w0 wr)) (fun _ vb _ => n - (intOf vb).toNat)
              case atStart => exact ⟨0, by omega, rfl, rfl, HR, HU, HB⟩
              case round =>
                clear HR HU HB
                obtain ⟨b, hb, rfl, rfl, HR, HU, HB⟩ := hrel
                have x0 := BX.out wr HB.out
                by_cases hbn : b < n
                · have hms := CM.out b hbn
                  have hmn := metN_succ S b
                  have hml := metN_le S b
                  have CV : Hid (∀ nq, Calls Try.prog 9 #[.pointer (some ⟨B, 0, none⟩), .int .i64 a, .int .i64 b] (wr.drewN nq) fun e w' => e = .returned (.bool (S b)) ∧ w' = wr.drewN nq) := fun nq => by rw [← hms]; exact usame_any (HU.out.below (below_drew _ _)).uv a b
                  have q0 := HR.out.at hbn
                  have HR3 : Hid (∀ nq, RowB (wr.drewN nq) Mb n S) := fun nq => HR.out.below (below_drew _ _)
                  have HU3 : Hid (∀ nq, Un (wr.drewN nq) B G H L) := fun nq => HU.out.below (below_drew _ _)
                  have HB3 : Hid (∀ nq, Below w0.heap.size w0 (wr.drewN nq)) := fun nq => below_step HB.out (below_drew _ _) (Nat.le_refl _)
                  have HQ : Hid (∀ nq, (wr.drewN nq).cell? ⟨Mb, b, none⟩ = some (.bool (S b))) := fun nq => (HR3.out nq).at hbn
                  clear hms HR HU HB
                  cases hsb : S b with
                  | true =>
                    rw [hsb] at CV HQ q0 hmn
                    simp only [if_true] at hmn
                    have HMN : Hid (((metN S b : Nat) : Int) + 1 = (metN S (b + 1) : Nat)) := by show _ = _; rw [hmn]; omega
                    clear hsb hmn
                    generalize metN S b = mk at *
                    go_wp2
                    go_quiet ((go_at_call 9; exact Calls.quiet_of_same (CV.out _)))
                    go_wp2
                    go_roundw
                    case rel => exact ⟨b + 1, by omega, by go_num, congrArg (Value.int IntKind.i64) HMN.out, HR3.out _, HU3.out _, HB3.out _⟩
                    case measure => simp [intOf]; omega
                  | false =>
                    rw [hsb] at CV HQ q0 hmn
                    have HMN : Hid (((metN S b : Nat) : Int) = (metN S (b + 1) : Nat)) := by show _ = _; rw [hmn]; simp
                    clear hsb hmn
                    generalize metN S b = mk at *
                    go_wp2
                    go_quiet ((go_at_call 9; exact Calls.quiet_of_same (CV.out _)))
                    go_wp2
                    go_roundw
                    case rel => exact ⟨b + 1, by omega, by go_num, congrArg (Value.int IntKind.i64) HMN.out, HR3.out _, HU3.out _, HB3.out _⟩
                    case measure => simp [intOf]; omega
                · obtain rfl : b = n := by omega
                  have C1 := hid_mk (usize_any HU.out.uv (a : Int))
                  rw [CZ.out] at C1
                  have hca := CA.out _ CZ.out
                  clear CM CZ CA HR
                  generalize metN S b = mk at *
                  go_wp2_with fail
                  refine C1.out.mono ?_
                  rintro e w6 ⟨rfl, hb6⟩
                  have HU6 := hid_mk (HU.out.below hb6)
                  have HB6 := hid_mk (below_step HB.out hb6 (Nat.le_refl _))
                  have C2 := hid_mk (uname_any HU6.out.uv (a : Int))
                  clear hb6 C1 HU HB x0
                  go_wp2_with fail
                  refine C2.out.mono ?_
                  rintro e w7 ⟨rfl, hb7⟩
                  have HU7 := hid_mk (HU6.out.below hb7)
                  have HB7 := hid_mk (below_step HB6.out hb7 (Nat.le_refl _))
                  clear hb7 C2 HU6 HB6
                  by_cases hnm : nameN L a = a
                  · rw [if_pos hnm] at hca
                    rw [hca] at hab
                    have HCA := hid_mk hca.symm
                    rw [hnm]
                    clear hnm hca
                    go_wp2
                    go_roundw
                    case rel => exact ⟨a + 1, al + mk, by omega, by omega, by omega, by go_num, by go_num, HCA, HU7, HB7⟩
                    case measure => simp [intOf]; omega
                  · rw [if_neg hnm] at hca
                    have HCA : Hid (al = allN L (a + 1)) := by show _ = _; rw [hca]; omega
                    clear hca
                    generalize nameN L (a : Int) = nm at *
                    go_wp2
                    go_roundw
                    case rel => exact ⟨a + 1, al, by omega, by omega, by omega, by go_num, rfl, HCA, HU7, HB7⟩
                    case measure => simp [intOf]; omega
        · obtain rfl : a = n := by omega
          have hal : al = (a : Int) := by have := allN_all hLn.out.2; rw [hLn.out.1] at this; rw [HA.out]; exact this
          have HF := hid_mk (below_step HB0.out HB.out (Nat.le_refl _))
          subst hal
          clear HU HB HA
          go_wp2
          go_ret
          exact ⟨rfl, HF.out⟩
end Go.Proofs.Ytcbgeahcnjamdac
