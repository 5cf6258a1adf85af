/- Layer 7's statement TourNobody (by tools/gen_tournobody.py). -/
import Derived.Test.YtpbnhbpkfdhedaaTourAwake
namespace Go.Proofs.Ytpbnhbpkfdhedaa
open Go.RowKit Go.Shelf
attribute [local go_sem] Oper.semAt_some
set_option linter.unusedVariables false
theorem eqB {f : FuncId} {args : Array Value} {w : World} {v : Value} (h : Calls Try.prog f args w fun e w' => e = .returned v ∧ w' = w) : Calls Try.prog f args w fun e w' => e = .returned v ∧ Below w.heap.size w w' := h.mono fun e w' ⟨h1, h2⟩ => ⟨h1, by rw [h2]; exact Below.refl _ _⟩
def ba1 : To := to0.addV 3 4
theorem ba1_wf : ba1.Wf 1 := to0_wf.addV 3 4
theorem ba_v : tkI to0.v to0.fv = 1 := by kernel_rfl
theorem ba_s : (ba1.total 1).s = 3 := by kernel_rfl
theorem ba_l : (ba1.total 1).l = 4 := by kernel_rfl
theorem to0_v (a : Int) : isA to0.v a = false ∧ isA to0.e a = false := ⟨by simp [isA, to0], by simp [isA, to0]⟩
theorem to0_link (a b : Int) : to0.linkN a b = 0 ∧ to0.linkR a b = 4 ∧ to0.linked a b = to0 := by
  have e1 : to0.linkR a b = 4 := by unfold To.linkR; rw [(to0_v a).1]; simp
  exact ⟨by unfold To.linkN; rw [e1, if_neg (by omega)], e1, by unfold To.linked; rw [e1, if_neg (by omega)]⟩
theorem to0_cut (a : Int) : to0.cutR a = 4 ∧ to0.cut a = to0 := ⟨by unfold To.cutR; rw [(to0_v a).2]; simp, by unfold To.cut; rw [(to0_v a).2]; simp⟩
theorem to0_drop (a : Int) : to0.dropR a = 4 ∧ to0.drop a = to0 := ⟨by unfold To.dropR; rw [(to0_v a).1]; simp, by unfold To.drop; rw [(to0_v a).1]; simp⟩
theorem to0_size (a : Int) : (to0.total a).c = 0 := by unfold To.total; rw [To.item_no (to0_v a).1]; rfl
set_option maxRecDepth 100000 in
set_option maxHeartbeats 4000000 in
theorem tournobody_walk (a b bits : Int) (w : World) (hbits : 0 ≤ bits ∧ bits ≤ 255) : Calls Try.prog 6 #[.int .i64 a, .int .i64 b, .int .u8 bits] w fun e w' => e = .returned (.bool true) ∧ Below w.heap.size w w' := by
  have hnil := vertF_nil
  have hr0 : Blk (w.alloc (.cells #[.bool false] 4)) w.heap.size 4 #[.bool false] := Blk.new w _ _
  have hb0 := (Below.refl w.heap.size w).alloc (Nat.le_refl _) (.cells #[.bool false] 4)
  have R0 := hid_mk hr0
  have B0 := hid_mk hb0
  clear hr0 hb0
  refine (callsIn_wide (n := 9)).1 ?_
  refine callsIn_of_wp_marks Try.func6 rfl trivial ?_ rfl
  simp only [Try.ntmps6, List.size_toArray, List.length_cons, List.length_nil, Nat.reduceAdd, Nat.reduceSub, Array.replicate_succ, Array.replicate_zero, List.push_toArray, List.append_toArray, List.nil_append, List.cons_append]
  gi_wp2_with fail
  refine ⟨trivial, ?_⟩
  gi_at_call 31
  refine (callsIn_wide.2 (tawk_any _)).mono ?_
  rintro e x1 ⟨rfl, hb⟩
  have R1 := hid_mk (R0.out.below hb)
  have B1 := hid_mk (B0.out.trans (hb.mono B0.out.size))
  clear hb R0 B0
  gi_wp2_with fail
  refine ⟨trivial, ?_⟩
  gi_at_call 26
  refine (callsIn_wide.2 (eqB (flink_nil a b _))).mono ?_
  rintro e x2 ⟨rfl, hb⟩
  have R2 := hid_mk (R1.out.below hb)
  have B2 := hid_mk (B1.out.trans (hb.mono B1.out.size))
  clear hb R1 B1
  gi_wp2_with fail
  refine ⟨trivial, ?_⟩
  gi_at_call 33
  refine (callsIn_wide.2 (eqB (fends_nil a _))).mono ?_
  rintro e x3 ⟨rfl, hb⟩
  have R3 := hid_mk (R2.out.below hb)
  have B3 := hid_mk (B2.out.trans (hb.mono B2.out.size))
  clear hb R2 B2
  gi_wp2_with fail
  refine ⟨trivial, ?_⟩
  gi_at_call 29
  refine (callsIn_wide.2 (ffindV_nil a bits _)).mono ?_
  rintro e x4 ⟨rfl, hb⟩
  have R4 := hid_mk (R3.out.below hb)
  have B4 := hid_mk (B3.out.trans (hb.mono B3.out.size))
  clear hb R3 B3
  gi_wp2_with fail
  refine ⟨trivial, ?_⟩
  gi_at_call 34
  refine (callsIn_wide.2 (ffindE_nil a bits _)).mono ?_
  rintro e x5 ⟨rfl, hb⟩
  have R5 := hid_mk (R4.out.below hb)
  have B5 := hid_mk (B4.out.trans (hb.mono B4.out.size))
  clear hb R4 B4
  gi_wp2_with fail
  refine ⟨trivial, ?_⟩
  gi_at_call 35
  refine (callsIn_wide.2 (vertices_ab _ _ _)).mono ?_
  rintro e y1 ⟨b1, c1, rfl, _, _, _, hb⟩
  have R6 := hid_mk (R5.out.below hb)
  have B6 := hid_mk (B5.out.trans (hb.mono B5.out.size))
  clear hb R5 B5
  gi_wp2_with fail
  refine ⟨trivial, ?_⟩
  gi_at_call 35
  refine (callsIn_wide.2 (vertices_ab _ _ _)).mono ?_
  rintro e X2 ⟨b2, c2, rfl, hx2, _, _, hb⟩
  have R7 := hid_mk (R6.out.below hb)
  have B7 := hid_mk (B6.out.trans (hb.mono B6.out.size))
  clear hb R6 B6 hnil
  have HSQ := hid_mk (vert1_seq (n := 8) (by omega) b2 c2 none a X2 hx2 [] (by simp) (fun X _ => flisted_nil a X))
  clear hx2
  gi_wp2_with fail
  refine range_own rfl (by omega) (gf := 86) (lb := #[.pointer (some ⟨b2, 0, none⟩), .pointer (some ⟨c2, 0, none⟩)]) rfl trivial (enters_of Try.func86 (by kernel_rfl) rfl) HSQ.out (Below.refl _ _) (fun _ => rfl)
    (fun _ A => Blk A w.heap.size 4 #[.bool false] ∧ Below w.heap.size w A) (fun _ _ _ => False)
    (OwnFrom.and (Own.from (blk_own _ _ (fun _ => _)) _) (ownFrom_below (Nat.le_refl _) B7.out.size)) (fun _ _ _ _ _ hs _ _ => hs)
    ⟨R7.out, B7.out⟩ ?a1 ?assign ?body ?done ?stop
  case assign =>
    intro l' x A Kk hK
    gi_wp2
    exact hK
  case body =>
    rintro l' pre x A _ hlp
    exact absurd hlp.1 (Nat.not_lt_zero _)
  case stop =>
    rintro D cc pre A hD hpre hF _
    exact hF.elim
  case done =>
    rintro D ys A hD rfl ⟨hR, hBl⟩ hK
    have hDw : w.heap.size < D := by have := R7.out.lt; omega
    clear R7 B7 HSQ
    have R8 := hid_mk hR
    have B8 := hid_mk hBl
    have D8 := hid_mk hK
    clear hR hBl hK
    gi_wp2_with fail
    refine ⟨trivial, ?_⟩
    gi_at_call 25
    refine (callsIn_wide.2 (eqB (fvertex_nil a b _))).mono ?_
    rintro e x9 ⟨rfl, hb⟩
    have R9 := hid_mk (R8.out.below hb)
    have B9 := hid_mk (B8.out.trans (hb.mono B8.out.size))
    have D9 := hid_mk ((hb.block D (Array.getElem?_eq_some_iff.1 D8.out).1).trans D8.out)
    clear hb R8 B8 D8
    gi_wp2_with fail
    refine ⟨trivial, ?_⟩
    gi_at_call 30
    refine (callsIn_wide.2 (eqB (fdrop_nil a _))).mono ?_
    rintro e x10 ⟨rfl, hb⟩
    have R10 := hid_mk (R9.out.below hb)
    have B10 := hid_mk (B9.out.trans (hb.mono B9.out.size))
    have D10 := hid_mk ((hb.block D (Array.getElem?_eq_some_iff.1 D9.out).1).trans D9.out)
    clear hb R9 B9 D9
    gi_wp2_with fail
    refine ⟨trivial, ?_⟩
    gi_at_call 28
    refine (callsIn_wide.2 (eqB (fcut_nil a _))).mono ?_
    rintro e x11 ⟨rfl, hb⟩
    have R11 := hid_mk (R10.out.below hb)
    have B11 := hid_mk (B10.out.trans (hb.mono B10.out.size))
    have D11 := hid_mk ((hb.block D (Array.getElem?_eq_some_iff.1 D10.out).1).trans D10.out)
    clear hb R10 B10 D10
    gi_wp2_with fail
    refine ⟨trivial, ?_⟩
    gi_at_call 36
    refine (callsIn_wide.2 (fsame_nil a b _)).mono ?_
    rintro e x12 ⟨rfl, hb⟩
    have R12 := hid_mk (R11.out.below hb)
    have B12 := hid_mk (B11.out.trans (hb.mono B11.out.size))
    have D12 := hid_mk ((hb.block D (Array.getElem?_eq_some_iff.1 D11.out).1).trans D11.out)
    clear hb R11 B11 D11
    gi_wp2_with fail
    refine ⟨trivial, ?_⟩
    gi_at_call 37
    refine (callsIn_wide.2 (fsize_nil a _)).mono ?_
    rintro e x13 ⟨rfl, hb⟩
    have R13 := hid_mk (R12.out.below hb)
    have B13 := hid_mk (B12.out.trans (hb.mono B12.out.size))
    have D13 := hid_mk ((hb.block D (Array.getElem?_eq_some_iff.1 D12.out).1).trans D12.out)
    clear hb R12 B12 D12
    gi_wp2_with fail
    refine ⟨trivial, ?_⟩
    gi_at_call 38
    refine (callsIn_wide.2 (fsum_nil a _)).mono ?_
    rintro e x14 ⟨rfl, hb⟩
    have R14 := hid_mk (R13.out.below hb)
    have B14 := hid_mk (B13.out.trans (hb.mono B13.out.size))
    have D14 := hid_mk ((hb.block D (Array.getElem?_eq_some_iff.1 D13.out).1).trans D13.out)
    clear hb R13 B13 D13
    gi_wp2_with fail
    refine ⟨trivial, ?_⟩
    gi_at_call 39
    refine (callsIn_wide.2 (fleast_nil a _)).mono ?_
    rintro e x15 ⟨rfl, hb⟩
    have R15 := hid_mk (R14.out.below hb)
    have B15 := hid_mk (B14.out.trans (hb.mono B14.out.size))
    have D15 := hid_mk ((hb.block D (Array.getElem?_eq_some_iff.1 D14.out).1).trans D14.out)
    clear hb R14 B14 D14
    gi_wp2_with fail
    refine ⟨trivial, ?_⟩
    gi_at_call 40
    refine (callsIn_wide.2 (eqB (fset_nil a b b _))).mono ?_
    rintro e x16 ⟨rfl, hb⟩
    have R16 := hid_mk (R15.out.below hb)
    have B16 := hid_mk (B15.out.trans (hb.mono B15.out.size))
    have D16 := hid_mk ((hb.block D (Array.getElem?_eq_some_iff.1 D15.out).1).trans D15.out)
    clear hb R15 B15 D15
    gi_wp2_with fail
    refine ⟨trivial, ?_⟩
    gi_at_call 27
    refine (callsIn_wide.2 (eqB (fmark_nil a bits _))).mono ?_
    rintro e x17 ⟨rfl, hb⟩
    have R17 := hid_mk (R16.out.below hb)
    have B17 := hid_mk (B16.out.trans (hb.mono B16.out.size))
    have D17 := hid_mk ((hb.block D (Array.getElem?_eq_some_iff.1 D16.out).1).trans D16.out)
    clear hb R16 B16 D16
    gi_wp2_with fail
    refine ⟨trivial, ?_⟩
    gi_at_call 32
    refine (callsIn_wide.2 (eqB (femark_nil a bits _))).mono ?_
    rintro e x18 ⟨rfl, hb⟩
    have R18 := hid_mk (R17.out.below hb)
    have B18 := hid_mk (B17.out.trans (hb.mono B17.out.size))
    have D18 := hid_mk ((hb.block D (Array.getElem?_eq_some_iff.1 D17.out).1).trans D17.out)
    clear hb R17 B17 D17
    have hb := (Below.refl x18.heap.size x18).alloc (Nat.le_refl _) (.cells #[.slice none 0 0, .slice none 0 0, .pointer none, .slice none 0 0, .slice none 0 0, .slice none 0 0, .slice none 0 0, .map none] 89)
    have K19 : Hid (Tf (x18.alloc (.cells #[.slice none 0 0, .slice none 0 0, .pointer none, .slice none 0 0, .slice none 0 0, .slice none 0 0, .slice none 0 0, .map none] 89)) (fun k => k = x18.heap.size) x18.heap.size 0 to0) := Tf.fresh (mx := 0) (Blk.new x18 _ _) rfl (fun k hk => by subst hk; simp) (.inl rfl)
    have R19 := hid_mk (R18.out.below hb)
    have B19 := hid_mk (B18.out.trans (hb.mono B18.out.size))
    have D19 := hid_mk ((hb.block D (Array.getElem?_eq_some_iff.1 D18.out).1).trans D18.out)
    have hRz := R18.out.lt
    have hDz := (Array.getElem?_eq_some_iff.1 D18.out).1
    have hwz := B18.out.size
    clear hb R18 B18 D18
    gi_wp2_with fail
    generalize x18.alloc (.cells #[.slice none 0 0, .slice none 0 0, .pointer none, .slice none 0 0, .slice none 0 0, .slice none 0 0, .slice none 0 0, .map none] 89) = z0 at *
    generalize x18.heap.size = Bb at *
    have Q19 : Hid (∀ k, (fun k => k = Bb) k → Bb ≤ k) := fun k hk => by have h' : k = Bb := hk; omega
    have hBz : Bb ≤ z0.heap.size := by have := K19.out.lt Bb rfl; omega
    refine ⟨trivial, ?_⟩
    gi_at_call 26
    have C := flink_any K19.out a b (fun hv => by rw [(to0_v a).1] at hv; cases hv) (to0_wf.le.mono (Nat.zero_le 10)) (by omega)
    rw [(to0_link a b).1, (to0_link a b).2.1, (to0_link a b).2.2] at C
    refine (callsIn_wide.2 C).mono ?_
    rintro e z20 ⟨F20, G20, rfl, hT, hS⟩
    have K20 := hid_mk hT
    have nR : ¬ (fun k => Bb ≤ k) w.heap.size := fun h' => by have h2 : Bb ≤ w.heap.size := h'; omega
    have R20 : Hid (Blk z20 w.heap.size 4 #[.bool false]) := (hS.only.block w.heap.size R19.out.lt (fun hf => nR (Q19.out _ hf))).trans R19.out
    have D20 := hid_mk ((hS.only.block D (Array.getElem?_eq_some_iff.1 D19.out).1 (fun hf => by have h2 : Bb ≤ D := Q19.out _ hf; omega)).trans D19.out)
    have B20 := hid_mk (hS.start B19.out (Nat.le_refl _) (fun q hf => Nat.le_trans hwz (Q19.out q hf)))
    have Q20 : Hid (∀ k, F20 k → Bb ≤ k) := hS.from hBz Q19.out
    replace hBz := Nat.le_trans hBz hS.size
    clear hT hS C nR K19 R19 D19 B19 Q19
    gi_wp2_with fail
    refine ⟨trivial, ?_⟩
    gi_at_call 28
    have C := fcut_any K20.out a (to0_wf.le.mono (Nat.zero_le 10)) (by omega)
    rw [(to0_cut a).1, (to0_cut a).2] at C
    refine (callsIn_wide.2 C).mono ?_
    rintro e z21 ⟨F21, rfl, hT, hS⟩
    have K21 := hid_mk hT
    have nR : ¬ (fun k => Bb ≤ k) w.heap.size := fun h' => by have h2 : Bb ≤ w.heap.size := h'; omega
    have R21 : Hid (Blk z21 w.heap.size 4 #[.bool false]) := (hS.only.block w.heap.size R20.out.lt (fun hf => nR (Q20.out _ hf))).trans R20.out
    have D21 := hid_mk ((hS.only.block D (Array.getElem?_eq_some_iff.1 D20.out).1 (fun hf => by have h2 : Bb ≤ D := Q20.out _ hf; omega)).trans D20.out)
    have B21 := hid_mk (hS.start B20.out (Nat.le_refl _) (fun q hf => Nat.le_trans hwz (Q20.out q hf)))
    have Q21 : Hid (∀ k, F21 k → Bb ≤ k) := hS.from hBz Q20.out
    replace hBz := Nat.le_trans hBz hS.size
    clear hT hS C nR K20 R20 D20 B20 Q20
    gi_wp2_with fail
    refine ⟨trivial, ?_⟩
    gi_at_call 37
    have C := fsize_any K21.out a (to0_wf.le.mono (Nat.zero_le 10)) (by omega)
    rw [to0_size a] at C
    refine (callsIn_wide.2 C).mono ?_
    rintro e z22 ⟨rfl, hb⟩
    have K22 := hid_mk (K21.out.below hb)
    have R22 := hid_mk (R21.out.below hb)
    have B22 := hid_mk (B21.out.trans (hb.mono B21.out.size))
    have D22 := hid_mk ((hb.block D (Array.getElem?_eq_some_iff.1 D21.out).1).trans D21.out)
    have Q22 := Q21
    replace hBz := Nat.le_trans hBz hb.size
    clear hb C K21 R21 D21 B21 Q21
    gi_wp2_with fail
    refine ⟨trivial, ?_⟩
    gi_at_call 30
    have C := fdrop_any K22.out a (to0_wf.le.mono (Nat.zero_le 10)) (by omega)
    rw [(to0_drop a).1, (to0_drop a).2] at C
    refine (callsIn_wide.2 C).mono ?_
    rintro e z23 ⟨F23, rfl, hT, hS⟩
    have K23 := hid_mk hT
    have nR : ¬ (fun k => Bb ≤ k) w.heap.size := fun h' => by have h2 : Bb ≤ w.heap.size := h'; omega
    have R23 : Hid (Blk z23 w.heap.size 4 #[.bool false]) := (hS.only.block w.heap.size R22.out.lt (fun hf => nR (Q22.out _ hf))).trans R22.out
    have D23 := hid_mk ((hS.only.block D (Array.getElem?_eq_some_iff.1 D22.out).1 (fun hf => by have h2 : Bb ≤ D := Q22.out _ hf; omega)).trans D22.out)
    have B23 := hid_mk (hS.start B22.out (Nat.le_refl _) (fun q hf => Nat.le_trans hwz (Q22.out q hf)))
    have Q23 : Hid (∀ k, F23 k → Bb ≤ k) := hS.from hBz Q22.out
    replace hBz := Nat.le_trans hBz hS.size
    clear hT hS C nR K22 R22 D22 B22 Q22
    gi_wp2_with fail
    refine ⟨trivial, ?_⟩
    gi_at_call 25
    have C := fvertex_any K23.out 3 4 (to0_wf.le.mono (Nat.zero_le 10)) (by omega)
    rw [ba_v] at C
    refine (callsIn_wide.2 C).mono ?_
    rintro e z24 ⟨F24, rfl, hT, hS⟩
    have K24 := hid_mk hT
    have nR : ¬ (fun k => Bb ≤ k) w.heap.size := fun h' => by have h2 : Bb ≤ w.heap.size := h'; omega
    have R24 : Hid (Blk z24 w.heap.size 4 #[.bool false]) := (hS.only.block w.heap.size R23.out.lt (fun hf => nR (Q23.out _ hf))).trans R23.out
    have D24 := hid_mk ((hS.only.block D (Array.getElem?_eq_some_iff.1 D23.out).1 (fun hf => by have h2 : Bb ≤ D := Q23.out _ hf; omega)).trans D23.out)
    have B24 := hid_mk (hS.start B23.out (Nat.le_refl _) (fun q hf => Nat.le_trans hwz (Q23.out q hf)))
    have Q24 : Hid (∀ k, F24 k → Bb ≤ k) := hS.from hBz Q23.out
    replace hBz := Nat.le_trans hBz hS.size
    clear hT hS C nR K23 R23 D23 B23 Q23
    gi_wp2_with fail
    refine ⟨trivial, ?_⟩
    gi_at_call 38
    have C := fsum_any (t := ba1) K24.out 1 (ba1_wf.le.mono (by omega : 1 ≤ 10)) (by omega)
    rw [ba_s] at C
    refine (callsIn_wide.2 C).mono ?_
    rintro e z25 ⟨rfl, hb⟩
    have K25 := hid_mk (K24.out.below hb)
    have R25 := hid_mk (R24.out.below hb)
    have B25 := hid_mk (B24.out.trans (hb.mono B24.out.size))
    have D25 := hid_mk ((hb.block D (Array.getElem?_eq_some_iff.1 D24.out).1).trans D24.out)
    have Q25 := Q24
    replace hBz := Nat.le_trans hBz hb.size
    clear hb C K24 R24 D24 B24 Q24
    gi_wp2_with fail
    refine ⟨trivial, ?_⟩
    gi_at_call 39
    have C := fleast_any (t := ba1) K25.out 1 (ba1_wf.le.mono (by omega : 1 ≤ 10)) (by omega)
    rw [ba_l] at C
    refine (callsIn_wide.2 C).mono ?_
    rintro e z26 ⟨rfl, hb⟩
    have K26 := hid_mk (K25.out.below hb)
    have R26 := hid_mk (R25.out.below hb)
    have B26 := hid_mk (B25.out.trans (hb.mono B25.out.size))
    have D26 := hid_mk ((hb.block D (Array.getElem?_eq_some_iff.1 D25.out).1).trans D25.out)
    have Q26 := Q25
    replace hBz := Nat.le_trans hBz hb.size
    clear hb C K25 R25 D25 B25 Q25
    have cR := R26.out.cell1
    have fR := R26.out.frozen 0
    have HR5 : Hid (Blk (z26.setCell ⟨w.heap.size, 0, none⟩ (.bool true)) w.heap.size 4 #[.bool true]) := R26.out.set1 _
    have HB5 : Hid (Below w.heap.size w (z26.setCell ⟨w.heap.size, 0, none⟩ (.bool true))) := B26.out.setCell (p := ⟨w.heap.size, 0, none⟩) (Nat.le_refl _) _
    have HD5 : Hid ((z26.setCell ⟨w.heap.size, 0, none⟩ (.bool true)).heap[D]? = some (.deferred (some []))) := (Below.heap_setCell z26 ⟨w.heap.size, 0, none⟩ _ D (by show D ≠ w.heap.size; omega)).trans D26.out
    clear K26 R26 D26 B26 Q26
    gi_wp2
    refine ⟨by simp, .inl ⟨_, _, rfl, run_takeDeferred HD5.out, ?_⟩⟩
    have hpb : Below D (z26.setCell ⟨w.heap.size, 0, none⟩ (.bool true)) ((z26.setCell ⟨w.heap.size, 0, none⟩ (.bool true)).putObj D (.deferred none)) := ⟨rfl, rfl, rfl, by simp, fun k hk => World.putObj_heap_other (by omega)⟩
    have hc5 := (HR5.out.putObj (by omega) (.deferred none) : Blk ((z26.setCell ⟨w.heap.size, 0, none⟩ (.bool true)).putObj D (.deferred none)) w.heap.size 4 #[.bool true]).cell1
    refine ⟨.bool true, ?_, rfl, HB5.out.trans (hpb.mono (by omega))⟩
    simp [results, Try.f6, go_sem, hc5]
end Go.Proofs.Ytpbnhbpkfdhedaa
