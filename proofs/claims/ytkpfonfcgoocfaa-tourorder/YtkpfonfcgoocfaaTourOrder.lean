/- Layer 7's statement TourOrder (by tools/gen_tourorder.py). -/
import Derived.Test.YtkpfonfcgoocfaaTourDuo
import Derived.Test.YtkpfonfcgoocfaaTourOrderPlain
import Derived.Test.YtkpfonfcgoocfaaPairsB
import Derived.Deep.RegionHeld3
namespace Go.Proofs.Ytkpfonfcgoocfaa
open Go.RowKit
set_option linter.unusedVariables false
/-- The pairs of vertices that a list of pairs of bytes tells. -/
def prs (n : Nat) (qs : List P8.Ac) : List (Int × Int) := qs.map fun q => (1 + q.a % (n : Int), 1 + q.b % (n : Int))
theorem prs_len (n : Nat) (qs : List P8.Ac) : (prs n qs).length = qs.length := by simp [prs]
theorem prs_at {n : Nat} {qs : List P8.Ac} {i : Nat} (h : i < qs.length) : (prs n qs)[i]? = some (1 + (P8.aAt qs i).a % (n : Int), 1 + (P8.aAt qs i).b % (n : Int)) := by
  unfold prs; rw [List.getElem?_map, List.getElem?_eq_getElem h, P8.aAt_eq h]; rfl
theorem sumN_succ (f : Int → Int) (n : Nat) : sumN f (n + 1) = sumN f n + f ((n : Int) + 1) := rfl
theorem linkC {w : World} {F : Nat → Prop} {B G : Nat} {t : To} {k : Nat} (h : Tf Y0 w F B G t) (hw : t.Wf k) (hk : k ≤ 10000) (a b : Int) : Calls Try.prog 17 #[.pointer (some ⟨B, 0, none⟩), .int .i64 a, .int .i64 b] w fun e w' => ∃ F' G', e = .returned (.tuple #[.int .i64 (t.linkN a b), .int .i64 (t.linkR a b)]) ∧ Tf Y0 w' F' B G' (t.linked a b) ∧ Step F F' w w' := flink_any h a b (hw.mv a) hw.le hk
theorem rem_run {x k : Int} (hx : 0 ≤ x ∧ x ≤ 255) (hk : 1 ≤ k ∧ k ≤ 100) (w : World) : (binOp BinOp.rem 3 (.int .i64 x) (.int .i64 k)).run Try.prog w = .ok (.int .i64 (x % k)) w := by
  have h0 : ¬ k = 0 := by omega
  have h1 : x.tmod k = x % k := Int.tmod_eq_emod_of_nonneg hx.1
  simp [binOp, h0, h1, go_sem]
theorem wrap_b {x : Int} (h : 0 ≤ x ∧ x ≤ 1000) : IntKind.i64.wrap x = x := by simp [IntKind.wrap, IntKind.bits, IntKind.signed]; omega
set_option maxRecDepth 100000 in
set_option maxHeartbeats 16000000 in
theorem tourorder_walk (ao : Option Addr) (ca : Nat) (xs : List Int) (many : Int) (lo : Option Addr) (cl : Nat) (qs : List P8.Ac) (w : World) (ha : UAt w ao xs) (hwa : Wu xs) (hla : xs.length ≤ 9223372036854775807) (hmany : 0 ≤ many ∧ many ≤ 255) (hl : P8.AcAt w lo qs) (hll : qs.length ≤ 9223372036854775807) :
    Calls Try.prog 4 #[.slice ao xs.length ca, .int .u8 many, .slice lo qs.length cl] w fun e w' => e = .returned (.bool true) ∧ Below w.heap.size w w' := by
  have HA : Hid (UAt w ao xs ∧ Wu xs) := ⟨ha, hwa⟩
  have HL := hid_mk hl
  clear ha hwa hl
  obtain ⟨na, hna⟩ : ∃ m, m = xs.length := ⟨_, rfl⟩
  have HNA : Hid (xs.length = na) := hna.symm
  obtain ⟨m, hm⟩ : ∃ m, m = qs.length := ⟨_, rfl⟩
  have HM : Hid (qs.length = m) := hm.symm
  rw [← hna] at hla ⊢
  rw [← hm] at hll ⊢
  clear hna hm
  go_enter Try.func4, Try.ntmps4
  go_wp2_with fail
  refine (tawk_any w).mono ?_
  rintro e w1 ⟨rfl, hb1⟩
  have HW1 : Hid (Below w.heap.size w w1) := hb1
  clear hb1
  go_wp2_with fail
  refine (great7_any ao ca na none 0 0 [] w1 rfl (by omega) hla (.inl rfl)).mono ?_
  rintro e w2 ⟨g1, rfl, hg1, hb2⟩
  have HW2 : Hid (Below w.heap.size w w2) := HW1.out.trans (hb2.mono HW1.out.size)
  clear hb2 HW1 hg1
  cases g1 with
  | true =>
    go_wp2
    go_ret
    exact ⟨rfl, HW2.out⟩
  | false =>
    by_cases hq : (80 : Int) < (m : Int)
    · go_wp2
      go_ret
      exact ⟨rfl, HW2.out⟩
    have hrem : many.tmod 40 = many % 40 := Int.tmod_eq_emod_of_nonneg hmany.1
    obtain ⟨n, hn⟩ : ∃ n : Nat, 1 + many % 40 = (n : Int) := ⟨(1 + many % 40).toNat, by omega⟩
    have hn2 : 1 ≤ n ∧ n ≤ 40 := by omega
    go_wp2_with fail
    have hM1 := made7_any ao ca xs w2 (HA.out.1.below HW2.out) HA.out.2 (by rw [HNA.out]; exact hla)
    rw [HNA.out] at hM1
    refine hM1.mono ?_
    rintro e w4 ⟨Bf, Ff, rfl, hT, hF, hb4⟩
    have HW4 : Hid (Below w.heap.size w w4) := HW2.out.trans (hb4.mono HW2.out.size)
    have HTf := hid_mk hT
    have HFf : Hid (∀ k, Ff k → w.heap.size ≤ k) := fun k hk => Nat.le_trans HW2.out.size (hF k hk)
    clear hT hF hb4 HW2 hM1 HA
    go_wp2_with fail
    refine (made7_any none 0 [] w4 (.inl rfl) (fun z hz => (by simp at hz)) (by simp)).mono ?_
    rintro e w5 ⟨Bg, Fg, rfl, hT, hF, hb5⟩
    have HD0 : Hid (Du w w5 Ff Bf 0 to0 Fg Bg 0 to0) := Du.made HTf.out hb5 hT HW4.out HFf.out hF
    clear hT hF hb5 HW4 HTf HFf
    go_wp2_with fail
    clear hrem hmany
    have HNn := hid_mk hn
    clear hn
    go_loopw [10] (fun vi wr => ∃ (k : Nat) (t : To) (F1 F2 : Nat → Prop) (G1 G2 : Nat), vi = .int .i64 ((k : Int) + 1) ∧ k ≤ n ∧ t.Wf k ∧ Hid (Du w wr F1 Bf G1 t F2 Bg G2 t) ∧ Hid (Ov n k t)) (fun vi _ => n + 1 - (intOf vi).toNat)
    case atStart => exact ⟨0, to0, Ff, Fg, 0, 0, rfl, Nat.zero_le _, to0_wf, HD0.out, ov0 n⟩
    case round =>
      obtain ⟨k, t, F1, F2, G1, G2, rfl, hkn, hwf, HD, HV⟩ := hrel
      clear HD0
      by_cases hlt : k < n
      · have hle : (k : Int) + 1 ≤ (n : Int) := by omega
        have hk10 : k ≤ 10000 := by omega
        have hadd := HV.out.add HD.out.f.tb
        have CV : Hid (∀ wx F B G, Tf Y0 wx F B G t → Calls Try.prog 16 #[.pointer (some ⟨B, 0, none⟩), .int .i64 ((k : Int) + 1), .int .i64 ((n : Int) - ((k : Int) + 1))] wx fun e w' => ∃ F', e = .returned (.int .i64 ((k : Int) + 1)) ∧ Tf Y0 w' F' B G (t.addV ((k : Int) + 1) ((n : Int) - ((k : Int) + 1))) ∧ Step F F' wx w') := fun wx F B G h => by
          have := fvertex_any h ((k : Int) + 1) ((n : Int) - ((k : Int) + 1)) hwf.le hk10
          rw [hadd.1] at this
          exact this
        have HV2 := hid_mk hadd.2
        have hwf2 := hwf.addV ((k : Int) + 1) ((n : Int) - ((k : Int) + 1))
        clear hadd hwf HV
        generalize t.addV ((k : Int) + 1) ((n : Int) - ((k : Int) + 1)) = t2 at *
        go_wp2_with fail
        refine (CV.out _ _ _ _ HD.out.f).mono ?_
        rintro e v1 ⟨X1, rfl, hT, hS⟩
        have HD1 := hid_mk (HD.out.stepF hT hS)
        clear hT hS HD
        go_wp2_with fail
        refine (CV.out _ _ _ _ HD1.out.g).mono ?_
        rintro e v2 ⟨X2, rfl, hT, hS⟩
        have HD2 := hid_mk (HD1.out.stepG hT hS)
        clear hT hS HD1 CV
        go_wp2
        go_roundw
        case rel => exact ⟨k + 1, t2, X1, X2, G1, G2, by go_num, by omega, hwf2, HD2.out, HV2.out⟩
        case measure => simp [intOf]; omega
      · obtain rfl : k = n := by omega
        have hle : ¬ (k : Int) + 1 ≤ (k : Int) := by omega
        have HO := hid_mk (HV.out.od (by omega))
        clear HV
        go_wp2
        go_loopw [11, 12, 13] (fun va vb vi wr => ∃ (i ma mb : Nat) (s t : To) (F1 F2 : Nat → Prop) (G1 G2 : Nat), vi = .int .i64 i ∧ va = .int .i64 ma ∧ vb = .int .i64 mb ∧ i ≤ m ∧ ma ≤ i ∧ mb ≤ i ∧ s.Wf (k + i) ∧ t.Wf (k + i) ∧ Hid (Du w wr F1 Bf G1 s F2 Bg G2 t) ∧ Hid (Od k s (RF (prs k qs) i) ma) ∧ Hid (Od k t (RG (prs k qs) i) mb)) (fun _ _ vi _ => m - (intOf vi).toNat)
        case atStart => exact ⟨0, 0, 0, t, t, F1, F2, G1, G2, rfl, rfl, rfl, Nat.zero_le _, Nat.le_refl _, Nat.le_refl _, hwf, hwf, HD.out, HO.out.wider (fun x y => ⟨fun h => h.elim, fun ⟨j, hj, _⟩ => absurd hj (Nat.not_lt_zero j)⟩), HO.out.wider (fun x y => ⟨fun h => h.elim, fun ⟨j, hj, _⟩ => absurd hj (Nat.not_lt_zero j)⟩)⟩
        case round =>
          clear hwf HD HO
          obtain ⟨i, ma, mb, s, t, F1, F2, G1, G2, rfl, rfl, rfl, him, hma, hmb, hws, hwt, HD, HS, HT⟩ := hrel
          by_cases hlt2 : i < m
          · rcases HL.out with h | ⟨b, off, rfl, hbl, hc⟩
            · have := HM.out; rw [h] at this; simp at this; omega
            · have hci := hc i (by rw [HM.out]; exact hlt2)
              have hcj := hc (m - 1 - i) (by rw [HM.out]; omega)
              have hpi := prs_at (n := k) (qs := qs) (i := i) (by rw [HM.out]; exact hlt2)
              have hpj : (prs k qs)[(prs k qs).length - 1 - i]? = some (1 + (P8.aAt qs (m - 1 - i)).a % (k : Int), 1 + (P8.aAt qs (m - 1 - i)).b % (k : Int)) := by
                rw [prs_len, HM.out]
                exact prs_at (n := k) (qs := qs) (i := m - 1 - i) (by rw [HM.out]; omega)
              obtain ⟨⟨c0, c1⟩, ⟨h0, h1⟩⟩ := hci
              obtain ⟨⟨d0, d1⟩, ⟨k0, k1⟩⟩ := hcj
              clear hc
              generalize P8.aAt qs i = qi at *
              generalize P8.aAt qs (m - 1 - i) = qj at *
              obtain ⟨pa, pb⟩ := qi
              obtain ⟨ra, rb⟩ := qj
              simp only at c0 c1 d0 d1 h0 h1 k0 k1 hpi hpj
              obtain ⟨jj, hjj⟩ : ∃ jj : Nat, jj = m - 1 - i := ⟨_, rfl⟩
              rw [← hjj] at d0 d1
              have hjm : (m : Int) - 1 - (i : Int) = (jj : Int) := by omega
              have hjl : (jj : Int) < (m : Int) := by omega
              have hli : (i : Int) < (m : Int) := by omega
              have hk1 : ¬ (k : Int) = 0 := by omega
              have hkn : ¬ k = 0 := by omega
              have lpa : 0 ≤ pa % (k : Int) := Int.emod_nonneg _ (by omega)
              have upa : pa % (k : Int) < (k : Int) := Int.emod_lt_of_pos _ (by omega)
              have Rpa : pa.tmod (k : Int) = pa % (k : Int) := Int.tmod_eq_emod_of_nonneg (by omega)
              have Wpa := wrap_b (x := pa) (by omega)
              have Vpa := wrap_b (x := 1 + pa % (k : Int)) (by omega)
              have lpb : 0 ≤ pb % (k : Int) := Int.emod_nonneg _ (by omega)
              have upb : pb % (k : Int) < (k : Int) := Int.emod_lt_of_pos _ (by omega)
              have Rpb : pb.tmod (k : Int) = pb % (k : Int) := Int.tmod_eq_emod_of_nonneg (by omega)
              have Wpb := wrap_b (x := pb) (by omega)
              have Vpb := wrap_b (x := 1 + pb % (k : Int)) (by omega)
              have lra : 0 ≤ ra % (k : Int) := Int.emod_nonneg _ (by omega)
              have ura : ra % (k : Int) < (k : Int) := Int.emod_lt_of_pos _ (by omega)
              have Rra : ra.tmod (k : Int) = ra % (k : Int) := Int.tmod_eq_emod_of_nonneg (by omega)
              have Wra := wrap_b (x := ra) (by omega)
              have Vra := wrap_b (x := 1 + ra % (k : Int)) (by omega)
              have lrb : 0 ≤ rb % (k : Int) := Int.emod_nonneg _ (by omega)
              have urb : rb % (k : Int) < (k : Int) := Int.emod_lt_of_pos _ (by omega)
              have Rrb : rb.tmod (k : Int) = rb % (k : Int) := Int.tmod_eq_emod_of_nonneg (by omega)
              have Wrb := wrap_b (x := rb) (by omega)
              have Vrb := wrap_b (x := 1 + rb % (k : Int)) (by omega)
              have hk2 : k + i ≤ 10000 := by omega
              have LS := hid_mk (fun hB2 => HS.out.step (by omega) HD.out.f.tb (a := 1 + pa % (k : Int)) (b := 1 + pb % (k : Int)) (by omega) (by omega) hB2)
              have LT := hid_mk (fun hB2 => HT.out.step (by omega) HD.out.g.tb (a := 1 + rb % (k : Int)) (b := 1 + ra % (k : Int)) (by omega) (by omega) hB2)
              have HPI := hid_mk hpi
              have HPJ := hid_mk hpj
              have CF : Hid (Calls Try.prog 17 #[.pointer (some ⟨Bf, 0, none⟩), .int .i64 (1 + pa % (k : Int)), .int .i64 (1 + pb % (k : Int))] wr.drew _) := linkC (HD.out.f.kept (W' := wr.drew) (fun _ _ => rfl) (Nat.le_refl _)) hws hk2 _ _
              have CG : Hid (∀ wx F, Tf Y0 wx F Bg G2 t → Calls Try.prog 17 #[.pointer (some ⟨Bg, 0, none⟩), .int .i64 (1 + rb % (k : Int)), .int .i64 (1 + ra % (k : Int))] wx _) := fun wx F h => linkC h hwt hk2 _ _
              have hws2 := hws.linked (1 + pa % (k : Int)) (1 + pb % (k : Int))
              have hwt2 := hwt.linked (1 + rb % (k : Int)) (1 + ra % (k : Int))
              generalize s.linkN (1 + pa % (k : Int)) (1 + pb % (k : Int)) = en at *
              generalize s.linkR (1 + pa % (k : Int)) (1 + pb % (k : Int)) = er at *
              generalize s.linked (1 + pa % (k : Int)) (1 + pb % (k : Int)) = s2 at *
              generalize t.linkN (1 + rb % (k : Int)) (1 + ra % (k : Int)) = gn at *
              generalize t.linkR (1 + rb % (k : Int)) (1 + ra % (k : Int)) = gr at *
              generalize t.linked (1 + rb % (k : Int)) (1 + ra % (k : Int)) = t2 at *
              have CL : Hid (∀ wx, Below w.heap.size w wx → (wx.cell? ⟨b, off + i * 2, none⟩ = some (.int .u8 pa) ∧ wx.cell? ⟨b, off + i * 2 + 1, none⟩ = some (.int .u8 pb)) ∧ wx.cell? ⟨b, off + jj * 2, none⟩ = some (.int .u8 ra) ∧ wx.cell? ⟨b, off + jj * 2 + 1, none⟩ = some (.int .u8 rb)) := fun wx hb => ⟨⟨(hb.cell (p := ⟨b, _, none⟩) hbl).trans c0, (hb.cell (p := ⟨b, _, none⟩) hbl).trans c1⟩, (hb.cell (p := ⟨b, _, none⟩) hbl).trans d0, (hb.cell (p := ⟨b, _, none⟩) hbl).trans d1⟩
              clear hpi hpj hjj c0 c1 d0 d1 hws hwt HS HT
              generalize pa % (k : Int) = zpa at *
              generalize pb % (k : Int) = zpb at *
              generalize ra % (k : Int) = zra at *
              generalize rb % (k : Int) = zrb at *
              obtain ⟨⟨c0, c1⟩, _⟩ := CL.out _ HD.out.below
              go_wp2_with fail
              go_region_held3 (fun w' => w'.cell? ⟨b, off + i * 2, none⟩ = some (.int .u8 pa) ∧ w'.cell? ⟨b, off + i * 2 + 1, none⟩ = some (.int .u8 pb))
                (first | go_keep | with_reducible exact (CL.out _ HD1.out.below).1)
                (first | (go_at_call 17; refine CF.out.mono ?_; rintro e v1 ⟨X1, Y1, rfl, hT, hS⟩; have HD1 := hid_mk (HD.out.stepF hT (Step.undrew hS))) | fail)
              clear hT hS c0 c1 CF
              rcases LS.out HD1.out.f.tb with ⟨hr, hO⟩ | ⟨hr, hO⟩
              · subst hr
                have HS2 := hid_mk (hO.wider (RF_step HPI.out))
                clear hO LS HPI HD
                obtain ⟨_, d0, d1⟩ := CL.out _ HD1.out.below
                have hbA := (Below.refl v1.heap.size v1).alloc (Nat.le_refl _) (.cells #[.int .u8 ra, .int .u8 rb] 56)
                have hX := Blk.new v1 56 #[.int .u8 ra, .int .u8 rb]
                have HX := hid_mk hX
                have HD2 := hid_mk (HD1.out.grow hbA)
                have nX : Hid (¬ F2 v1.heap.size) := fun hf => Nat.lt_irrefl _ (HD1.out.g.lt _ hf)
                have x0 := hX.at (j := 0) rfl
                have x1 := hX.at (j := 1) rfl
                have CG2 := hid_mk (CG.out _ _ (HD2.out.g.kept (W' := (v1.alloc (.cells #[.int .u8 ra, .int .u8 rb] 56)).drew) (fun _ _ => rfl) (Nat.le_refl _)))
                clear hbA hX CG
                go_wp2_with fail
                generalize v1.alloc (.cells #[.int .u8 ra, .int .u8 rb] 56) = v2 at *
                generalize v1.heap.size = X at *
                clear d0 d1 HD1 CL
                go_region_held3 (fun w' => w'.cell? ⟨X, 0, none⟩ = some (.int .u8 ra) ∧ w'.cell? ⟨X, 1, none⟩ = some (.int .u8 rb))
                  (first | go_keep | with_reducible exact hX3)
                  (first | (go_at_call 17; refine CG2.out.mono ?_; rintro e v3 ⟨X2, Y2, rfl, hT, hS⟩; have hX3 : v3.cell? ⟨X, 0, none⟩ = some (.int .u8 ra) ∧ v3.cell? ⟨X, 1, none⟩ = some (.int .u8 rb) := ⟨((Step.undrew hS).cell HX.out.lt nX.out).trans (HX.out.at (j := 0) rfl), ((Step.undrew hS).cell HX.out.lt nX.out).trans (HX.out.at (j := 1) rfl)⟩) | fail)
                have HD3 := hid_mk (HD2.out.stepG hT (Step.undrew hS))
                clear hT hS hX3 x0 x1 CG2 HX nX HD2
                rcases LT.out HD3.out.g.tb with ⟨hr, hO⟩ | ⟨hr, hO⟩
                · subst hr
                  have HT2 := hid_mk (hO.wider (RG_step HPJ.out))
                  clear hO LT HPJ
                  go_wp2
                  go_roundw
                  case rel => exact ⟨i + 1, ma + 1, mb + 1, s2, t2, X1, X2, Y1, Y2, by go_num, by go_num, by go_num, by omega, by omega, by omega, hws2, hwt2, HD3.out, HS2.out, HT2.out⟩
                  case measure => simp [intOf]; omega
                · subst hr
                  have HT2 := hid_mk (hO.wider (RG_step HPJ.out))
                  clear hO LT HPJ
                  go_wp2
                  go_roundw
                  case rel => exact ⟨i + 1, ma + 1, mb, s2, t2, X1, X2, Y1, Y2, by go_num, by go_num, by go_num, by omega, by omega, by omega, hws2, hwt2, HD3.out, HS2.out, HT2.out⟩
                  case measure => simp [intOf]; omega
              · subst hr
                have HS2 := hid_mk (hO.wider (RF_step HPI.out))
                clear hO LS HPI HD
                obtain ⟨_, d0, d1⟩ := CL.out _ HD1.out.below
                have hbA := (Below.refl v1.heap.size v1).alloc (Nat.le_refl _) (.cells #[.int .u8 ra, .int .u8 rb] 56)
                have hX := Blk.new v1 56 #[.int .u8 ra, .int .u8 rb]
                have HX := hid_mk hX
                have HD2 := hid_mk (HD1.out.grow hbA)
                have nX : Hid (¬ F2 v1.heap.size) := fun hf => Nat.lt_irrefl _ (HD1.out.g.lt _ hf)
                have x0 := hX.at (j := 0) rfl
                have x1 := hX.at (j := 1) rfl
                have CG2 := hid_mk (CG.out _ _ (HD2.out.g.kept (W' := (v1.alloc (.cells #[.int .u8 ra, .int .u8 rb] 56)).drew) (fun _ _ => rfl) (Nat.le_refl _)))
                clear hbA hX CG
                go_wp2_with fail
                generalize v1.alloc (.cells #[.int .u8 ra, .int .u8 rb] 56) = v2 at *
                generalize v1.heap.size = X at *
                clear d0 d1 HD1 CL
                go_region_held3 (fun w' => w'.cell? ⟨X, 0, none⟩ = some (.int .u8 ra) ∧ w'.cell? ⟨X, 1, none⟩ = some (.int .u8 rb))
                  (first | go_keep | with_reducible exact hX3)
                  (first | (go_at_call 17; refine CG2.out.mono ?_; rintro e v3 ⟨X2, Y2, rfl, hT, hS⟩; have hX3 : v3.cell? ⟨X, 0, none⟩ = some (.int .u8 ra) ∧ v3.cell? ⟨X, 1, none⟩ = some (.int .u8 rb) := ⟨((Step.undrew hS).cell HX.out.lt nX.out).trans (HX.out.at (j := 0) rfl), ((Step.undrew hS).cell HX.out.lt nX.out).trans (HX.out.at (j := 1) rfl)⟩) | fail)
                have HD3 := hid_mk (HD2.out.stepG hT (Step.undrew hS))
                clear hT hS hX3 x0 x1 CG2 HX nX HD2
                rcases LT.out HD3.out.g.tb with ⟨hr, hO⟩ | ⟨hr, hO⟩
                · subst hr
                  have HT2 := hid_mk (hO.wider (RG_step HPJ.out))
                  clear hO LT HPJ
                  go_wp2
                  go_roundw
                  case rel => exact ⟨i + 1, ma, mb + 1, s2, t2, X1, X2, Y1, Y2, by go_num, by go_num, by go_num, by omega, by omega, by omega, hws2, hwt2, HD3.out, HS2.out, HT2.out⟩
                  case measure => simp [intOf]; omega
                · subst hr
                  have HT2 := hid_mk (hO.wider (RG_step HPJ.out))
                  clear hO LT HPJ
                  go_wp2
                  go_roundw
                  case rel => exact ⟨i + 1, ma, mb, s2, t2, X1, X2, Y1, Y2, by go_num, by go_num, by go_num, by omega, by omega, by omega, hws2, hwt2, HD3.out, HS2.out, HT2.out⟩
                  case measure => simp [intOf]; omega
          · obtain rfl : i = m := by omega
            have hli : ¬ (i : Int) < (i : Int) := by omega
            have hlen := (prs_len k qs).trans HM.out
            have hAl := HS.out.alike HT.out (fun v u => by have := RF_all (L := prs k qs) v u; rw [hlen] at this; exact this)
            obtain ⟨hmm, hAl⟩ := hAl
            subst hmm
            have HAl := hid_mk hAl
            have hld := HS.out.ld
            have HLD := hid_mk hld
            clear hAl hlen hld
            go_wp2
            go_loopw [19, 20] (fun vt vv wr => ∃ (j : Nat), vv = .int .i64 ((j : Int) + 1) ∧ vt = .int .i64 (sumN (leadN k s) j) ∧ j ≤ k ∧ Hid (Du w wr F1 Bf G1 s F2 Bg G2 t)) (fun _ vv _ => k + 1 - (intOf vv).toNat)
            case atStart => exact ⟨0, rfl, rfl, Nat.zero_le _, HD.out⟩
            case round =>
              clear HD
              obtain ⟨j, rfl, rfl, hjk, HD⟩ := hrel
              by_cases hj : j < k
              · have hle3 : (j : Int) + 1 ≤ (k : Int) := by omega
                have hv : 1 ≤ (j : Int) + 1 ∧ (j : Int) + 1 ≤ (k : Int) := by omega
                have hki : k + i ≤ 10000 := by omega
                obtain ⟨rs1, rs2, rs3⟩ := HS.out.reads (by omega) HD.out.f.tb hv
                obtain ⟨rt1, rt2, rt3⟩ := HT.out.reads (by omega) HD.out.g.tb hv
                obtain ⟨q1, q2, q3, q4⟩ := HAl.out _ hv
                have q5 := q4 1 ⟨by omega, by omega⟩
                rw [← q1] at rt1
                rw [← q2] at rt2
                rw [← q3] at rt3
                have hlow := HS.out.low hv
                have hbd := sumN_bd (f := leadN k s) (n := j) (c := 1) (by omega) (fun u hu => by unfold leadN; split <;> omega)
                have hsc : sumN (leadN k s) (j + 1) = sumN (leadN k s) j + (if minN (lU k s ((j : Int) + 1)) k = (k : Int) - ((j : Int) + 1) then 1 else 0) := rfl
                have CZf : Hid (∀ wx F G, Tf Y0 wx F Bf G s → Calls Try.prog 18 #[.pointer (some ⟨Bf, 0, none⟩), .int .i64 ((j : Int) + 1)] wx fun e w' => e = .returned (.int .i64 (sumN (cU s ((j : Int) + 1)) k)) ∧ Below wx.heap.size wx w') := fun wx F G h => by
                  have := fsize_any h ((j : Int) + 1) hws.le hki
                  rw [rs1] at this
                  exact this
                have CZg : Hid (∀ wx F G, Tf Y0 wx F Bg G t → Calls Try.prog 18 #[.pointer (some ⟨Bg, 0, none⟩), .int .i64 ((j : Int) + 1)] wx fun e w' => e = .returned (.int .i64 (sumN (cU s ((j : Int) + 1)) k)) ∧ Below wx.heap.size wx w') := fun wx F G h => by
                  have := fsize_any h ((j : Int) + 1) hwt.le hki
                  rw [rt1] at this
                  exact this
                have CSf : Hid (∀ wx F G, Tf Y0 wx F Bf G s → Calls Try.prog 19 #[.pointer (some ⟨Bf, 0, none⟩), .int .i64 ((j : Int) + 1)] wx fun e w' => e = .returned (.int .i64 (sumN (sU s ((j : Int) + 1)) k)) ∧ Below wx.heap.size wx w') := fun wx F G h => by
                  have := fsum_any h ((j : Int) + 1) hws.le hki
                  rw [rs2] at this
                  exact this
                have CSg : Hid (∀ wx F G, Tf Y0 wx F Bg G t → Calls Try.prog 19 #[.pointer (some ⟨Bg, 0, none⟩), .int .i64 ((j : Int) + 1)] wx fun e w' => e = .returned (.int .i64 (sumN (sU s ((j : Int) + 1)) k)) ∧ Below wx.heap.size wx w') := fun wx F G h => by
                  have := fsum_any h ((j : Int) + 1) hwt.le hki
                  rw [rt2] at this
                  exact this
                have CTf : Hid (∀ wx F G, Tf Y0 wx F Bf G s → Calls Try.prog 20 #[.pointer (some ⟨Bf, 0, none⟩), .int .i64 ((j : Int) + 1)] wx fun e w' => e = .returned (.int .i64 (minN (lU k s ((j : Int) + 1)) k)) ∧ Below wx.heap.size wx w') := fun wx F G h => by
                  have := fleast_any h ((j : Int) + 1) hws.le hki
                  rw [rs3] at this
                  exact this
                have CTg : Hid (∀ wx F G, Tf Y0 wx F Bg G t → Calls Try.prog 20 #[.pointer (some ⟨Bg, 0, none⟩), .int .i64 ((j : Int) + 1)] wx fun e w' => e = .returned (.int .i64 (minN (lU k s ((j : Int) + 1)) k)) ∧ Below wx.heap.size wx w') := fun wx F G h => by
                  have := fleast_any h ((j : Int) + 1) hwt.le hki
                  rw [rt3] at this
                  exact this
                have CMf : Hid (∀ wx F G, Tf Y0 wx F Bf G s → Calls Try.prog 21 #[.pointer (some ⟨Bf, 0, none⟩), .int .i64 ((j : Int) + 1), .int .i64 1] wx fun e w' => e = .returned (.bool (s.same ((j : Int) + 1) 1)) ∧ Below wx.heap.size wx w') := fun wx F G h => by
                  have := fsame_any h ((j : Int) + 1) 1 hws.le hki
                  exact this
                have CMg : Hid (∀ wx F G, Tf Y0 wx F Bg G t → Calls Try.prog 21 #[.pointer (some ⟨Bg, 0, none⟩), .int .i64 ((j : Int) + 1), .int .i64 1] wx fun e w' => e = .returned (.bool (s.same ((j : Int) + 1) 1)) ∧ Below wx.heap.size wx w') := fun wx F G h => by
                  have := fsame_any h ((j : Int) + 1) 1 hwt.le hki
                  rw [← q5] at this
                  exact this
                clear rs1 rs2 rs3 rt1 rt2 rt3 q1 q2 q3 q4 q5
                have HSC := hid_mk hsc
                clear hsc
                generalize sumN (cU s ((j : Int) + 1)) k = cv at *
                generalize sumN (sU s ((j : Int) + 1)) k = sv at *
                generalize minN (lU k s ((j : Int) + 1)) k = lv at *
                generalize s.same ((j : Int) + 1) 1 = sm at *
                obtain ⟨T, hT⟩ : ∃ T, T = sumN (leadN k s) j := ⟨_, rfl⟩
                rw [← hT] at hbd HSC ⊢
                clear hT
                have hnl : ¬ (k : Int) - ((j : Int) + 1) < lv := by omega
                have hnl' : decide ((k : Int) - ((j : Int) + 1) < lv) = false := by simpa using hnl
                go_wp2_with fail
                refine (CZf.out _ _ _ HD.out.f).mono ?_
                rintro e y1 ⟨rfl, hb⟩
                have HE1 := hid_mk (HD.out.grow hb)
                clear hb HD
                go_wp2_with fail
                refine (CZg.out _ _ _ HE1.out.g).mono ?_
                rintro e y2 ⟨rfl, hb⟩
                have HE2 := hid_mk (HE1.out.grow hb)
                clear hb HE1
                go_wp2_with fail
                refine (CSf.out _ _ _ HE2.out.f).mono ?_
                rintro e y3 ⟨rfl, hb⟩
                have HE3 := hid_mk (HE2.out.grow hb)
                clear hb HE2
                go_wp2_with fail
                refine (CSg.out _ _ _ HE3.out.g).mono ?_
                rintro e y4 ⟨rfl, hb⟩
                have HE4 := hid_mk (HE3.out.grow hb)
                clear hb HE3
                go_wp2_with fail
                refine (CTf.out _ _ _ HE4.out.f).mono ?_
                rintro e y5 ⟨rfl, hb⟩
                have HE5 := hid_mk (HE4.out.grow hb)
                clear hb HE4
                go_wp2_with fail
                refine (CTg.out _ _ _ HE5.out.g).mono ?_
                rintro e y6 ⟨rfl, hb⟩
                have HE6 := hid_mk (HE5.out.grow hb)
                clear hb HE5
                go_wp2_with fail
                refine (CMf.out _ _ _ HE6.out.f).mono ?_
                rintro e y7 ⟨rfl, hb⟩
                have HE7 := hid_mk (HE6.out.grow hb)
                clear hb HE6
                go_wp2_with fail
                refine (CMg.out _ _ _ HE7.out.g).mono ?_
                rintro e y8 ⟨rfl, hb⟩
                have HE8 := hid_mk (HE7.out.grow hb)
                clear hb HE7
                go_wp2_with fail
                refine (CTf.out _ _ _ HE8.out.f).mono ?_
                rintro e y9 ⟨rfl, hb⟩
                have HE9 := hid_mk (HE8.out.grow hb)
                clear hb HE8
                go_wp2_with fail
                refine (CTf.out _ _ _ HE9.out.f).mono ?_
                rintro e y10 ⟨rfl, hb⟩
                have HE10 := hid_mk (HE9.out.grow hb)
                clear hb HE9
                clear CZf CZg CSf CSg CTf CTg CMf CMg
                by_cases hl : lv = (k : Int) - ((j : Int) + 1)
                · have hs1 := HSC.out
                  rw [if_pos hl] at hs1
                  have HS1 := hid_mk hs1
                  have hlb : (lv == (k : Int) - ((j : Int) + 1)) = true := by simpa using hl
                  clear hs1 HSC hl
                  go_wp2
                  go_roundw
                  case rel => exact ⟨j + 1, by go_num, by rw [HS1.out]; try go_num, by omega, HE10.out⟩
                  case measure => simp [intOf]; omega
                · have hs1 := HSC.out
                  rw [if_neg hl] at hs1
                  have HS1 := hid_mk hs1
                  have hlb : (lv == (k : Int) - ((j : Int) + 1)) = false := by simpa using hl
                  clear hs1 HSC hl
                  go_wp2
                  go_roundw
                  case rel => exact ⟨j + 1, by go_num, by rw [HS1.out]; try simp, by omega, HE10.out⟩
                  case measure => simp [intOf]; omega
              · obtain rfl : j = k := by omega
                have hle3 : ¬ (j : Int) + 1 ≤ (j : Int) := by omega
                have hT : sumN (leadN j s) j = (j : Int) - (ma : Int) := by have := HLD.out; omega
                rw [hT]
                have HB9 := hid_mk HD.out.below
                clear hT HLD HD
                go_wp2
                go_ret
                exact ⟨ret_of (by simp), HB9.out⟩
end Go.Proofs.Ytkpfonfcgoocfaa
