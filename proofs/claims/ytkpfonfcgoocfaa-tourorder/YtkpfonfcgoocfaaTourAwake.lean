/- Layer 7's statements: awake (by tools/gen_tawake.py). -/
import Derived.Test.YtkpfonfcgoocfaaTourClosed
import Derived.Test.YtkpfonfcgoocfaaKit
import Derived.Test.YtkpfonfcgoocfaaDrawOpen
namespace Go.Proofs.Ytkpfonfcgoocfaa
open Go.RowKit Go.Shelf
attribute [local go_sem] Oper.semAt_some
set_option linter.unusedVariables false
theorem ownFrom_but {β : Type} {X : World} {M n : Nat} (hn : n ≤ X.heap.size) : OwnFrom n (fun (_ : β) A => But n M X A) := fun s A A' row hs hg hr =>
  ⟨hg.os.trans hs.os, hg.tape.trans hs.tape, hg.output.trans hs.output, Nat.le_trans hs.size hg.size, fun k hk hne => (hg.block k (Nat.lt_of_lt_of_le hk (Nat.le_trans hn hs.size)) (fun e => by have := (hr k e.symm).1; omega)).trans (hs.block k hk hne)⟩
set_option maxRecDepth 100000 in
set_option maxHeartbeats 4000000 in
theorem tawk_any (w : World) : Calls Try.prog 13 #[] w fun e w' => e = .returned (.bool true) ∧ Below w.heap.size w w' := by
  have hnil := vertF_nil
  refine (callsIn_wide (n := 9)).1 ?_
  refine callsIn_of_wp_marks Try.func13 rfl trivial ?_ rfl
  simp only [Try.ntmps13, List.size_toArray, List.length_nil, Nat.reduceSub, Array.replicate_succ, Array.replicate_zero, List.push_toArray, List.append_toArray, List.nil_append, List.cons_append]
  gi_wp2_with fail
  refine ⟨trivial, ?_⟩
  gi_at_call 15
  refine (callsIn_wide.2 (made7_any none 0 [] w (.inl rfl) (fun z hz => (by simp at hz)) (by simp))).mono ?_
  rintro e w0 ⟨B, F0, rfl, hT, hF, hb⟩
  have H0 : Hid (Tf Y0 w0 F0 B 0 aw0) := hT
  have B0 := hid_mk hb
  have Q0 := hid_mk hF
  clear hT hF hb
  gi_wp2_with fail
  refine ⟨trivial, ?_⟩
  gi_at_call 16
  refine (callsIn_wide.2 (aw1_c H0.out)).mono ?_
  rintro e w1 ⟨F1, rfl, hT, hS⟩
  have H1 := hid_mk hT
  have B1 := hid_mk (hS.start B0.out (Nat.le_refl _) Q0.out)
  have Q1 := hid_mk (hS.from B0.out.size Q0.out)
  clear hT hS H0 B0 Q0
  gi_wp2_with fail
  refine ⟨trivial, ?_⟩
  gi_at_call 16
  refine (callsIn_wide.2 (aw2_c H1.out)).mono ?_
  rintro e w2 ⟨F2, rfl, hT, hS⟩
  have H2 := hid_mk hT
  have B2 := hid_mk (hS.start B1.out (Nat.le_refl _) Q1.out)
  have Q2 := hid_mk (hS.from B1.out.size Q1.out)
  clear hT hS H1 B1 Q1
  gi_wp2_with fail
  refine ⟨trivial, ?_⟩
  gi_at_call 16
  refine (callsIn_wide.2 (aw3_c H2.out)).mono ?_
  rintro e w3 ⟨F3, rfl, hT, hS⟩
  have H3 := hid_mk hT
  have B3 := hid_mk (hS.start B2.out (Nat.le_refl _) Q2.out)
  have Q3 := hid_mk (hS.from B2.out.size Q2.out)
  clear hT hS H2 B2 Q2
  gi_wp2_with fail
  refine ⟨trivial, ?_⟩
  gi_at_call 17
  refine (callsIn_wide.2 (aw4_c H3.out)).mono ?_
  rintro e w4 ⟨F4, G4, rfl, hT, hS⟩
  have H4 := hid_mk hT
  have B4 := hid_mk (hS.start B3.out (Nat.le_refl _) Q3.out)
  have Q4 := hid_mk (hS.from B3.out.size Q3.out)
  clear hT hS H3 B3 Q3
  gi_wp2_with fail
  refine ⟨trivial, ?_⟩
  gi_at_call 17
  refine (callsIn_wide.2 (aw5_c H4.out)).mono ?_
  rintro e w5 ⟨F5, G5, rfl, hT, hS⟩
  have H5 := hid_mk hT
  have B5 := hid_mk (hS.start B4.out (Nat.le_refl _) Q4.out)
  have Q5 := hid_mk (hS.from B4.out.size Q4.out)
  clear hT hS H4 B4 Q4
  gi_wp2_with fail
  refine ⟨trivial, ?_⟩
  gi_at_call 17
  refine (callsIn_wide.2 (aw6_c H5.out)).mono ?_
  rintro e w6 ⟨F6, G6, rfl, hT, hS⟩
  have H6 := hid_mk hT
  have B6 := hid_mk (hS.start B5.out (Nat.le_refl _) Q5.out)
  have Q6 := hid_mk (hS.from B5.out.size Q5.out)
  clear hT hS H5 B5 Q5
  gi_wp2_with fail
  refine ⟨trivial, ?_⟩
  gi_at_call 18
  refine (callsIn_wide.2 (aw6_size1_ H6.out)).mono ?_
  rintro e w7 ⟨rfl, hb⟩
  have H7 := hid_mk (H6.out.below hb)
  have B7 := hid_mk (B6.out.trans (hb.mono B6.out.size))
  have Q7 := Q6
  clear hb H6 B6 Q6
  gi_wp2_with fail
  refine ⟨trivial, ?_⟩
  gi_at_call 19
  refine (callsIn_wide.2 (aw6_sum3_ H7.out)).mono ?_
  rintro e w8 ⟨rfl, hb⟩
  have H8 := hid_mk (H7.out.below hb)
  have B8 := hid_mk (B7.out.trans (hb.mono B7.out.size))
  have Q8 := Q7
  clear hb H7 B7 Q7
  gi_wp2_with fail
  refine ⟨trivial, ?_⟩
  gi_at_call 20
  refine (callsIn_wide.2 (aw6_least1_ H8.out)).mono ?_
  rintro e w9 ⟨rfl, hb⟩
  have H9 := hid_mk (H8.out.below hb)
  have B9 := hid_mk (B8.out.trans (hb.mono B8.out.size))
  have Q9 := Q8
  clear hb H8 B8 Q8
  gi_wp2_with fail
  refine ⟨trivial, ?_⟩
  gi_at_call 57
  refine (callsIn_wide.2 (aw7_c H9.out)).mono ?_
  rintro e w10 ⟨F10, rfl, hT, hS⟩
  have H10 := hid_mk hT
  have B10 := hid_mk (hS.start B9.out (Nat.le_refl _) Q9.out)
  have Q10 := hid_mk (hS.from B9.out.size Q9.out)
  clear hT hS H9 B9 Q9
  gi_wp2_with fail
  refine ⟨trivial, ?_⟩
  gi_at_call 58
  refine (callsIn_wide.2 (aw7_findv1_ H10.out)).mono ?_
  rintro e w11 ⟨rfl, hb⟩
  have H11 := hid_mk (H10.out.below hb)
  have B11 := hid_mk (B10.out.trans (hb.mono B10.out.size))
  have Q11 := Q10
  clear hb H10 B10 Q10
  gi_wp2_with fail
  refine ⟨trivial, ?_⟩
  gi_at_call 59
  refine (callsIn_wide.2 (aw8_c H11.out)).mono ?_
  rintro e w12 ⟨F12, rfl, hT, hS⟩
  have H12 := hid_mk hT
  have B12 := hid_mk (hS.start B11.out (Nat.le_refl _) Q11.out)
  have Q12 := hid_mk (hS.from B11.out.size Q11.out)
  clear hT hS H11 B11 Q11
  gi_wp2_with fail
  refine ⟨trivial, ?_⟩
  gi_at_call 60
  refine (callsIn_wide.2 (aw8_finde1_ H12.out)).mono ?_
  rintro e w13 ⟨rfl, hb⟩
  have H13 := hid_mk (H12.out.below hb)
  have B13 := hid_mk (B12.out.trans (hb.mono B12.out.size))
  have Q13 := Q12
  clear hb H12 B12 Q12
  gi_wp2_with fail
  refine ⟨trivial, ?_⟩
  gi_at_call 61
  refine (callsIn_wide.2 (aw8_ends2_ H13.out)).mono ?_
  rintro e w14 ⟨rfl, hb⟩
  have H14 := hid_mk (H13.out.below hb)
  have B14 := hid_mk (B13.out.trans (hb.mono B13.out.size))
  have Q14 := Q13
  clear hb H13 B13 Q13
  gi_wp2_with fail
  refine ⟨trivial, ?_⟩
  gi_at_call 62
  refine (callsIn_wide.2 (aw9_c H14.out)).mono ?_
  rintro e w15 ⟨F15, rfl, hT, hS⟩
  have H15 := hid_mk hT
  have B15 := hid_mk (hS.start B14.out (Nat.le_refl _) Q14.out)
  have Q15 := hid_mk (hS.from B14.out.size Q14.out)
  clear hT hS H14 B14 Q14
  gi_wp2_with fail
  refine ⟨trivial, ?_⟩
  gi_at_call 63
  refine (callsIn_wide.2 (aw10_c H15.out)).mono ?_
  rintro e w16 ⟨F16, rfl, hT, hS⟩
  have H16 := hid_mk hT
  have B16 := hid_mk (hS.start B15.out (Nat.le_refl _) Q15.out)
  have Q16 := hid_mk (hS.from B15.out.size Q15.out)
  clear hT hS H15 B15 Q15
  gi_wp2_with fail
  refine ⟨trivial, ?_⟩
  gi_at_call 64
  refine (callsIn_wide.2 (aw11_c H16.out)).mono ?_
  rintro e w17 ⟨F17, rfl, hT, hS⟩
  have H17 := hid_mk hT
  have B17 := hid_mk (hS.start B16.out (Nat.le_refl _) Q16.out)
  have Q17 := hid_mk (hS.from B16.out.size Q16.out)
  clear hT hS H16 B16 Q16
  have hb := (Below.refl w17.heap.size w17).alloc (Nat.le_refl _) (.cells #[.int .i64 0] 3)
  have hM := Blk.new w17 3 #[.int .i64 0]
  have hMF : ¬ F17 w17.heap.size := fun hf => Nat.lt_irrefl _ (H17.out.lt _ hf)
  have hwM : w.heap.size ≤ w17.heap.size := B17.out.size
  have H := hid_mk (H17.out.below hb)
  have BB := hid_mk (B17.out.trans (hb.mono B17.out.size))
  clear hb H17 B17
  gi_wp2_with fail
  generalize w17.alloc (.cells #[.int .i64 0] 3) = x0 at *
  generalize w17.heap.size = M at *
  refine ⟨trivial, ?_⟩
  gi_at_call 65
  refine (callsIn_wide.2 (vertices_ab _ _ _)).mono ?_
  rintro e x1 ⟨b1, c1, rfl, _, _, _, hb⟩
  have H1 := hid_mk (H.out.below hb)
  have BB1 := hid_mk (BB.out.trans (hb.mono BB.out.size))
  replace hM := hM.below hb
  clear hb H BB
  gi_wp2_with fail
  refine ⟨trivial, ?_⟩
  gi_at_call 65
  refine (callsIn_wide.2 (vertices_ab _ _ _)).mono ?_
  rintro e X2 ⟨b, c, rfl, hx2, _, _, hb⟩
  have H2 := hid_mk (H1.out.below hb)
  have BB2 := hid_mk (BB1.out.trans (hb.mono BB1.out.size))
  replace hM := hM.below hb
  clear hb H1 BB1 hnil
  have hLs : ∀ X, Below X2.heap.size X2 X → Calls Try.prog 108 #[.pointer (some ⟨B, 0, none⟩), .int .i64 1] X fun e w' => ∃ ao cap, e = .returned (.slice ao ([2, 1] : List Int).length cap) ∧ ListW X w' ao cap [2, 1] ∧ Below X.heap.size X w' := fun X hX => by
    have := flisted_any (H2.out.below hX) 1 (N := 2) aw11_size1_0 (by omega) aw_p aw11_le (by omega)
    rw [aw_verts] at this
    exact this
  have HSQ := hid_mk (vert1_seq (n := 8) (by omega) b c _ 1 X2 hx2 [2, 1] (by simp) hLs)
  have hMl := hM.lt
  have HM := hid_mk hM
  clear hx2 hLs hM
  gi_wp2_with fail
  refine range_own rfl (by omega) (gf := 107) (lb := #[.pointer (some ⟨b, 0, none⟩), .pointer (some ⟨c, 0, none⟩)]) rfl trivial (enters_of Try.func107 (by kernel_rfl) rfl) HSQ.out (Below.refl _ _) (fun _ => rfl)
    (fun pre A => Blk A M 3 #[.int .i64 (pre.length : Int)] ∧ But X2.heap.size M X2 A) (fun _ _ _ => False)
    (OwnFrom.and (Own.from (blk_own _ _ (fun pre : List Int => #[.int .i64 (pre.length : Int)])) _) (ownFrom_but (Nat.le_refl _))) (fun _ _ _ _ _ hs _ _ => hs)
    ⟨HM.out, But.refl _ _ _⟩ ?a1 ?assign ?body ?done ?stop
  case assign =>
    intro l' x A Kk hK
    gi_wp2
    exact hK
  case body =>
    rintro l' pre x A ⟨hm, hBt⟩ ⟨hlp, _⟩
    have cm := hm.cell1
    have fm := hm.frozen 0
    have hpl : pre.length < 2 := hlp
    have hw1 : wrap64 ((pre.length : Int) + 1) = (pre.length : Int) + 1 := by unfold wrap64; omega
    have P0 : Hid (ownPostK (TagKept fun k t => X2.heap.size ≤ k ∧ t = 3) (fun pre A => Blk A M 3 #[.int .i64 (pre.length : Int)] ∧ But X2.heap.size M X2 A) (fun _ _ _ => False) (pre ++ [x]) A .normal { tmps := #[], defers := [] } (A.setCell ⟨M, 0, none⟩ (.int .i64 ((pre.length : Int) + 1)))) := by
      refine ⟨KeepsOthers.setCell A ⟨M, 0, none⟩ _, fun k cs' t fz hk hT => Below.heap_setCell A ⟨M, 0, none⟩ _ k (fun e => by have h1 := hT.1; have h2 : k = M := e; omega), ?_, hBt.set 0 _⟩
      have := hm.set1 (.int .i64 ((pre.length : Int) + 1))
      rw [List.length_append]
      simpa using this
    clear hm hBt
    gi_wp2
    exact P0.out
  case stop =>
    rintro D cc pre A hD hpre hF _
    exact hF.elim
  case done =>
    rintro D ys A hD rfl ⟨hm, hBt⟩ hK
    have HA : Tf Y0 A F17 B G6 aw11 := H2.out.kept (fun k hk => hBt.block k (H2.out.lt k hk) (fun e => hMF (e ▸ hk))) hBt.size
    have HBA : Below w.heap.size w A := BB2.out.trans ⟨hBt.os, hBt.tape, hBt.output, hBt.size, fun k hk => hBt.block k (by omega) (by omega)⟩
    have HD0 := hid_mk hK
    have hDl := (Array.getElem?_eq_some_iff.1 hK).1
    have hDw : w.heap.size < D := by omega
    have K0 := hid_mk HA
    have E0 := hid_mk HBA
    have m0 : Hid (Blk A M 3 #[.int .i64 2]) := hm
    clear hm hBt hK HA HBA H2 BB2 HM HSQ
    gi_wp2_with fail
    refine ⟨trivial, ?_⟩
    gi_at_call 21
    refine (callsIn_wide.2 (aw11_same13_ K0.out)).mono ?_
    rintro e v1 ⟨rfl, hb⟩
    have K1 := hid_mk (K0.out.below hb)
    have E1 := hid_mk (E0.out.trans (hb.mono E0.out.size))
    have HD1 := hid_mk ((hb.block D (Array.getElem?_eq_some_iff.1 HD0.out).1).trans HD0.out)
    have m1 := hid_mk (m0.out.below hb)
    clear hb K0 E0 HD0 m0
    gi_wp2_with fail
    refine ⟨trivial, ?_⟩
    gi_at_call 21
    refine (callsIn_wide.2 (aw11_same12_ K1.out)).mono ?_
    rintro e v2 ⟨rfl, hb⟩
    have K2 := hid_mk (K1.out.below hb)
    have E2 := hid_mk (E1.out.trans (hb.mono E1.out.size))
    have HD2 := hid_mk ((hb.block D (Array.getElem?_eq_some_iff.1 HD1.out).1).trans HD1.out)
    have m2 := hid_mk (m1.out.below hb)
    clear hb K1 E1 HD1 m1
    gi_wp2_with fail
    refine ⟨trivial, ?_⟩
    gi_at_call 19
    refine (callsIn_wide.2 (aw11_sum2_ K2.out)).mono ?_
    rintro e v3 ⟨rfl, hb⟩
    have K3 := hid_mk (K2.out.below hb)
    have E3 := hid_mk (E2.out.trans (hb.mono E2.out.size))
    have HD3 := hid_mk ((hb.block D (Array.getElem?_eq_some_iff.1 HD2.out).1).trans HD2.out)
    have m3 := hid_mk (m2.out.below hb)
    clear hb K2 E2 HD2 m2
    have cm := m3.out.cell1
    have HD7 := HD3
    have HB7 := E3
    gi_wp2
    refine ⟨by simp, .inl ⟨_, _, rfl, run_takeDeferred HD7.out, ?_⟩⟩
    have hpb : Below D v3 (v3.putObj D (.deferred none)) := ⟨rfl, rfl, rfl, by simp, fun k hk => World.putObj_heap_other (by omega)⟩
    refine ⟨.bool true, ?_, rfl, HB7.out.trans (hpb.mono (by omega))⟩
    simp [results, Try.f13, go_sem]
end Go.Proofs.Ytkpfonfcgoocfaa
