/- Layer 9's statements: of, same, wakes. -/
import Derived.Test.YthdmmjboaoonbabEdgesIter
import Derived.Test.YthdmmjboaoonbabOpens
namespace Go.Proofs.Ythdmmjboaoonbab
open Go.RowKit Go.Shelf
attribute [local go_sem] Oper.semAt_some
set_option linter.unusedVariables false

theorem RowW.nat6 {w : World} {ao : Option Addr} {n cap : Nat} {xs : List Int} (h : RowW w 3 1 (.slice ao n cap) n (i6s xs)) (hn : n = xs.length) : NAt .i64 w ao xs := by
  rcases h.2 with ⟨e, e0⟩ | ⟨g, cap', cur, e, hb, _⟩
  · left; cases e; exact List.eq_nil_of_length_eq_zero hn.symm
  · cases e
    exact .inr ⟨g, 0, rfl, hb.lt, fun i hi => by rw [Nat.zero_add]; exact h.cell (i6s_at hi)⟩
/-- The first numbers, at most so many. -/
def firstN (L : List Int) (most : Int) : List Int := if most < 1 then [] else L.take most.toNat
section
variable {F : Nat → Prop} {B : Nat} {s : Bg} {k : Nat}
set_option maxRecDepth 100000 in
set_option maxHeartbeats 800000 in
theorem of_none (p : Value) (v l most : Int) (hm : most < 1) (w : World) : Calls Try.prog 13 #[p, .int .i64 v, .int .i64 l, .int .i64 most] w fun e w' => e = .returned (.slice none 0 0) ∧ Below w.heap.size w w' := by
  have hr1 : Blk ((w.alloc (.cells #[.int .i64 most] 3)).alloc (.cells #[.slice none 0 0] 22)) w.heap.size 3 #[.int .i64 most] := (Blk.new w _ _).alloc _
  have c1 := hr1.cell1
  have HB := hid_mk (below_new ((Below.refl w.heap.size w).alloc (Nat.le_refl _) (.cells #[.int .i64 most] 3)) (Nat.le_refl _) (.cells #[.slice none 0 0] 22))
  clear hr1
  refine (callsIn_wide (n := 12)).1 ?_
  refine callsIn_of_wp_marks Try.func13 rfl trivial ?_ rfl
  simp only [Try.ntmps13, List.size_toArray, List.length_cons, List.length_nil, Nat.reduceAdd, Nat.reduceSub, Array.replicate_succ, Array.replicate_zero, List.push_toArray, List.append_toArray, List.nil_append, List.cons_append]
  gi_wp2
  refine ⟨.slice none 0 0, ?_, rfl, HB.out⟩
  simp [results, Try.f13, go_sem]
set_option maxRecDepth 100000 in
set_option maxHeartbeats 1600000 in
theorem of_some {w : World} (h : BgM w F B s k) (hk : k ≤ 100000) {v l most : Int} (ha : okP (v, l)) (hm : 1 ≤ most) (hm2 : most ≤ 9223372036854775807) :
    Calls Try.prog 13 #[.pointer (some ⟨B, 0, none⟩), .int .i64 v, .int .i64 l, .int .i64 most] w fun e w' => ∃ ao cap, e = .returned (.slice ao ((s.L (v, l)).take most.toNat).length cap) ∧ NAt .i64 w' ao ((s.L (v, l)).take most.toNat) ∧ Below w.heap.size w w' := by
  have HM := hid_mk h
  have hnil := ofF_nil
  obtain ⟨i0, hi, hz0, hz1, hz2⟩ := info_parts infoI6
  obtain ⟨W0, hW0⟩ : ∃ W0, W0 = (w.alloc (.cells #[.int .i64 most] 3)).alloc (.cells #[.slice none 0 0] 22) := ⟨_, rfl⟩
  have hr1 : Blk W0 w.heap.size 3 #[.int .i64 most] := by rw [hW0]; exact (Blk.new w _ _).alloc _
  have hr2 : Blk W0 (w.heap.size + 1) 22 #[.slice none 0 0] := by
    rw [hW0]
    have := Blk.new (w.alloc (.cells #[.int .i64 most] 3)) 22 #[.slice none 0 0]
    rwa [World.size_alloc] at this
  have HB0 : Hid (Below w.heap.size w W0) := by rw [hW0]; exact below_new ((Below.refl _ _).alloc (Nat.le_refl _) _) (Nat.le_refl _) _
  have HR1 := hid_mk hr1
  have HR2 := hid_mk hr2
  have c1 := hr1.cell1
  have hs0 : W0.heap.size = w.heap.size + 2 := by rw [hW0]; simp
  rw [hW0] at c1
  have HLl := hid_mk (h.1.len (v, l))
  have HA := hid_mk ha
  have hmn : ¬ most < 1 := by omega
  clear h hr1 hr2 ha
  refine (callsIn_wide (n := 12)).1 ?_
  refine callsIn_of_wp_marks Try.func13 rfl trivial ?_ rfl
  simp only [Try.ntmps13, List.size_toArray, List.length_cons, List.length_nil, Nat.reduceAdd, Nat.reduceSub, Array.replicate_succ, Array.replicate_zero, List.push_toArray, List.append_toArray, List.nil_append, List.cons_append]
  gi_wp2_with fail
  refine ⟨trivial, ?_⟩
  gi_at_call 8
  refine (callsIn_wide.2 (bof_ab _ _ _ _)).mono ?_
  rintro e w1 ⟨a1, b1, d1, rfl, hx1, _, _, _, hb1⟩
  rw [← hW0] at hb1
  have HR1a := hid_mk (HR1.out.below hb1)
  have HR2a := hid_mk (HR2.out.below hb1)
  have HB1 := hid_mk (HB0.out.trans (hb1.mono HB0.out.size))
  clear hx1 hb1 HR1 HR2 HB0 c1 hW0
  gi_wp2_with fail
  refine ⟨trivial, ?_⟩
  gi_at_call 8
  refine (callsIn_wide.2 (bof_ab _ _ _ _)).mono ?_
  rintro e X2 ⟨a2, b2, d2, rfl, hx2, _, _, _, hb2⟩
  have HRm := hid_mk (HR1a.out.below hb2)
  have HRx := HR2a.out.below hb2
  have HB2 := HB1.out.trans (hb2.mono HB1.out.size)
  have HI0 : Hid (∀ Z, Bag (w.heap.size + 1) 22 3 (fun q => Z ≤ q) (i6s []) X2) := fun Z => ⟨_, HRx, RowW.empty _ _ _, fun q hq => by cases hq⟩
  have hX2s : w.heap.size + 2 ≤ X2.heap.size := by have := HRx.lt; have := HB1.out.size; have := hb2.size; omega
  have HSQ := hid_mk (of1_seq (n := 11) (by omega) a2 b2 d2 HA.out (HM.out.below HB2) hk hx2)
  have HBB := hid_mk HB2
  obtain ⟨L, hL⟩ : ∃ L, L = s.L (v, l) := ⟨_, rfl⟩
  rw [← hL] at HSQ HLl
  have HLe := hid_mk hL
  clear hx2 hb2 HR1a HR2a HB1 HM HRx HB2 hnil hL
  gi_wp2_with fail
  refine range_ownZ rfl (by omega) (gf := 15) (lb := #[.pointer (some ⟨a2, 0, none⟩), .pointer (some ⟨b2, 0, none⟩), .pointer (some ⟨d2, 0, none⟩)]) rfl trivial (enters_of Try.func15 (by kernel_rfl) rfl) HSQ.out (Below.refl _ _) (fun _ => rfl)
    (fun Z pre A => Bag (w.heap.size + 1) 22 3 (fun q => Z ≤ q) (i6s pre) A ∧ Blk A w.heap.size 3 #[.int .i64 most] ∧ (Below w.heap.size w A ∧ (pre.length : Int) < most))
    (fun Z cc pre A => (cc = .exit 0 ∧ (pre.length : Int) = most) ∧ Bag (w.heap.size + 1) 22 3 (fun q => Z ≤ q) (i6s pre) A ∧ Below w.heap.size w A)
    (fun Z => OwnFrom.and (Own.from (Bag.own (fun pre => i6s pre)) _) (OwnFrom.and (Own.from (blk_own _ _ (fun _ => _)) _) (OwnFrom.and (ownFrom_below (by omega) (by omega)) (fun _ _ _ _ hs _ _ => hs))))
    (fun Z cc => OwnFrom.and (fun _ _ _ _ hs _ _ => hs) (OwnFrom.and (Own.from (Bag.own (fun pre => i6s pre)) _) (ownFrom_below (by omega) (by omega))))
    (fun Z => ⟨HI0.out Z, HRm.out, HBB.out, by simp; omega⟩) (fun _ _ _ _ => trivial) ?a1 ?assign ?body ?done ?stop
  case assign =>
    intro lq x A Kk hK
    gi_wp2
    exact hK
  case body =>
    rintro lq Z pre x A hZ0 hZ1 ⟨⟨u, hv1, hv2, hv3⟩, hR, hBl, hml⟩ ⟨hpl, hpx⟩
    have cv := hv1.cell1
    rw [i6s_len] at hv2
    have hv4 : u.ownBlock ≠ some (w.heap.size + 1) := fun e => (hv3 _ e).2 rfl
    have HV2 : Hid (RowW (A.alloc (.cells #[.int .i64 x] 3)) 3 1 u pre.length (i6s pre)) := hv2.kept fun q hq => heap_alloc_old _ _ q (hv2.lt hq)
    have hLn : L.length ≤ 100000 := Nat.le_trans HLl.out hk
    have hXZ : X2.heap.size ≤ Z := by omega
    gi_wp2_with (gi_at_builtin; refine wpListIn_append_row _ rfl _ _ 22 rfl 3 i0 (.int .i64 0) 1 8 Try.underlying22 hi hz0 hz1 hz2 rfl _ _ _ rfl HV2.out ⟨A.heap.size, 0, none⟩ 1 1 [.int .i64 x] rfl rfl (World.news_of_block (Blk.new A _ _)) (by simp [Value.oneCell']) (by omega) (by unfold maxLen; omega) (by omega) ?_)
    intro g cap w2 hown hgrow hat hlt
    obtain ⟨p1, p2, p3, p4, p5, p6⟩ := Bag.push hv1 hv2 hv4 hown hgrow (by simpa using hat)
    have cv2 := p6.cell1
    have fv2 := p6.frozen 0
    have cv3 := p1.cell1
    have hAl := hv1.lt
    have hRl := hR.lt
    have cm : (w2.setCell ⟨w.heap.size + 1, 0, none⟩ (.slice (some ⟨g, 0, none⟩) (pre.length + 1) cap)).cell? ⟨w.heap.size, 0, none⟩ = some (.int .i64 most) :=
      (World.cell?_of_block (w := A) (p5 w.heap.size hRl (by omega) (fun e => by have := (hv3 _ e).1; omega))).trans hR.cell1
    have P0 : Hid (BK X2.heap.size Z A (w2.setCell ⟨w.heap.size + 1, 0, none⟩ (.slice (some ⟨g, 0, none⟩) (pre.length + 1) cap)) ∧ Bag (w.heap.size + 1) 22 3 (fun q => Z ≤ q) (i6s (pre ++ [x])) (w2.setCell ⟨w.heap.size + 1, 0, none⟩ (.slice (some ⟨g, 0, none⟩) (pre.length + 1) cap)) ∧
        Blk (w2.setCell ⟨w.heap.size + 1, 0, none⟩ (.slice (some ⟨g, 0, none⟩) (pre.length + 1) cap)) w.heap.size 3 #[.int .i64 most] ∧ Below w.heap.size w (w2.setCell ⟨w.heap.size + 1, 0, none⟩ (.slice (some ⟨g, 0, none⟩) (pre.length + 1) cap))) := by
      have hAs := hBl.size
      refine ⟨⟨p4.size, fun q h1 h2 => p5 q (by omega) (by omega) (fun e => by have := (hv3 q e).1; omega)⟩, ⟨_, p1, ?_, fun q hq => ?_⟩, ?_, ?_⟩
      · rw [i6s_snoc, List.length_append, i6s_len]; exact p2
      · cases hq
        refine ⟨?_, p3⟩
        rcases hat with e | e
        · exact (hv3 _ e).1
        · show Z ≤ g; rw [e]; first | omega | (simp; omega)
      · exact (p5 w.heap.size hRl (by omega) (fun e => by have := (hv3 _ e).1; omega)).trans hR
      · exact hBl.trans ⟨hgrow.os, hgrow.tape, hgrow.output, p4.size, fun q hq => p5 q (by omega) (by omega) (fun e => by have := (hv3 q e).1; omega)⟩
    have hpl2 : ((pre ++ [x]).length : Int) = (pre.length : Int) + 1 := by simp
    have HP2 := hid_mk hpl2
    clear p1 p2 p3 p4 p5 p6 hown hgrow hat hlt hv1 hv2 hv3 HV2 hR hBl hpl2 hpl hpx
    by_cases hcmp : (pre.length : Int) + 1 = most
    · have hc1 : (((pre.length : Int) + 1) == most) = true := by simpa using hcmp
      have hc2 := hid_mk hcmp
      clear hcmp
      gi_wp2
      exact ⟨P0.out.1, ⟨rfl, by rw [HP2.out]; exact hc2.out⟩, P0.out.2.1, P0.out.2.2.2⟩
    · have hc1 : (((pre.length : Int) + 1) == most) = false := by simpa using hcmp
      have hc2 : Hid ((pre.length : Int) + 1 < most) := by show _ < _; omega
      clear hcmp
      gi_wp2
      exact ⟨P0.out.1, P0.out.2.1, P0.out.2.2.1, P0.out.2.2.2, by rw [HP2.out]; exact hc2.out⟩
  case stop =>
    rintro D Z cc pre A hD hpre ⟨⟨rfl, hpm⟩, ⟨u, hv1, hv2, hv3⟩, hBl⟩ hK
    rw [i6s_len] at hv2
    obtain ⟨ao, cap, rfl⟩ := hv2.form
    have cv := hv1.cell1
    have hE : pre = L.take most.toNat := by
      obtain ⟨t, ht⟩ := hpre
      rw [← ht, ← hpm]
      simp
    have HN : Hid (NAt .i64 A ao pre ∧ pre = L.take most.toNat) := ⟨hv2.nat6 rfl, hE⟩
    have HK' := hid_mk hK
    have HBl := hid_mk hBl
    clear hv1 hv2 hv3 hBl hK hE hpm hpre
    gi_wp2
    refine ⟨by simp, .inl ⟨_, _, rfl, run_takeDeferred HK'.out, ?_⟩⟩
    have hpb : Below D A (A.putObj D (.deferred none)) := ⟨rfl, rfl, rfl, by simp, fun q hq => World.putObj_heap_other (by omega)⟩
    refine ⟨.slice ao pre.length cap, ?_, ao, cap, ?_, ?_, HBl.out.trans (hpb.mono (by omega))⟩
    · simp [results, Try.f13, go_sem]
    · rw [← HLe.out, ← HN.out.2]
    · rw [← HLe.out, ← HN.out.2]
      rcases HN.out.1 with h1 | ⟨b', off, e1, e2, e3⟩
      · exact .inl h1
      · refine .inr ⟨b', off, e1, by simpa using e2, fun q hq => ?_⟩
        rw [World.cell?_of_block (w := A) (World.putObj_heap_other (fun e => ?_))]
        · exact e3 q hq
        · have h3 := e3 q hq
          subst e
          rw [World.cell?, HK'.out] at h3
          cases h3
  case done =>
    rintro D Z ys A hD hys ⟨⟨u, hv1, hv2, hv3⟩, hR, hBl, hml⟩ hK
    rw [i6s_len] at hv2
    obtain ⟨ao, cap, rfl⟩ := hv2.form
    have cv := hv1.cell1
    have hE : ys = L.take most.toNat := by
      rw [show ys = L from hys] at hml ⊢
      rw [List.take_of_length_le (by omega)]
    have HN : Hid (NAt .i64 A ao ys ∧ ys = L.take most.toNat) := ⟨hv2.nat6 rfl, hE⟩
    have HK' := hid_mk hK
    have HBl := hid_mk hBl
    clear hv1 hv2 hv3 hBl hK hE hml hys hR
    gi_wp2
    refine ⟨by simp, .inl ⟨_, _, rfl, run_takeDeferred HK'.out, ?_⟩⟩
    have hpb : Below D A (A.putObj D (.deferred none)) := ⟨rfl, rfl, rfl, by simp, fun q hq => World.putObj_heap_other (by omega)⟩
    refine ⟨.slice ao ys.length cap, ?_, ao, cap, ?_, ?_, HBl.out.trans (hpb.mono (by omega))⟩
    · simp [results, Try.f13, go_sem]
    · rw [← HLe.out, ← HN.out.2]
    · rw [← HLe.out, ← HN.out.2]
      rcases HN.out.1 with h1 | ⟨b', off, e1, e2, e3⟩
      · exact .inl h1
      · refine .inr ⟨b', off, e1, by simpa using e2, fun q hq => ?_⟩
        rw [World.cell?_of_block (w := A) (World.putObj_heap_other (fun e => ?_))]
        · exact e3 q hq
        · have h3 := e3 q hq
          subst e
          rw [World.cell?, HK'.out] at h3
          cases h3
set_option maxRecDepth 100000 in
set_option maxHeartbeats 1600000 in
theorem of_nilbag (v l most : Int) (w : World) : Calls Try.prog 13 #[.pointer none, .int .i64 v, .int .i64 l, .int .i64 most] w fun e w' => ∃ ao cap, e = .returned (.slice ao 0 cap) ∧ Below w.heap.size w w' := by
  by_cases hm : most < 1
  · refine (of_none _ v l most hm w).mono ?_
    rintro e w' ⟨rfl, hb⟩
    exact ⟨none, 0, rfl, hb⟩
  have hnil := ofF_nil
  obtain ⟨W0, hW0⟩ : ∃ W0, W0 = (w.alloc (.cells #[.int .i64 most] 3)).alloc (.cells #[.slice none 0 0] 22) := ⟨_, rfl⟩
  have hr1 : Blk W0 w.heap.size 3 #[.int .i64 most] := by rw [hW0]; exact (Blk.new w _ _).alloc _
  have hr2 : Blk W0 (w.heap.size + 1) 22 #[.slice none 0 0] := by
    rw [hW0]
    have := Blk.new (w.alloc (.cells #[.int .i64 most] 3)) 22 #[.slice none 0 0]
    rwa [World.size_alloc] at this
  have HB0 : Hid (Below w.heap.size w W0) := by rw [hW0]; exact below_new ((Below.refl _ _).alloc (Nat.le_refl _) _) (Nat.le_refl _) _
  have HR2 := hid_mk hr2
  have c1 := hr1.cell1
  have hs0 : W0.heap.size = w.heap.size + 2 := by rw [hW0]; simp
  rw [hW0] at c1
  clear hr1 hr2
  refine (callsIn_wide (n := 12)).1 ?_
  refine callsIn_of_wp_marks Try.func13 rfl trivial ?_ rfl
  simp only [Try.ntmps13, List.size_toArray, List.length_cons, List.length_nil, Nat.reduceAdd, Nat.reduceSub, Array.replicate_succ, Array.replicate_zero, List.push_toArray, List.append_toArray, List.nil_append, List.cons_append]
  gi_wp2_with fail
  refine ⟨trivial, ?_⟩
  gi_at_call 8
  refine (callsIn_wide.2 (bof_ab _ _ _ _)).mono ?_
  rintro e w1 ⟨a1, b1, d1, rfl, hx1, _, _, _, hb1⟩
  rw [← hW0] at hb1
  have HR2a := hid_mk (HR2.out.below hb1)
  have HB1 := hid_mk (HB0.out.trans (hb1.mono HB0.out.size))
  clear hx1 hb1 HR2 HB0 c1 hW0
  gi_wp2_with fail
  refine ⟨trivial, ?_⟩
  gi_at_call 8
  refine (callsIn_wide.2 (bof_ab _ _ _ _)).mono ?_
  rintro e X2 ⟨a2, b2, d2, rfl, hx2, _, _, _, hb2⟩
  have HRx := hid_mk (HR2a.out.below hb2)
  have HB2 := HB1.out.trans (hb2.mono HB1.out.size)
  have hX2s : w.heap.size + 2 ≤ X2.heap.size := by have := HRx.out.lt; have := HB1.out.size; have := hb2.size; omega
  have HSQ := hid_mk (of1_nil 11 (by omega) a2 b2 d2 v l X2 hx2)
  have HBB := hid_mk HB2
  clear hx2 hb2 HR2a HB1 HB2 hnil
  gi_wp2_with fail
  refine range_ownZ rfl (by omega) (gf := 15) (lb := #[.pointer (some ⟨a2, 0, none⟩), .pointer (some ⟨b2, 0, none⟩), .pointer (some ⟨d2, 0, none⟩)]) rfl trivial (enters_of Try.func15 (by kernel_rfl) rfl) HSQ.out (Below.refl _ _) (fun _ => rfl)
    (fun Z pre A => Blk A (w.heap.size + 1) 22 #[.slice none 0 0] ∧ Below w.heap.size w A) (fun Z cc pre A => False)
    (fun Z => OwnFrom.and (Own.from (blk_own _ _ (fun _ => _)) _) (ownFrom_below (by omega) (by omega))) (fun Z cc _ _ _ _ hs _ _ => hs)
    (fun Z => ⟨HRx.out, HBB.out⟩) (fun _ _ _ _ => trivial) ?a1 ?assign ?body ?done ?stop
  case assign =>
    intro lq x A Kk hK
    gi_wp2
    exact hK
  case body =>
    rintro lq Z pre x A hZ0 hZ1 _ ⟨hpl, hpx⟩
    exact absurd hpl (Nat.not_lt_zero _)
  case stop =>
    rintro D Z cc pre A hD hpre hF hK
    exact hF.elim
  case done =>
    rintro D Z ys A hD hys ⟨hR, hBl⟩ hK
    have cv := hR.cell1
    have HK' := hid_mk hK
    have HBl := hid_mk hBl
    clear hR hBl hK hys
    gi_wp2
    refine ⟨by simp, .inl ⟨_, _, rfl, run_takeDeferred HK'.out, ?_⟩⟩
    have hpb : Below D A (A.putObj D (.deferred none)) := ⟨rfl, rfl, rfl, by simp, fun q hq => World.putObj_heap_other (by omega)⟩
    refine ⟨.slice none 0 0, ?_, none, 0, rfl, HBl.out.trans (hpb.mono (by omega))⟩
    simp [results, Try.f13, go_sem]
/-- Whatever most. -/
theorem of_any {w : World} (h : BgM w F B s k) (hk : k ≤ 100000) {v l most : Int} (ha : okP (v, l)) (hm2 : most ≤ 9223372036854775807) :
    Calls Try.prog 13 #[.pointer (some ⟨B, 0, none⟩), .int .i64 v, .int .i64 l, .int .i64 most] w fun e w' => ∃ ao cap, e = .returned (.slice ao (firstN (s.L (v, l)) most).length cap) ∧ NAt .i64 w' ao (firstN (s.L (v, l)) most) ∧ Below w.heap.size w w' := by
  unfold firstN
  by_cases hm : most < 1
  · rw [if_pos hm]
    refine (of_none _ v l most hm w).mono ?_
    rintro e w' ⟨rfl, hb⟩
    exact ⟨none, 0, rfl, .inl rfl, hb⟩
  · rw [if_neg hm]
    exact of_some h hk ha (by omega) hm2
end
theorem same9_any {w : World} {ax ay : Option Addr} {cx cy : Nat} {xs ys : List Int} (hx : NAt .i64 w ax xs) (hy : NAt .i64 w ay ys) (h1 : xs.length ≤ 9000000000000000000) (h2 : ys.length ≤ 9000000000000000000) :
    Calls Try.prog 10 #[.slice ax xs.length cx, .slice ay ys.length cy] w fun e w' => e = .returned (.bool (decide (xs = ys))) ∧ Below w.heap.size w w' := by
  replace hx : xs = [] ∨ ∃ g off, ax = some ⟨g, off, none⟩ ∧ ∀ i, i < xs.length → w.cell? ⟨g, off + i, none⟩ = some (.int .i64 (lAt xs i)) := hx.imp id (fun ⟨b, off, e, _, h⟩ => ⟨b, off, e, h⟩)
  replace hy : ys = [] ∨ ∃ g off, ay = some ⟨g, off, none⟩ ∧ ∀ i, i < ys.length → w.cell? ⟨g, off + i, none⟩ = some (.int .i64 (lAt ys i)) := hy.imp id (fun ⟨b, off, e, _, h⟩ => ⟨b, off, e, h⟩)
  by_cases hl : xs.length = ys.length
  · have HX : Hid (xs = [] ∨ ∃ g off, ax = some ⟨g, off, none⟩ ∧ ∀ i, i < xs.length → w.cell? ⟨g, off + i, none⟩ = some (.int .i64 (lAt xs i))) := hx
    have HY : Hid (ys = [] ∨ ∃ g off, ay = some ⟨g, off, none⟩ ∧ ∀ i, i < ys.length → w.cell? ⟨g, off + i, none⟩ = some (.int .i64 (lAt ys i))) := hy
    clear hx hy
    have HD : Hid (∀ k, k < xs.length → lAt xs k ≠ lAt ys k → decide (xs = ys) = false) := fun k hk h => by
      have : xs ≠ ys := fun e => h (by rw [e])
      simpa using this
    have HE : Hid ((∀ i, i < xs.length → lAt xs i = lAt ys i) → decide (xs = ys) = true) := fun h => by
      have : xs = ys := list_ext hl h
      simpa using this
    generalize hN : xs.length = N at *
    rw [← hl]
    go_enter Try.func10, Try.ntmps10
    go_wp2
    go_loopw [5] (fun i wr => ∃ k : Nat, k ≤ N ∧ i = .int .i64 k ∧ Hid (∀ i, i < k → lAt xs i = lAt ys i) ∧ Below w.heap.size w wr) (fun i _ => N - (intOf i).toNat)
    case atStart => exact ⟨0, Nat.zero_le _, rfl, fun i hi => absurd hi (Nat.not_lt_zero _), Below.refl _ _⟩
    case round =>
      obtain ⟨k, hkn, rfl, HA, hB⟩ := hrel
      by_cases hlt : k < N
      · rcases HX.out with h | ⟨gx, ox, rfl, hxc⟩
        · rw [h] at hN; simp at hN; omega
        · rcases HY.out with h | ⟨gy, oy, rfl, hyc⟩
          · rw [h] at hl; simp at hl; omega
          · have a0 := hxc k (by omega)
            have b0 := hyc k (by omega)
            have a1 := (hB.cell (p := ⟨gx, _, none⟩) (cell_lt a0)).trans a0
            have b1 := (hB.cell (p := ⟨gy, _, none⟩) (cell_lt b0)).trans b0
            have g0 := Grow.cell (cell_lt a1) a1
            have g1 := Grow.cell (cell_lt b1) b1
            have gn := Grow.ne wr
            have HDk := HD.out k hlt
            have HDk' : Hid (lAt xs k ≠ lAt ys k → decide (xs = ys) = false) := HDk
            have HS : Hid (lAt xs k = lAt ys k → ∀ i, i < k + 1 → lAt xs i = lAt ys i) := fun e i hi => by
              by_cases h : i < k
              · exact HA.out i h
              · rw [show i = k by omega]; exact e
            clear hxc hyc a0 b0 HDk
            generalize lAt xs k = p at *
            generalize lAt ys k = q at *
            go_wp2
            refine wp_region_grow (by kernel_rfl) (by kernel_rfl) ?_
            repeat (go_big_quiet_step (fail))
            refine wpQuiet_nil ?_
            rintro w6 ⟨⟨_, hb6⟩, rfl⟩
            clear g0 g1 gn
            have hB6 := below_step hB hb6 (Nat.le_refl _)
            by_cases hpq : p = q
            · have e0 : (p != q) = false := by simp [hpq]
              rw [e0]
              have HS' : Hid (∀ i, i < k + 1 → lAt xs i = lAt ys i) := HS.out hpq
              clear HS e0
              go_wp2
              go_roundw
              case rel => exact ⟨k + 1, by omega, by go_num, HS', hB6⟩
              case measure => simp [intOf]; omega
            · have e0 : (p != q) = true := by simp [hpq]
              rw [e0]
              clear e0
              go_wp2
              go_ret
              exact ⟨ret_of (congrArg Value.bool (HDk'.out hpq).symm), hB6⟩
      · have hke : k = N := by omega
        subst hke
        go_wp2
        go_ret
        exact ⟨ret_of (congrArg Value.bool (HE.out HA.out).symm), hB⟩
  · have e0 : decide (xs = ys) = false := by
      have : xs ≠ ys := fun e => hl (by rw [e])
      simpa using this
    rw [e0]
    clear hx hy e0
    generalize xs.length = n at *
    generalize ys.length = m at *
    have e1 : ((n : Int) == (m : Int)) = false := by simp; omega
    go_enter Try.func10, Try.ntmps10
    go_wp2
    go_ret
    exact ⟨rfl, Below.refl _ _⟩
end Go.Proofs.Ythdmmjboaoonbab
