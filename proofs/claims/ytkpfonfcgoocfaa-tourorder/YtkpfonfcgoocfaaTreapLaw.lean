/- Layer 6's statements: walk. -/
import Derived.Test.YtkpfonfcgoocfaaTreapWalk
import Derived.Test.YtkpfonfcgoocfaaOpens
namespace Go.Proofs.Ytkpfonfcgoocfaa
open Go.RowKit Go.Shelf
attribute [local go_sem] Oper.semAt_some
set_option linter.unusedVariables false
variable {Xh : Hx}

def i64s (xs : List Int) : List Value := xs.map (Value.int .i64)
theorem i64s_len (xs : List Int) : (i64s xs).length = xs.length := by simp [i64s]
theorem i64s_at {xs : List Int} {i : Nat} (h : i < xs.length) : (i64s xs)[i]? = some (.int .i64 (lAt xs i)) := by unfold i64s; rw [List.getElem?_map, lAt_some h]; rfl
theorem i64s_snoc (xs : List Int) (x : Int) : i64s (xs ++ [x]) = i64s xs ++ [.int .i64 x] := by simp [i64s]
theorem infoI64 : (Try.prog.info? 3).map (fun i => (i.zero, i.size, i.bytes)) = some (some (.int .i64 0), 1, 8) := by kernel_rfl
theorem walkF_nil (b c : Nat) (w : World) : (binOp BinOp.eql 146 (walkF b c) Value.nilFunc).run Try.prog w = .ok (.bool false) w := by kernel_rfl
theorem RowW.nat {w : World} {ao : Option Addr} {n cap : Nat} {xs : List Int} (h : RowW w 3 1 (.slice ao n cap) n (i64s xs)) (hn : n = xs.length) : NAt .i64 w ao xs := by
  rcases h.2 with ⟨e, e0⟩ | ⟨g, cap', cur, e, hb, _⟩
  · left; cases e; exact List.eq_nil_of_length_eq_zero hn.symm
  · cases e
    exact .inr ⟨g, 0, rfl, hb.lt, fun i hi => by rw [Nat.zero_add]; exact h.cell (i64s_at hi)⟩
section
variable {F : Nat → Prop} {B : Nat} {K : List Bool} {fr : List Int} {S : Int → List Int} {V : Int → Vl} {mx : Nat}
set_option maxRecDepth 100000 in
set_option maxHeartbeats 800000 in
theorem twalk_any {w : World} (h : Tp Xh w F B K fr S V mx) (i : Int) (hb : -2147483648 ≤ i ∧ i ≤ 2147483647) (hl : (S i).length ≤ 1000) :
    Calls Try.prog 39 #[.pointer (some ⟨B, 0, none⟩), .int .i32 i] w fun e w' => ∃ ao cap, e = .returned (.slice ao (S i).length cap) ∧ NAt .i64 w' ao (S i) ∧ Below w.heap.size w w' := by
  have HT : Hid (Tp Xh w F B K fr S V mx) := h
  have hnil := walkF_nil
  obtain ⟨i0, hi, hz0, hz1, hz2⟩ := info_parts infoI64
  have hr1 : Blk ((w.alloc (.cells #[.slice none 0 0] 33)).alloc (.cells #[.slice none 0 0] 33)) w.heap.size 33 #[.slice none 0 0] := (Blk.new w _ _).alloc _
  have hr2 : Blk ((w.alloc (.cells #[.slice none 0 0] 33)).alloc (.cells #[.slice none 0 0] 33)) (w.heap.size + 1) 33 #[.slice none 0 0] := by
    have := Blk.new (w.alloc (.cells #[.slice none 0 0] 33)) 33 #[.slice none 0 0]
    rwa [World.size_alloc] at this
  have hb0 : Below w.heap.size w ((w.alloc (.cells #[.slice none 0 0] 33)).alloc (.cells #[.slice none 0 0] 33)) := below_new ((Below.refl _ _).alloc (Nat.le_refl _) _) (Nat.le_refl _) _
  have HR1 : Hid (Blk ((w.alloc (.cells #[.slice none 0 0] 33)).alloc (.cells #[.slice none 0 0] 33)) w.heap.size 33 #[.slice none 0 0]) := hr1
  have HR2 : Hid (Blk ((w.alloc (.cells #[.slice none 0 0] 33)).alloc (.cells #[.slice none 0 0] 33)) (w.heap.size + 1) 33 #[.slice none 0 0]) := hr2
  have HB0 : Hid (Below w.heap.size w ((w.alloc (.cells #[.slice none 0 0] 33)).alloc (.cells #[.slice none 0 0] 33))) := hb0
  have HMW : Hid ((S i).map wrap64 = S i) := by
    show _ = _
    rw [List.map_congr_left (g := id) (fun x hx => ?_), List.map_id]
    have h1 := isK_bd (h.mem.2 (by rw [h.same hx]; exact hx) : isK K x = true)
    have := h.klen
    show wrap64 x = x
    unfold wrap64
    omega
  clear h hr1 hr2 hb0
  refine (callsIn_wide (n := 9)).1 ?_
  refine callsIn_of_wp_marks Try.func39 rfl trivial ?_ rfl
  simp only [Try.ntmps39, List.size_toArray, List.length_cons, List.length_nil, Nat.reduceAdd, Nat.reduceSub, Array.replicate_succ, Array.replicate_zero, List.push_toArray, List.append_toArray, List.nil_append, List.cons_append]
  gi_wp2_with fail
  refine ⟨trivial, ?_⟩
  gi_at_call 93
  refine (callsIn_wide.2 (walk_ab _ _ _)).mono ?_
  rintro e w1 ⟨b1, c1, rfl, hx1, _, _, hb1⟩
  have HR1a : Hid (Blk w1 w.heap.size 33 #[.slice none 0 0]) := HR1.out.below hb1
  have HR2a : Hid (Blk w1 (w.heap.size + 1) 33 #[.slice none 0 0]) := HR2.out.below hb1
  have HB1 : Hid (Below w.heap.size w w1) := HB0.out.trans (hb1.mono (by simp; omega))
  clear hx1 hb1 HR1 HR2 HB0
  gi_wp2_with fail
  refine ⟨trivial, ?_⟩
  gi_at_call 93
  refine (callsIn_wide.2 (walk_ab _ _ _)).mono ?_
  rintro e X2 ⟨b, c, rfl, hx2, _, _, hb2⟩
  have HRx : Hid (Blk X2 w.heap.size 33 #[.slice none 0 0]) := HR1a.out.below hb2
  have HI0 : Hid (Bag (w.heap.size + 1) 33 3 (fun k => w.heap.size + 1 < k) (i64s []) X2) := ⟨_, HR2a.out.below hb2, RowW.empty _ _ _, fun k hk => by cases hk⟩
  have HB2 : Below w.heap.size w X2 := HB1.out.trans (hb2.mono HB1.out.size)
  have HSQ := walk1_seq (n := 8) (by omega) b c i X2 hx2 (HT.out.below HB2) hb
  have hX2s : w.heap.size + 1 < X2.heap.size := (HR2a.out.below hb2).lt
  have HSQ' : Hid _ := HSQ
  clear hx2 hb2 HR1a HR2a HB1 HSQ HT hnil
  gi_wp2_with fail
  refine range_own rfl (by omega) (gf := 128) (lb := #[.pointer (some ⟨b, 0, none⟩), .pointer (some ⟨c, 0, none⟩)]) rfl trivial (enters_of Try.func128 (by kernel_rfl) rfl) HSQ'.out (Below.refl _ _) (fun _ => rfl)
    (fun pre A => Bag (w.heap.size + 1) 33 3 (fun k => w.heap.size + 1 < k) (i64s (pre.map wrap64)) A ∧ Blk A w.heap.size 33 #[.slice none 0 0] ∧ Below w.heap.size w A) (fun _ _ _ => False)
    (OwnFrom.and (Own.from (Bag.own (fun pre => i64s (pre.map wrap64))) _) (OwnFrom.and (Own.from (blk_own _ _ (fun _ => _)) _) (ownFrom_below (by omega) (by omega)))) (fun _ _ _ _ _ hs _ _ => hs)
    ⟨HI0.out, HRx.out, HB2⟩ ?a1 ?assign ?body ?done ?stop
  case assign =>
    intro l' x A Kk hK
    gi_wp2
    exact hK
  case body =>
    rintro l' pre x A ⟨⟨v, hv1, hv2, hv3⟩, hR, hBl⟩ hlp
    replace hlp := hlp.1
    have cv := hv1.cell1
    rw [i64s_len, List.length_map] at hv2
    have hv4 : v.ownBlock ≠ some (w.heap.size + 1) := fun e => (hv3 _ e).2 rfl
    have HV2 : Hid (RowW (A.alloc (.cells #[.int .i64 (wrap64 x)] 3)) 3 1 v pre.length (i64s (pre.map wrap64))) := hv2.kept fun q hq => heap_alloc_old _ _ q (hv2.lt hq)
    have hpl : pre.length < 1000 := by omega
    gi_wp2_with (gi_at_builtin; refine wpListIn_append_row _ rfl _ _ 33 rfl 3 i0 (.int .i64 0) 1 8 Try.underlying33 hi hz0 hz1 hz2 rfl _ _ _ rfl HV2.out ⟨A.heap.size, 0, none⟩ 1 1 [.int .i64 (wrap64 x)] rfl rfl (World.news_of_block (Blk.new A _ _)) (by simp [Value.oneCell']) (by omega) (by unfold maxLen; omega) (by omega) ?_)
    intro g cap w2 hown hgrow hat hlt
    obtain ⟨p1, p2, p3, p4, p5, p6⟩ := Bag.push hv1 hv2 hv4 hown hgrow (by simpa using hat)
    have cv2 := p6.cell1
    have fv2 := p6.frozen 0
    have cv3 := p1.cell1
    have P0 : Hid (ownPostK (TagKept fun k t => X2.heap.size ≤ k ∧ t = 21) (fun pre A => Bag (w.heap.size + 1) 33 3 (fun k => w.heap.size + 1 < k) (i64s (pre.map wrap64)) A ∧ Blk A w.heap.size 33 #[.slice none 0 0] ∧ Below w.heap.size w A) (fun _ _ _ => False) (pre ++ [x]) A .normal { tmps := #[], defers := [] } (w2.setCell ⟨w.heap.size + 1, 0, none⟩ (.slice (some ⟨g, 0, none⟩) (pre.length + 1) cap))) := by
      have hAs := hBl.size
      have hAl := hv1.lt
      refine ⟨p4, fun k cs' t fz hk hT => p5 k (Array.getElem?_eq_some_iff.1 hk).1 (by omega) (fun e => ?_), ⟨_, p1, ?_, fun k hk => ?_⟩, ?_, ?_⟩
      · rcases hv2.2 with ⟨e0, _⟩ | ⟨g', cap', cur, e0, hb', _⟩
        · rw [e0] at e; cases e
        · rw [e0] at e; cases e
          rw [show A.heap[g']? = _ from hb'] at hk
          cases hk
          exact absurd hT.2 (by decide)
      · rw [List.map_append, List.map_cons, List.map_nil, i64s_snoc, List.length_append, i64s_len, List.length_map]; exact p2
      · cases hk
        refine ⟨?_, p3⟩
        rcases hat with e | e
        · exact (hv3 _ e).1
        · show w.heap.size + 1 < g; rw [e]; simp; omega
      · exact (p5 w.heap.size hR.lt (by omega) (fun e => by have := (hv3 _ e).1; omega)).trans hR
      · exact hBl.trans ⟨hgrow.os, hgrow.tape, hgrow.output, p4.size, fun k hk => p5 k (by omega) (by omega) (fun e => by have := (hv3 k e).1; omega)⟩
    have hgt : decide (1000 < ((pre.length : Int) + 1)) = false := by simp; omega
    clear p1 p2 p3 p4 p5 p6 hown hgrow hat hlt hv1 hv2 hv3 HV2 hR hBl
    gi_wp2
    exact P0.out
  case stop =>
    rintro D cc pre A hD hpre hF _
    exact hF.elim
  case done =>
    rintro D ys A hD rfl ⟨⟨v, hv1, hv2, hv3⟩, hR, hBl⟩ hK
    rw [HMW.out, i64s_len] at hv2
    obtain ⟨ao, cap, rfl⟩ := hv2.form
    have cv := hv1.cell1
    have cr := hR.cell1
    have fr0 := hR.frozen 0
    have hR1 := hR.set1 (.slice ao (S i).length cap)
    have hrow : RowW (A.setCell ⟨w.heap.size, 0, none⟩ (.slice ao (S i).length cap)) 3 1 (.slice ao (S i).length cap) (S i).length (i64s (S i)) := hv2.kept fun k hk => Below.heap_setCell A ⟨w.heap.size, 0, none⟩ _ k (by have := (hv3 k hk).1; show k ≠ w.heap.size; omega)
    have HK' : Hid ((A.setCell ⟨w.heap.size, 0, none⟩ (.slice ao (S i).length cap)).heap[D]? = some (.deferred (some []))) := (KeepsOthers.setCell A ⟨w.heap.size, 0, none⟩ _).same D _ hK rfl
    have HRR : Hid (Blk (A.setCell ⟨w.heap.size, 0, none⟩ (.slice ao (S i).length cap)) w.heap.size 33 #[.slice ao (S i).length cap]) := hR1
    have HN : Hid (NAt .i64 (A.setCell ⟨w.heap.size, 0, none⟩ (.slice ao (S i).length cap)) ao (S i)) := hrow.nat rfl
    have HBB : Hid (Below w.heap.size w (A.setCell ⟨w.heap.size, 0, none⟩ (.slice ao (S i).length cap))) := hBl.setCell (p := ⟨w.heap.size, 0, none⟩) (Nat.le_refl _) _
    clear hv1 hv2 hv3 hR hR1 hrow hBl hK HI0 HRx
    gi_wp2
    refine ⟨by simp, .inl ⟨_, _, rfl, run_takeDeferred HK'.out, ?_⟩⟩
    have hD2 : w.heap.size < D := by omega
    have hpb : Below D (A.setCell ⟨w.heap.size, 0, none⟩ (.slice ao (S i).length cap)) ((A.setCell ⟨w.heap.size, 0, none⟩ (.slice ao (S i).length cap)).putObj D (.deferred none)) := ⟨rfl, rfl, rfl, by simp, fun k hk => World.putObj_heap_other (by omega)⟩
    have hc5 := (HRR.out.putObj (by omega) (.deferred none) : Blk ((A.setCell ⟨w.heap.size, 0, none⟩ (.slice ao (S i).length cap)).putObj D (.deferred none)) w.heap.size 33 #[.slice ao (S i).length cap]).cell1
    refine ⟨.slice ao (S i).length cap, ?_, ao, cap, rfl, ?_, HBB.out.trans (hpb.mono (by omega))⟩
    · simp [results, Try.f39, go_sem, hc5]
    · rcases HN.out with h1 | ⟨b', off, e1, e2, e3⟩
      · exact .inl h1
      · refine .inr ⟨b', off, e1, by simpa using e2, fun q hq => ?_⟩
        rw [World.cell?_of_block (w := A.setCell ⟨w.heap.size, 0, none⟩ (.slice ao (S i).length cap)) (World.putObj_heap_other (fun e => ?_))]
        · exact e3 q hq
        · have h3 := e3 q hq
          subst e
          rw [World.cell?, HK'.out] at h3
          cases h3
end
end Go.Proofs.Ytkpfonfcgoocfaa
