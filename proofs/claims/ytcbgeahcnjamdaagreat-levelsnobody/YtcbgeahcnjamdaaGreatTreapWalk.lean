/- Layer 6 (treap): Walk. -/
import Derived.Test.YtcbgeahcnjamdaaGreatTreapIter
import Derived.Test.YtcbgeahcnjamdaaGreatBag
import Derived.Laws.MakeOwn
namespace Go.Proofs.YtcbgeahcnjamdaaGreat
open Go.RowKit Go.Shelf
attribute [local go_sem] Oper.semAt_some
set_option linter.unusedVariables false
variable {Xh : Hx}

theorem infoI32 : (Tryz.prog.info? 21).map (fun i => (i.zero, i.size, i.bytes)) = some (some (.int .i32 0), 1, 4) := by kernel_rfl
/-- make([]int32, 0, m). -/
theorem make_i32 (m : Nat) (hm : m ≤ 2147483647) : ∃ cs : Array Value, cs.size = m ∧ ∀ w : World, (Instr.makeSlice 117 (.int .i64 0) (.int .i64 m)).run Tryz.prog w = .ok (.slice (some ⟨w.heap.size, 0, none⟩) 0 m) (w.alloc (.cells cs 21)) := by
  obtain ⟨i0, hi, hz0, hz1, hz2⟩ := info_parts infoI32
  refine ⟨madeCells (#[.int .i32 0]) (m * 1), by simp [madeCells], fun w => ?_⟩
  have h := run_make (P := Tryz.prog) w 117 21 i0 (.int .i32 0) Tryz.underlying117 hi hz0 .i64 .i64 0 m (by omega) (by omega) (by rw [hz2]; omega) (by omega)
  rw [h, hz1]
  rfl
section
variable {F : Nat → Prop} {B : Nat} {K : List Bool} {fr : List Int} {S : Int → List Int} {V : Int → Vl} {mx : Nat}
set_option maxRecDepth 100000 in
set_option maxHeartbeats 400000 in
theorem walk1_seq (n : Nat) (hn : 4 ≤ n) (b c : Nat) (i : Int) (w : World) (hbx : Bxs b c (some ⟨B, 0, none⟩) i w) (h : Tp Xh w F B K fr S V mx) (hb : -2147483648 ≤ i ∧ i ≤ 2147483647) :
    SeqL Fence.wide n Tryz.prog 207 #[.pointer (some ⟨b, 0, none⟩), .pointer (some ⟨c, 0, none⟩)] (fun x : Int => #[.int .i32 x]) (fun k t => w.heap.size ≤ k ∧ t = 21) (AllOf (S i)) (PartOf (S i)) (S i).length w := fun l J Jx X hX hJ hJx hl1 hl2 hY h0 => by
  have hTX := h.below hX
  have hbX := hbx.below hX
  have hlen : (S i).length ≤ 2147483647 := Nat.le_trans (h.len i) h.klen
  have c1 := hbX.1.cell1
  have c2 := hbX.2.cell1
  have HSz := tsize_any hTX i hb
  obtain ⟨cs, hcs, hmk⟩ := make_i32 (S i).length hlen
  have HTX : Hid (Tp Xh X F B K fr S V mx) := hTX
  have HBX : Hid (Bxs b c (some ⟨B, 0, none⟩) i X) := hbX
  have HXw : Hid (Below w.heap.size w X) := hX
  have HJ : Hid (OwnFrom X.heap.size J) := hJ
  have HJx : Hid (OwnFrom X.heap.size Jx) := hJx
  have H0 : Hid (J [] X) := h0
  have HYY : Hid (∀ pre x W1, J pre W1 → pre.length < (S i).length ∧ PartOf (S i) (pre ++ [x]) → YieldAt Fence.wide (n - 1) Tryz.prog l #[.int .i32 x] W1 fun e W' => (e = .returned (.bool true) ∧ J (pre ++ [x]) W' ∧ KeptBy l (fun k t => w.heap.size ≤ k ∧ t = 21) W1 W') ∨ (e = .returned (.bool false) ∧ Jx (pre ++ [x]) W' ∧ KeptBy l (fun _ _ => False) W1 W')) := hY
  have hFX := hTX.lt
  have hlX : l < X.heap.size := hl2
  have hXs := hX.size
  clear h hbx hX hTX hbX hJ hJx hY h0
  obtain ⟨m, hm⟩ : ∃ m, m = (S i).length := ⟨_, rfl⟩
  have HM : Hid (m = (S i).length) := hm
  rw [← hm] at hlen HSz hcs hmk
  have d1 : ((X.alloc (.cells cs 21)).alloc (.cells #[.slice (some ⟨X.heap.size, 0, none⟩) 0 m] 117)).cell? ⟨b, 0, none⟩ = some (.pointer (some ⟨B, 0, none⟩)) := ((HBX.out.1.alloc _).alloc _).cell1
  have d2 : ((X.alloc (.cells cs 21)).alloc (.cells #[.slice (some ⟨X.heap.size, 0, none⟩) 0 m] 117)).cell? ⟨c, 0, none⟩ = some (.int .i32 i) := ((HBX.out.2.alloc _).alloc _).cell1
  have b01 : Below X.heap.size X ((X.alloc (.cells cs 21)).alloc (.cells #[.slice (some ⟨X.heap.size, 0, none⟩) 0 m] 117)) := below_new ((Below.refl _ _).alloc (Nat.le_refl _) _) (Nat.le_refl _) _
  have hrow : Blk ((X.alloc (.cells cs 21)).alloc (.cells #[.slice (some ⟨X.heap.size, 0, none⟩) 0 m] 117)) X.heap.size 21 cs := (Blk.new X _ _).alloc _
  have hbox : Blk ((X.alloc (.cells cs 21)).alloc (.cells #[.slice (some ⟨X.heap.size, 0, none⟩) 0 m] 117)) (X.heap.size + 1) 117 #[.slice (some ⟨X.heap.size, 0, none⟩) 0 m] := by
    have := Blk.new (X.alloc (.cells cs 21)) 117 #[.slice (some ⟨X.heap.size, 0, none⟩) 0 m]
    rwa [World.size_alloc] at this
  have HR0 : Hid (Blk ((X.alloc (.cells cs 21)).alloc (.cells #[.slice (some ⟨X.heap.size, 0, none⟩) 0 m] 117)) X.heap.size 21 cs) := hrow
  have HX0 : Hid (Blk ((X.alloc (.cells cs 21)).alloc (.cells #[.slice (some ⟨X.heap.size, 0, none⟩) 0 m] 117)) (X.heap.size + 1) 117 #[.slice (some ⟨X.heap.size, 0, none⟩) 0 m]) := hbox
  have HB01 : Hid (Below X.heap.size X ((X.alloc (.cells cs 21)).alloc (.cells #[.slice (some ⟨X.heap.size, 0, none⟩) 0 m] 117))) := b01
  clear hrow hbox b01 hm
  refine callsIn_of_wp_marks Tryz.func207 rfl trivial ?_ rfl
  simp only [Tryz.ntmps207, List.size_toArray, List.length_cons, List.length_nil, Nat.reduceAdd, Nat.reduceSub, Array.replicate_succ, Array.replicate_zero, List.push_toArray, List.append_toArray, List.nil_append, List.cons_append]
  gi_wp2_with fail
  refine ⟨trivial, fun _ => by omega, ?_⟩
  refine (callsIn_wide.2 HSz).mono ?_
  rintro e w0 ⟨rfl, rfl⟩
  clear HSz
  gi_wp2_with fail
  refine ⟨trivial, fun _ => by omega, ?_⟩
  refine (callsIn_wide.2 (onward_ab _ _ _)).mono ?_
  rintro e X2 ⟨b', c', rfl, hB', hb1, hc1, hb2⟩
  generalize hX1 : (w0.alloc (.cells cs 21)).alloc (.cells #[.slice (some ⟨w0.heap.size, 0, none⟩) 0 m] 117) = X1 at *
  have hs1 : X1.heap.size = w0.heap.size + 2 := by rw [← hX1]; simp
  have hrow2 := HR0.out.below hb2
  have hbox2 := HX0.out.below hb2
  have b02 : Below w0.heap.size w0 X2 := HB01.out.trans (hb2.mono (by omega))
  have hT2 := HTX.out.below b02
  have hs2 := hb2.size
  have hb'l := hB'.1.lt
  have hc'l := hB'.2.lt
  have HSQ := onward1_seq (n - 1) (by omega) b' c' i X2 hB' hT2 hb
  clear hX1 hmk c1 c2 d1 d2 HR0 HX0 HB01 hb2
  gi_wp2_with fail
  obtain ⟨i0, hi, hz0, hz1, hz2⟩ := info_parts infoI32
  have HI0 : Hid (Bag (w0.heap.size + 1) 117 21 (fun k => k = w0.heap.size ∨ X2.heap.size ≤ k) (i32s []) X2) :=
    ⟨_, hbox2, ⟨rfl, .inr ⟨w0.heap.size, m, cs, rfl, hrow2, Nat.zero_le _, by unfold maxLen; omega, by rw [hcs]; omega, by simp [i32s]⟩⟩, fun k hk => by cases hk; exact ⟨.inl rfl, by show w0.heap.size ≠ w0.heap.size + 1; omega⟩⟩
  have HSQ' : Hid _ := HSQ
  have HTF : Hid (∀ k, F k → k < w0.heap.size) := fun k hk => by have := hFX k hk; omega
  clear hrow2 hbox2 hT2 HSQ hB' hFX
  refine range_own rfl (by omega) (gf := 214) (lb := #[.pointer (some ⟨b', 0, none⟩), .pointer (some ⟨c', 0, none⟩)]) rfl trivial (enters_of Tryz.func214 (by kernel_rfl) rfl) HSQ'.out (Below.refl _ _) (fun _ => rfl)
    (fun pre A => Bag (w0.heap.size + 1) 117 21 (fun k => k = w0.heap.size ∨ X2.heap.size ≤ k) (i32s pre) A ∧ (Below w0.heap.size w0 A ∧ X2.heap.size ≤ A.heap.size)) (fun _ _ _ => False)
    (OwnFrom.and (Own.from (Bag.own i32s) _) (OwnFrom.and (ownFrom_below (by omega) (by omega)) (fun s A A' row hs hg _ => Nat.le_trans hs hg.size))) (fun _ _ _ _ _ hs _ _ => hs)
    ⟨HI0.out, b02, Nat.le_refl _⟩ ?a1 ?assign ?body ?done ?stop
  case assign =>
    intro l' x A Kk hK
    gi_wp2
    exact hK
  case body =>
    rintro l' pre x A ⟨⟨v, hv1, hv2, hv3⟩, hBl, hA2⟩ hlp
    replace hlp := hlp.1
    have cv := hv1.cell1
    rw [i32s_len] at hv2
    have hv4 : v.ownBlock ≠ some (w0.heap.size + 1) := fun e => (hv3 _ e).2 rfl
    have HV2 : Hid (RowW (A.alloc (.cells #[.int .i32 x] 21)) 21 1 v pre.length (i32s pre)) := hv2.kept fun q hq => heap_alloc_old _ _ q (hv2.lt hq)
    have hpl : pre.length < 2147483647 := by have := HM.out; omega
    gi_wp2_with (gi_at_builtin; refine wpListIn_append_row _ rfl _ _ 117 rfl 21 i0 (.int .i32 0) 1 4 Tryz.underlying117 hi hz0 hz1 hz2 rfl _ _ _ rfl HV2.out ⟨A.heap.size, 0, none⟩ 1 1 [.int .i32 x] rfl rfl (World.news_of_block (Blk.new A _ _)) (by simp [Value.oneCell']) (by omega) (by unfold maxLen; omega) (by omega) ?_)
    intro g cap w2 hown hgrow hat hlt
    obtain ⟨p1, p2, p3, p4, p5, p6⟩ := Bag.push hv1 hv2 hv4 hown hgrow (by simpa using hat)
    have cv2 := p6.cell1
    have fv2 := p6.frozen 0
    have P0 : Hid (ownPostK (TagKept fun k _ => F k ∨ k = b' ∨ k = c') (fun pre A => Bag (w0.heap.size + 1) 117 21 (fun k => k = w0.heap.size ∨ X2.heap.size ≤ k) (i32s pre) A ∧ (Below w0.heap.size w0 A ∧ X2.heap.size ≤ A.heap.size)) (fun _ _ _ => False) (pre ++ [x]) A .normal { tmps := #[], defers := [] } (w2.setCell ⟨w0.heap.size + 1, 0, none⟩ (.slice (some ⟨g, 0, none⟩) (pre.length + 1) cap))) := by
      refine ⟨p4, fun k cs' t fz hk hT => p5 k (Array.getElem?_eq_some_iff.1 hk).1 ?_ (fun e => ?_), ⟨_, p1, ?_, fun k hk => ?_⟩, ?_, Nat.le_trans hA2 p4.size⟩
      · rcases hT with hT | rfl | rfl
        · have := HTF.out k hT; omega
        · omega
        · omega
      · have h1 := (hv3 k e).1
        rcases hT with hT | rfl | rfl
        · have := HTF.out k hT; omega
        · omega
        · omega
      · rw [i32s_snoc, List.length_append, i32s_len]; exact p2
      · cases hk
        refine ⟨?_, p3⟩
        rcases hat with e | e
        · exact (hv3 _ e).1
        · right; rw [e]; simp; omega
      · exact hBl.trans ⟨hgrow.os, hgrow.tape, hgrow.output, p4.size, fun k hk => p5 k (by have := hBl.size; omega) (by omega) (fun e => by have := (hv3 k e).1; omega)⟩
    clear p1 p2 p3 p4 p5 p6 hown hgrow hat hlt hv1 hv2 hv3 HV2
    gi_wp2
    exact P0.out
  case stop =>
    rintro D cc pre A hD hpre hF _
    exact hF.elim
  case done =>
    rintro D ys A hD rfl ⟨⟨v, hv1, hv2, hv3⟩, hBl, hA2⟩ hK
    have hlen2 : (i32s (S i)).length = m := by rw [i32s_len, ← HM.out]
    have hv2' : RowW A 21 1 v m (i32s (S i)) := by rw [← hlen2]; exact hv2
    obtain ⟨ao, cap, rfl⟩ := hv2'.form
    have cv := hv1.cell1
    have hJ0 : J [] A := HJ.out _ _ _ none H0.out (below_grown hBl) (fun r e => by cases e)
    have HJ0 : Hid (J [] A) := hJ0
    have HV : Hid (RowW A 21 1 (.slice ao m cap) m (i32s (S i)) ∧ (∀ k, (Value.slice ao m cap).ownBlock = some k → w0.heap.size ≤ k) ∧ A.heap[D]? = some (.deferred (some [])) ∧ w0.heap.size < D) :=
      ⟨hv2', fun k hk => by have := (hv3 k hk).1; omega, hK, by omega⟩
    clear hv1 hv2 hv3 hK hJ0 hv2' HI0 hBl hA2 hlen2
    gi_wp2
    gi_loopw [22] (fun vq wr => ∃ q : Nat, q ≤ m ∧ vq = .int .i64 q ∧ Hid (J ((S i).take q) wr) ∧ Hid (RowW wr 21 1 (.slice ao m cap) m (i32s (S i)) ∧ (∀ k, (Value.slice ao m cap).ownBlock = some k → w0.heap.size ≤ k) ∧ wr.heap[D]? = some (.deferred (some [])) ∧ w0.heap.size < D)) (fun vq _ => m - (intOf vq).toNat)
    case atStart => exact ⟨0, Nat.zero_le _, rfl, HJ0.out, HV.out⟩
    case round =>
      obtain ⟨q, hq, rfl, HJq, HVq⟩ := hrel
      by_cases hlt : q < m
      · have hlt' : q < (S i).length := by rw [← HM.out]; exact hlt
        obtain ⟨g, cap', e0⟩ := HVq.out.1.led (by omega)
        cases e0
        have cq := HVq.out.1.cell (i32s_at hlt')
        obtain ⟨f1, t1, a1, b1, hy1, hR1⟩ := HYY.out _ (lAt (S i) q) wr HJq.out ⟨by rw [List.length_take]; omega, by rw [← ltake_snoc hlt']; exact List.take_prefix _ _⟩
        rw [← ltake_snoc hlt'] at hR1
        have hqi : (q : Int) < (m : Int) := by omega
        gi_wp2
        repeat (refine ⟨fun _ h => (by cases h), ?_⟩; gi_wp2)
        refine ⟨fun _ => by omega, hR1.mono ?_⟩
        rintro e X3 (⟨rfl, hX3, k3⟩ | ⟨rfl, hx3, k3⟩)
        · obtain ⟨r1, r2, r3, r4⟩ := HVq.out
          have r5 : X3.heap[D]? = some (.deferred (some [])) := k3.others D _ (by omega) r3 rfl
          have r6 : RowW X3 21 1 (.slice (some ⟨g, 0, none⟩) m cap) m (i32s (S i)) := r1.kept fun k hk => by
            cases hk
            rcases r1.2 with ⟨e1, _⟩ | ⟨g', cap', cur, e1, hb', _⟩
            · cases e1
            · cases e1
              exact k3.tag g cur 21 (0, 0) hb' ⟨by have := r2 g rfl; omega, rfl⟩
          have HJ3 : Hid _ := hX3
          have HV3 : Hid (RowW X3 21 1 (.slice (some ⟨g, 0, none⟩) m cap) m (i32s (S i)) ∧ (∀ k, (Value.slice (some ⟨g, 0, none⟩) m cap).ownBlock = some k → w0.heap.size ≤ k) ∧ X3.heap[D]? = some (.deferred (some [])) ∧ w0.heap.size < D) := ⟨r6, r2, r5, r4⟩
          clear hX3 k3 r1 r2 r3 r4 r5 r6 hy1 hR1 HJq HVq cq
          gi_wp2
          go_roundw
          case rel => exact ⟨q + 1, by omega, by go_num, HJ3.out, HV3.out⟩
          case measure => simp [intOf]; omega
        · obtain ⟨r1, r2, r3, r4⟩ := HVq.out
          have r5 : X3.heap[D]? = some (.deferred (some [])) := k3.others D _ (by omega) r3 rfl
          clear k3 r1 r2 r3 hy1 hR1 HJq HVq cq
          gi_wp2
          refine ⟨by simp, .inl ⟨_, _, rfl, run_takeDeferred r5, ?_⟩⟩
          refine ⟨.tuple #[], ?_, ⟨_, rfl⟩, .inr ⟨_, List.take_prefix _ _, HJx.out.putObj _ hx3 (by omega) r5 rfl⟩⟩
          simp [results, Tryz.f207, go_sem]
      · obtain rfl : q = m := by omega
        have HJq' : Hid (J (S i) wr) := by have := HJq.out; rw [HM.out, List.take_length] at this; exact this
        obtain ⟨r1, r2, r3, r4⟩ := HVq.out
        clear r1 r2 HVq HJq
        gi_wp2
        refine ⟨by simp, .inl ⟨_, _, rfl, run_takeDeferred r3, ?_⟩⟩
        refine ⟨.tuple #[], ?_, ⟨_, rfl⟩, .inl ⟨_, rfl, HJ.out.putObj _ HJq'.out (by omega) r3 rfl⟩⟩
        simp [results, Tryz.f207, go_sem]
end
end Go.Proofs.YtcbgeahcnjamdaaGreat
