/- Layer 9: slices.Values' and Of's functions as SeqY (what a round keeps may hold maps that it made). -/
import Derived.Test.YtcbgeahcnjamdabGreatEdgesIter
import Derived.Test.YtcbgeahcnjamdabGreatIterY
import Derived.Shelf.RegionOpen
import Derived.Shelf.Abstract
namespace Go.Proofs.YtcbgeahcnjamdabGreat
open Go.RowKit Go.Shelf
attribute [local go_sem] Oper.semAt_some
set_option linter.unusedVariables false
set_option maxRecDepth 100000 in
set_option maxHeartbeats 1600000 in
theorem val1_y (n : Nat) (hn : 4 ≤ n) (b : Nat) {ao : Option Addr} {cap : Nat} {L : List Int} (w : World) (hbx : Blk w b 53 #[.slice ao L.length cap]) (hL : L.length ≤ 1000000) :
    SeqY Fence.wide n Tryz.prog 112 #[.pointer (some ⟨b, 0, none⟩)] (fun x : Int => #[.int .i64 x]) (fun W => RowW W 3 1 (.slice ao L.length cap) L.length (i6s L)) (AllOf L) (PartOf L) L.length w := fun l J Jx X hR hX hJ hJx hl1 hl2 hY h0 => by
  have c1 := (hbx.below hX).cell1
  have HR : Hid (∀ Z pre W, J Z pre W → RowW W 3 1 (.slice ao L.length cap) L.length (i6s L)) := hR
  have H0 : Hid (∀ Z, J Z [] X) := h0
  obtain ⟨Z, hZ⟩ : ∃ Z, Z = X.heap.size := ⟨_, rfl⟩
  have HYY : Hid (∀ pre x W1, Z ≤ W1.heap.size → J Z pre W1 → pre.length < L.length ∧ PartOf L (pre ++ [x]) → YieldAt Fence.wide (n - 1) Tryz.prog l #[.int .i64 x] W1 fun e W' => (e = .returned (.bool true) ∧ J Z (pre ++ [x]) W' ∧ BK X.heap.size Z W1 W') ∨ (e = .returned (.bool false) ∧ Jx Z (pre ++ [x]) W' ∧ BK X.heap.size Z W1 W')) := fun pre x W1 h1 h2 h3 => hY Z pre x W1 (by omega) h1 h2 h3
  have hZX : Z ≤ X.heap.size := by omega
  have hZX' : X.heap.size ≤ Z := by omega
  clear hbx hX hJ hJx hY h0 hR
  obtain ⟨m, hm⟩ : ∃ m, m = L.length := ⟨_, rfl⟩
  have HM : Hid (m = L.length) := hm
  rw [← hm] at hL HR c1
  clear hm
  refine callsIn_of_wp_marks Tryz.func112 rfl trivial ?_ rfl
  simp only [Tryz.ntmps112, List.size_toArray, List.length_cons, List.length_nil, Nat.reduceAdd, Nat.reduceSub, Array.replicate_succ, Array.replicate_zero, List.push_toArray, List.append_toArray, List.nil_append, List.cons_append]
  gi_wp2
  gi_loopw [7] (fun vq wr => ∃ q : Nat, q ≤ m ∧ vq = .int .i64 q ∧ Hid (J Z (L.take q) wr) ∧ Z ≤ wr.heap.size) (fun vq _ => m - (intOf vq).toNat)
  case atStart => exact ⟨0, Nat.zero_le _, rfl, H0.out Z, hZX⟩
  case round =>
    obtain ⟨q, hq, rfl, HJq, hZq⟩ := hrel
    by_cases hlt : q < m
    · have hlt' : q < L.length := by rw [← HM.out]; exact hlt
      have hRw := HR.out _ _ _ HJq.out
      obtain ⟨g, cap', e0⟩ := hRw.led (by omega)
      cases e0
      have cq := hRw.cell (i6s_at hlt')
      obtain ⟨f1, t1, a1, b1, hy1, hR1⟩ := HYY.out _ (lAt L q) wr hZq HJq.out ⟨by rw [List.length_take]; omega, by rw [← ltake_snoc hlt']; exact List.take_prefix _ _⟩
      rw [← ltake_snoc hlt'] at hR1
      have hqi : (q : Int) < (m : Int) := by omega
      clear hRw
      gi_wp2
      repeat (refine ⟨fun _ h => (by cases h), ?_⟩; gi_wp2)
      refine ⟨fun _ => by omega, hR1.mono ?_⟩
      rintro e X3 (⟨rfl, hX3, k3⟩ | ⟨rfl, hx3, k3⟩)
      · have HJ3 := hid_mk hX3
        have hZ3 : Z ≤ X3.heap.size := Nat.le_trans hZq k3.size
        clear hX3 k3 hy1 hR1 HJq cq
        gi_wp2
        go_roundw
        case rel => exact ⟨q + 1, by omega, by go_num, HJ3.out, hZ3⟩
        case measure => simp [intOf]; omega
      · clear k3 hy1 hR1 HJq cq
        gi_wp2
        refine ⟨.tuple #[], ?_, ⟨_, rfl⟩, .inr ⟨_, _, hZX', List.take_prefix _ _, hx3⟩⟩
        simp [results, Tryz.f112, go_sem]
    · obtain rfl : q = m := by omega
      have HJq' : Hid (J Z L wr) := by have := HJq.out; rw [HM.out, List.take_length] at this; exact this
      clear HJq
      gi_wp2
      refine ⟨.tuple #[], ?_, ⟨_, rfl⟩, .inl ⟨_, _, hZX', rfl, HJq'.out⟩⟩
      simp [results, Tryz.f112, go_sem]
set_option maxRecDepth 100000 in
set_option maxHeartbeats 1600000 in
theorem of1_y (n : Nat) (hn : 8 ≤ n) (a b c : Nat) {v l : Int} (ha : okP (v, l)) {w : World} {F : Nat → Prop} {B : Nat} {s : Bg} {k : Nat} (h : BgM w F B s k) (hk : k ≤ 100000) (hbx : Bxe a b c (some ⟨B, 0, none⟩) v l w) :
    SeqY Fence.wide n Tryz.prog 85 #[.pointer (some ⟨a, 0, none⟩), .pointer (some ⟨b, 0, none⟩), .pointer (some ⟨c, 0, none⟩)] (fun x : Int => #[.int .i64 x]) (fun _ => True) (AllOf (s.L (v, l))) (PartOf (s.L (v, l))) (s.L (v, l)).length w := fun l' J Jx X hR hX hJ hJx hl1 hl2 hY h0 => by
  have HJ : Hid (∀ Z, OwnIn X.heap.size Z (J Z)) := hJ
  have HJx : Hid (∀ Z, OwnIn X.heap.size Z (Jx Z)) := hJx
  have H0 : Hid (∀ Z, J Z [] X) := h0
  obtain ⟨L, hLe⟩ : ∃ L, L = s.L (v, l) := ⟨_, rfl⟩
  rw [← hLe] at hY ⊢
  have HYY : Hid (∀ Z pre x W1, X.heap.size ≤ Z → Z ≤ W1.heap.size → J Z pre W1 → pre.length < L.length ∧ PartOf L (pre ++ [x]) → YieldAt Fence.wide (n - 1) Tryz.prog l' #[.int .i64 x] W1 fun e W' => (e = .returned (.bool true) ∧ J Z (pre ++ [x]) W' ∧ BK X.heap.size Z W1 W') ∨ (e = .returned (.bool false) ∧ Jx Z (pre ++ [x]) W' ∧ BK X.heap.size Z W1 W')) := hY
  obtain ⟨X1, hX1⟩ : ∃ X1, X1 = X.alloc (.cells #[.func (.yield l') #[] #[]] 43) := ⟨_, rfl⟩
  have hXa : Below X.heap.size X X1 := by rw [hX1]; exact (Below.refl _ _).alloc (Nat.le_refl _) _
  have hbX := (hbx.below hX).below hXa
  have hM := (h.below hX).below hXa
  have HCY : Hid (Blk X1 X.heap.size 43 #[.func (.yield l') #[] #[]]) := by rw [hX1]; exact Blk.new X _ _
  obtain ⟨x, y, u, e1, e2, e3, e4⟩ := hM.looks ha
  have hLlen := hM.1.len (v, l)
  rw [← hLe] at e3 e4 hLlen
  have HNil := hid_mk e4
  have HLK := hid_mk e2
  have c0 := e1.cells2.1
  have b1 := hbX.1.cell1
  have b2 := hbX.2.1.cell1
  have b3 := hbX.2.2.cell1
  have hBl := e1.lt
  have hal := hbX.1.lt
  have hbl := hbX.2.1.lt
  have hcl := hbX.2.2.lt
  have HXa := hid_mk hXa
  have hlk1 := e2 X1.drew (Below.refl _ _).drew
  simp only [pairK] at hlk1
  have d0 : X1.drew.cell? ⟨B, 0, none⟩ = some x := c0
  have d1 : X1.drew.cell? ⟨a, 0, none⟩ = some (.pointer (some ⟨B, 0, none⟩)) := b1
  have d2 : X1.drew.cell? ⟨b, 0, none⟩ = some (.int .i64 v) := b2
  have d3 : X1.drew.cell? ⟨c, 0, none⟩ = some (.int .i64 l) := b3
  have HRw : Hid (RowW X1.drew 3 1 u L.length (i6s L)) := e3.kept fun _ _ => rfl
  have hXs : X1.heap.size = X.heap.size + 1 := by rw [hX1]; simp
  have bb1 := b1
  rw [hX1] at bb1
  clear h hbx hbX hM e1 e2 e3 e4 hX hXa hR hJ hJx hY h0 c0 b1 b2 b3 hLe
  refine callsIn_of_wp_marks Tryz.func85 rfl trivial ?_ rfl
  simp only [Tryz.ntmps85, List.size_toArray, List.length_cons, List.length_nil, Nat.reduceAdd, Nat.reduceSub, Array.replicate_succ, Array.replicate_zero, List.push_toArray, List.append_toArray, List.nil_append, List.cons_append]
  gi_wp2_with fail
  refine wpIn_wide.2 ?_
  rw [← hX1]
  clear hX1 bb1
  go_region_held3 (fun w' => w'.cell? ⟨a, 0, none⟩ = some (.pointer (some ⟨B, 0, none⟩)) ∧ w'.cell? ⟨b, 0, none⟩ = some (.int .i64 v) ∧ w'.cell? ⟨c, 0, none⟩ = some (.int .i64 l) ∧ w'.cell? ⟨B, 0, none⟩ = some x ∧ (Instr.lookup 74 x (.agg #[.int .i64 v, .int .i64 l]) false).run Tryz.prog w' = .ok u w')
    (first | (go_split_ands; assumption) | go_keep)
    (first
      | (go_at_call 86; refine (iclone_any HRw.out HNil.out (by omega)).mono ?_; rintro e w2 ⟨v', rfl, hNew, hb2⟩; have k1 : w2.cell? ⟨a, 0, none⟩ = some (.pointer (some ⟨B, 0, none⟩)) := (hb2.cell (p := ⟨a, 0, none⟩) hal).trans d1; have k2 : w2.cell? ⟨b, 0, none⟩ = some (.int .i64 v) := (hb2.cell (p := ⟨b, 0, none⟩) hbl).trans d2; have k3 : w2.cell? ⟨c, 0, none⟩ = some (.int .i64 l) := (hb2.cell (p := ⟨c, 0, none⟩) hcl).trans d3; have k4 : w2.cell? ⟨B, 0, none⟩ = some x := (hb2.cell (p := ⟨B, 0, none⟩) hBl).trans d0; have k5 : (Instr.lookup 74 x (.agg #[.int .i64 v, .int .i64 l]) false).run Tryz.prog w2 = .ok u w2 := HLK.out w2 ((Below.refl X1.heap.size X1).drew.trans hb2))
      | fail)
  obtain ⟨hN1, hN2⟩ := hNew
  obtain ⟨ao, cap, rfl⟩ := hN1.form
  have hs1 : X1.drew.heap.size = X1.heap.size := rfl
  have hXd : Below X.heap.size X w2 := HXa.out.trans (((Below.refl X1.heap.size X1).drew.trans hb2).mono (by omega))
  have HCY2 := hid_mk (HCY.out.below ((Below.refl X1.heap.size X1).drew.trans hb2))
  have HN2 : Hid (∀ k, (Value.slice ao L.length cap).ownBlock = some k → X.heap.size ≤ k) := fun k hk => by have := hN2 k hk; omega
  have HN1 := hid_mk hN1
  have HXd := hid_mk hXd
  have hs2 := hb2.size
  clear hN1 hN2 hb2 k1 k2 k3 k4 k5 d0 d1 d2 d3 hlk1 HLK HNil HRw HCY HXa hXd
  rename_i hHeld
  clear hHeld
  gi_wp2_with fail
  refine ⟨trivial, fun _ => by omega, ?_⟩
  gi_at_call 87
  refine (callsIn_wide.2 (values_ab _ rfl _)).mono ?_
  rintro e X3 ⟨b2, rfl, hbx, hbb, hb3⟩
  have hs3 := hb3.size
  have HS := hid_mk (val1_y (n - 1) (by omega) b2 X3 hbx (by omega))
  have HX3 := hid_mk (HXd.out.trans (hb3.mono HXd.out.size))
  have HCY3 := hid_mk (HCY2.out.below hb3)
  have HN3 : Hid (RowW X3 3 1 (.slice ao L.length cap) L.length (i6s L)) := HN1.out.kept fun q hq => hb3.block q (HN1.out.lt hq)
  have hs4 := HX3.out.size
  clear hbx hb3 hbb HCY2 HN1 HXd
  gi_wp2_with fail
  refine range_ownY rfl (by omega) (gf := 112) (lb := #[.pointer (some ⟨b2, 0, none⟩)]) rfl trivial (enters_of Tryz.func112 (by kernel_rfl) rfl) HS.out (Below.refl _ _) (fun _ => rfl)
    (fun Z pre A => J Z pre A ∧ Blk A X.heap.size 43 #[.func (.yield l') #[] #[]] ∧ RowW A 3 1 (.slice ao L.length cap) L.length (i6s L)) (fun Z cc pre A => cc = .ret ∧ Jx Z pre A)
    (fun Z => OwnIn.and (OwnIn.mono (HJ.out Z) (by omega) (Nat.le_refl _)) (OwnIn.and (OwnIn.of (Own.from (blk_own _ _ (fun _ => _)) _)) (fun _ A A' row hs hg hr => RowW.grown hs hg (fun r e => (hr r e).2.2))))
    (fun Z cc => fun s A A' row hs hg hr => ⟨hs.1, (HJx.out Z) s A A' row hs.2 hg (fun r e => ⟨by have := (hr r e).1; omega, (hr r e).2⟩)⟩)
    (fun Z => ⟨OwnIn.below (HJ.out Z) (H0.out Z) HX3.out, HCY3.out, HN3.out⟩) (fun Z pre A h => h.2.2) ?a1 ?assign ?body ?done ?stop
  case assign =>
    intro lq x A Kk hK
    gi_wp2
    exact hK
  case body =>
    rintro lq Z pre x A hZ0 hZ1 ⟨hJp, hCY, hRw⟩ hpx
    have cc := hCY.cell1
    obtain ⟨f1, t1, a1, b1, hy1, hR1⟩ := yieldAt_in (l' := lq) (m' := n - 1 - 1 - 1) (HYY.out Z pre x A (by omega) hZ1 hJp hpx)
    have HC := hid_mk hCY
    have HR2 := hid_mk hRw
    clear hJp hCY hRw
    gi_wp2_with fail
    refine ⟨fun _ => by omega, hR1.mono ?_⟩
    rintro e X4 (⟨rfl, hX4, k4⟩ | ⟨rfl, hx4, k4⟩)
    · have P0 : Hid (BK X3.heap.size Z A X4 ∧ J Z (pre ++ [x]) X4 ∧ Blk X4 X.heap.size 43 #[.func (.yield l') #[] #[]] ∧ RowW X4 3 1 (.slice ao L.length cap) L.length (i6s L)) :=
        ⟨k4.mono (by omega) (Nat.le_refl _), hX4, (k4.same X.heap.size (Nat.le_refl _) (by omega)).trans HC.out, HR2.out.kept fun q hq => k4.same q (HN2.out q hq) (by have := HN3.out.lt hq; omega)⟩
      clear hX4 k4 hR1 hy1 HC HR2 cc
      gi_wp2
      exact P0.out
    · have P0 : Hid (BK X3.heap.size Z A X4 ∧ Jx Z (pre ++ [x]) X4) := ⟨k4.mono (by omega) (Nat.le_refl _), hx4⟩
      clear hx4 k4 hR1 hy1 HC HR2 cc
      gi_wp2
      exact ⟨P0.out.1, rfl, P0.out.2⟩
  case stop =>
    rintro D Z cc pre A hD hDZ hpre ⟨rfl, hJp⟩ hK
    have HK' := hid_mk hK
    have HJp := hid_mk hJp
    clear hJp hK
    gi_wp2
    refine ⟨by simp, .inl ⟨_, _, rfl, run_takeDeferred HK'.out, ?_⟩⟩
    refine ⟨.tuple #[], ?_, ⟨_, rfl⟩, .inr ⟨Z, pre, by omega, hpre, OwnIn.putObj (HJx.out Z) _ HJp.out (by omega) hDZ HK'.out rfl⟩⟩
    simp [results, Tryz.f85, go_sem]
  case done =>
    rintro D Z ys A hD hDZ rfl ⟨hJp, _, _⟩ hK
    have HK' := hid_mk hK
    have HJp := hid_mk hJp
    clear hJp hK
    gi_wp2
    refine ⟨by simp, .inl ⟨_, _, rfl, run_takeDeferred HK'.out, ?_⟩⟩
    refine ⟨.tuple #[], ?_, ⟨_, rfl⟩, .inl ⟨Z, _, by omega, rfl, OwnIn.putObj (HJ.out Z) _ HJp.out (by omega) hDZ HK'.out rfl⟩⟩
    simp [results, Tryz.f85, go_sem]
end Go.Proofs.YtcbgeahcnjamdabGreat
