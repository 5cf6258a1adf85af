/- Layer 12 (tile): the tiles beside one, one by one. -/
import Derived.Test.YtabgplniaiehpabTileIter
import Derived.Deep.RegionHeld3
import Derived.OpenShut
namespace Go.Proofs.Ytabgplniaiehpab.Pl
open Go.RowKit Go.Shelf
attribute [local go_sem] Oper.semAt_some
set_option linter.unusedVariables false
set_option maxRecDepth 100000 in
set_option maxHeartbeats 6400000 in
theorem tbes1_z (n : Nat) (hn : 10 ≤ n) (B C : Nat) (W H t : Int) (w : World) (hh0 : Bx2 B C W H t w) :
    SeqZ Fence.wide n Try.prog 32 #[.pointer (some ⟨B, 0, none⟩), .pointer (some ⟨C, 0, none⟩)] (fun x : Int => #[.int .i64 x]) (fun _ => True) (AllOf (tbesL W H t)) (PartOf (tbesL W H t)) 4 w := fun l' J Jx X hR hX hJ hJx hl1 hl2 hY h0 => by
  have HJ : Hid (∀ Z, OwnFrom X.heap.size (J Z)) := hJ
  have HJx : Hid (∀ Z, OwnFrom X.heap.size (Jx Z)) := hJx
  have H0 : Hid (∀ Z, J Z [] X) := h0
  obtain ⟨L, hLe⟩ : ∃ L, L = tbesL W H t := ⟨_, rfl⟩
  rw [← hLe] at hY ⊢
  have HYY : Hid (∀ Z pre x W1, X.heap.size ≤ Z → Z ≤ W1.heap.size → J Z pre W1 → pre.length < 4 ∧ PartOf L (pre ++ [x]) → YieldAt Fence.wide (n - 1) Try.prog l' #[.int .i64 x] W1 fun e W' => (e = .returned (.bool true) ∧ J Z (pre ++ [x]) W' ∧ BK X.heap.size Z W1 W') ∨ (e = .returned (.bool false) ∧ Jx Z (pre ++ [x]) W' ∧ BK X.heap.size Z W1 W')) := hY
  obtain ⟨X1, hX1⟩ : ∃ X1, X1 = X.alloc (.cells #[.func (.yield l') #[] #[]] 45) := ⟨_, rfl⟩
  have hXa : Below X.heap.size X X1 := by rw [hX1]; exact (Below.refl _ _).alloc (Nat.le_refl _) _
  have hM := (hh0.below hX).below hXa
  have HCY : Hid (Blk X1 X.heap.size 45 #[.func (.yield l') #[] #[]]) := by rw [hX1]; exact Blk.new X _ _
  have HMd := hid_mk hM
  have d1 : X1.drew.cell? ⟨B, 0, none⟩ = some (.int .i64 W) := hM.cells.1
  have d2 : X1.drew.cell? ⟨B, 1, none⟩ = some (.int .i64 H) := hM.cells.2.1
  have d3 : X1.drew.cell? ⟨C, 0, none⟩ = some (.int .i64 t) := hM.cells.2.2
  have hbl := hM.1.lt
  have hcl := hM.2.lt
  have HX := hid_mk hX
  have HXa := hid_mk hXa
  have HLL := hid_mk hLe
  have hXs : X1.heap.size = X.heap.size + 1 := by rw [hX1]; simp
  clear hh0 hR hX hJ hJx hY h0 hXa hM hLe
  refine callsIn_of_wp_marks Try.func32 rfl trivial ?_ rfl
  simp only [Try.ntmps32, List.size_toArray, List.length_cons, List.length_nil, Nat.reduceAdd, Nat.reduceSub, Array.replicate_succ, Array.replicate_zero, List.push_toArray, List.append_toArray, List.nil_append, List.cons_append]
  gi_wp2_with fail
  refine wpIn_wide.2 ?_
  rw [← hX1]
  clear hX1
  have HVA := hid_mk (fun W' => tnear_ab (tW W H) (tH W H) t W')
  have HVB := hid_mk (fun W' => intiles_any W H W')
  go_region_held3 (fun w' => w'.cell? ⟨B, 0, none⟩ = some (.int .i64 W) ∧ w'.cell? ⟨B, 1, none⟩ = some (.int .i64 H) ∧ w'.cell? ⟨C, 0, none⟩ = some (.int .i64 t))
    (first | (go_split_ands; assumption) | go_keep)
    (first
      | (go_at_call 24; refine (HVA.out _).mono ?_; rintro e w2 ⟨b2, c2, rfl, hbx2, hbb, hcc, hb4⟩; have j1 : w2.cell? ⟨B, 0, none⟩ = some (.int .i64 W) := ((hb4.cell (p := ⟨B, 0, none⟩) (Nat.lt_of_lt_of_le hbl hb3.size)).trans (hb3.cell (p := ⟨B, 0, none⟩) hbl)).trans d1; have j2 : w2.cell? ⟨B, 1, none⟩ = some (.int .i64 H) := ((hb4.cell (p := ⟨B, 1, none⟩) (Nat.lt_of_lt_of_le hbl hb3.size)).trans (hb3.cell (p := ⟨B, 1, none⟩) hbl)).trans d2; have j3 : w2.cell? ⟨C, 0, none⟩ = some (.int .i64 t) := ((hb4.cell (p := ⟨C, 0, none⟩) (Nat.lt_of_lt_of_le hcl hb3.size)).trans (hb3.cell (p := ⟨C, 0, none⟩) hcl)).trans d3)
      | (go_at_call 27; refine (HVB.out _).mono ?_; rintro e w1 ⟨rfl, hb3⟩; have i1 : w1.cell? ⟨B, 0, none⟩ = some (.int .i64 W) := (hb3.cell (p := ⟨B, 0, none⟩) hbl).trans d1; have i2 : w1.cell? ⟨B, 1, none⟩ = some (.int .i64 H) := (hb3.cell (p := ⟨B, 1, none⟩) hbl).trans d2; have i3 : w1.cell? ⟨C, 0, none⟩ = some (.int .i64 t) := (hb3.cell (p := ⟨C, 0, none⟩) hcl).trans d3)
      | fail)
  have hbw : Below X1.heap.size X1 w2 := ((Below.refl X1.heap.size X1).drew.trans hb3).trans (hb4.mono (by have := hb3.size; simpa using this))
  have HX2 : Hid (Below X.heap.size X w2) := HXa.out.trans (hbw.mono (by omega))
  have HCY2 := hid_mk (HCY.out.below hbw)
  have hs2 : X1.heap.size ≤ w2.heap.size := hbw.size
  have HSQ := hid_mk (tnear1_z (n - 1) (by omega) b2 c2 (tW W H) (tH W H) t w2 hbx2)
  have HB2 := hid_mk hbx2
  have hB2l : X.heap.size ≤ b2 := by have := hb3.size; simp at this; omega
  have hC2l : X.heap.size ≤ c2 := by have := hb3.size; simp at this; omega
  have b2l := hbx2.1.lt
  have c2l := hbx2.2.lt
  rename_i hHeld
  clear hHeld hb3 hb4 hbx2 hbb hcc hbw d1 d2 d3 i1 i2 i3 j1 j2 j3 HMd HVA HVB HCY HXa
  gi_wp2_with fail
  refine range_ownZ rfl (by omega) (gf := 36) (lb := #[.pointer (some ⟨b2, 0, none⟩), .pointer (some ⟨c2, 0, none⟩)]) rfl trivial (enters_of Try.func36 (by kernel_rfl) rfl) HSQ.out (Below.refl _ _) (fun _ => rfl)
    (fun Z pre A => J Z pre A ∧ Blk A X.heap.size 45 #[.func (.yield l') #[] #[]] ∧ Bx2 b2 c2 (tW W H) (tH W H) t A) (fun Z cc pre A => cc = .ret ∧ Jx Z pre A)
    (fun Z => OwnFrom.and (OwnFrom.up (HJ.out Z) (by omega)) (OwnFrom.and (Own.from (blk_own _ _ (fun _ => _)) _) (bx2_own _ _ _ _ _ _)))
    (fun Z cc => fun s A A' row hs hg hr => ⟨hs.1, (HJx.out Z) s A A' row hs.2 hg (fun r e => ⟨by have := (hr r e).1; omega, (hr r e).2⟩)⟩)
    (fun Z => ⟨OwnFrom.below (HJ.out Z) (H0.out Z) HX2.out, HCY2.out, HB2.out⟩) (fun _ _ _ h => h.2.2) ?a1 ?assign ?body ?done ?stop
  case assign =>
    intro lq x A Kk hK
    gi_wp2
    exact hK
  case body =>
    rintro lq Z pre i A hZ0 hZ1 ⟨hJp, hCY, hbx⟩ ⟨hpl, hpx⟩
    have ec : A.cell? ⟨X.heap.size, 0, none⟩ = some (.func (.yield l') #[] #[]) := hCY.cell1
    have hpx' : PartOf L (pre ++ [i]) := by rw [HLL.out]; exact hpx
    obtain ⟨f1, t1, as1, bd1, hy1, hR1⟩ := yieldAt_in (l' := lq) (m' := n - 1 - 1 - 1) (HYY.out Z pre i A (by omega) hZ1 hJp ⟨hpl, hpx'⟩)
    have HCb := hid_mk hCY
    have HBb := hid_mk hbx
    clear hJp hCY hbx hpl hpx hpx'
    gi_wp2
    repeat (refine ⟨fun _ h => (by cases h), ?_⟩; gi_wp2)
    refine ⟨fun _ => by omega, hR1.mono ?_⟩
    rintro e X4 (⟨rfl, hX4, k4⟩ | ⟨rfl, hx4, k4⟩)
    · have hP : Hid (BK w2.heap.size Z A X4 ∧ J Z (pre ++ [i]) X4 ∧ Blk X4 X.heap.size 45 #[.func (.yield l') #[] #[]] ∧ Bx2 b2 c2 (tW W H) (tH W H) t X4) := ⟨k4.mono (by omega) (Nat.le_refl _), hX4, (k4.same X.heap.size (Nat.le_refl _) (by omega)).trans HCb.out, HBb.out.keep k4 ⟨hB2l, by omega⟩ ⟨hC2l, by omega⟩⟩
      clear hX4 k4 hy1 hR1
      gi_wp2
      exact hP.out
    · have hP : Hid (BK w2.heap.size Z A X4 ∧ Jx Z (pre ++ [i]) X4) := ⟨k4.mono (by omega) (Nat.le_refl _), hx4⟩
      clear hx4 k4 hy1 hR1
      gi_wp2
      exact ⟨hP.out.1, rfl, hP.out.2⟩
  case stop =>
    rintro D Z cc pre A hD hpre ⟨rfl, hJp⟩ hK
    have HK' := hid_mk hK
    have HJp := hid_mk hJp
    have HPM : Hid (PartOf L pre) := by rw [HLL.out]; exact hpre
    clear hJp hK
    gi_wp2
    refine ⟨by simp, .inl ⟨_, _, rfl, run_takeDeferred HK'.out, ?_⟩⟩
    refine ⟨.tuple #[], ?_, ⟨_, rfl⟩, .inr ⟨Z, pre, HPM.out, OwnFrom.putObj (HJx.out Z) _ HJp.out (by omega) HK'.out rfl⟩⟩
    simp [results, Try.f32, go_sem]
  case done =>
    rintro D Z ys A hD hys ⟨hJp, _⟩ hK
    have HK' := hid_mk hK
    have HJp := hid_mk hJp
    have HYs : Hid (ys = L) := by rw [HLL.out]; exact hys
    clear hJp hK
    gi_wp2
    refine ⟨by simp, .inl ⟨_, _, rfl, run_takeDeferred HK'.out, ?_⟩⟩
    refine ⟨.tuple #[], ?_, ⟨_, rfl⟩, .inl ⟨Z, ys, by rw [HYs.out]; exact rfl, OwnFrom.putObj (HJ.out Z) _ HJp.out (by omega) HK'.out rfl⟩⟩
    simp [results, Try.f32, go_sem]
end Go.Proofs.Ytabgplniaiehpab.Pl
