/- Layer 6 (treap): a nil forest. -/
import Derived.Test.YtaoeifeiendfhaaTreapWalk
import Derived.Test.YtaoeifeiendfhaaTreapMakeTwo
import Derived.Test.YtaoeifeiendfhaaTreapFind
namespace Go.Proofs.Ytaoeifeiendfhaa
open Go.RowKit Go.Shelf
attribute [local go_sem] Oper.semAt_some
set_option linter.unusedVariables false

section
variable (i j : Int) (w : World)
theorem nroot : Calls Try.prog 53 #[.pointer none, .int .i32 i] w fun e w' => e = .returned (.int .i32 0) ∧ w' = w := by
  go_enter Try.func53, Try.ntmps53
  go_wp2_with fail
  refine (at_nil' i w).mono ?_
  rintro e w0 ⟨rfl, rfl⟩
  go_wp2
  go_ret
  exact ⟨rfl, rfl⟩
theorem nsize0 : Calls Try.prog 71 #[.pointer none, .int .i32 0] w fun e w' => e = .returned (.int .i64 0) ∧ w' = w := by
  go_enter Try.func71, Try.ntmps71
  go_wp2
  go_ret
  exact ⟨rfl, rfl⟩
theorem nsum0 : Calls Try.prog 57 #[.pointer none, .int .i32 0] w fun e w' => e = .returned (vlc noV) ∧ Below w.heap.size w w' := by
  go_enter Try.func57, Try.ntmps57
  go_wp2
  go_returns
  exact ⟨rfl, (Below.refl _ _).alloc (Nat.le_refl _) _⟩
theorem nSize : Calls Try.prog 33 #[.pointer none, .int .i32 i] w fun e w' => e = .returned (.int .i64 0) ∧ w' = w := by
  go_enter Try.func33, Try.ntmps33
  go_wp2_with fail
  refine (nroot i w).mono ?_
  rintro e w0 ⟨rfl, rfl⟩
  go_wp2_with fail
  refine (nsize0 w0).mono ?_
  rintro e w1 ⟨rfl, rfl⟩
  go_wp2
  go_ret
  exact ⟨rfl, rfl⟩
theorem nFirst : Calls Try.prog 34 #[.pointer none, .int .i32 i] w fun e w' => e = .returned (.int .i32 0) ∧ w' = w := by
  go_enter Try.func34, Try.ntmps34
  go_wp2_with fail
  refine (nroot i w).mono ?_
  rintro e w0 ⟨rfl, rfl⟩
  go_wp2_with fail
  refine (leftmost_nil w0 _).mono ?_
  rintro e w1 ⟨rfl, rfl⟩
  go_wp2
  go_ret
  exact ⟨rfl, rfl⟩
theorem nNext : Calls Try.prog 35 #[.pointer none, .int .i32 i] w fun e w' => e = .returned (.int .i32 0) ∧ w' = w := by
  go_enter Try.func35, Try.ntmps35
  go_wp2_with fail
  refine (at_nil' i w).mono ?_
  rintro e w0 ⟨rfl, rfl⟩
  go_wp2
  go_ret
  exact ⟨rfl, rfl⟩
theorem nPlace : Calls Try.prog 32 #[.pointer none, .int .i32 i] w fun e w' => e = .returned (.int .i64 (-1)) ∧ w' = w := by
  go_enter Try.func32, Try.ntmps32
  go_wp2_with fail
  refine (at_nil' i w).mono ?_
  rintro e w0 ⟨rfl, rfl⟩
  go_wp2
  go_ret
  exact ⟨rfl, rfl⟩
theorem nSame : Calls Try.prog 31 #[.pointer none, .int .i32 i, .int .i32 j] w fun e w' => e = .returned (.bool false) ∧ w' = w := by
  go_enter Try.func31, Try.ntmps31
  go_wp2_with fail
  refine (nroot i w).mono ?_
  rintro e w0 ⟨rfl, rfl⟩
  go_wp2
  go_ret
  exact ⟨rfl, rfl⟩
theorem nCut : Calls Try.prog 21 #[.pointer none, .int .i32 i] w fun e w' => e = .returned (.bool false) ∧ w' = w := by
  go_enter Try.func21, Try.ntmps21
  go_wp2_with fail
  refine (at_nil' i w).mono ?_
  rintro e w0 ⟨rfl, rfl⟩
  go_wp2
  go_ret
  exact ⟨rfl, rfl⟩
theorem nJoin : Calls Try.prog 18 #[.pointer none, .int .i32 i, .int .i32 j] w fun e w' => e = .returned (.bool false) ∧ w' = w := by
  go_enter Try.func18, Try.ntmps18
  go_wp2_with fail
  refine (nroot i w).mono ?_
  rintro e w0 ⟨rfl, rfl⟩
  go_wp2_with fail
  refine (nroot j w0).mono ?_
  rintro e w1 ⟨rfl, rfl⟩
  go_wp2
  go_ret
  exact ⟨rfl, rfl⟩
theorem nFree : Calls Try.prog 20 #[.pointer none, .int .i32 i] w fun e w' => e = .returned (.bool false) ∧ w' = w := by
  go_enter Try.func20, Try.ntmps20
  go_wp2_with fail
  refine (nSize i w).mono ?_
  rintro e w0 ⟨rfl, rfl⟩
  go_wp2
  go_ret
  exact ⟨rfl, rfl⟩
theorem nLen : Calls Try.prog 27 #[.pointer none] w fun e w' => e = .returned (.int .i64 0) ∧ w' = w := by
  go_enter Try.func27, Try.ntmps27
  go_wp2
  go_ret
  exact ⟨rfl, rfl⟩
theorem nMake (x : Vl) : Calls Try.prog 17 #[.pointer none, vlc x] w fun e w' => e = .returned (.int .i32 0) ∧ Below w.heap.size w w' := by
  go_enter Try.func17, Try.ntmps17
  go_wp2
  go_ret
  exact ⟨rfl, (Below.refl _ _).alloc (Nat.le_refl _) _⟩
theorem nSet (x : Vl) : Calls Try.prog 30 #[.pointer none, .int .i32 i, vlc x] w fun e w' => e = .returned (.bool false) ∧ Below w.heap.size w w' := by
  go_enter Try.func30, Try.ntmps30
  go_wp2_with fail
  refine (at_nil' i _).mono ?_
  rintro e w0 ⟨rfl, rfl⟩
  go_wp2
  go_ret
  exact ⟨rfl, (Below.refl _ _).alloc (Nat.le_refl _) _⟩
theorem nGet : Calls Try.prog 28 #[.pointer none, .int .i32 i] w fun e w' => e = .returned (.tuple #[vlc zeV, .bool false]) ∧ Below w.heap.size w w' := by
  go_enter Try.func28, Try.ntmps28
  go_wp2_with fail
  refine (at_nil' i _).mono ?_
  rintro e w0 ⟨rfl, rfl⟩
  go_wp2
  go_returns
  exact ⟨rfl, (Below.refl _ _).alloc (Nat.le_refl _) _⟩
theorem nTotal : Calls Try.prog 19 #[.pointer none, .int .i32 i] w fun e w' => e = .returned (vlc noV) ∧ Below w.heap.size w w' := by
  have hb1 := (Below.refl w.heap.size w).alloc (Nat.le_refl _) (.cells #[.int .i64 0, .int .i64 0, .int .i64 0, .int .u8 0] 41)
  have HB : Hid _ := hb1
  clear hb1
  go_enter Try.func19, Try.ntmps19
  go_wp2_with fail
  refine (nroot i _).mono ?_
  rintro e w0 ⟨rfl, rfl⟩
  go_wp2_with fail
  refine (nsum0 _).mono ?_
  rintro e w1 ⟨rfl, hb2⟩
  have hbk := (Blk.new w 41 #[.int .i64 0, .int .i64 0, .int .i64 0, .int .u8 0]).below hb2
  have c0 := hbk.at (j := 0) rfl
  have c1 := hbk.at (j := 1) rfl
  have c2 := hbk.at (j := 2) rfl
  have c3 := hbk.at (j := 3) rfl
  have f0 := hbk.frozen 0
  have f1 := hbk.frozen 1
  have f2 := hbk.frozen 2
  have f3 := hbk.frozen 3
  have HK : Hid _ := hbk
  have HB2 : Hid (Below w.heap.size w w1) := HB.out.trans (hb2.mono (by simp))
  clear hb2 hbk HB
  generalize hZ : noV = Z at *
  have HZ : Hid _ := hZ
  clear hZ
  go_wp2
  refine bodyPost_ret (results_cell_row rfl _ _ w.heap.size 41 _ (0, 0) _ rfl (Blk.store4 HK.out _ _ _ _) Try.underlying41 rfl (by kernel_rfl)) rfl ?_
  rw [HZ.out]
  exact ⟨rfl, ((((HB2.out.setCell (Nat.le_refl _) _).setCell (Nat.le_refl _) _).setCell (Nat.le_refl _) _).setCell (Nat.le_refl _) _)⟩
set_option maxRecDepth 100000 in
theorem nFind (mask : Int) (hmk : 0 ≤ mask ∧ mask ≤ 255) : Calls Try.prog 36 #[.pointer none, .int .i32 i, .int .u8 mask] w fun e w' => e = .returned (.int .i32 0) ∧ Below w.heap.size w w' := by
  have hfl := fldV
  have hz0 : (bits BinOp.and IntKind.u8 0 mask == 0) = true := by have := hasB_zero mask; unfold hasB at this; simpa using this
  have hz' : (bits BinOp.and IntKind.u8 noV.m mask == 0) = true := hz0
  clear hz0
  generalize hZ : noV = Z at *
  have HS : Hid (∀ w : World, Calls Try.prog 57 #[.pointer none, .int .i32 0] w fun e w' => e = .returned (vlc Z) ∧ Below w.heap.size w w') := fun w => by rw [← hZ]; exact nsum0 w
  clear hZ
  go_enter Try.func36, Try.ntmps36
  go_wp2_with fail
  refine (nroot i w).mono ?_
  rintro e w0 ⟨rfl, rfl⟩
  go_wp2_with fail
  refine (HS.out w0).mono ?_
  rintro e w1 ⟨rfl, hb1⟩
  go_wp2
  go_ret
  exact ⟨rfl, hb1⟩
end
set_option maxRecDepth 100000 in
set_option maxHeartbeats 1000000 in
theorem onward1_nil (n : Nat) (hn : 1 ≤ n) (b c : Nat) (i : Int) (w : World) (hbx : Bxs b c none i w) :
    SeqL Fence.wide n Try.prog 88 #[.pointer (some ⟨b, 0, none⟩), .pointer (some ⟨c, 0, none⟩)] (fun x : Int => #[.int .i32 x]) (fun _ _ => False) (AllOf []) (PartOf []) 0 w := fun l J Jx X hX hJ hJx hl1 hl2 hY h0 => by
  have hbX := hbx.below hX
  have c1 := hbX.1.cell1
  have c2 := hbX.2.cell1
  have H0 : Hid (J [] X) := h0
  clear hbx hX hbX hJ hJx hY h0
  refine callsIn_of_wp Try.func88 rfl trivial ?_ rfl
  simp only [Try.ntmps88, List.size_toArray, List.length_cons, List.length_nil, Nat.reduceAdd, Nat.reduceSub, Array.replicate_succ, Array.replicate_zero, List.push_toArray, List.append_toArray, List.nil_append, List.cons_append]
  gi_wp2_with fail
  refine ⟨trivial, ?_⟩
  refine (callsIn_wide.2 (nFirst i X)).mono ?_
  rintro e w0 ⟨rfl, rfl⟩
  gi_wp2
  gi_loopw [4] (fun v wr => v = .int .i32 0 ∧ Hid (J [] wr)) (fun _ _ => 0)
  case atStart => exact ⟨rfl, H0.out⟩
  case round =>
    obtain ⟨rfl, HJm⟩ := hrel
    gi_wp2
    repeat (refine ⟨fun _ h => (by cases h), ?_⟩; gi_wp2)
    go_end0
    exact ⟨⟨_, rfl⟩, .inl ⟨_, rfl, HJm.out⟩⟩
set_option maxRecDepth 100000 in
set_option maxHeartbeats 1000000 in
theorem walk1_nil (n : Nat) (hn : 4 ≤ n) (b c : Nat) (i : Int) (w : World) (hbx : Bxs b c none i w) :
    SeqL Fence.wide n Try.prog 69 #[.pointer (some ⟨b, 0, none⟩), .pointer (some ⟨c, 0, none⟩)] (fun x : Int => #[.int .i32 x]) (fun _ _ => False) (AllOf []) (PartOf []) 0 w := fun l J Jx X hX hJ hJx hl1 hl2 hY h0 => by
  have hbX := hbx.below hX
  have c1 := hbX.1.cell1
  have c2 := hbX.2.cell1
  obtain ⟨cs, hcs, hmk⟩ := make_i32 0 (by omega)
  have HJ : Hid (OwnFrom X.heap.size J) := hJ
  have H0 : Hid (J [] X) := h0
  have d1 : ((X.alloc (.cells cs 21)).alloc (.cells #[.slice (some ⟨X.heap.size, 0, none⟩) 0 0] 26)).cell? ⟨b, 0, none⟩ = some (.pointer none) := ((hbX.1.alloc _).alloc _).cell1
  have d2 : ((X.alloc (.cells cs 21)).alloc (.cells #[.slice (some ⟨X.heap.size, 0, none⟩) 0 0] 26)).cell? ⟨c, 0, none⟩ = some (.int .i32 i) := ((hbX.2.alloc _).alloc _).cell1
  have b01 : Below X.heap.size X ((X.alloc (.cells cs 21)).alloc (.cells #[.slice (some ⟨X.heap.size, 0, none⟩) 0 0] 26)) := below_new ((Below.refl _ _).alloc (Nat.le_refl _) _) (Nat.le_refl _) _
  have hbox : Blk ((X.alloc (.cells cs 21)).alloc (.cells #[.slice (some ⟨X.heap.size, 0, none⟩) 0 0] 26)) (X.heap.size + 1) 26 #[.slice (some ⟨X.heap.size, 0, none⟩) 0 0] := by
    have := Blk.new (X.alloc (.cells cs 21)) 26 #[.slice (some ⟨X.heap.size, 0, none⟩) 0 0]
    rwa [World.size_alloc] at this
  have HX0 : Hid (Blk ((X.alloc (.cells cs 21)).alloc (.cells #[.slice (some ⟨X.heap.size, 0, none⟩) 0 0] 26)) (X.heap.size + 1) 26 #[.slice (some ⟨X.heap.size, 0, none⟩) 0 0]) := hbox
  have HB01 : Hid (Below X.heap.size X ((X.alloc (.cells cs 21)).alloc (.cells #[.slice (some ⟨X.heap.size, 0, none⟩) 0 0] 26))) := b01
  clear hbx hX hbX hJ hJx hY h0 b01 hbox
  rw [show ((0 : Nat) : Int) = 0 from rfl] at hmk
  refine callsIn_of_wp_marks Try.func69 rfl trivial ?_ rfl
  simp only [Try.ntmps69, List.size_toArray, List.length_cons, List.length_nil, Nat.reduceAdd, Nat.reduceSub, Array.replicate_succ, Array.replicate_zero, List.push_toArray, List.append_toArray, List.nil_append, List.cons_append]
  gi_wp2_with fail
  refine ⟨trivial, fun _ => by omega, ?_⟩
  refine (callsIn_wide.2 (nSize i X)).mono ?_
  rintro e w0 ⟨rfl, rfl⟩
  gi_wp2_with fail
  refine ⟨trivial, fun _ => by omega, ?_⟩
  refine (callsIn_wide.2 (onward_ab _ _ _)).mono ?_
  rintro e X2 ⟨b', c', rfl, hB', hb1, hc1, hb2⟩
  have hbox2 := HX0.out.below hb2
  have b02 : Below w0.heap.size w0 X2 := HB01.out.trans (hb2.mono (by simp; omega))
  have HSQ := onward1_nil (n - 1) (by omega) b' c' i X2 hB'
  clear hmk c1 c2 d1 d2 HX0 HB01 hb2 hB' hb1 hc1
  gi_wp2_with fail
  refine range_own rfl (by omega) (gf := 88) (lb := #[.pointer (some ⟨b', 0, none⟩), .pointer (some ⟨c', 0, none⟩)]) rfl trivial (enters_of Try.func88 (by kernel_rfl) rfl) HSQ (Below.refl _ _) (fun _ => rfl)
    (fun _ A => Blk A (w0.heap.size + 1) 26 #[.slice (some ⟨w0.heap.size, 0, none⟩) 0 0] ∧ Below w0.heap.size w0 A) (fun _ _ _ => False)
    (OwnFrom.and (Own.from (blk_own _ _ (fun _ => _)) _) (ownFrom_below (Nat.le_refl _) b02.size)) (fun _ _ _ _ _ hs _ _ => hs)
    ⟨hbox2, b02⟩ ?a1 ?assign ?body ?done ?stop
  case assign =>
    intro l' x A Kk hK
    gi_wp2
    exact hK
  case body =>
    rintro l' pre x A _ hlp
    exact absurd hlp (Nat.not_lt_zero _)
  case stop =>
    rintro D cc pre A hD hpre hF _
    exact hF.elim
  case done =>
    rintro D ys A hD rfl ⟨hv1, hBl⟩ hK
    have cv := hv1.cell1
    have HJ0 : Hid (J [] A) := HJ.out _ _ _ none H0.out (below_grown hBl) (fun r e => by cases e)
    have HK : Hid (A.heap[D]? = some (.deferred (some [])) ∧ w0.heap.size ≤ D) := ⟨hK, by have := b02.size; omega⟩
    clear hv1 hBl hK hbox2
    gi_wp2
    gi_loopw [22] (fun vq wr => vq = .int .i64 0 ∧ Hid (J [] wr ∧ wr.heap[D]? = some (.deferred (some [])) ∧ w0.heap.size ≤ D)) (fun _ _ => 0)
    case atStart => exact ⟨rfl, HJ0.out, HK.out⟩
    case round =>
      obtain ⟨rfl, HJq⟩ := hrel
      gi_wp2
      refine ⟨by simp, .inl ⟨_, _, rfl, run_takeDeferred HJq.out.2.1, ?_⟩⟩
      refine ⟨.tuple #[], ?_, ⟨_, rfl⟩, .inl ⟨_, rfl, HJ.out.putObj _ HJq.out.1 HJq.out.2.2 HJq.out.2.1 rfl⟩⟩
      simp [results, Try.f69, go_sem]
end Go.Proofs.Ytaoeifeiendfhaa
