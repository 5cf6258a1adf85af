/- Layer 8's statement ForestNobody (by tools/gen_fornobody.py). -/
import Derived.Test.YtkpfonfcgoocfaaGreatForestAwake
import Derived.Test.YtkpfonfcgoocfaaGreatForestActs
import Derived.Test.YtkpfonfcgoocfaaGreatBag
import Derived.Lib.SmallJoins
namespace Go.Proofs.YtkpfonfcgoocfaaGreat.A8
open Go.RowKit Go.ChangeShapes Go.WideShapes Go.Deep Go.Joins
set_option linter.unusedVariables false
set_option maxRecDepth 100000 in
theorem open_act {H : Type} {enc : TypeId × Value → H} {W : World} {base : Nat} {v : Value} {d : DataW H} {ps : List MemPlace} (hv : Value.okWide Tryz.prog W .any base 56 v)
    (h : DataW.Trod enc Tryz.prog W 0 (fun _ => true) true 56 v d ps) : ∃ q : Ac, v = .agg #[.int .u8 q.d, .int .i64 q.e, .int .i64 q.a, .int .i64 q.b, .int .i64 q.x, .int .i64 q.y, .int .u8 q.m] ∧ Ok q := by
  obtain ⟨⟨cl⟩, rfl, hsz⟩ := okWide_struct Tryz.underlying56 hv
  have hsz' : cl.length = 7 := by rw [cellsA] at hsz; simpa using hsz
  obtain ⟨fuel, hf⟩ := h
  obtain ⟨xs, k, hk, hxy, _, hxl, hfl⟩ := DataW.trod_struct Tryz.underlying56 hf
  simp only [Value.cells] at hfl
  match xs, hxl, cl, hsz' with
  | [y0, y1, y2, y3, y4, y5, y6], _, [v0, v1, v2, v3, v4, v5, v6], _ =>
    have g0 : DataW.trod enc Tryz.prog W 0 (fun _ => true) true k 5 [v0] = some y0 := by
      have g : DataW.trod enc Tryz.prog W 0 (fun _ => true) true k 5 (List.take (Tryz.prog.cellsOf 5) (List.drop 0 [v0, v1, v2, v3, v4, v5, v6])) = [y0, y1, y2, y3, y4, y5, y6][0]? := hfl 0 _ rfl
      rw [cells_uint8] at g
      exact g
    have g1 : DataW.trod enc Tryz.prog W 0 (fun _ => true) true k 3 [v1] = some y1 := by
      have g : DataW.trod enc Tryz.prog W 0 (fun _ => true) true k 3 (List.take (Tryz.prog.cellsOf 3) (List.drop 1 [v0, v1, v2, v3, v4, v5, v6])) = [y0, y1, y2, y3, y4, y5, y6][1]? := hfl 1 _ rfl
      rw [cells_int] at g
      exact g
    have g2 : DataW.trod enc Tryz.prog W 0 (fun _ => true) true k 3 [v2] = some y2 := by
      have g : DataW.trod enc Tryz.prog W 0 (fun _ => true) true k 3 (List.take (Tryz.prog.cellsOf 3) (List.drop 2 [v0, v1, v2, v3, v4, v5, v6])) = [y0, y1, y2, y3, y4, y5, y6][2]? := hfl 2 _ rfl
      rw [cells_int] at g
      exact g
    have g3 : DataW.trod enc Tryz.prog W 0 (fun _ => true) true k 3 [v3] = some y3 := by
      have g : DataW.trod enc Tryz.prog W 0 (fun _ => true) true k 3 (List.take (Tryz.prog.cellsOf 3) (List.drop 3 [v0, v1, v2, v3, v4, v5, v6])) = [y0, y1, y2, y3, y4, y5, y6][3]? := hfl 3 _ rfl
      rw [cells_int] at g
      exact g
    have g4 : DataW.trod enc Tryz.prog W 0 (fun _ => true) true k 3 [v4] = some y4 := by
      have g : DataW.trod enc Tryz.prog W 0 (fun _ => true) true k 3 (List.take (Tryz.prog.cellsOf 3) (List.drop 4 [v0, v1, v2, v3, v4, v5, v6])) = [y0, y1, y2, y3, y4, y5, y6][4]? := hfl 4 _ rfl
      rw [cells_int] at g
      exact g
    have g5 : DataW.trod enc Tryz.prog W 0 (fun _ => true) true k 3 [v5] = some y5 := by
      have g : DataW.trod enc Tryz.prog W 0 (fun _ => true) true k 3 (List.take (Tryz.prog.cellsOf 3) (List.drop 5 [v0, v1, v2, v3, v4, v5, v6])) = [y0, y1, y2, y3, y4, y5, y6][5]? := hfl 5 _ rfl
      rw [cells_int] at g
      exact g
    have g6 : DataW.trod enc Tryz.prog W 0 (fun _ => true) true k 5 [v6] = some y6 := by
      have g : DataW.trod enc Tryz.prog W 0 (fun _ => true) true k 5 (List.take (Tryz.prog.cellsOf 5) (List.drop 6 [v0, v1, v2, v3, v4, v5, v6])) = [y0, y1, y2, y3, y4, y5, y6][6]? := hfl 6 _ rfl
      rw [cells_uint8] at g
      exact g
    obtain ⟨q0, r0, _, b0⟩ := DataW.trod_int Tryz.underlying5 g0
    obtain ⟨q1, r1, _, b1⟩ := DataW.trod_int Tryz.underlying3 g1
    obtain ⟨q2, r2, _, b2⟩ := DataW.trod_int Tryz.underlying3 g2
    obtain ⟨q3, r3, _, b3⟩ := DataW.trod_int Tryz.underlying3 g3
    obtain ⟨q4, r4, _, b4⟩ := DataW.trod_int Tryz.underlying3 g4
    obtain ⟨q5, r5, _, b5⟩ := DataW.trod_int Tryz.underlying3 g5
    obtain ⟨q6, r6, _, b6⟩ := DataW.trod_int Tryz.underlying5 g6
    simp at r0 r1 r2 r3 r4 r5 r6
    subst r0 r1 r2 r3 r4 r5 r6
    exact ⟨⟨q0, q1, q2, q3, q4, q5, q6⟩, rfl, bounds_u8 b0, bounds_i64 b1, bounds_i64 b2, bounds_i64 b3, bounds_i64 b4, bounds_i64 b5, bounds_u8 b6⟩
end Go.Proofs.YtkpfonfcgoocfaaGreat.A8
namespace Go.Proofs.YtkpfonfcgoocfaaGreat
open Go.RowKit Go.Shelf
attribute [local go_sem] Oper.semAt_some
set_option linter.unusedVariables false
/-- The function that Vertices hands back, over its two boxes. -/
abbrev fvertF (b c : Nat) : Value := .func (.func 73) #[] #[.pointer (some ⟨b, 0, none⟩), .pointer (some ⟨c, 0, none⟩)]
def Bxf (b c : Nat) (p : Option Addr) (v : Int) (w : World) : Prop := Blk w b 48 #[.pointer p] ∧ Blk w c 3 #[.int .i64 v]
theorem Bxf.below {b c : Nat} {p : Option Addr} {v : Int} {w w' : World} (h : Bxf b c p v w) (hb : Below w.heap.size w w') : Bxf b c p v w' := ⟨h.1.below hb, h.2.below hb⟩
theorem fvertF_nil (b c : Nat) (w : World) : (binOp BinOp.eql 65 (fvertF b c) Value.nilFunc).run Tryz.prog w = .ok (.bool false) w := by kernel_rfl
set_option maxHeartbeats 400000 in
theorem fovertices_ab (p : Option Addr) (v : Int) (w : World) : Calls Tryz.prog 20 #[.pointer p, .int .i64 v] w fun e w' => ∃ b c, e = .returned (fvertF b c) ∧ Bxf b c p v w' ∧ w.heap.size ≤ b ∧ w.heap.size ≤ c ∧ Below w.heap.size w w' := by
  go_enter Tryz.func20, Tryz.ntmps20
  go_wp2
  go_ret
  refine ⟨_, _, rfl, ⟨(Blk.new w _ _).alloc _, ?_⟩, Nat.le_refl _, Nat.le_succ _, below_new ((Below.refl _ _).alloc (Nat.le_refl _) _) (Nat.le_refl _) _⟩
  have := Blk.new (w.alloc (.cells #[.pointer p] 48)) 3 #[.int .i64 v]
  rwa [World.size_alloc] at this
set_option maxRecDepth 100000 in
set_option maxHeartbeats 1600000 in
theorem fovert1_nil (n : Nat) (hn : 4 ≤ n) (b c : Nat) (v : Int) (w : World) (hbx : Bxf b c none v w) :
    SeqL Fence.wide n Tryz.prog 73 #[.pointer (some ⟨b, 0, none⟩), .pointer (some ⟨c, 0, none⟩)] (fun x : Int => #[.int .i64 x]) (fun k t => w.heap.size ≤ k ∧ t = 3) (AllOf []) (PartOf []) 0 w := fun l J Jx X hX hJ hJx hl1 hl2 hY h0 => by
  have hbX := hbx.below hX
  have c1 : ∀ o, (X.alloc o).cell? ⟨b, 0, none⟩ = some (.pointer none) := fun o => (hbX.1.alloc o).cell1
  have HJ : Hid (OwnFrom X.heap.size J) := hJ
  have H0 : Hid (J [] X) := h0
  clear hbx hX hJ hJx hY h0
  refine callsIn_of_wp_marks Tryz.func73 rfl trivial ?_ rfl
  simp only [Tryz.ntmps73, List.size_toArray, List.length_cons, List.length_nil, Nat.reduceAdd, Nat.reduceSub, Array.replicate_succ, Array.replicate_zero, List.push_toArray, List.append_toArray, List.nil_append, List.cons_append]
  gi_wp2
  refine ⟨.tuple #[], ?_, ⟨_, rfl⟩, .inl ⟨_, rfl, HJ.out _ _ _ none H0.out (below_grown ((Below.refl _ _).alloc (Nat.le_refl _) _)) (fun r e => by cases e)⟩⟩
  simp [results, Tryz.f73, go_sem]
theorem eqBf {f : FuncId} {args : Array Value} {w : World} {v : Value} (h : Calls Tryz.prog f args w fun e w' => e = .returned v ∧ w' = w) : Calls Tryz.prog f args w fun e w' => e = .returned v ∧ Below w.heap.size w w' := h.mono fun e w' ⟨h1, h2⟩ => ⟨h1, by rw [h2]; exact Below.refl _ _⟩
set_option maxRecDepth 100000 in
set_option maxHeartbeats 8000000 in
theorem forestnobody_walk (q : A8.Ac) (w : World) (hq : A8.Ok q) : Calls Tryz.prog 5 #[.agg #[.int .u8 q.d, .int .i64 q.e, .int .i64 q.a, .int .i64 q.b, .int .i64 q.x, .int .i64 q.y, .int .u8 q.m]] w fun e w' => e = .returned (.bool true) ∧ Below w.heap.size w w' := by
  have hnil := fvertF_nil
  obtain ⟨d, n, a, b, x, y, m⟩ := q
  simp only
  clear hq
  have hA : Blk ((w.alloc (.cells #[.int .u8 d, .int .i64 n, .int .i64 a, .int .i64 b, .int .i64 x, .int .i64 y, .int .u8 m] 56)).alloc (.cells #[.bool false] 4)) w.heap.size 56 #[.int .u8 d, .int .i64 n, .int .i64 a, .int .i64 b, .int .i64 x, .int .i64 y, .int .u8 m] := (Blk.new w _ _).alloc _
  have hR : Blk ((w.alloc (.cells #[.int .u8 d, .int .i64 n, .int .i64 a, .int .i64 b, .int .i64 x, .int .i64 y, .int .u8 m] 56)).alloc (.cells #[.bool false] 4)) (w.heap.size + 1) 4 #[.bool false] := by
    have := Blk.new (w.alloc (.cells #[.int .u8 d, .int .i64 n, .int .i64 a, .int .i64 b, .int .i64 x, .int .i64 y, .int .u8 m] 56)) 4 #[.bool false]
    rwa [World.size_alloc] at this
  have hb0 : Below w.heap.size w ((w.alloc (.cells #[.int .u8 d, .int .i64 n, .int .i64 a, .int .i64 b, .int .i64 x, .int .i64 y, .int .u8 m] 56)).alloc (.cells #[.bool false] 4)) := below_new ((Below.refl _ _).alloc (Nat.le_refl _) _) (Nat.le_refl _) _
  have R0 : Hid (Blk ((w.alloc (.cells #[.int .u8 d, .int .i64 n, .int .i64 a, .int .i64 b, .int .i64 x, .int .i64 y, .int .u8 m] 56)).alloc (.cells #[.bool false] 4)) w.heap.size 56 #[.int .u8 d, .int .i64 n, .int .i64 a, .int .i64 b, .int .i64 x, .int .i64 y, .int .u8 m] ∧ Blk ((w.alloc (.cells #[.int .u8 d, .int .i64 n, .int .i64 a, .int .i64 b, .int .i64 x, .int .i64 y, .int .u8 m] 56)).alloc (.cells #[.bool false] 4)) (w.heap.size + 1) 4 #[.bool false]) := ⟨hA, hR⟩
  have B0 := hid_mk hb0
  have c1 := hA.at (j := 1) rfl
  have c2 := hA.at (j := 2) rfl
  have c3 := hA.at (j := 3) rfl
  have c4 := hA.at (j := 4) rfl
  have c5 := hA.at (j := 5) rfl
  have c6 := hA.at (j := 6) rfl
  clear hA hR hb0
  refine (callsIn_wide (n := 9)).1 ?_
  refine callsIn_of_wp_marks Tryz.func5 rfl trivial ?_ rfl
  simp only [Tryz.ntmps5, List.size_toArray, List.length_cons, List.length_nil, Nat.reduceAdd, Nat.reduceSub, Array.replicate_succ, Array.replicate_zero, List.push_toArray, List.append_toArray, List.nil_append, List.cons_append]
  gi_wp2_with fail
  refine ⟨trivial, ?_⟩
  gi_at_call 18
  refine (callsIn_wide.2 (eqBf (fofindV_nil a m _))).mono ?_
  rintro e x1 ⟨rfl, hb⟩
  have R1 : Hid (_ ∧ _) := ⟨R0.out.1.below hb, R0.out.2.below hb⟩
  have B1 := hid_mk (B0.out.trans (hb.mono B0.out.size))
  clear hb R0 B0
  clear c1 c2 c3 c4 c5 c6
  have c1 := R1.out.1.at (j := 1) rfl
  have c2 := R1.out.1.at (j := 2) rfl
  have c3 := R1.out.1.at (j := 3) rfl
  have c4 := R1.out.1.at (j := 4) rfl
  have c5 := R1.out.1.at (j := 5) rfl
  have c6 := R1.out.1.at (j := 6) rfl
  gi_wp2_with fail
  refine ⟨trivial, ?_⟩
  gi_at_call 19
  refine (callsIn_wide.2 (eqBf (fofindE_nil a m _))).mono ?_
  rintro e x2 ⟨rfl, hb⟩
  have R2 : Hid (_ ∧ _) := ⟨R1.out.1.below hb, R1.out.2.below hb⟩
  have B2 := hid_mk (B1.out.trans (hb.mono B1.out.size))
  clear hb R1 B1
  clear c1 c2 c3 c4 c5 c6
  have c1 := R2.out.1.at (j := 1) rfl
  have c2 := R2.out.1.at (j := 2) rfl
  have c3 := R2.out.1.at (j := 3) rfl
  have c4 := R2.out.1.at (j := 4) rfl
  have c5 := R2.out.1.at (j := 5) rfl
  have c6 := R2.out.1.at (j := 6) rfl
  gi_wp2_with fail
  refine ⟨trivial, ?_⟩
  gi_at_call 20
  refine (callsIn_wide.2 (fovertices_ab _ _ _)).mono ?_
  rintro e y1 ⟨b1, e1, rfl, hx1, _, _, hb⟩
  have R3 : Hid (_ ∧ _) := ⟨R2.out.1.below hb, R2.out.2.below hb⟩
  have B3 := hid_mk (B2.out.trans (hb.mono B2.out.size))
  clear hb R2 B2
  clear c1 c2 c3 c4 c5 c6
  have c1 := R3.out.1.at (j := 1) rfl
  have c2 := R3.out.1.at (j := 2) rfl
  have c3 := R3.out.1.at (j := 3) rfl
  have c4 := R3.out.1.at (j := 4) rfl
  have c5 := R3.out.1.at (j := 5) rfl
  have c6 := R3.out.1.at (j := 6) rfl
  gi_wp2_with fail
  refine ⟨trivial, ?_⟩
  gi_at_call 20
  refine (callsIn_wide.2 (fovertices_ab _ _ _)).mono ?_
  rintro e X2 ⟨b2, e2, rfl, hx2, _, _, hb⟩
  have R4 : Hid (_ ∧ _) := ⟨R3.out.1.below hb, R3.out.2.below hb⟩
  have B4 := hid_mk (B3.out.trans (hb.mono B3.out.size))
  clear hb R3 B3
  clear c1 c2 c3 c4 c5 c6
  have c1 := R4.out.1.at (j := 1) rfl
  have c2 := R4.out.1.at (j := 2) rfl
  have c3 := R4.out.1.at (j := 3) rfl
  have c4 := R4.out.1.at (j := 4) rfl
  have c5 := R4.out.1.at (j := 5) rfl
  have c6 := R4.out.1.at (j := 6) rfl
  clear hnil hx1
  have HSQ := hid_mk (fovert1_nil (n := 8) (by omega) b2 e2 a X2 hx2)
  clear hx2
  gi_wp2_with fail
  refine range_own rfl (by omega) (gf := 73) (lb := #[.pointer (some ⟨b2, 0, none⟩), .pointer (some ⟨e2, 0, none⟩)]) rfl trivial (enters_of Tryz.func73 (by kernel_rfl) rfl) HSQ.out (Below.refl _ _) (fun _ => rfl)
    (fun _ A => (Blk A w.heap.size 56 #[.int .u8 d, .int .i64 n, .int .i64 a, .int .i64 b, .int .i64 x, .int .i64 y, .int .u8 m] ∧ Blk A (w.heap.size + 1) 4 #[.bool false]) ∧ Below w.heap.size w A) (fun _ _ _ => False)
    (OwnFrom.and (OwnFrom.and (Own.from (blk_own _ _ (fun _ => _)) _) (Own.from (blk_own _ _ (fun _ => _)) _)) (ownFrom_below (Nat.le_refl _) B4.out.size)) (fun _ _ _ _ _ hs _ _ => hs)
    ⟨R4.out, B4.out⟩ ?a1 ?assign ?body ?done ?stop
  case assign =>
    intro l' x A Kk hK
    gi_wp2
    exact hK
  case body =>
    rintro l' pre x A _ hlp
    exact absurd hlp.1 (Nat.not_lt_zero _)
  case stop =>
    rintro D cc pre A hD hpre hF _
    exact hF.elim
  case done =>
    rintro D ys A hD rfl ⟨hR, hBl⟩ hK
    have hDw : w.heap.size + 1 < D := by have := R4.out.2.lt; omega
    clear c1 c2 c3 c4 c5 c6
    clear R4 B4 HSQ
    have R5 := hid_mk hR
    have B5 := hid_mk hBl
    have D5 := hid_mk hK
    clear hR hBl hK
    have c1 := R5.out.1.at (j := 1) rfl
    have c2 := R5.out.1.at (j := 2) rfl
    have c3 := R5.out.1.at (j := 3) rfl
    have c4 := R5.out.1.at (j := 4) rfl
    have c5 := R5.out.1.at (j := 5) rfl
    have c6 := R5.out.1.at (j := 6) rfl
    gi_wp2_with fail
    refine ⟨trivial, ?_⟩
    gi_at_call 21
    refine (callsIn_wide.2 (eqBf (foadd_nil a x y _))).mono ?_
    rintro e x6 ⟨rfl, hb⟩
    have R6 : Hid (_ ∧ _) := ⟨R5.out.1.below hb, R5.out.2.below hb⟩
    have B6 := hid_mk (B5.out.trans (hb.mono B5.out.size))
    have D6 := hid_mk ((hb.block D (Array.getElem?_eq_some_iff.1 D5.out).1).trans D5.out)
    clear hb R5 B5 D5
    clear c1 c2 c3 c4 c5 c6
    have c1 := R6.out.1.at (j := 1) rfl
    have c2 := R6.out.1.at (j := 2) rfl
    have c3 := R6.out.1.at (j := 3) rfl
    have c4 := R6.out.1.at (j := 4) rfl
    have c5 := R6.out.1.at (j := 5) rfl
    have c6 := R6.out.1.at (j := 6) rfl
    gi_wp2_with fail
    refine ⟨trivial, ?_⟩
    gi_at_call 22
    refine (callsIn_wide.2 (eqBf (fodrop_nil a _))).mono ?_
    rintro e x7 ⟨rfl, hb⟩
    have R7 : Hid (_ ∧ _) := ⟨R6.out.1.below hb, R6.out.2.below hb⟩
    have B7 := hid_mk (B6.out.trans (hb.mono B6.out.size))
    have D7 := hid_mk ((hb.block D (Array.getElem?_eq_some_iff.1 D6.out).1).trans D6.out)
    clear hb R6 B6 D6
    clear c1 c2 c3 c4 c5 c6
    have c1 := R7.out.1.at (j := 1) rfl
    have c2 := R7.out.1.at (j := 2) rfl
    have c3 := R7.out.1.at (j := 3) rfl
    have c4 := R7.out.1.at (j := 4) rfl
    have c5 := R7.out.1.at (j := 5) rfl
    have c6 := R7.out.1.at (j := 6) rfl
    gi_wp2_with fail
    refine ⟨trivial, ?_⟩
    gi_at_call 23
    refine (callsIn_wide.2 (eqBf (foset_nil a x y _))).mono ?_
    rintro e x8 ⟨rfl, hb⟩
    have R8 : Hid (_ ∧ _) := ⟨R7.out.1.below hb, R7.out.2.below hb⟩
    have B8 := hid_mk (B7.out.trans (hb.mono B7.out.size))
    have D8 := hid_mk ((hb.block D (Array.getElem?_eq_some_iff.1 D7.out).1).trans D7.out)
    clear hb R7 B7 D7
    clear c1 c2 c3 c4 c5 c6
    have c1 := R8.out.1.at (j := 1) rfl
    have c2 := R8.out.1.at (j := 2) rfl
    have c3 := R8.out.1.at (j := 3) rfl
    have c4 := R8.out.1.at (j := 4) rfl
    have c5 := R8.out.1.at (j := 5) rfl
    have c6 := R8.out.1.at (j := 6) rfl
    gi_wp2_with fail
    refine ⟨trivial, ?_⟩
    gi_at_call 24
    refine (callsIn_wide.2 (eqBf (folink_nil n a b _))).mono ?_
    rintro e x9 ⟨rfl, hb⟩
    have R9 : Hid (_ ∧ _) := ⟨R8.out.1.below hb, R8.out.2.below hb⟩
    have B9 := hid_mk (B8.out.trans (hb.mono B8.out.size))
    have D9 := hid_mk ((hb.block D (Array.getElem?_eq_some_iff.1 D8.out).1).trans D8.out)
    clear hb R8 B8 D8
    clear c1 c2 c3 c4 c5 c6
    have c1 := R9.out.1.at (j := 1) rfl
    have c2 := R9.out.1.at (j := 2) rfl
    have c3 := R9.out.1.at (j := 3) rfl
    have c4 := R9.out.1.at (j := 4) rfl
    have c5 := R9.out.1.at (j := 5) rfl
    have c6 := R9.out.1.at (j := 6) rfl
    gi_wp2_with fail
    refine ⟨trivial, ?_⟩
    gi_at_call 25
    refine (callsIn_wide.2 (eqBf (focut_nil n _))).mono ?_
    rintro e x10 ⟨rfl, hb⟩
    have R10 : Hid (_ ∧ _) := ⟨R9.out.1.below hb, R9.out.2.below hb⟩
    have B10 := hid_mk (B9.out.trans (hb.mono B9.out.size))
    have D10 := hid_mk ((hb.block D (Array.getElem?_eq_some_iff.1 D9.out).1).trans D9.out)
    clear hb R9 B9 D9
    clear c1 c2 c3 c4 c5 c6
    have c1 := R10.out.1.at (j := 1) rfl
    have c2 := R10.out.1.at (j := 2) rfl
    have c3 := R10.out.1.at (j := 3) rfl
    have c4 := R10.out.1.at (j := 4) rfl
    have c5 := R10.out.1.at (j := 5) rfl
    have c6 := R10.out.1.at (j := 6) rfl
    gi_wp2_with fail
    refine ⟨trivial, ?_⟩
    gi_at_call 26
    refine (callsIn_wide.2 (eqBf (fomark_nil a m _))).mono ?_
    rintro e x11 ⟨rfl, hb⟩
    have R11 : Hid (_ ∧ _) := ⟨R10.out.1.below hb, R10.out.2.below hb⟩
    have B11 := hid_mk (B10.out.trans (hb.mono B10.out.size))
    have D11 := hid_mk ((hb.block D (Array.getElem?_eq_some_iff.1 D10.out).1).trans D10.out)
    clear hb R10 B10 D10
    clear c1 c2 c3 c4 c5 c6
    have c1 := R11.out.1.at (j := 1) rfl
    have c2 := R11.out.1.at (j := 2) rfl
    have c3 := R11.out.1.at (j := 3) rfl
    have c4 := R11.out.1.at (j := 4) rfl
    have c5 := R11.out.1.at (j := 5) rfl
    have c6 := R11.out.1.at (j := 6) rfl
    gi_wp2_with fail
    refine ⟨trivial, ?_⟩
    gi_at_call 27
    refine (callsIn_wide.2 (eqBf (foemark_nil n m _))).mono ?_
    rintro e x12 ⟨rfl, hb⟩
    have R12 : Hid (_ ∧ _) := ⟨R11.out.1.below hb, R11.out.2.below hb⟩
    have B12 := hid_mk (B11.out.trans (hb.mono B11.out.size))
    have D12 := hid_mk ((hb.block D (Array.getElem?_eq_some_iff.1 D11.out).1).trans D11.out)
    clear hb R11 B11 D11
    clear c1 c2 c3 c4 c5 c6
    have c1 := R12.out.1.at (j := 1) rfl
    have c2 := R12.out.1.at (j := 2) rfl
    have c3 := R12.out.1.at (j := 3) rfl
    have c4 := R12.out.1.at (j := 4) rfl
    have c5 := R12.out.1.at (j := 5) rfl
    have c6 := R12.out.1.at (j := 6) rfl
    gi_wp2_with fail
    refine ⟨trivial, ?_⟩
    gi_at_call 28
    refine (callsIn_wide.2 (eqBf (fohas_nil a _))).mono ?_
    rintro e x13 ⟨rfl, hb⟩
    have R13 : Hid (_ ∧ _) := ⟨R12.out.1.below hb, R12.out.2.below hb⟩
    have B13 := hid_mk (B12.out.trans (hb.mono B12.out.size))
    have D13 := hid_mk ((hb.block D (Array.getElem?_eq_some_iff.1 D12.out).1).trans D12.out)
    clear hb R12 B12 D12
    clear c1 c2 c3 c4 c5 c6
    have c1 := R13.out.1.at (j := 1) rfl
    have c2 := R13.out.1.at (j := 2) rfl
    have c3 := R13.out.1.at (j := 3) rfl
    have c4 := R13.out.1.at (j := 4) rfl
    have c5 := R13.out.1.at (j := 5) rfl
    have c6 := R13.out.1.at (j := 6) rfl
    gi_wp2_with fail
    refine ⟨trivial, ?_⟩
    gi_at_call 15
    refine (callsIn_wide.2 (eqBf (fohasE_nil n _))).mono ?_
    rintro e x14 ⟨rfl, hb⟩
    have R14 : Hid (_ ∧ _) := ⟨R13.out.1.below hb, R13.out.2.below hb⟩
    have B14 := hid_mk (B13.out.trans (hb.mono B13.out.size))
    have D14 := hid_mk ((hb.block D (Array.getElem?_eq_some_iff.1 D13.out).1).trans D13.out)
    clear hb R13 B13 D13
    clear c1 c2 c3 c4 c5 c6
    have c1 := R14.out.1.at (j := 1) rfl
    have c2 := R14.out.1.at (j := 2) rfl
    have c3 := R14.out.1.at (j := 3) rfl
    have c4 := R14.out.1.at (j := 4) rfl
    have c5 := R14.out.1.at (j := 5) rfl
    have c6 := R14.out.1.at (j := 6) rfl
    gi_wp2_with fail
    refine ⟨trivial, ?_⟩
    gi_at_call 29
    refine (callsIn_wide.2 (fosame_nil a a _)).mono ?_
    rintro e x15 ⟨rfl, hb⟩
    have R15 : Hid (_ ∧ _) := ⟨R14.out.1.below hb, R14.out.2.below hb⟩
    have B15 := hid_mk (B14.out.trans (hb.mono B14.out.size))
    have D15 := hid_mk ((hb.block D (Array.getElem?_eq_some_iff.1 D14.out).1).trans D14.out)
    clear hb R14 B14 D14
    clear c1 c2 c3 c4 c5 c6
    have c1 := R15.out.1.at (j := 1) rfl
    have c2 := R15.out.1.at (j := 2) rfl
    have c3 := R15.out.1.at (j := 3) rfl
    have c4 := R15.out.1.at (j := 4) rfl
    have c5 := R15.out.1.at (j := 5) rfl
    have c6 := R15.out.1.at (j := 6) rfl
    gi_wp2_with fail
    refine ⟨trivial, ?_⟩
    gi_at_call 30
    refine (callsIn_wide.2 (eqBf (fosize_nil a _))).mono ?_
    rintro e x16 ⟨rfl, hb⟩
    have R16 : Hid (_ ∧ _) := ⟨R15.out.1.below hb, R15.out.2.below hb⟩
    have B16 := hid_mk (B15.out.trans (hb.mono B15.out.size))
    have D16 := hid_mk ((hb.block D (Array.getElem?_eq_some_iff.1 D15.out).1).trans D15.out)
    clear hb R15 B15 D15
    clear c1 c2 c3 c4 c5 c6
    have c1 := R16.out.1.at (j := 1) rfl
    have c2 := R16.out.1.at (j := 2) rfl
    have c3 := R16.out.1.at (j := 3) rfl
    have c4 := R16.out.1.at (j := 4) rfl
    have c5 := R16.out.1.at (j := 5) rfl
    have c6 := R16.out.1.at (j := 6) rfl
    gi_wp2_with fail
    refine ⟨trivial, ?_⟩
    gi_at_call 31
    refine (callsIn_wide.2 (eqBf (fosum_nil a _))).mono ?_
    rintro e x17 ⟨rfl, hb⟩
    have R17 : Hid (_ ∧ _) := ⟨R16.out.1.below hb, R16.out.2.below hb⟩
    have B17 := hid_mk (B16.out.trans (hb.mono B16.out.size))
    have D17 := hid_mk ((hb.block D (Array.getElem?_eq_some_iff.1 D16.out).1).trans D16.out)
    clear hb R16 B16 D16
    clear c1 c2 c3 c4 c5 c6
    have c1 := R17.out.1.at (j := 1) rfl
    have c2 := R17.out.1.at (j := 2) rfl
    have c3 := R17.out.1.at (j := 3) rfl
    have c4 := R17.out.1.at (j := 4) rfl
    have c5 := R17.out.1.at (j := 5) rfl
    have c6 := R17.out.1.at (j := 6) rfl
    gi_wp2_with fail
    refine ⟨trivial, ?_⟩
    gi_at_call 32
    refine (callsIn_wide.2 (eqBf (foleast_nil a _))).mono ?_
    rintro e x18 ⟨rfl, hb⟩
    have R18 : Hid (_ ∧ _) := ⟨R17.out.1.below hb, R17.out.2.below hb⟩
    have B18 := hid_mk (B17.out.trans (hb.mono B17.out.size))
    have D18 := hid_mk ((hb.block D (Array.getElem?_eq_some_iff.1 D17.out).1).trans D17.out)
    clear hb R17 B17 D17
    clear c1 c2 c3 c4 c5 c6
    have c1 := R18.out.1.at (j := 1) rfl
    have c2 := R18.out.1.at (j := 2) rfl
    have c3 := R18.out.1.at (j := 3) rfl
    have c4 := R18.out.1.at (j := 4) rfl
    have c5 := R18.out.1.at (j := 5) rfl
    have c6 := R18.out.1.at (j := 6) rfl
    gi_wp2_with fail
    refine ⟨trivial, ?_⟩
    gi_at_call 11
    refine (callsIn_wide.2 (fwakes_any _)).mono ?_
    rintro e x19 ⟨rfl, hb⟩
    have R19 : Hid (_ ∧ _) := ⟨R18.out.1.below hb, R18.out.2.below hb⟩
    have B19 := hid_mk (B18.out.trans (hb.mono B18.out.size))
    have D19 := hid_mk ((hb.block D (Array.getElem?_eq_some_iff.1 D18.out).1).trans D18.out)
    clear hb R18 B18 D18
    clear c1 c2 c3 c4 c5 c6
    have c1 := R19.out.1.at (j := 1) rfl
    have c2 := R19.out.1.at (j := 2) rfl
    have c3 := R19.out.1.at (j := 3) rfl
    have c4 := R19.out.1.at (j := 4) rfl
    have c5 := R19.out.1.at (j := 5) rfl
    have c6 := R19.out.1.at (j := 6) rfl
    have cR := R19.out.2.cell1
    have fR := R19.out.2.frozen 0
    clear c1 c2 c3 c4 c5 c6
    have HR5 : Hid (Blk (x19.setCell ⟨w.heap.size + 1, 0, none⟩ (.bool true)) (w.heap.size + 1) 4 #[.bool true]) := R19.out.2.set1 _
    have HB5 : Hid (Below w.heap.size w (x19.setCell ⟨w.heap.size + 1, 0, none⟩ (.bool true))) := B19.out.setCell (p := ⟨w.heap.size + 1, 0, none⟩) (Nat.le_succ _) _
    have HD5 : Hid ((x19.setCell ⟨w.heap.size + 1, 0, none⟩ (.bool true)).heap[D]? = some (.deferred (some []))) := (Below.heap_setCell x19 ⟨w.heap.size + 1, 0, none⟩ _ D (by show D ≠ w.heap.size + 1; omega)).trans D19.out
    clear R19 D19 B19
    gi_wp2
    refine ⟨by simp, .inl ⟨_, _, rfl, run_takeDeferred HD5.out, ?_⟩⟩
    have hpb : Below D (x19.setCell ⟨w.heap.size + 1, 0, none⟩ (.bool true)) ((x19.setCell ⟨w.heap.size + 1, 0, none⟩ (.bool true)).putObj D (.deferred none)) := ⟨rfl, rfl, rfl, by simp, fun k hk => World.putObj_heap_other (by omega)⟩
    have hc5 := (HR5.out.putObj (by omega) (.deferred none) : Blk ((x19.setCell ⟨w.heap.size + 1, 0, none⟩ (.bool true)).putObj D (.deferred none)) (w.heap.size + 1) 4 #[.bool true]).cell1
    refine ⟨.bool true, ?_, rfl, HB5.out.trans (hpb.mono (by omega))⟩
    simp [results, Tryz.f5, go_sem, hc5]
end Go.Proofs.YtkpfonfcgoocfaaGreat
