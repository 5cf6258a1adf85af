/- Lemmas. -/
import Derived.Test.YtlmdjghcmofdlaaGreatS26
import Derived.Test.YtlmdjghcmofdlaaGreatS08
import Derived.Lib.SmallJoins
set_option maxRecDepth 100000
set_option maxHeartbeats 64000000
namespace Go.Proofs.YtlmdjghcmofdlaaGreat.A10
open Go.RowKit Go.ChangeShapes Go.WideShapes Go.Deep Go.Joins
set_option linter.unusedVariables false
theorem open_act {H : Type} {enc : TypeId × Value → H} {W : World} {base : Nat} {v : Value} {d : DataW H} {ps : List MemPlace} (hv : Value.okWide Tryz.prog W .any base 23 v)
    (h : DataW.Trod enc Tryz.prog W 0 (fun _ => true) true 23 v d ps) : ∃ q : Ac, v = .agg #[.int .u8 q.d, .int .i64 q.e, .int .i64 q.a, .int .i64 q.b, .int .i64 q.x, .int .i64 q.y] ∧ Ok q := by
  obtain ⟨⟨cl⟩, rfl, hsz⟩ := okWide_struct Tryz.underlying23 hv
  have hsz' : cl.length = 6 := by rw [cellsA] at hsz; simpa using hsz
  obtain ⟨fuel, hf⟩ := h
  obtain ⟨xs, k, hk, hxy, _, hxl, hfl⟩ := DataW.trod_struct Tryz.underlying23 hf
  simp only [Value.cells] at hfl
  match xs, hxl, cl, hsz' with
  | [y0, y1, y2, y3, y4, y5], _, [v0, v1, v2, v3, v4, v5], _ =>
    have g0 : DataW.trod enc Tryz.prog W 0 (fun _ => true) true k 5 [v0] = some y0 := by
      have g : DataW.trod enc Tryz.prog W 0 (fun _ => true) true k 5 (List.take (Tryz.prog.cellsOf 5) (List.drop 0 [v0, v1, v2, v3, v4, v5])) = [y0, y1, y2, y3, y4, y5][0]? := hfl 0 _ rfl
      rw [cells_uint8] at g
      exact g
    have g1 : DataW.trod enc Tryz.prog W 0 (fun _ => true) true k 3 [v1] = some y1 := by
      have g : DataW.trod enc Tryz.prog W 0 (fun _ => true) true k 3 (List.take (Tryz.prog.cellsOf 3) (List.drop 1 [v0, v1, v2, v3, v4, v5])) = [y0, y1, y2, y3, y4, y5][1]? := hfl 1 _ rfl
      rw [cells_int] at g
      exact g
    have g2 : DataW.trod enc Tryz.prog W 0 (fun _ => true) true k 3 [v2] = some y2 := by
      have g : DataW.trod enc Tryz.prog W 0 (fun _ => true) true k 3 (List.take (Tryz.prog.cellsOf 3) (List.drop 2 [v0, v1, v2, v3, v4, v5])) = [y0, y1, y2, y3, y4, y5][2]? := hfl 2 _ rfl
      rw [cells_int] at g
      exact g
    have g3 : DataW.trod enc Tryz.prog W 0 (fun _ => true) true k 3 [v3] = some y3 := by
      have g : DataW.trod enc Tryz.prog W 0 (fun _ => true) true k 3 (List.take (Tryz.prog.cellsOf 3) (List.drop 3 [v0, v1, v2, v3, v4, v5])) = [y0, y1, y2, y3, y4, y5][3]? := hfl 3 _ rfl
      rw [cells_int] at g
      exact g
    have g4 : DataW.trod enc Tryz.prog W 0 (fun _ => true) true k 3 [v4] = some y4 := by
      have g : DataW.trod enc Tryz.prog W 0 (fun _ => true) true k 3 (List.take (Tryz.prog.cellsOf 3) (List.drop 4 [v0, v1, v2, v3, v4, v5])) = [y0, y1, y2, y3, y4, y5][4]? := hfl 4 _ rfl
      rw [cells_int] at g
      exact g
    have g5 : DataW.trod enc Tryz.prog W 0 (fun _ => true) true k 3 [v5] = some y5 := by
      have g : DataW.trod enc Tryz.prog W 0 (fun _ => true) true k 3 (List.take (Tryz.prog.cellsOf 3) (List.drop 5 [v0, v1, v2, v3, v4, v5])) = [y0, y1, y2, y3, y4, y5][5]? := hfl 5 _ rfl
      rw [cells_int] at g
      exact g
    obtain ⟨q0, r0, _, b0⟩ := DataW.trod_int Tryz.underlying5 g0
    obtain ⟨q1, r1, _, b1⟩ := DataW.trod_int Tryz.underlying3 g1
    obtain ⟨q2, r2, _, b2⟩ := DataW.trod_int Tryz.underlying3 g2
    obtain ⟨q3, r3, _, b3⟩ := DataW.trod_int Tryz.underlying3 g3
    obtain ⟨q4, r4, _, b4⟩ := DataW.trod_int Tryz.underlying3 g4
    obtain ⟨q5, r5, _, b5⟩ := DataW.trod_int Tryz.underlying3 g5
    simp at r0 r1 r2 r3 r4 r5
    subst r0 r1 r2 r3 r4 r5
    exact ⟨⟨q0, q1, q2, q3, q4, q5⟩, rfl, bounds_u8 b0, bounds_i64 b1, bounds_i64 b2, bounds_i64 b3, bounds_i64 b4, bounds_i64 b5⟩
end Go.Proofs.YtlmdjghcmofdlaaGreat.A10
namespace Go.Proofs.YtlmdjghcmofdlaaGreat
open Go.RowKit
set_option linter.unusedVariables false
theorem eqB10 {f : FuncId} {args : Array Value} {w : World} {v : Value} (h : Calls Tryz.prog f args w fun e w' => e = .returned v ∧ w' = w) : Calls Tryz.prog f args w fun e w' => e = .returned v ∧ Below w.heap.size w w' := h.mono fun e w' ⟨h1, h2⟩ => ⟨h1, by rw [h2]; exact Below.refl _ _⟩
theorem levnobody_walk (q : A10.Ac) (l : Int) (w : World) (hq : A10.Ok q) : Calls Tryz.prog 3 #[.agg #[.int .u8 q.d, .int .i64 q.e, .int .i64 q.a, .int .i64 q.b, .int .i64 q.x, .int .i64 q.y], .int .i64 l] w fun e w' => e = .returned (.bool true) ∧ Below w.heap.size w w' := by
  obtain ⟨d, n, a, b, x, y⟩ := q
  simp only
  clear hq
  have hA : Blk (w.alloc (.cells #[.int .u8 d, .int .i64 n, .int .i64 a, .int .i64 b, .int .i64 x, .int .i64 y] 23)) w.heap.size 23 #[.int .u8 d, .int .i64 n, .int .i64 a, .int .i64 b, .int .i64 x, .int .i64 y] := Blk.new w _ _
  have R0 : Hid (Blk (w.alloc (.cells #[.int .u8 d, .int .i64 n, .int .i64 a, .int .i64 b, .int .i64 x, .int .i64 y] 23)) w.heap.size 23 #[.int .u8 d, .int .i64 n, .int .i64 a, .int .i64 b, .int .i64 x, .int .i64 y]) := hA
  have B0 : Hid (Below w.heap.size w (w.alloc (.cells #[.int .u8 d, .int .i64 n, .int .i64 a, .int .i64 b, .int .i64 x, .int .i64 y] 23))) := (Below.refl _ _).alloc (Nat.le_refl _) _
  have c1 := hA.at (j := 1) rfl
  have c2 := hA.at (j := 2) rfl
  have c3 := hA.at (j := 3) rfl
  have c4 := hA.at (j := 4) rfl
  have c5 := hA.at (j := 5) rfl
  clear hA
  go_enter Tryz.func3, Tryz.ntmps3
  go_wp2_with fail
  refine (eqB10 (vertex_nil x y _)).mono ?_
  rintro e x1 ⟨rfl, hb⟩
  have R1 := mkH (R0.out.below hb)
  have B1 := mkH (B0.out.trans (hb.mono B0.out.size))
  clear hb R0 B0 c1 c2 c3 c4 c5
  have c1 := R1.out.at (j := 1) rfl
  have c2 := R1.out.at (j := 2) rfl
  have c3 := R1.out.at (j := 3) rfl
  have c4 := R1.out.at (j := 4) rfl
  have c5 := R1.out.at (j := 5) rfl
  go_wp2_with fail
  refine (eqB10 (insert_nil a b _)).mono ?_
  rintro e x2 ⟨rfl, hb⟩
  have R2 := mkH (R1.out.below hb)
  have B2 := mkH (B1.out.trans (hb.mono B1.out.size))
  clear hb R1 B1 c1 c2 c3 c4 c5
  have c1 := R2.out.at (j := 1) rfl
  have c2 := R2.out.at (j := 2) rfl
  have c3 := R2.out.at (j := 3) rfl
  have c4 := R2.out.at (j := 4) rfl
  have c5 := R2.out.at (j := 5) rfl
  go_wp2_with fail
  refine (eqB10 (edge_nil n _)).mono ?_
  rintro e x3 ⟨rfl, hb⟩
  have R3 := mkH (R2.out.below hb)
  have B3 := mkH (B2.out.trans (hb.mono B2.out.size))
  clear hb R2 B2 c1 c2 c3 c4 c5
  have c1 := R3.out.at (j := 1) rfl
  have c2 := R3.out.at (j := 2) rfl
  have c3 := R3.out.at (j := 3) rfl
  have c4 := R3.out.at (j := 4) rfl
  have c5 := R3.out.at (j := 5) rfl
  go_wp2_with fail
  refine (eqB10 (len_nil _)).mono ?_
  rintro e x4 ⟨rfl, hb⟩
  have R4 := mkH (R3.out.below hb)
  have B4 := mkH (B3.out.trans (hb.mono B3.out.size))
  clear hb R3 B3 c1 c2 c3 c4 c5
  have c1 := R4.out.at (j := 1) rfl
  have c2 := R4.out.at (j := 2) rfl
  have c3 := R4.out.at (j := 3) rfl
  have c4 := R4.out.at (j := 4) rfl
  have c5 := R4.out.at (j := 5) rfl
  go_wp2_with fail
  refine (eqB10 (drop_nil a _)).mono ?_
  rintro e x5 ⟨rfl, hb⟩
  have R5 := mkH (R4.out.below hb)
  have B5 := mkH (B4.out.trans (hb.mono B4.out.size))
  clear hb R4 B4 c1 c2 c3 c4 c5
  have c1 := R5.out.at (j := 1) rfl
  have c2 := R5.out.at (j := 2) rfl
  have c3 := R5.out.at (j := 3) rfl
  have c4 := R5.out.at (j := 4) rfl
  have c5 := R5.out.at (j := 5) rfl
  go_wp2_with fail
  refine (eqB10 (delete_nil n _)).mono ?_
  rintro e x6 ⟨rfl, hb⟩
  have R6 := mkH (R5.out.below hb)
  have B6 := mkH (B5.out.trans (hb.mono B5.out.size))
  clear hb R5 B5 c1 c2 c3 c4 c5
  have c1 := R6.out.at (j := 1) rfl
  have c2 := R6.out.at (j := 2) rfl
  have c3 := R6.out.at (j := 3) rfl
  have c4 := R6.out.at (j := 4) rfl
  have c5 := R6.out.at (j := 5) rfl
  go_wp2_with fail
  refine (has_nil a _).mono ?_
  rintro e x7 ⟨rfl, hb⟩
  have R7 := mkH (R6.out.below hb)
  have B7 := mkH (B6.out.trans (hb.mono B6.out.size))
  clear hb R6 B6 c1 c2 c3 c4 c5
  have c1 := R7.out.at (j := 1) rfl
  have c2 := R7.out.at (j := 2) rfl
  have c3 := R7.out.at (j := 3) rfl
  have c4 := R7.out.at (j := 4) rfl
  have c5 := R7.out.at (j := 5) rfl
  go_wp2_with fail
  refine (conn_nil a a _).mono ?_
  rintro e x8 ⟨rfl, hb⟩
  have R8 := mkH (R7.out.below hb)
  have B8 := mkH (B7.out.trans (hb.mono B7.out.size))
  clear hb R7 B7 c1 c2 c3 c4 c5
  have c1 := R8.out.at (j := 1) rfl
  have c2 := R8.out.at (j := 2) rfl
  have c3 := R8.out.at (j := 3) rfl
  have c4 := R8.out.at (j := 4) rfl
  have c5 := R8.out.at (j := 5) rfl
  go_wp2_with fail
  refine (size_nil a _).mono ?_
  rintro e x9 ⟨rfl, hb⟩
  have R9 := mkH (R8.out.below hb)
  have B9 := mkH (B8.out.trans (hb.mono B8.out.size))
  clear hb R8 B8 c1 c2 c3 c4 c5
  have c1 := R9.out.at (j := 1) rfl
  have c2 := R9.out.at (j := 2) rfl
  have c3 := R9.out.at (j := 3) rfl
  have c4 := R9.out.at (j := 4) rfl
  have c5 := R9.out.at (j := 5) rfl
  go_wp2_with fail
  refine (sum_nil a _).mono ?_
  rintro e x10 ⟨rfl, hb⟩
  have R10 := mkH (R9.out.below hb)
  have B10 := mkH (B9.out.trans (hb.mono B9.out.size))
  clear hb R9 B9 c1 c2 c3 c4 c5
  have c1 := R10.out.at (j := 1) rfl
  have c2 := R10.out.at (j := 2) rfl
  have c3 := R10.out.at (j := 3) rfl
  have c4 := R10.out.at (j := 4) rfl
  have c5 := R10.out.at (j := 5) rfl
  go_wp2_with fail
  refine (least_nil a _).mono ?_
  rintro e x11 ⟨rfl, hb⟩
  have R11 := mkH (R10.out.below hb)
  have B11 := mkH (B10.out.trans (hb.mono B10.out.size))
  clear hb R10 B10 c1 c2 c3 c4 c5
  have c1 := R11.out.at (j := 1) rfl
  have c2 := R11.out.at (j := 2) rfl
  have c3 := R11.out.at (j := 3) rfl
  have c4 := R11.out.at (j := 4) rfl
  have c5 := R11.out.at (j := 5) rfl
  go_wp2_with fail
  refine (tree_nil a l _).mono ?_
  rintro e x12 ⟨rfl, hb⟩
  have R12 := mkH (R11.out.below hb)
  have B12 := mkH (B11.out.trans (hb.mono B11.out.size))
  clear hb R11 B11 c1 c2 c3 c4 c5
  have c1 := R12.out.at (j := 1) rfl
  have c2 := R12.out.at (j := 2) rfl
  have c3 := R12.out.at (j := 3) rfl
  have c4 := R12.out.at (j := 4) rfl
  have c5 := R12.out.at (j := 5) rfl
  go_wp2_with fail
  refine (eqB10 (highest_nil _)).mono ?_
  rintro e x13 ⟨rfl, hb⟩
  have R13 := mkH (R12.out.below hb)
  have B13 := mkH (B12.out.trans (hb.mono B12.out.size))
  clear hb R12 B12 c1 c2 c3 c4 c5
  have c1 := R13.out.at (j := 1) rfl
  have c2 := R13.out.at (j := 2) rfl
  have c3 := R13.out.at (j := 3) rfl
  have c4 := R13.out.at (j := 4) rfl
  have c5 := R13.out.at (j := 5) rfl
  go_wp2_with fail
  refine (wakes10_any _).mono ?_
  rintro e x14 ⟨rfl, hb⟩
  have R14 := mkH (R13.out.below hb)
  have B14 := mkH (B13.out.trans (hb.mono B13.out.size))
  clear hb R13 B13 c1 c2 c3 c4 c5
  have c1 := R14.out.at (j := 1) rfl
  have c2 := R14.out.at (j := 2) rfl
  have c3 := R14.out.at (j := 3) rfl
  have c4 := R14.out.at (j := 4) rfl
  have c5 := R14.out.at (j := 5) rfl
  clear c1 c2 c3 c4 c5
  go_wp2
  go_ret
  exact ⟨rfl, B14.out⟩
end Go.Proofs.YtlmdjghcmofdlaaGreat
