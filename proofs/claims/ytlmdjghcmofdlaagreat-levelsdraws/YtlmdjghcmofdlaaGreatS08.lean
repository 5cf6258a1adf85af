/- Lemmas. -/
import Derived.Test.YtlmdjghcmofdlaaGreatProg
import Derived.Test.YtlmdjghcmofdlaaGreatS02
import Derived.Deep.Slices
import Derived.ProofKit
import Derived.OpenShut
import Derived.Test.YtlmdjghcmofdlaaGreatS05
set_option maxRecDepth 100000
set_option maxHeartbeats 64000000
namespace Go.Proofs.YtlmdjghcmofdlaaGreat.A10
open Go.RowKit Go.ChangeShapes Go.WideShapes Go.Deep
set_option linter.unusedVariables false
structure Ac where
  d : Int
  e : Int
  a : Int
  b : Int
  x : Int
  y : Int
instance : Inhabited Ac := ⟨⟨0, 0, 0, 0, 0, 0⟩⟩
def aAt (qs : List Ac) (i : Nat) : Ac := qs.getD i default
theorem aAt_eq {qs : List Ac} {i : Nat} (h : i < qs.length) : aAt qs i = qs[i] := by
  unfold aAt; rw [List.getD_eq_getElem?_getD, List.getElem?_eq_getElem h]; rfl
def Ok (q : Ac) : Prop := (0 ≤ q.d ∧ q.d ≤ 255) ∧ (-9223372036854775808 ≤ q.e ∧ q.e ≤ 9223372036854775807) ∧ (-9223372036854775808 ≤ q.a ∧ q.a ≤ 9223372036854775807) ∧ (-9223372036854775808 ≤ q.b ∧ q.b ≤ 9223372036854775807) ∧ (-9223372036854775808 ≤ q.x ∧ q.x ≤ 9223372036854775807) ∧ (-9223372036854775808 ≤ q.y ∧ q.y ≤ 9223372036854775807)
def AcIn (W : World) (b o : Nat) (q : Ac) : Prop := W.cell? ⟨b, o, none⟩ = some (.int .u8 q.d) ∧ W.cell? ⟨b, o + 1, none⟩ = some (.int .i64 q.e) ∧ W.cell? ⟨b, o + 2, none⟩ = some (.int .i64 q.a) ∧ W.cell? ⟨b, o + 3, none⟩ = some (.int .i64 q.b) ∧ W.cell? ⟨b, o + 4, none⟩ = some (.int .i64 q.x) ∧ W.cell? ⟨b, o + 5, none⟩ = some (.int .i64 q.y)
theorem AcIn.below {W W' : World} {b o m : Nat} {q : Ac} (h : AcIn W b o q) (hb : Below m W W') (hm : b < m) : AcIn W' b o q := by
  obtain ⟨h0, h1, h2, h3, h4, h5⟩ := h
  exact ⟨(hb.cell (p := ⟨b, _, none⟩) hm).trans h0, (hb.cell (p := ⟨b, _, none⟩) hm).trans h1, (hb.cell (p := ⟨b, _, none⟩) hm).trans h2, (hb.cell (p := ⟨b, _, none⟩) hm).trans h3, (hb.cell (p := ⟨b, _, none⟩) hm).trans h4, (hb.cell (p := ⟨b, _, none⟩) hm).trans h5⟩
def AcAt (W : World) (ao : Option Addr) (qs : List Ac) : Prop := qs = [] ∨ ∃ b off, ao = some ⟨b, off, none⟩ ∧ b < W.heap.size ∧ ∀ i, i < qs.length → AcIn W b (off + i * 6) (aAt qs i) ∧ Ok (aAt qs i)
theorem cellsA : Tryz.prog.cellsOf 23 = 6 := by kernel_rfl
theorem cells_int : Tryz.prog.cellsOf 3 = 1 := by kernel_rfl
theorem cells_uint8 : Tryz.prog.cellsOf 5 = 1 := by kernel_rfl
theorem open_acts {H : Type} {enc : TypeId × Value → H} {W : World} {base : Nat} {v : Value} {d : DataW H} {ps : List MemPlace} (hv : Value.okWide Tryz.prog W .any base 41 v)
    (h : DataW.Trod enc Tryz.prog W 0 (fun _ => true) true 41 v d ps) : ∃ ao cap qs, v = .slice ao qs.length cap ∧ AcAt W ao qs ∧ qs.length ≤ 9223372036854775807 := by
  obtain ⟨a0, len, cap, rfl⟩ := okWide_slice Tryz.underlying41 hv
  obtain ⟨fuel, hf⟩ := h
  rcases open_slice Tryz.underlying41 hf with ⟨hcs, _⟩ | ⟨a, len', cap', m, n, D, Pl, hcs, _, hl, hm, hmm, _, hcell⟩
  · simp [Value.cells] at hcs
    obtain ⟨rfl, rfl, rfl⟩ := hcs
    exact ⟨none, 0, [], rfl, .inl rfl, by simp⟩
  · simp [Value.cells] at hcs
    obtain ⟨rfl, rfl, rfl⟩ := hcs
    simp only [if_true] at hmm
    have each : ∀ i, i < len → ∃ q : Ac, W.cell? (a.add (i * 6)) = some (.int .u8 q.d) ∧ W.cell? (a.add (i * 6 + 1)) = some (.int .i64 q.e) ∧ W.cell? (a.add (i * 6 + 2)) = some (.int .i64 q.a) ∧ W.cell? (a.add (i * 6 + 3)) = some (.int .i64 q.b) ∧ W.cell? (a.add (i * 6 + 4)) = some (.int .i64 q.x) ∧ W.cell? (a.add (i * 6 + 5)) = some (.int .i64 q.y) ∧ Ok q := by
      intro i hi
      obtain ⟨cs, h1, h2⟩ := hcell i (by omega)
      rw [cellsA] at h1
      obtain ⟨_, hlen, hce⟩ := World.cells?_some h1
      obtain ⟨xs, k, hk, hxy, _, hxl, hfl⟩ := DataW.trod_struct Tryz.underlying23 h2
      match xs, hxl, cs, hlen with
      | [y0, y1, y2, y3, y4, y5], _, [v0, v1, v2, v3, v4, v5], _ =>
        have g0 : DataW.trod enc Tryz.prog W 0 (fun _ => true) true k 5 [v0] = some y0 := by
          have g : DataW.trod enc Tryz.prog W 0 (fun _ => true) true k 5 (List.take (Tryz.prog.cellsOf 5) (List.drop 0 [v0, v1, v2, v3, v4, v5])) = [y0, y1, y2, y3, y4, y5][0]? := hfl 0 _ rfl
          rw [cells_uint8] at g
          exact g
        have g1 : DataW.trod enc Tryz.prog W 0 (fun _ => true) true k 3 [v1] = some y1 := by
          have g : DataW.trod enc Tryz.prog W 0 (fun _ => true) true k 3 (List.take (Tryz.prog.cellsOf 3) (List.drop 1 [v0, v1, v2, v3, v4, v5])) = [y0, y1, y2, y3, y4, y5][1]? := hfl 1 _ rfl
          rw [cells_int] at g
          exact g
        have g2 : DataW.trod enc Tryz.prog W 0 (fun _ => true) true k 3 [v2] = some y2 := by
          have g : DataW.trod enc Tryz.prog W 0 (fun _ => true) true k 3 (List.take (Tryz.prog.cellsOf 3) (List.drop 2 [v0, v1, v2, v3, v4, v5])) = [y0, y1, y2, y3, y4, y5][2]? := hfl 2 _ rfl
          rw [cells_int] at g
          exact g
        have g3 : DataW.trod enc Tryz.prog W 0 (fun _ => true) true k 3 [v3] = some y3 := by
          have g : DataW.trod enc Tryz.prog W 0 (fun _ => true) true k 3 (List.take (Tryz.prog.cellsOf 3) (List.drop 3 [v0, v1, v2, v3, v4, v5])) = [y0, y1, y2, y3, y4, y5][3]? := hfl 3 _ rfl
          rw [cells_int] at g
          exact g
        have g4 : DataW.trod enc Tryz.prog W 0 (fun _ => true) true k 3 [v4] = some y4 := by
          have g : DataW.trod enc Tryz.prog W 0 (fun _ => true) true k 3 (List.take (Tryz.prog.cellsOf 3) (List.drop 4 [v0, v1, v2, v3, v4, v5])) = [y0, y1, y2, y3, y4, y5][4]? := hfl 4 _ rfl
          rw [cells_int] at g
          exact g
        have g5 : DataW.trod enc Tryz.prog W 0 (fun _ => true) true k 3 [v5] = some y5 := by
          have g : DataW.trod enc Tryz.prog W 0 (fun _ => true) true k 3 (List.take (Tryz.prog.cellsOf 3) (List.drop 5 [v0, v1, v2, v3, v4, v5])) = [y0, y1, y2, y3, y4, y5][5]? := hfl 5 _ rfl
          rw [cells_int] at g
          exact g
        have e0 := hce 0 (by omega)
        have e1 := hce 1 (by omega)
        have e2 := hce 2 (by omega)
        have e3 := hce 3 (by omega)
        have e4 := hce 4 (by omega)
        have e5 := hce 5 (by omega)
        rw [add_add] at e0 e1 e2 e3 e4 e5
        obtain ⟨q0, r0, _, b0⟩ := DataW.trod_int Tryz.underlying5 g0
        obtain ⟨q1, r1, _, b1⟩ := DataW.trod_int Tryz.underlying3 g1
        obtain ⟨q2, r2, _, b2⟩ := DataW.trod_int Tryz.underlying3 g2
        obtain ⟨q3, r3, _, b3⟩ := DataW.trod_int Tryz.underlying3 g3
        obtain ⟨q4, r4, _, b4⟩ := DataW.trod_int Tryz.underlying3 g4
        obtain ⟨q5, r5, _, b5⟩ := DataW.trod_int Tryz.underlying3 g5
        simp at r0 r1 r2 r3 r4 r5
        subst r0 r1 r2 r3 r4 r5
        refine ⟨⟨q0, q1, q2, q3, q4, q5⟩, ?_, ?_, ?_, ?_, ?_, ?_, (bounds_u8 b0), (bounds_i64 b1), (bounds_i64 b2), (bounds_i64 b3), (bounds_i64 b4), (bounds_i64 b5)⟩
        · simpa using e0
        · simpa using e1
        · simpa using e2
        · simpa using e3
        · simpa using e4
        · simpa using e5
    obtain ⟨q, hq⟩ := choose_lt each
    refine ⟨some a, cap, (List.range len).map q, by simp, ?_, by simp; unfold maxLen at hm; omega⟩
    by_cases h0 : len = 0
    · subst h0; exact .inl rfl
    · have ha : a.spot = none := by
        have h1 := (hq 0 (by omega)).1
        cases hs : a.spot with
        | none => rfl
        | some s =>
          exfalso
          revert h1
          unfold World.cell?
          simp [Addr.add, hs]
          split <;> simp_all
      obtain ⟨b, off, spot⟩ := a
      simp at ha
      subst ha
      have hbl : b < W.heap.size := by have h1 := (hq 0 (by omega)).1; rw [add_eq] at h1; exact cell_lt h1
      refine .inr ⟨b, off, rfl, hbl, fun i hi => ?_⟩
      simp at hi
      have h2 := hq i hi
      have hk : aAt ((List.range len).map q) i = q i := by
        rw [aAt_eq (by simpa using hi)]
        simp
      rw [hk]
      have e1 : ∀ j, (⟨b, off, none⟩ : Addr).add j = ⟨b, off + j, none⟩ := fun j => add_eq b off j
      simp only [e1, ← Nat.add_assoc] at h2
      exact ⟨⟨h2.1, h2.2.1, h2.2.2.1, h2.2.2.2.1, h2.2.2.2.2.1, h2.2.2.2.2.2.1⟩, h2.2.2.2.2.2.2⟩
end Go.Proofs.YtlmdjghcmofdlaaGreat.A10
namespace Go.Proofs.YtlmdjghcmofdlaaGreat
open Go.ChangeShapes Go.WideShapes Go.RowKit Go.Deep
set_option linter.unusedVariables false
theorem cellsW : Tryz.prog.cellsOf 70 = 1 := by kernel_rfl
theorem spot_none {W : World} {a : Addr} {v : Value} (h : W.cell? (a.add 0) = some v) : a.spot = none := by
  cases hs : a.spot with
  | none => rfl
  | some s =>
    exfalso
    revert h
    unfold World.cell?
    simp [Addr.add, hs]
    split <;> simp_all
theorem open_u32s {H : Type} {enc : TypeId × Value → H} {W : World} {base : Nat} {v : Value} {d : DataW H} {ps : List MemPlace} (hv : Value.okWide Tryz.prog W .any base 40 v)
    (h : DataW.Trod enc Tryz.prog W 0 (fun _ => true) true 40 v d ps) : ∃ ao cap xs, v = .slice ao xs.length cap ∧ UAt W ao xs ∧ Wu xs ∧ xs.length ≤ 9223372036854775807 := by
  obtain ⟨a0, len, cap, rfl⟩ := okWide_slice Tryz.underlying40 hv
  obtain ⟨fuel, hf⟩ := h
  rcases open_slice1 Tryz.underlying40 cellsW hf with ⟨hcs, _⟩ | ⟨a, len', cap', m, n, V, D, Pl, hcs, _, hl, hm, hmm, _, hcell⟩
  · simp [Value.cells] at hcs
    obtain ⟨rfl, rfl, rfl⟩ := hcs
    exact ⟨none, 0, [], rfl, .inl rfl, fun x hx => (by cases hx), by simp⟩
  · simp [Value.cells] at hcs
    obtain ⟨rfl, rfl, rfl⟩ := hcs
    simp only [if_true] at hmm
    have each : ∀ i, i < len → ∃ q : Int, W.cell? (a.add i) = some (.int .u32 q) ∧ 0 ≤ q ∧ q < 4294967296 := by
      intro i hi
      obtain ⟨c0, t0⟩ := hcell i (by omega)
      obtain ⟨x, e0, _, w0⟩ := DataW.trod_int Tryz.underlying70 t0
      simp at e0
      rw [e0] at c0
      have := bounds_u32 w0
      exact ⟨x, c0, by omega, by omega⟩
    obtain ⟨q, hq⟩ := choose_lt each
    refine ⟨some a, cap, (List.range len).map q, by simp, ?_, ?_, by unfold maxLen at hm; simp; omega⟩
    · by_cases h0 : len = 0
      · subst h0; exact .inl rfl
      · have ha : a.spot = none := spot_none (hq 0 (by omega)).1
        obtain ⟨b, off, spot⟩ := a
        simp at ha
        subst ha
        refine .inr ⟨b, off, rfl, fun i hi => ?_⟩
        simp at hi
        have h2 := (hq i hi).1
        rw [lAt_eq (by simpa using hi)]
        rw [add_eq] at h2
        simpa using h2
    · intro x hx
      simp only [List.mem_map, List.mem_range] at hx
      obtain ⟨i, hi, rfl⟩ := hx
      exact (hq i hi).2
end Go.Proofs.YtlmdjghcmofdlaaGreat
