/- Acts: what is done to both machines; an argument that is a slice of acts, opened. -/
import Derived.Test.YtcflbekjiohfnaaCellRefFill
import Derived.Test.YtcflbekjiohfnaaCellOpen
import Derived.Test.YtcflbekjiohfnaaTerrOpen
import Derived.Deep.SlicePairs
import Derived.ProofKit
import Derived.OpenShut
namespace Go.Proofs.Ytcflbekjiohfnaa
open Go.RowKit Go.ChangeShapes Go.WideShapes Go.Deep
set_option linter.unusedVariables false

set_option maxRecDepth 100000 in
set_option maxHeartbeats 1600000 in
theorem great_wide (zw zh : Int) (ao : Option Addr) (cap n : Nat) (ls : List Nat) (w : World) (hn : ls.length = n) (hbig : n ≤ 9223372036854775807) (hl : LAt w ao ls) :
    Calls Try.prog 16 #[Pl.sz zw zh, .slice ao n cap] w fun e w' => e = .returned (.bool (greatN zw zh ls)) ∧ Below w.heap.size w w' := by
  have HL : Hid (LAt w ao ls) := hl
  have HN : Hid (ls.length = n) := hn
  have HG : Hid (greatN zw zh ls = (decide (60 < n) || (decide (2000 < sumTo ls (min n 61)) || decide (900 < Pl.cellsN zw zh)))) := by show _ = _; unfold greatN; rw [hn]
  clear hl hn
  generalize hg : greatN zw zh ls = g at *
  clear hg
  go_enter Try.func16, Try.ntmps16
  go_wp2
  go_loopw [5, 6] (fun s i wr => ∃ (k m : Nat), s = .int .i64 m ∧ i = .int .i64 k ∧ k ≤ n ∧ k ≤ 61 ∧ m ≤ 200000 ∧ Hid (m = sumTo ls k) ∧ wr = w.alloc (.cells #[.int .i64 zw, .int .i64 zh] 26)) (fun _ i _ => 61 - (intOf i).toNat)
  case atStart => exact ⟨0, 0, rfl, rfl, Nat.zero_le _, Nat.zero_le _, Nat.zero_le _, rfl, rfl⟩
  case round =>
    obtain ⟨k, m, rfl, rfl, hkn, hk1, hm, HM, rfl⟩ := hrel
    by_cases hlt : k < n
    · by_cases hk6 : k ≤ 60
      · rcases HL.out with h | ⟨b, off, rfl, hc⟩
        · have := HN.out; rw [h] at this; simp at this; omega
        · obtain ⟨a, c, hc1⟩ := hc k (by rw [HN.out]; exact hlt)
          have hblt := cell_lt hc1
          have HS : Hid (sumTo ls (k + 1) = m + min (nAt ls k) 2001) := by show _ = _; simp only [sumTo]; rw [← HM.out]
          have hb2 := sumTo_le ls (k + 1)
          rw [HS.out] at hb2
          have hle : m + min (nAt ls k) 2001 ≤ 200000 := by omega
          clear hc hb2
          generalize nAt ls k = x at *
          go_wp2
          go_roundw
          case rel => exact ⟨k + 1, m + min x 2001, by rw [show ((m + min x 2001 : Nat) : Int) = (m : Int) + min (x : Int) 2001 by omega], by go_num, by omega, by omega, hle, HS.out.symm, by first | rfl | trivial⟩
          case measure => simp [intOf]; omega
      · have h60 : 60 < n := by omega
        have hg : g = true := by rw [HG.out]; simp [h60]
        subst hg
        clear HG
        go_wp2
        go_ret
        exact ⟨rfl, (Below.refl _ _).alloc (Nat.le_refl _) _⟩
    · have HE : Hid (m = sumTo ls (min n 61)) := by show _ = _; rw [show min n 61 = k by omega]; exact HM.out
      by_cases h60 : 60 < n
      · have hg : g = true := by rw [HG.out]; simp [h60]
        subst hg
        clear HG
        go_wp2
        go_ret
        exact ⟨rfl, (Below.refl _ _).alloc (Nat.le_refl _) _⟩
      · by_cases h20 : 2000 < m
        · have hg : g = true := by rw [HG.out, ← HE.out]; simp [h20]
          subst hg
          clear HG
          go_wp2
          go_ret
          exact ⟨rfl, (Below.refl _ _).alloc (Nat.le_refl _) _⟩
        · have HG' : Hid (g = decide (900 < Pl.cellsN zw zh)) := by show _ = _; rw [HG.out, ← HE.out]; simp [h60, h20]
          clear HG
          go_wp2_with fail
          refine (Pl.rcells_any zw zh _).mono ?_
          rintro e w1 ⟨rfl, hb1⟩
          go_wp2
          go_ret
          exact ⟨ret_of (congrArg Value.bool (by rw [HG'.out, show decide (60 < (n : Int)) = false by simp; omega, show decide (2000 < (m : Int)) = false by simp; omega]; rfl)), below_step ((Below.refl _ _).alloc (Nat.le_refl _) _) hb1 (Nat.le_refl _)⟩

/-- An act: what, its edits (where they lie, how many there is room for), its numbers. -/
structure Ac where
  d : Int
  eo : Option Addr
  ec : Nat
  es : List Ed
  x : Int
  y : Int
  a : Int
  b : Int
  k : Int
def aAt (qs : List Ac) (i : Nat) : Ac := qs.getD i ⟨0, none, 0, [], 0, 0, 0, 0, 0⟩
theorem aAt_eq {qs : List Ac} {i : Nat} (h : i < qs.length) : aAt qs i = qs[i] := by
  unfold aAt; rw [List.getD_eq_getElem?_getD, List.getElem?_eq_getElem h]; rfl
abbrev acv (q : Ac) : Value := .agg #[.int .i64 q.d, .slice q.eo q.es.length q.ec, .int .i64 q.x, .int .i64 q.y, .int .i64 q.a, .int .i64 q.b, .int .i64 q.k]
/-- An act in seven cells. -/
def AcIn (W : World) (b o : Nat) (q : Ac) : Prop := W.cell? ⟨b, o, none⟩ = some (.int .i64 q.d) ∧ W.cell? ⟨b, o + 1, none⟩ = some (.slice q.eo q.es.length q.ec) ∧ W.cell? ⟨b, o + 2, none⟩ = some (.int .i64 q.x) ∧ W.cell? ⟨b, o + 3, none⟩ = some (.int .i64 q.y) ∧
  W.cell? ⟨b, o + 4, none⟩ = some (.int .i64 q.a) ∧ W.cell? ⟨b, o + 5, none⟩ = some (.int .i64 q.b) ∧ W.cell? ⟨b, o + 6, none⟩ = some (.int .i64 q.k)
theorem AcIn.below {W W' : World} {b o : Nat} {q : Ac} (h : AcIn W b o q) (hb : Below W.heap.size W W') : AcIn W' b o q := by
  obtain ⟨h0, h1, h2, h3, h4, h5, h6⟩ := h
  exact ⟨(hb.cell (p := ⟨b, _, none⟩) (cell_lt h0)).trans h0, (hb.cell (p := ⟨b, _, none⟩) (cell_lt h1)).trans h1, (hb.cell (p := ⟨b, _, none⟩) (cell_lt h2)).trans h2, (hb.cell (p := ⟨b, _, none⟩) (cell_lt h3)).trans h3, (hb.cell (p := ⟨b, _, none⟩) (cell_lt h4)).trans h4, (hb.cell (p := ⟨b, _, none⟩) (cell_lt h5)).trans h5, (hb.cell (p := ⟨b, _, none⟩) (cell_lt h6)).trans h6⟩
/-- The acts that a slice's address leads to. -/
def AcAt (W : World) (ao : Option Addr) (qs : List Ac) : Prop := qs = [] ∨ ∃ b off, ao = some ⟨b, off, none⟩ ∧ ∀ i, i < qs.length → AcIn W b (off + i * 7) (aAt qs i) ∧ EAt W (aAt qs i).eo (aAt qs i).es
theorem AcAt.below {W W' : World} {ao : Option Addr} {qs : List Ac} (h : AcAt W ao qs) (hb : Below W.heap.size W W') : AcAt W' ao qs :=
  h.imp id (fun ⟨b, off, e, h⟩ => ⟨b, off, e, fun i hi => ⟨(h i hi).1.below hb, (h i hi).2.below hb⟩⟩)
theorem AcAt.lens {W : World} {ao : Option Addr} {qs : List Ac} (h : AcAt W ao qs) : LAt W ao (qs.map (·.es.length)) := by
  rcases h with h | ⟨b, off, e, h⟩
  · exact .inl (by rw [h]; rfl)
  · refine .inr ⟨b, off, e, fun i hi => ?_⟩
    have hi' : i < qs.length := by simpa using hi
    have h1 := (h i hi').1.2.1
    refine ⟨(aAt qs i).eo, (aAt qs i).ec, ?_⟩
    rw [show nAt (qs.map (·.es.length)) i = (aAt qs i).es.length from by unfold nAt aAt; simp [List.getD_eq_getElem?_getD, List.getElem?_eq_getElem hi']]
    exact h1

set_option maxRecDepth 100000 in
theorem edits_of {H : Type} {enc : TypeId × Value → H} {W : World} {fuel : Nat} {v : Value} {z : DataW H × List MemPlace}
    (hf : DataW.trod enc Try.prog W 0 (fun _ => true) true fuel 37 [v] = some z) : ∃ ao cap ks, v = .slice ao ks.length cap ∧ EAt W ao ks := by
  rcases open_slice_pairs Try.underlying37 Try.underlying36 cellsE rfl rfl cellsEI cellsEI hf with ⟨hcs, _⟩ | ⟨a, len, cap, m, n, V0, V1, D0, D1, P0, P1, hcs, _, hl, hm, hmm, _, hcell⟩
  · simp at hcs
    exact ⟨none, 0, [], by rw [hcs]; rfl, .inl rfl⟩
  · simp at hcs
    subst hcs
    simp only [if_true] at hmm
    have each : ∀ i, i < len → ∃ q : Ed, W.cell? (a.add (i * 2)) = some (.int .i64 q.1) ∧ W.cell? (a.add (i * 2 + 1)) = some (.int .i64 q.2) := by
      intro i hi
      obtain ⟨c0, c1, t0, t1⟩ := hcell i (by omega)
      obtain ⟨x, e0, _, w0⟩ := DataW.trod_int Try.underlying3 t0
      obtain ⟨y, e1, _, w1⟩ := DataW.trod_int Try.underlying3 t1
      simp at e0 e1
      rw [e0] at c0
      rw [e1] at c1
      exact ⟨(x, y), c0, c1⟩
    obtain ⟨q, hq⟩ := choose_lt each
    refine ⟨some a, cap, (List.range len).map q, by simp, ?_⟩
    · by_cases h0 : len = 0
      · subst h0; exact .inl rfl
      · have ha : a.spot = none := by
          have h1 := (hq 0 (by omega)).1
          cases hs : a.spot with
          | none => rfl
          | some s =>
            exfalso
            revert h1
            unfold World.cell?
            simp [Addr.add, hs]
            split <;> simp_all
        obtain ⟨b, off, spot⟩ := a
        simp at ha
        subst ha
        refine .inr ⟨b, off, rfl, fun i hi => ?_⟩
        simp at hi
        have h2 := hq i hi
        have hk : eAt ((List.range len).map q) i = q i := by
          rw [eAt_eq (by simpa using hi)]
          simp
        rw [hk]
        have e1 : ∀ j, (⟨b, off, none⟩ : Addr).add j = ⟨b, off + j, none⟩ := fun j => by unfold Addr.add; split <;> simp_all
        rw [e1, e1] at h2
        exact ⟨h2.1, h2.2⟩

theorem cellsA : Try.prog.cellsOf 50 = 7 := by kernel_rfl
theorem cellsEs : Try.prog.cellsOf 37 = 1 := by kernel_rfl
set_option maxRecDepth 100000 in
theorem open_acts {H : Type} {enc : TypeId × Value → H} {W : World} {base : Nat} {v : Value} {d : DataW H} {ps : List MemPlace} (hv : Value.okWide Try.prog W .any base 41 v)
    (h : DataW.Trod enc Try.prog W 0 (fun _ => true) true 41 v d ps) : ∃ ao cap qs, v = .slice ao qs.length cap ∧ AcAt W ao qs ∧ qs.length ≤ 9223372036854775807 := by
  obtain ⟨a0, len, cap, rfl⟩ := okWide_slice Try.underlying41 hv
  obtain ⟨fuel, hf⟩ := h
  rcases open_slice Try.underlying41 hf with ⟨hcs, _⟩ | ⟨a, len', cap', m, n, D, Pl, hcs, _, hl, hm, hmm, _, hcell⟩
  · simp [Value.cells] at hcs
    obtain ⟨rfl, rfl, rfl⟩ := hcs
    exact ⟨none, 0, [], rfl, .inl rfl, by simp⟩
  · simp [Value.cells] at hcs
    obtain ⟨rfl, rfl, rfl⟩ := hcs
    simp only [if_true] at hmm
    have each : ∀ i, i < len → ∃ q : Ac, W.cell? (a.add (i * 7)) = some (.int .i64 q.d) ∧ W.cell? (a.add (i * 7 + 1)) = some (.slice q.eo q.es.length q.ec) ∧ W.cell? (a.add (i * 7 + 2)) = some (.int .i64 q.x) ∧ W.cell? (a.add (i * 7 + 3)) = some (.int .i64 q.y) ∧
        W.cell? (a.add (i * 7 + 4)) = some (.int .i64 q.a) ∧ W.cell? (a.add (i * 7 + 5)) = some (.int .i64 q.b) ∧ W.cell? (a.add (i * 7 + 6)) = some (.int .i64 q.k) ∧ EAt W q.eo q.es := by
      intro i hi
      obtain ⟨cs, h1, h2⟩ := hcell i (by omega)
      rw [cellsA] at h1
      obtain ⟨_, hlen, hce⟩ := World.cells?_some h1
      obtain ⟨xs, k, hk, hxy, _, hxl, hfl⟩ := DataW.trod_struct Try.underlying50 h2
      match xs, hxl, cs, hlen with
      | [y0, y1, y2, y3, y4, y5, y6], _, [v0, v1, v2, v3, v4, v5, v6], _ =>
        have g0 : DataW.trod enc Try.prog W 0 (fun _ => true) true k 3 [v0] = some y0 := by
          have g : DataW.trod enc Try.prog W 0 (fun _ => true) true k 3 (List.take (Try.prog.cellsOf 3) (List.drop 0 [v0, v1, v2, v3, v4, v5, v6])) = [y0, y1, y2, y3, y4, y5, y6][0]? := hfl 0 _ rfl
          rw [cellsEI] at g
          exact g
        have g1 : DataW.trod enc Try.prog W 0 (fun _ => true) true k 37 [v1] = some y1 := by
          have g : DataW.trod enc Try.prog W 0 (fun _ => true) true k 37 (List.take (Try.prog.cellsOf 37) (List.drop 1 [v0, v1, v2, v3, v4, v5, v6])) = [y0, y1, y2, y3, y4, y5, y6][1]? := hfl 1 _ rfl
          rw [cellsEs] at g
          exact g
        have g2 : DataW.trod enc Try.prog W 0 (fun _ => true) true k 3 [v2] = some y2 := by
          have g : DataW.trod enc Try.prog W 0 (fun _ => true) true k 3 (List.take (Try.prog.cellsOf 3) (List.drop 2 [v0, v1, v2, v3, v4, v5, v6])) = [y0, y1, y2, y3, y4, y5, y6][2]? := hfl 2 _ rfl
          rw [cellsEI] at g
          exact g
        have g3 : DataW.trod enc Try.prog W 0 (fun _ => true) true k 3 [v3] = some y3 := by
          have g : DataW.trod enc Try.prog W 0 (fun _ => true) true k 3 (List.take (Try.prog.cellsOf 3) (List.drop 3 [v0, v1, v2, v3, v4, v5, v6])) = [y0, y1, y2, y3, y4, y5, y6][3]? := hfl 3 _ rfl
          rw [cellsEI] at g
          exact g
        have g4 : DataW.trod enc Try.prog W 0 (fun _ => true) true k 3 [v4] = some y4 := by
          have g : DataW.trod enc Try.prog W 0 (fun _ => true) true k 3 (List.take (Try.prog.cellsOf 3) (List.drop 4 [v0, v1, v2, v3, v4, v5, v6])) = [y0, y1, y2, y3, y4, y5, y6][4]? := hfl 4 _ rfl
          rw [cellsEI] at g
          exact g
        have g5 : DataW.trod enc Try.prog W 0 (fun _ => true) true k 3 [v5] = some y5 := by
          have g : DataW.trod enc Try.prog W 0 (fun _ => true) true k 3 (List.take (Try.prog.cellsOf 3) (List.drop 5 [v0, v1, v2, v3, v4, v5, v6])) = [y0, y1, y2, y3, y4, y5, y6][5]? := hfl 5 _ rfl
          rw [cellsEI] at g
          exact g
        have g6 : DataW.trod enc Try.prog W 0 (fun _ => true) true k 3 [v6] = some y6 := by
          have g : DataW.trod enc Try.prog W 0 (fun _ => true) true k 3 (List.take (Try.prog.cellsOf 3) (List.drop 6 [v0, v1, v2, v3, v4, v5, v6])) = [y0, y1, y2, y3, y4, y5, y6][6]? := hfl 6 _ rfl
          rw [cellsEI] at g
          exact g
        have e0 := hce 0 (by omega)
        have e1 := hce 1 (by omega)
        have e2 := hce 2 (by omega)
        have e3 := hce 3 (by omega)
        have e4 := hce 4 (by omega)
        have e5 := hce 5 (by omega)
        have e6 := hce 6 (by omega)
        rw [add_add] at e0 e1 e2 e3 e4 e5 e6
        obtain ⟨q0, r0, _⟩ := DataW.trod_int Try.underlying3 g0
        obtain ⟨eo, ec, es, r1, he⟩ := edits_of (v := v1) g1
        obtain ⟨q2, r2, _⟩ := DataW.trod_int Try.underlying3 g2
        obtain ⟨q3, r3, _⟩ := DataW.trod_int Try.underlying3 g3
        obtain ⟨q4, r4, _⟩ := DataW.trod_int Try.underlying3 g4
        obtain ⟨q5, r5, _⟩ := DataW.trod_int Try.underlying3 g5
        obtain ⟨q6, r6, _⟩ := DataW.trod_int Try.underlying3 g6
        simp at r0 r2 r3 r4 r5 r6
        subst r0 r1 r2 r3 r4 r5 r6
        refine ⟨⟨q0, eo, ec, es, q2, q3, q4, q5, q6⟩, ?_, ?_, ?_, ?_, ?_, ?_, ?_, he⟩
        · simpa using e0
        · simpa using e1
        · simpa using e2
        · simpa using e3
        · simpa using e4
        · simpa using e5
        · simpa using e6
    haveI : Inhabited Ac := ⟨⟨0, none, 0, [], 0, 0, 0, 0, 0⟩⟩
    obtain ⟨q, hq⟩ := choose_lt each
    refine ⟨some a, cap, (List.range len).map q, by simp, ?_, by simp; unfold maxLen at hm; omega⟩
    by_cases h0 : len = 0
    · subst h0; exact .inl rfl
    · have ha : a.spot = none := by
        have h1 := (hq 0 (by omega)).1
        cases hs : a.spot with
        | none => rfl
        | some s =>
          exfalso
          revert h1
          unfold World.cell?
          simp [Addr.add, hs]
          split <;> simp_all
      obtain ⟨b, off, spot⟩ := a
      simp at ha
      subst ha
      refine .inr ⟨b, off, rfl, fun i hi => ?_⟩
      simp at hi
      have h2 := hq i hi
      have hk : aAt ((List.range len).map q) i = q i := by
        rw [aAt_eq (by simpa using hi)]
        simp
      rw [hk]
      have e1 : ∀ j, (⟨b, off, none⟩ : Addr).add j = ⟨b, off + j, none⟩ := fun j => add_eq b off j
      rw [e1, e1, e1, e1, e1, e1, e1] at h2
      simp only [← Nat.add_assoc] at h2
      exact ⟨⟨h2.1, h2.2.1, h2.2.2.1, h2.2.2.2.1, h2.2.2.2.2.1, h2.2.2.2.2.2.1, h2.2.2.2.2.2.2.1⟩, h2.2.2.2.2.2.2.2⟩
end Go.Proofs.Ytcflbekjiohfnaa
