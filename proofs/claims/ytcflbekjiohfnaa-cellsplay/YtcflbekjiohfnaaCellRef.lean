/- The document's machine of layer 3 in memory: New, May, Cost. -/
import Derived.Test.YtcflbekjiohfnaaCellBack
import Derived.Test.YtcflbekjiohfnaaTerrRefTwo
namespace Go.Proofs.Ytcflbekjiohfnaa
open Go.RowKit
set_option linter.unusedVariables false
attribute [local go_sem ↓] Go.wp_at_zero Go.wp_at_succ

/-- Integers in the cells of a block from its head on, none of them frozen. -/
def RowC (W : World) (g : Nat) (L : List Int) : Prop := ∀ i, i < L.length → W.cell? ⟨g, i, none⟩ = some (.int .i64 (lAt L i)) ∧ W.frozen? ⟨g, i, none⟩ = false
theorem RowC.below {W W' : World} {g : Nat} {L : List Int} (h : RowC W g L) (hb : Below W.heap.size W W') : RowC W' g L := fun i hi =>
  ⟨(hb.cell (p := ⟨g, i, none⟩) (cell_lt (h i hi).1)).trans (h i hi).1, (hb.frozen (p := ⟨g, i, none⟩) (cell_lt (h i hi).1)).trans (h i hi).2⟩
theorem frozen_block {W W' : World} {b o : Nat} (h : W'.heap[b]? = W.heap[b]?) : W'.frozen? ⟨b, o, none⟩ = W.frozen? ⟨b, o, none⟩ := by
  simp only [World.frozen?, h]
theorem RowC.but {W W' : World} {g K : Nat} {L : List Int} (h : RowC W g L) (hb : But W.heap.size K W W') (hn : g ≠ K) : RowC W' g L := fun i hi =>
  ⟨(hb.cell (cell_lt (h i hi).1) hn).trans (h i hi).1, (frozen_block (hb.block g (cell_lt (h i hi).1) hn)).trans (h i hi).2⟩
theorem RowC.put {W : World} {g : Nat} {L : List Int} (h : RowC W g L) {c : Int} (k : Int) (h0 : 0 ≤ c) (h1 : c < L.length) : RowC (W.setCell ⟨g, c.toNat, none⟩ (.int .i64 k)) g (put L c k) := fun i hi => by
  rw [put_len] at hi
  refine ⟨?_, by rw [World.frozen?_setCell]; exact (h i hi).2⟩
  rw [lAt_put h0 hi]
  by_cases e : (i : Int) = c
  · rw [if_pos e]
    have : c.toNat = i := by omega
    rw [this]
    exact World.cell?_setCell_same _ _ _ (h i hi).1
  · rw [if_neg e, World.cell?_setCell_other _ _ _ _ (fun e' => by cases e'; omega)]
    exact (h i hi).1
theorem IS.rowC {W : World} {base : Nat} {v : Value} {xs : List Int} (h : IS W base v xs) (h1 : 1 ≤ xs.length) : ∃ g cap, v = .slice (some ⟨g, 0, none⟩) xs.length cap ∧ base ≤ g ∧ g < W.heap.size ∧ RowC W g xs := by
  have hc := h
  rcases h.2 with ⟨rfl, h2⟩ | ⟨g, cap, cur, rfl, hb, hg, hn, _⟩
  · omega
  · refine ⟨g, cap, rfl, hb, (Array.getElem?_eq_some_iff.1 hg).1, fun i hi => ⟨?_, by simp [World.frozen?, hg]⟩⟩
    have h3 := World.ownsRow.cells hc rfl _ _ (ints_at hi)
    rw [add_eq, Nat.zero_add] at h3
    exact h3

abbrev refCells (zw zh : Int) (kv : Value) (cl : Int) (lv : Value) : Array Value := #[.int .i64 zw, .int .i64 zh, kv, .int .i64 cl, lv]
/-- The document's grid in block RB; it and its row lie from base on. -/
structure RG (W : World) (base RB : Nat) (zw zh : Int) (kv : Value) (cl : Int) (L : List Int) : Prop where
  ex : ∃ lb lc, Blk W RB 53 (refCells zw zh kv cl (.slice (some ⟨lb, 0, none⟩) L.length lc)) ∧ base ≤ lb ∧ lb ≠ RB ∧ lb < W.heap.size ∧ RowC W lb L
  rb : base ≤ RB
  l1 : 1 ≤ L.length
  l2 : L.length ≤ 4194304
theorem RG.below {W W' : World} {base RB : Nat} {zw zh : Int} {kv : Value} {cl : Int} {L : List Int} (h : RG W base RB zw zh kv cl L) (hb : Below W.heap.size W W') : RG W' base RB zw zh kv cl L := by
  obtain ⟨lb, lc, h1, h2, h3, h4, h5⟩ := h.ex
  exact ⟨⟨lb, lc, h1.below hb, h2, h3, Nat.lt_of_lt_of_le h4 hb.size, h5.below hb⟩, h.rb, h.l1, h.l2⟩
theorem RG.but {W W' : World} {base RB K : Nat} {zw zh : Int} {kv : Value} {cl : Int} {L : List Int} (h : RG W base RB zw zh kv cl L) (hb : But W.heap.size K W W') (hK : K < base) : RG W' base RB zw zh kv cl L := by
  obtain ⟨lb, lc, h1, h2, h3, h4, h5⟩ := h.ex
  have := h.rb
  exact ⟨⟨lb, lc, h1.but hb h1.lt (by omega), h2, h3, Nat.lt_of_lt_of_le h4 hb.size, h5.but hb (by omega)⟩, h.rb, h.l1, h.l2⟩
theorem RG.lt {W : World} {base RB : Nat} {zw zh : Int} {kv : Value} {cl : Int} {L : List Int} (h : RG W base RB zw zh kv cl L) : RB < W.heap.size := by
  obtain ⟨lb, lc, h1, _⟩ := h.ex
  exact h1.lt

set_option maxRecDepth 100000 in
set_option maxHeartbeats 1600000 in
theorem refNew_any (zw zh : Int) (ao : Option Addr) (kn kc : Nat) (cl : Int) (w : World) (h : Pl.rt zw zh = true) : Calls Try.prog 19 #[Pl.sz zw zh, .slice ao kn kc, .int .i64 cl] w fun e w' => ∃ RB, e = .returned (.pointer (some ⟨RB, 0, none⟩)) ∧ RG w' w.heap.size RB zw zh (.slice ao kn kc) cl (List.replicate (zw * zh).toNat 0) ∧ Below w.heap.size w w' := by
  obtain ⟨z1, z2, z3, z4, z5⟩ := Pl.rt_iff.1 h
  have zb := Pl.mul_bd z1 z2 z3 z4
  obtain ⟨m, hm⟩ : ∃ m : Nat, (m : Int) = zw * zh := ⟨(zw * zh).toNat, by omega⟩
  have HC' : Hid (Pl.cellsN zw zh = (m : Int)) := by show Pl.cellsN zw zh = _; unfold Pl.cellsN; rw [if_pos h]; exact hm.symm
  have hml : m ≤ 4194304 := by omega
  have hm1 : 1 ≤ m := by omega
  have HM : Hid ((m : Int) = zw * zh) := hm
  have hmk := make_int m hml
  clear hm zb z5 h
  have hlt0 : w.heap.size < (w.alloc (.cells #[.int .i64 zw, .int .i64 zh] 26)).heap.size := by simp
  obtain ⟨x0, x1⟩ := (Blk.new w 26 #[.int .i64 zw, .int .i64 zh]).cells2
  obtain ⟨X, hX⟩ : ∃ X, X = w.alloc (.cells #[.int .i64 zw, .int .i64 zh] 26) := ⟨_, rfl⟩
  have hXb : Below w.heap.size w X := by rw [hX]; exact (Below.refl _ _).alloc (Nat.le_refl _) _
  go_enter Try.func19, Try.ntmps19
  go_wp2
  rw [← hX]
  rw [← hX] at x0 x1 hlt0
  clear hX
  go_region_held3 (fun w' => w'.cell? ⟨w.heap.size, 0, none⟩ = some (.int .i64 zw) ∧ w'.cell? ⟨w.heap.size, 1, none⟩ = some (.int .i64 zh))
    (first
      | go_keep
      | (go_split_ands
         refine ⟨?_, ?_⟩
         · (rw [hb3.cell (p := ⟨w.heap.size, 0, none⟩) (by simpa using hlt0)]; assumption)
         · (rw [hb3.cell (p := ⟨w.heap.size, 1, none⟩) (by simpa using hlt0)]; assumption)))
    ((go_at_call 17; refine (Pl.rcells_any zw zh _).mono ?_; rintro e w3 ⟨rfl, hb3⟩; rw [HC'.out]))
  all_goals go_wp2
  go_ret
  have hb4 : Below X.heap.size X w3 := ⟨hb3.os, hb3.tape, hb3.output, hb3.size, hb3.block⟩
  have hB3 : Below w.heap.size w w3 := hXb.trans (hb4.mono hXb.size)
  have hs3 := hB3.size
  have hB5 := (hB3.alloc hs3 (.cells (iRow (List.replicate m 0)) 3)).alloc (by simp; omega) (.cells (refCells zw zh (.slice ao kn kc) cl (.slice (some ⟨w3.heap.size, 0, none⟩) m m)) 53)
  have hmt : (zw * zh).toNat = m := by have := HM.out; omega
  refine ⟨w3.heap.size + 1, rfl, ?_, hB5⟩
  rw [hmt]
  have hN := Blk.new (w3.alloc (.cells (iRow (List.replicate m 0)) 3)) 53 (refCells zw zh (.slice ao kn kc) cl (.slice (some ⟨w3.heap.size, 0, none⟩) m m))
  have hR := (Blk.new w3 3 (iRow (List.replicate m 0))).alloc (.cells (refCells zw zh (.slice ao kn kc) cl (.slice (some ⟨w3.heap.size, 0, none⟩) m m)) 53)
  refine ⟨⟨w3.heap.size, m, ?_, by omega, by omega, by simp; omega, fun i hi => ⟨hR.at (iRow_at hi), hR.frozen i⟩⟩, by omega, by simpa using hm1, by simpa using hml⟩
  simpa using hN
end Go.Proofs.Ytcflbekjiohfnaa
