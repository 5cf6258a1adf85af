/- Layer 10: the numbers that are given out: take, free, many. -/
import Derived.Test.YtcbgeahcnjamdabGreatLevNum
import Derived.Deep.RegionLaw
import Derived.Deep.AppendLies
namespace Go.Proofs.YtcbgeahcnjamdabGreat
open Go.RowKit
set_option linter.unusedVariables false

/-- The numbers that came back, at the cell o of block B; v: the slice. -/
structure Bk (W : World) (B o : Nat) (v : Value) (xs : List Int) : Prop where
  cell : W.cell? ⟨B, o, none⟩ = some v
  row : RowW W 3 1 v xs.length (i6s xs)
  ap : v.ownBlock ≠ some B
/-- What is left when they are written: the cell o of block B, and the slice's block. -/
structure Bkp (B o : Nat) (v v' : Value) (w w' : World) : Prop where
  os : w'.os = w.os
  tape : w'.tape = w.tape
  output : w'.output = w.output
  size : w.heap.size ≤ w'.heap.size
  other : ∀ k, k < w.heap.size → k ≠ B → v.ownBlock ≠ some k → w'.heap[k]? = w.heap[k]?
  blk : ∀ t cs, Blk w B t cs → Blk w' B t (cs.setIfInBounds o v')
  own : ∀ q, v'.ownBlock = some q → v.ownBlock = some q ∨ w.heap.size ≤ q
theorem setI_self {cs : Array Value} {o : Nat} {v : Value} (h : cs[o]? = some v) : cs.setIfInBounds o v = cs := by
  apply Array.ext_getElem?
  intro i
  rw [Array.getElem?_setIfInBounds]
  split
  · rename_i e; subst e
    obtain ⟨hlt, e⟩ := Array.getElem?_eq_some_iff.1 h
    rw [if_pos hlt, h]
  · rfl
theorem setI_twice (cs : Array Value) (o : Nat) (v u : Value) : (cs.setIfInBounds o v).setIfInBounds o u = cs.setIfInBounds o u := by
  apply Array.ext_getElem?
  intro i
  simp only [Array.getElem?_setIfInBounds, Array.size_setIfInBounds]
  split <;> rfl
theorem blk_at {W : World} {B o : Nat} {t : TypeId} {cs : Array Value} {v : Value} (h : Blk W B t cs) (hc : W.cell? ⟨B, o, none⟩ = some v) : cs[o]? = some v := by
  simp [World.cell?, show W.heap[B]? = _ from h] at hc; exact hc
theorem Bkp.trans {B o : Nat} {v v1 v2 : Value} {w w1 w2 : World} (hB : B < w.heap.size) (h : Bkp B o v v1 w w1) (k : Bkp B o v1 v2 w1 w2) : Bkp B o v v2 w w2 :=
  ⟨k.os.trans h.os, k.tape.trans h.tape, k.output.trans h.output, Nat.le_trans h.size k.size,
   fun i hi hn hv => (k.other i (Nat.lt_of_lt_of_le hi h.size) hn (fun e => (h.own i e).elim hv (by omega))).trans (h.other i hi hn hv),
   fun t cs hb => by have := k.blk t _ (h.blk t cs hb); rwa [setI_twice] at this,
   fun q hq => (k.own q hq).elim (h.own q) (fun h' => .inr (Nat.le_trans h.size h'))⟩
theorem Bkp.grown {B o : Nat} {v : Value} {w w' : World} (hc : w.cell? ⟨B, o, none⟩ = some v) (hv : v.ownBlock ≠ some B) (h : w.grownBy w' v.ownBlock) : Bkp B o v v w w' :=
  ⟨h.os, h.tape, h.output, h.size, fun k hk _ hn => h.block k hk (Ne.symm hn), fun t cs hb => by rw [setI_self (blk_at hb hc)]; exact (h.block B hb.lt (Ne.symm hv)).trans hb, fun q hq => .inl hq⟩
theorem Bkp.below {B o : Nat} {v v1 : Value} {w w1 w2 : World} (hB : B < w.heap.size) (h : Bkp B o v v1 w w1) (hb : Below w1.heap.size w1 w2) : Bkp B o v v1 w w2 :=
  ⟨hb.os.trans h.os, hb.tape.trans h.tape, hb.output.trans h.output, Nat.le_trans h.size hb.size, fun k hk hn hv => (hb.block k (Nat.lt_of_lt_of_le hk h.size)).trans (h.other k hk hn hv), fun t cs hk => (hb.block B (Nat.lt_of_lt_of_le hB h.size)).trans (h.blk t cs hk), h.own⟩
theorem Bk.below {B o : Nat} {v : Value} {xs : List Int} {w w' : World} (h : Bk w B o v xs) (hb : Below w.heap.size w w') : Bk w' B o v xs :=
  ⟨(World.cell?_of_block (w := w) (hb.block B (cell_lt h.cell))).trans h.cell, h.row.kept fun k hk => hb.block k (h.row.lt hk), h.ap⟩
theorem Bk.grown {B o : Nat} {v : Value} {xs ys : List Int} {w w' : World} (h : Bk w B o v xs) (hg : w.grownBy w' v.ownBlock) (hr : RowW w' 3 1 v ys.length (i6s ys)) : Bk w' B o v ys :=
  ⟨(World.cell?_of_block (w := w) (hg.block B (cell_lt h.cell) (Ne.symm h.ap))).trans h.cell, hr, h.ap⟩
theorem infoI6' : (Tryz.prog.info? 3).map (fun i => (i.zero, i.size, i.bytes)) = some (some (.int .i64 0), 1, 8) := by kernel_rfl
theorem assert_int (k : Int) (w : World) : Sem.run Tryz.prog (Instr.typeAssert (.iface 3 (.int .i64 k)) 20 3 false) w = .ok (.int .i64 k) w := by kernel_rfl
/-- An append onto the slice, stored at its cell. -/
theorem Bk.pushed {w w1 w3 : World} {B o g cap' : Nat} {ao : Option Addr} {n cap : Nat} {xs : List Int} {T : TypeId} {cs : Array Value} (hb : Blk w B T cs) (h : Bk w B o (.slice ao n cap) xs) (hn : n = xs.length) (k : Int) (h1 : Below w.heap.size w w1) (hrow : RowW w3 3 1 (.slice (some ⟨g, 0, none⟩) (n + 1) cap') (n + 1) (i6s xs ++ [.int .i64 k])) (hg : w1.grownBy w3 (Value.slice ao n cap).ownBlock)
    (hat : (Value.slice ao n cap).ownBlock = some g ∨ w.heap.size ≤ g) : ∃ v', Bk (w3.setCell ⟨B, o, none⟩ (.slice (some ⟨g, 0, none⟩) (n + 1) cap')) B o v' (xs ++ [k]) ∧ Bkp B o (.slice ao n cap) v' w (w3.setCell ⟨B, o, none⟩ (.slice (some ⟨g, 0, none⟩) (n + 1) cap')) := by
  have hB := hb.lt
  have hgB : g ≠ B := by
    rcases hat with e | e
    · exact fun e' => h.ap (e'▸ e)
    · omega
  have keep : ∀ q, q < w.heap.size → (Value.slice ao n cap).ownBlock ≠ some q → w3.heap[q]? = w.heap[q]? := fun q hq hne => (hg.block q (Nat.lt_of_lt_of_le hq h1.size) (Ne.symm hne)).trans (h1.block q hq)
  have hb3 : Blk w3 B T cs := (keep B hB h.ap).trans hb
  have hco := blk_at hb h.cell
  have hsz := size_setCell w3 ⟨B, o, none⟩ (.slice (some ⟨g, 0, none⟩) (n + 1) cap')
  refine ⟨.slice (some ⟨g, 0, none⟩) (n + 1) cap', ⟨?_, ?_, fun e => hgB (Option.some.inj e)⟩, ⟨hg.os.trans h1.os, hg.tape.trans h1.tape, hg.output.trans h1.output, by rw [hsz]; exact Nat.le_trans h1.size hg.size, fun q hq hne hv => (Below.heap_setCell w3 ⟨B, o, none⟩ _ q hne).trans (keep q hq hv), fun t cs' hk => ?_, fun q hq => by cases hq; exact hat⟩⟩
  · refine (hb3.setAt o _).at ?_
    rw [Array.getElem?_setIfInBounds, if_pos rfl, if_pos (Array.getElem?_eq_some_iff.1 hco).1]
  · have e : (xs ++ [k]).length = n + 1 := by simp [hn]
    rw [e, i6s_snoc]
    exact hrow.kept fun q hq => Below.heap_setCell w3 ⟨B, o, none⟩ _ q (fun e => by cases hq; exact hgB e)
  · exact Blk.setAt ((keep B hB h.ap).trans hk) o _
set_option maxRecDepth 100000 in
set_option maxHeartbeats 1600000 in
theorem lpush_any {w : World} {B o : Nat} {v : Value} {xs : List Int} {T : TypeId} {cs : Array Value} (hb : Blk w B T cs) (h : Bk w B o v xs) (hl : xs.length ≤ 100000) (k : Int) :
    Calls Tryz.prog 171 #[.pointer (some ⟨B, o, none⟩), .iface 3 (.int .i64 k)] w fun e w' => e = .returned (.tuple #[]) ∧ ∃ v', Bk w' B o v' (xs ++ [k]) ∧ Bkp B o v v' w w' := by
  obtain ⟨i0, hi, hz0, hz1, hz2⟩ := info_parts infoI6'
  have c0 := h.cell
  have hfz := hb.frozen o
  have hBl := hb.lt
  obtain ⟨n, hn⟩ : ∃ n, n = xs.length := ⟨_, rfl⟩
  have HN := hid_mk hn
  have hR0 := h.row
  rw [← hn] at hl hR0
  obtain ⟨ao, cap, rfl⟩ := hR0.form
  have HX : Hid (Blk (w.alloc (.cells #[.int .i64 k] 3)) w.heap.size 3 #[.int .i64 k]) := Blk.new w _ _
  have HB := hid_mk hb
  have HA := hid_mk h.ap
  have HR := hid_mk hR0
  have c1 : (w.alloc (.cells #[.int .i64 k] 3)).cell? ⟨B, o, none⟩ = some (.slice ao n cap) := (World.cell?_of_block (w := w) (heap_alloc_old _ _ B hBl)).trans c0
  have f1 : (w.alloc (.cells #[.int .i64 k] 3)).frozen? ⟨B, o, none⟩ = false := (hb.alloc _).frozen o
  have ta := assert_int k
  have HF := hid_mk (fun (w3 : World) (g cap' : Nat) => Bk.pushed (w1 := (w.alloc (.cells #[.int .i64 k] 3)).drew) (w3 := w3) (g := g) (cap' := cap') hb h hn k ((Below.refl w.heap.size w).alloc (Nat.le_refl _) (.cells #[.int .i64 k] 3) |>.drew))
  clear h hR0 hn hb
  go_enter Tryz.func171, Tryz.ntmps171
  go_wp2
  go_region_law (refine step_append_row _ (by rfl) (.tmp 8) (.tmp 11) 54 (by rfl) 3 i0 (.int .i64 0) 1 8 Tryz.underlying54 hi hz0 hz1 hz2 rfl (.slice ao n cap) n (i6s xs) (by rfl) (HR.out.kept fun q hq => (show ((w.alloc (.cells #[.int .i64 k] 3)).drew).heap[q]? = w.heap[q]? from heap_alloc_old w _ q (HR.out.lt hq))) ⟨w.heap.size, 0, none⟩ 1 1 [.int .i64 k] (by rfl) rfl (World.news_of_block (show Blk ((w.alloc (.cells #[.int .i64 k] 3)).drew) w.heap.size 3 #[.int .i64 k] from Blk.new w _ _)) (by simp [Value.oneCell']) (by omega) (by unfold maxLen; omega) (by omega) ?_; intro g cap' w3 hown3 hgrow3 hat3 hlt3; have hk3 := hid_mk (show w3.heap[B]? = w.heap[B]? from (hgrow3.block B (show B < (w.alloc (.cells #[.int .i64 k] 3)).heap.size by simp; omega) (Ne.symm HA.out)).trans (show ((w.alloc (.cells #[.int .i64 k] 3)).drew).heap[B]? = w.heap[B]? from heap_alloc_old w _ B hBl)); have c3 : w3.cell? ⟨B, o, none⟩ = some (.slice ao n cap) := (World.cell?_of_block (w := w) hk3.out).trans c0; have f3 : w3.frozen? ⟨B, o, none⟩ = false := (Blk.frozen (hk3.out.trans HB.out) o))
  all_goals go_end0
  all_goals exact ⟨rfl, HF.out w3 g cap' hown3 hgrow3 (hat3.imp id (fun e => by rw [e]; show w.heap.size ≤ (w.alloc _).heap.size; simp))⟩
end Go.Proofs.YtcbgeahcnjamdabGreat
