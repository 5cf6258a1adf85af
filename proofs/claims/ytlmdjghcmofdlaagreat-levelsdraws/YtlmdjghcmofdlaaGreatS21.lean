/- Lemmas. -/
import Derived.Test.YtlmdjghcmofdlaaGreatS16
import Derived.Deep.RegionLaw
import Derived.Deep.AppendLies
set_option maxRecDepth 100000
set_option maxHeartbeats 64000000
namespace Go.Proofs.YtlmdjghcmofdlaaGreat
open Go.RowKit
set_option linter.unusedVariables false
structure Bk (W : World) (B o : Nat) (v : Value) (xs : List Int) : Prop where
  cell : W.cell? ⟨B, o, none⟩ = some v
  row : RowW W 3 1 v xs.length (i6s xs)
  ap : v.ownBlock ≠ some B
structure Bkp (B o : Nat) (v v' : Value) (w w' : World) : Prop where
  os : w'.os = w.os
  tape : w'.tape = w.tape
  output : w'.output = w.output
  size : w.heap.size ≤ w'.heap.size
  other : ∀ k, k < w.heap.size → k ≠ B → v.ownBlock ≠ some k → w'.heap[k]? = w.heap[k]?
  blk : ∀ t cs, Blk w B t cs → Blk w' B t (cs.setIfInBounds o v')
  own : ∀ q, v'.ownBlock = some q → v.ownBlock = some q ∨ w.heap.size ≤ q
theorem setI_self {cs : Array Value} {o : Nat} {v : Value} (h : cs[o]? = some v) : cs.setIfInBounds o v = cs := by
  apply Array.ext_getElem?
  intro i
  rw [Array.getElem?_setIfInBounds]
  split
  · rename_i e; subst e
    obtain ⟨hlt, e⟩ := Array.getElem?_eq_some_iff.1 h
    rw [if_pos hlt, h]
  · rfl
theorem setI_twice (cs : Array Value) (o : Nat) (v u : Value) : (cs.setIfInBounds o v).setIfInBounds o u = cs.setIfInBounds o u := by
  apply Array.ext_getElem?
  intro i
  simp only [Array.getElem?_setIfInBounds, Array.size_setIfInBounds]
  split <;> rfl
theorem blk_at {W : World} {B o : Nat} {t : TypeId} {cs : Array Value} {v : Value} (h : Blk W B t cs) (hc : W.cell? ⟨B, o, none⟩ = some v) : cs[o]? = some v := by
  simp [World.cell?, show W.heap[B]? = _ from h] at hc; exact hc
theorem Bkp.trans {B o : Nat} {v v1 v2 : Value} {w w1 w2 : World} (hB : B < w.heap.size) (h : Bkp B o v v1 w w1) (k : Bkp B o v1 v2 w1 w2) : Bkp B o v v2 w w2 :=
  ⟨k.os.trans h.os, k.tape.trans h.tape, k.output.trans h.output, Nat.le_trans h.size k.size,
   fun i hi hn hv => (k.other i (Nat.lt_of_lt_of_le hi h.size) hn (fun e => (h.own i e).elim hv (by omega))).trans (h.other i hi hn hv),
   fun t cs hb => by have := k.blk t _ (h.blk t cs hb); rwa [setI_twice] at this,
   fun q hq => (k.own q hq).elim (h.own q) (fun h' => .inr (Nat.le_trans h.size h'))⟩
theorem Bkp.grown {B o : Nat} {v : Value} {w w' : World} (hc : w.cell? ⟨B, o, none⟩ = some v) (hv : v.ownBlock ≠ some B) (h : w.grownBy w' v.ownBlock) : Bkp B o v v w w' :=
  ⟨h.os, h.tape, h.output, h.size, fun k hk _ hn => h.block k hk (Ne.symm hn), fun t cs hb => by rw [setI_self (blk_at hb hc)]; exact (h.block B hb.lt (Ne.symm hv)).trans hb, fun q hq => .inl hq⟩
theorem Bk.grown {B o : Nat} {v : Value} {xs ys : List Int} {w w' : World} (h : Bk w B o v xs) (hg : w.grownBy w' v.ownBlock) (hr : RowW w' 3 1 v ys.length (i6s ys)) : Bk w' B o v ys :=
  ⟨(World.cell?_of_block (w := w) (hg.block B (cell_lt h.cell) (Ne.symm h.ap))).trans h.cell, hr, h.ap⟩
theorem infoI6' : (Tryz.prog.info? 3).map (fun i => (i.zero, i.size, i.bytes)) = some (some (.int .i64 0), 1, 8) := by kernel_rfl
theorem assert_int (k : Int) (w : World) : Sem.run Tryz.prog (Instr.typeAssert (.iface 3 (.int .i64 k)) 20 3 false) w = .ok (.int .i64 k) w := by kernel_rfl
theorem Bk.pushed {w w1 w3 : World} {B o g cap' : Nat} {ao : Option Addr} {n cap : Nat} {xs : List Int} {T : TypeId} {cs : Array Value} (hb : Blk w B T cs) (h : Bk w B o (.slice ao n cap) xs) (hn : n = xs.length) (k : Int) (h1 : Below w.heap.size w w1) (hrow : RowW w3 3 1 (.slice (some ⟨g, 0, none⟩) (n + 1) cap') (n + 1) (i6s xs ++ [.int .i64 k])) (hg : w1.grownBy w3 (Value.slice ao n cap).ownBlock)
    (hat : (Value.slice ao n cap).ownBlock = some g ∨ w.heap.size ≤ g) : ∃ v', Bk (w3.setCell ⟨B, o, none⟩ (.slice (some ⟨g, 0, none⟩) (n + 1) cap')) B o v' (xs ++ [k]) ∧ Bkp B o (.slice ao n cap) v' w (w3.setCell ⟨B, o, none⟩ (.slice (some ⟨g, 0, none⟩) (n + 1) cap')) := by
  have hB := hb.lt
  have hgB : g ≠ B := by
    rcases hat with e | e
    · exact fun e' => h.ap (e'▸ e)
    · omega
  have keep : ∀ q, q < w.heap.size → (Value.slice ao n cap).ownBlock ≠ some q → w3.heap[q]? = w.heap[q]? := fun q hq hne => (hg.block q (Nat.lt_of_lt_of_le hq h1.size) (Ne.symm hne)).trans (h1.block q hq)
  have hb3 : Blk w3 B T cs := (keep B hB h.ap).trans hb
  have hco := blk_at hb h.cell
  have hsz := size_setCell w3 ⟨B, o, none⟩ (.slice (some ⟨g, 0, none⟩) (n + 1) cap')
  refine ⟨.slice (some ⟨g, 0, none⟩) (n + 1) cap', ⟨?_, ?_, fun e => hgB (Option.some.inj e)⟩, ⟨hg.os.trans h1.os, hg.tape.trans h1.tape, hg.output.trans h1.output, by rw [hsz]; exact Nat.le_trans h1.size hg.size, fun q hq hne hv => (Below.heap_setCell w3 ⟨B, o, none⟩ _ q hne).trans (keep q hq hv), fun t cs' hk => ?_, fun q hq => by cases hq; exact hat⟩⟩
  · refine (hb3.setAt o _).at ?_
    rw [Array.getElem?_setIfInBounds, if_pos rfl, if_pos (Array.getElem?_eq_some_iff.1 hco).1]
  · have e : (xs ++ [k]).length = n + 1 := by simp [hn]
    rw [e, i6s_snoc]
    exact hrow.kept fun q hq => Below.heap_setCell w3 ⟨B, o, none⟩ _ q (fun e => by cases hq; exact hgB e)
  · exact Blk.setAt ((keep B hB h.ap).trans hk) o _
theorem lpush_any {w : World} {B o : Nat} {v : Value} {xs : List Int} {T : TypeId} {cs : Array Value} (hb : Blk w B T cs) (h : Bk w B o v xs) (hl : xs.length ≤ 100000) (k : Int) :
    Calls Tryz.prog 172 #[.pointer (some ⟨B, o, none⟩), .iface 3 (.int .i64 k)] w fun e w' => e = .returned (.tuple #[]) ∧ ∃ v', Bk w' B o v' (xs ++ [k]) ∧ Bkp B o v v' w w' := by
  obtain ⟨i0, hi, hz0, hz1, hz2⟩ := info_parts infoI6'
  have c0 := h.cell
  have hfz := hb.frozen o
  have hBl := hb.lt
  obtain ⟨n, hn⟩ : ∃ n, n = xs.length := ⟨_, rfl⟩
  have HN := mkH hn
  have hR0 := h.row
  rw [← hn] at hl hR0
  obtain ⟨ao, cap, rfl⟩ := hR0.form
  have HX : Hid (Blk (w.alloc (.cells #[.int .i64 k] 3)) w.heap.size 3 #[.int .i64 k]) := Blk.new w _ _
  have HB := mkH hb
  have HA := mkH h.ap
  have HR := mkH hR0
  have c1 : (w.alloc (.cells #[.int .i64 k] 3)).cell? ⟨B, o, none⟩ = some (.slice ao n cap) := (World.cell?_of_block (w := w) (heap_alloc_old _ _ B hBl)).trans c0
  have f1 : (w.alloc (.cells #[.int .i64 k] 3)).frozen? ⟨B, o, none⟩ = false := (hb.alloc _).frozen o
  have ta := assert_int k
  have HF := mkH (fun (w3 : World) (g cap' : Nat) => Bk.pushed (w1 := (w.alloc (.cells #[.int .i64 k] 3)).drew) (w3 := w3) (g := g) (cap' := cap') hb h hn k ((Below.refl w.heap.size w).alloc (Nat.le_refl _) (.cells #[.int .i64 k] 3) |>.drew))
  clear h hR0 hn hb
  go_enter Tryz.func172, Tryz.ntmps172
  go_wp2
  go_region_law (refine step_append_row _ (by rfl) (.tmp 8) (.tmp 11) 52 (by rfl) 3 i0 (.int .i64 0) 1 8 Tryz.underlying52 hi hz0 hz1 hz2 rfl (.slice ao n cap) n (i6s xs) (by rfl) (HR.out.kept fun q hq => (show ((w.alloc (.cells #[.int .i64 k] 3)).drew).heap[q]? = w.heap[q]? from heap_alloc_old w _ q (HR.out.lt hq))) ⟨w.heap.size, 0, none⟩ 1 1 [.int .i64 k] (by rfl) rfl (World.news_of_block (show Blk ((w.alloc (.cells #[.int .i64 k] 3)).drew) w.heap.size 3 #[.int .i64 k] from Blk.new w _ _)) (by simp [Value.oneCell']) (by omega) (by unfold maxLen; omega) (by omega) ?_; intro g cap' w3 hown3 hgrow3 hat3 hlt3; have hk3 := mkH (show w3.heap[B]? = w.heap[B]? from (hgrow3.block B (show B < (w.alloc (.cells #[.int .i64 k] 3)).heap.size by simp; omega) (Ne.symm HA.out)).trans (show ((w.alloc (.cells #[.int .i64 k] 3)).drew).heap[B]? = w.heap[B]? from heap_alloc_old w _ B hBl)); have c3 : w3.cell? ⟨B, o, none⟩ = some (.slice ao n cap) := (World.cell?_of_block (w := w) hk3.out).trans c0; have f3 : w3.frozen? ⟨B, o, none⟩ = false := (Blk.frozen (hk3.out.trans HB.out) o))
  all_goals go_end0
  all_goals exact ⟨rfl, HF.out w3 g cap' hown3 hgrow3 (hat3.imp id (fun e => by rw [e]; show w.heap.size ≤ (w.alloc _).heap.size; simp))⟩
theorem lAt_take {xs : List Int} {n k : Nat} (hk : k < n) : lAt (xs.take n) k = lAt xs k := by
  unfold lAt
  rw [List.getD_eq_getElem?_getD, List.getD_eq_getElem?_getD, List.getElem?_take, if_pos hk]
theorem lAt_app {xs : List Int} {k : Nat} (y : Int) (hk : k < xs.length) : lAt (xs ++ [y]) k = lAt xs k := by
  unfold lAt
  rw [List.getD_eq_getElem?_getD, List.getD_eq_getElem?_getD, List.getElem?_append_left hk]
theorem Hp.pushed {xs : List Int} (h : Hp xs xs.length) (k : Int) : HpU (xs ++ [k]) (xs.length + 1) xs.length := by
  refine ⟨fun j h0 hj hne => ?_, fun j h0 hj hp _ => by omega⟩
  rw [lAt_app k (by omega), lAt_app k (by omega)]
  exact h j h0 (by omega)
theorem Hp.swapped {xs : List Int} {n : Nat} (hl : xs.length = n + 1) (h : Hp xs (n + 1)) : HpD (swapL xs 0 n) n 0 := by
  refine ⟨fun j h0 hj hne => ?_, fun j h0 hj hp h => by omega⟩
  rw [lAt_swap (by omega) (by omega), lAt_swap (by omega) (by omega), if_neg (by omega), if_neg hne, if_neg (by omega), if_neg (by omega)]
  exact h j h0 (by omega)
theorem take_mem {xs : List Int} {n : Nat} (hl : xs.length = n + 1) (hn : xs.Nodup) (x : Int) : x ∈ xs.take n ↔ x ∈ xs ∧ x ≠ lAt xs n := by
  rw [mem_lAt, mem_lAt, List.length_take]
  rw [nodup_lAt] at hn
  constructor
  · rintro ⟨k, hk, e⟩
    rw [lAt_take (by omega)] at e
    exact ⟨⟨k, by omega, e⟩, fun e' => by have := hn k n (by omega) (by omega) (e.trans e'); omega⟩
  · rintro ⟨⟨k, hk, e⟩, hne⟩
    have : k ≠ n := fun e' => hne (by rw [← e, e'])
    exact ⟨k, by omega, by rw [lAt_take (by omega)]; exact e⟩
theorem lpop_any {w : World} {B o g n cap : Nat} {ys : List Int} {T : TypeId} {cs : Array Value} (hb : Blk w B T cs) (h : Bk w B o (.slice (some ⟨g, 0, none⟩) (n + 1) cap) ys) (hl : ys.length = n + 1) (hn : n ≤ 200000) :
    Calls Tryz.prog 171 #[.pointer (some ⟨B, o, none⟩)] w fun e w' => e = .returned (.iface 3 (.int .i64 (lAt ys n))) ∧ Bk w' B o (.slice (some ⟨g, 0, none⟩) n cap) (ys.take n) ∧ Bkp B o (.slice (some ⟨g, 0, none⟩) (n + 1) cap) (.slice (some ⟨g, 0, none⟩) n cap) w w' := by
  have c0 := h.cell
  have hrow := h.row
  rw [hl] at hrow
  have c1 := hrow.cell (i6s_at (show n < ys.length by omega))
  have hcap : n + 1 ≤ cap ∧ cap ≤ maxLen := by
    rcases hrow.2 with ⟨e, _⟩ | ⟨g', cap', cur, e, _, q1, q2, _⟩
    · cases e
    · cases e; exact ⟨q1, q2⟩
  have hfz := hb.frozen o
  have hgB : g ≠ B := fun e => h.ap (by rw [e]; rfl)
  have HF : Hid (Bk (w.setCell ⟨B, o, none⟩ (.slice (some ⟨g, 0, none⟩) n cap)) B o (.slice (some ⟨g, 0, none⟩) n cap) (ys.take n) ∧ Bkp B o (.slice (some ⟨g, 0, none⟩) (n + 1) cap) (.slice (some ⟨g, 0, none⟩) n cap) w (w.setCell ⟨B, o, none⟩ (.slice (some ⟨g, 0, none⟩) n cap))) := by
    have hsz := size_setCell w ⟨B, o, none⟩ (.slice (some ⟨g, 0, none⟩) n cap)
    have hco := blk_at hb h.cell
    refine ⟨⟨(hb.setAt o _).at (by rw [Array.getElem?_setIfInBounds, if_pos rfl, if_pos (Array.getElem?_eq_some_iff.1 hco).1]), ?_, fun e => hgB (Option.some.inj e)⟩, ⟨rfl, rfl, rfl, by rw [hsz]; exact Nat.le_refl _, fun q hq hne _ => Below.heap_setCell w ⟨B, o, none⟩ _ q hne, fun t cs' hk => hk.setAt o _, fun q hq => .inl (by cases hq; rfl)⟩⟩
    have := (hrow.cut (k := n) (by omega)).kept (w' := w.setCell ⟨B, o, none⟩ (.slice (some ⟨g, 0, none⟩) n cap)) fun q hq => Below.heap_setCell w ⟨B, o, none⟩ _ q (fun e => by cases hq; exact hgB e)
    rw [List.length_take, hl, Nat.min_eq_left (by omega)]
    unfold i6s at this ⊢
    rw [List.map_take]; simpa using this
  have hm : (cap : Int) ≤ 9223372036854775807 := by have := hcap.2; unfold maxLen at this; omega
  have hc1 := hcap.1
  have HL := mkH (ilen_any (some ⟨g, 0, none⟩) (n + 1) cap w)
  have hwr : IntKind.i64.wrap ((n : Int) + 1 - 1) = (n : Int) := by simp [IntKind.wrap, IntKind.bits, IntKind.signed]; omega
  generalize lAt ys n = x at *
  clear h hrow hcap hb
  go_enter Tryz.func171, Tryz.ntmps171
  go_wp2_with fail
  refine HL.out.mono ?_
  rintro e w1 ⟨rfl, rfl⟩
  go_wp2
  go_ret
  exact ⟨rfl, HF.out⟩
theorem Bkp.ends {B o : Nat} {v v1 : Value} {w w1 : World} {T : TypeId} {cs : Array Value} (hb : Blk w B T cs) (h : Bkp B o v v1 w w1) : Blk w1 B T (cs.setIfInBounds o v1) := h.blk T cs hb
theorem hpush_any {w : World} {B o : Nat} {v : Value} {xs : List Int} {T : TypeId} {cs : Array Value} (hb : Blk w B T cs) (h : Bk w B o v xs) (hp : Hp xs xs.length) (nd : xs.Nodup) (k : Int) (hk : k ∉ xs) (hl : xs.length ≤ 100000) :
    Calls Tryz.prog 52 #[.iface 79 (.pointer (some ⟨B, o, none⟩)), .iface 3 (.int .i64 k)] w fun e w' => e = .returned (.tuple #[]) ∧ ∃ v' xs', Bk w' B o v' xs' ∧ Bkp B o v v' w w' ∧ Hp xs' xs'.length ∧ xs'.Nodup ∧ (∀ x, x ∈ xs' ↔ x ∈ xs ∨ x = k) ∧ xs'.length = xs.length + 1 := by
  have HL := mkH (lpush_any hb h hl k)
  have mp := reach_push ⟨B, o, none⟩ w
  have HU := mkH (hp.pushed k)
  have HD : Hid ((xs ++ [k]).Nodup) := by
    refine List.nodup_append.2 ⟨nd, by simp, fun a ha b hb e => ?_⟩
    simp at hb; subst hb; subst e; exact hk ha
  have hBl := hb.lt
  obtain ⟨n, hn⟩ : ∃ n, n = xs.length := ⟨_, rfl⟩
  have HN := mkH hn
  rw [← hn] at hl HU
  clear h hp nd hk hn hb
  go_enter Tryz.func52, Tryz.ntmps52
  go_wp2_with fail
  refine HL.out.mono ?_
  rintro e w1 ⟨rfl, v1, hB1, hP1⟩
  have e1 : (xs ++ [k]).length = n + 1 := by have := HN.out; simp; omega
  have hrow := hB1.row
  rw [e1] at hrow
  obtain ⟨g, cap, rfl⟩ := hrow.led (by omega)
  have ml := reach_len hB1.cell
  have HLn := mkH (ilen_any (some ⟨g, 0, none⟩) (n + 1) cap w1)
  have HUp := mkH (up_any hB1.cell (fun e => hB1.ap (by rw [e]; rfl)) hrow (by omega) HD.out (j0 := n) (by omega) HU.out)
  have HB1 := mkH hB1
  have HP1 := mkH hP1
  have hwr : IntKind.i64.wrap ((n : Int) + 1 - 1) = (n : Int) := by simp [IntKind.wrap, IntKind.bits, IntKind.signed]; omega
  clear hrow hB1 hP1 e1 mp HL
  go_wp2_with fail
  refine HLn.out.mono ?_
  rintro e w2 ⟨rfl, rfl⟩
  clear HLn
  go_wp2_with fail
  refine HUp.out.mono ?_
  rintro e w3 ⟨rfl, ys, hH, hy⟩
  have HF : Hid (∃ v' xs', Bk w3 B o v' xs' ∧ Bkp B o v v' w w3 ∧ Hp xs' xs'.length ∧ xs'.Nodup ∧ (∀ x, x ∈ xs' ↔ x ∈ xs ∨ x = k) ∧ xs'.length = xs.length + 1) := by
    have hlen := hH.len
    refine ⟨_, ys, HB1.out.grown hH.gr (by rw [hlen]; exact hH.row), HP1.out.trans hBl (Bkp.grown HB1.out.cell HB1.out.ap hH.gr), by rw [hlen]; exact hy, hH.nd, fun x => by rw [hH.mem]; simp, by rw [hlen, ← HN.out]⟩
  clear hH hy HUp HB1 HP1 HU HD ml
  go_wp2
  go_returns
  exact ⟨rfl, HF.out⟩
theorem hpop_any {w : World} {B o : Nat} {v : Value} {xs : List Int} {T : TypeId} {cs : Array Value} (hb : Blk w B T cs) (h : Bk w B o v xs) (hp : Hp xs xs.length) (nd : xs.Nodup) (h0 : xs ≠ []) (hl : xs.length ≤ 100000) :
    Calls Tryz.prog 44 #[.iface 79 (.pointer (some ⟨B, o, none⟩))] w fun e w' => e = .returned (.iface 3 (.int .i64 (lAt xs 0))) ∧ ∃ v' xs', Bk w' B o v' xs' ∧ Bkp B o v v' w w' ∧ Hp xs' xs'.length ∧ xs'.Nodup ∧ (∀ x, x ∈ xs' ↔ x ∈ xs ∧ x ≠ lAt xs 0) ∧ xs'.length + 1 = xs.length := by
  obtain ⟨n, hn⟩ : ∃ n, xs.length = n + 1 := ⟨xs.length - 1, by have := List.length_pos_iff.2 h0; omega⟩
  have hrow := h.row
  rw [hn] at hrow hp hl
  obtain ⟨g, cap, rfl⟩ := hrow.led (by omega)
  have ml := reach_len h.cell
  have HLn := mkH (ilen_any (some ⟨g, 0, none⟩) (n + 1) cap w)
  have ms := reach_swap h.cell
  have HS := mkH (iswap_any hrow (i := 0) (j := n) (by omega) (by omega) (by omega))
  have hwr : IntKind.i64.wrap ((n : Int) + 1 - 1) = (n : Int) := by simp [IntKind.wrap, IntKind.bits, IntKind.signed]; omega
  have HX := mkH h
  have HPP := mkH hp
  have HND := mkH nd
  have HN := mkH hn
  have HBK := mkH hb
  have hBl := hb.lt
  have hgB : g ≠ B := fun e => h.ap (by rw [e]; rfl)
  clear h hp nd h0 hn hrow hb
  go_enter Tryz.func44, Tryz.ntmps44
  go_wp2_with fail
  refine HLn.out.mono ?_
  rintro e w1 ⟨rfl, rfl⟩
  clear HLn
  go_wp2_with fail
  refine HS.out.mono ?_
  rintro e w2 ⟨rfl, hR, hg⟩
  have hB2 : Bk w2 B o (.slice (some ⟨g, 0, none⟩) (n + 1) cap) (swapL xs 0 n) := HX.out.grown hg (by rw [swapL_len, HN.out]; exact hR)
  have HP2 : Hid (Bkp B o (.slice (some ⟨g, 0, none⟩) (n + 1) cap) (.slice (some ⟨g, 0, none⟩) (n + 1) cap) w1 w2) := Bkp.grown HX.out.cell HX.out.ap hg
  have HDn := mkH (down_any hB2.cell hgB hR (by omega) (n := n) (by omega) (swapL_nodup (by have := HN.out; omega) (by have := HN.out; omega) HND.out) (HPP.out.swapped HN.out))
  have HB2 := mkH hB2
  clear hR hg hB2 HS ml ms
  go_wp2_with fail
  refine HDn.out.mono ?_
  rintro e w3 ⟨⟨bb, rfl⟩, ys, hH, hy, hT⟩
  have hlen := hH.len
  have hB3 : Bk w3 B o (.slice (some ⟨g, 0, none⟩) (n + 1) cap) ys := HB2.out.grown hH.gr (by rw [hlen]; exact hH.row)
  have hP3 := HP2.out.trans hBl (Bkp.grown HB2.out.cell HB2.out.ap hH.gr)
  have hlast : lAt ys n = lAt xs 0 := by
    rw [hT n (Nat.le_refl _), lAt_swap (by have := HN.out; omega) (by have := HN.out; omega), if_pos rfl]
  have HPo := mkH (lpop_any (hP3.ends HBK.out) hB3 hlen (by omega))
  rw [hlast] at HPo
  have mp := reach_pop ⟨B, o, none⟩ w3
  have HF : Hid (∀ w4, Bk w4 B o (.slice (some ⟨g, 0, none⟩) n cap) (ys.take n) → Bkp B o (.slice (some ⟨g, 0, none⟩) (n + 1) cap) (.slice (some ⟨g, 0, none⟩) n cap) w3 w4 → ∃ v' xs', Bk w4 B o v' xs' ∧ Bkp B o (.slice (some ⟨g, 0, none⟩) (n + 1) cap) v' w1 w4 ∧ Hp xs' xs'.length ∧ xs'.Nodup ∧ (∀ x, x ∈ xs' ↔ x ∈ xs ∧ x ≠ lAt xs 0) ∧ xs'.length + 1 = xs.length) := fun w4 k1 k2 => by
    have el : (ys.take n).length = n := by rw [List.length_take, hlen]; omega
    refine ⟨_, _, k1, hP3.trans hBl k2, ?_, hH.nd.sublist (List.take_sublist _ _), fun x => ?_, by rw [el, HN.out]⟩
    · rw [el]
      intro k k0 hk
      rw [lAt_take hk, lAt_take (by omega)]
      exact hy k k0 hk
    · rw [take_mem hlen hH.nd, hlast, hH.mem, swapL_mem (by have := HN.out; omega) (by have := HN.out; omega)]
  clear hH hy hT hlen hB3 hP3 hlast HDn HB2 HP2 HBK HND HPP HX
  go_wp2_with fail
  refine HPo.out.mono ?_
  rintro e w4 ⟨rfl, k1, k2⟩
  have HG := mkH (HF.out w4 k1 k2)
  clear k1 k2 HF HPo mp
  go_wp2
  go_ret
  exact ⟨rfl, HG.out⟩
structure Np (last : Int) (xs : List Int) : Prop where
  hp : Hp xs xs.length
  nd : xs.Nodup
  rg : ∀ x ∈ xs, 1 ≤ x ∧ x ≤ last
  l0 : 0 ≤ last
def Tk (last : Int) (xs : List Int) (t : Int) : Prop := 1 ≤ t ∧ t ≤ last ∧ t ∉ xs
structure Nm (W : World) (B o : Nat) (last : Int) (v : Value) (xs : List Int) : Prop where
  c : W.cell? ⟨B, o, none⟩ = some (.int .i64 last)
  b : Bk W B (o + 1) v xs
  p : Np last xs
structure Nmp (B o : Nat) (last' : Int) (v v' : Value) (w w' : World) : Prop where
  os : w'.os = w.os
  tape : w'.tape = w.tape
  output : w'.output = w.output
  size : w.heap.size ≤ w'.heap.size
  other : ∀ k, k < w.heap.size → k ≠ B → v.ownBlock ≠ some k → w'.heap[k]? = w.heap[k]?
  blk : ∀ t cs, Blk w B t cs → Blk w' B t ((cs.setIfInBounds o (.int .i64 last')).setIfInBounds (o + 1) v')
  own : ∀ q, v'.ownBlock = some q → v.ownBlock = some q ∨ w.heap.size ≤ q
theorem Nmp.of {B o : Nat} {last : Int} {v v' : Value} {w w' : World} (hc : w.cell? ⟨B, o, none⟩ = some (.int .i64 last)) (h : Bkp B (o + 1) v v' w w') : Nmp B o last v v' w w' :=
  ⟨h.os, h.tape, h.output, h.size, h.other, fun t cs hb => by rw [setI_self (blk_at hb hc)]; exact h.blk t cs hb, h.own⟩
theorem mmany_any {w : World} {B o : Nat} {last : Int} {v : Value} {xs : List Int} (h : Nm w B o last v xs) (hl : last ≤ 4611686018427387904) (hx : xs.length ≤ 100000) :
    Calls Tryz.prog 22 #[.pointer (some ⟨B, o, none⟩)] w fun e w' => e = .returned (.int .i64 (last - xs.length)) ∧ Below w.heap.size w w' := by
  have hBl := cell_lt h.c
  have g0 : ∀ g : Grow w, g.w.cell? ⟨B, o, none⟩ = some (.int .i64 last) := fun g => Grow.cell hBl h.c g
  have g1 : ∀ g : Grow w, g.w.cell? ⟨B, o + 1, none⟩ = some v := fun g => Grow.cell hBl h.b.cell g
  obtain ⟨ao, cap, rfl⟩ := h.b.row.form
  have hl0 := h.p.l0
  obtain ⟨n, hn⟩ : ∃ n, n = xs.length := ⟨_, rfl⟩
  rw [← hn] at g1 hx ⊢
  have HL : Hid (∀ g : Grow w, Calls Tryz.prog 43 #[.slice ao n cap] g.w fun e w'' => e = .returned (.int .i64 n) ∧ Below g.w.heap.size g.w w'') := fun g => (ilen_any ao n cap g.w).mono fun e w' ⟨h1, h2⟩ => ⟨h1, by subst h2; exact Below.refl _ _⟩
  have hwr : IntKind.i64.wrap (last - (n : Int)) = last - (n : Int) := by simp [IntKind.wrap, IntKind.bits, IntKind.signed]; omega
  clear h hn
  go_enter Tryz.func22, Tryz.ntmps22
  go_wp2
  have hne := Grow.ne w
  refine wp_region_grow (by kernel_rfl) (by kernel_rfl) ?_
  repeat (go_big_quiet_step ((go_at_call 43; exact grow_call (HL.out _))))
  refine wpQuiet_nil ?_
  rintro w7 ⟨⟨_, hb7⟩, rfl⟩
  have HB7 := mkH hb7
  clear hb7 g0 g1 hne HL
  go_wp2
  go_ret
  exact ⟨rfl, HB7.out⟩
def Least (P : Int → Prop) (r : Int) : Prop := 1 ≤ r ∧ ¬ P r ∧ ∀ t, 1 ≤ t → t < r → P t
theorem mtake_any {w : World} {B o : Nat} {last : Int} {v : Value} {xs : List Int} {T : TypeId} {cs : Array Value} (hb : Blk w B T cs) (h : Nm w B o last v xs) (hl : last ≤ 4611686018427387904) (hx : xs.length ≤ 100000) :
    Calls Tryz.prog 24 #[.pointer (some ⟨B, o, none⟩)] w fun e w' => ∃ r, e = .returned (.int .i64 r) ∧ Least (Tk last xs) r ∧ ∃ last' v' xs', Nm w' B o last' v' xs' ∧ Nmp B o last' v v' w w' ∧ (∀ t, Tk last' xs' t ↔ Tk last xs t ∨ t = r) ∧ last ≤ last' ∧ last' ≤ last + 1 ∧ last' - xs'.length = last - xs.length + 1 ∧ xs'.length ≤ xs.length := by
  have c1 := h.b.cell
  have hf := h.b.row.form
  obtain ⟨ao, cap, rfl⟩ := hf
  have HH := mkH h
  have HBK := mkH hb
  have c0 := h.c
  have f0 := hb.frozen o
  have hl0 := h.p.l0
  obtain ⟨n, hn⟩ : ∃ n, n = xs.length := ⟨_, rfl⟩
  have HN := mkH hn
  have HL := mkH (ilen_any ao n cap w)
  have HX := mkH hx
  by_cases h0 : xs = []
  · have HE : Hid (Least (Tk last xs) (last + 1) ∧ ∃ last' v' xs', Nm (w.setCell ⟨B, o, none⟩ (.int .i64 (last + 1))) B o last' v' xs' ∧ Nmp B o last' (.slice ao xs.length cap) v' w (w.setCell ⟨B, o, none⟩ (.int .i64 (last + 1))) ∧ (∀ t, Tk last' xs' t ↔ Tk last xs t ∨ t = last + 1) ∧ last ≤ last' ∧ last' ≤ last + 1 ∧ last' - xs'.length = last - xs.length + 1 ∧ xs'.length ≤ xs.length) := by
      refine ⟨⟨by omega, fun k => by have := k.2.1; omega, fun t h1 h2 => ⟨h1, by omega, by rw [h0]; simp⟩⟩, last + 1, .slice ao xs.length cap, xs, ?_, ?_, fun t => ?_, by omega, by omega, by omega, Nat.le_refl _⟩
      · have hco := blk_at hb c0
        have hc1 := blk_at hb c1
        have hb' := hb.setAt o (.int .i64 (last + 1))
        refine ⟨hb'.at (by rw [Array.getElem?_setIfInBounds, if_pos rfl, if_pos (Array.getElem?_eq_some_iff.1 hco).1]), ⟨hb'.at (by rw [Array.getElem?_setIfInBounds, if_neg (by omega)]; exact hc1), h.b.row.kept fun q hq => Below.heap_setCell w ⟨B, o, none⟩ _ q (fun e => h.b.ap (by rw [hq, e])), h.b.ap⟩, ⟨h.p.hp, h.p.nd, fun x hx => by have := h.p.rg x hx; omega, by omega⟩⟩
      · refine ⟨rfl, rfl, rfl, by rw [size_setCell]; exact Nat.le_refl _, fun q hq hne _ => Below.heap_setCell w ⟨B, o, none⟩ _ q hne, fun t cs' hk => ?_, fun q hq => .inl hq⟩
        have := hk.setAt o (.int .i64 (last + 1))
        rw [setI_self (cs := cs'.setIfInBounds o (.int .i64 (last + 1))) (by rw [Array.getElem?_setIfInBounds, if_neg (by omega)]; exact blk_at hk c1)]; exact this
      · unfold Tk
        rw [h0]; simp; omega
    have hn0 : n = 0 := by rw [hn, h0]; rfl
    rw [← hn] at c1
    subst hn0
    have hwr : IntKind.i64.wrap (last + 1) = last + 1 := by simp [IntKind.wrap, IntKind.bits, IntKind.signed]; omega
    clear h hb hn h0 HN hx HX
    go_enter Tryz.func24, Tryz.ntmps24
    go_wp2_with fail
    refine HL.out.mono ?_
    rintro e w1 ⟨rfl, rfl⟩
    clear HL
    go_wp2
    go_ret
    exact ⟨_, rfl, HE.out⟩
  · have hpos : (0 : Int) < (n : Int) := by have := List.length_pos_iff.2 h0; omega
    have HP := mkH (hpop_any hb h.b h.p.hp h.p.nd h0 hx)
    have ta := assert_int (lAt xs 0)
    have HE : Hid (∀ w', (∃ v' xs', Bk w' B (o + 1) v' xs' ∧ Bkp B (o + 1) (.slice ao xs.length cap) v' w w' ∧ Hp xs' xs'.length ∧ xs'.Nodup ∧ (∀ x, x ∈ xs' ↔ x ∈ xs ∧ x ≠ lAt xs 0) ∧ xs'.length + 1 = xs.length) → Least (Tk last xs) (lAt xs 0) ∧ ∃ last' v' xs', Nm w' B o last' v' xs' ∧ Nmp B o last' (.slice ao xs.length cap) v' w w' ∧ (∀ t, Tk last' xs' t ↔ Tk last xs t ∨ t = lAt xs 0) ∧ last ≤ last' ∧ last' ≤ last + 1 ∧ last' - xs'.length = last - xs.length + 1 ∧ xs'.length ≤ xs.length) := fun w' ⟨v', xs', k1, k2, k3, k4, k5, k6⟩ => by
      have hpl := List.length_pos_iff.2 h0
      have hm : lAt xs 0 ∈ xs := mem_lAt.2 ⟨0, hpl, rfl⟩
      have hr := h.p.rg _ hm
      refine ⟨⟨hr.1, fun k => k.2.2 hm, fun t h1 h2 => ⟨h1, by omega, fun hmt => ?_⟩⟩, last, v', xs', ⟨?_, k1, ⟨k3, k4, fun x hx => h.p.rg x ((k5 x).1 hx).1, hl0⟩⟩, Nmp.of c0 k2, fun t => ?_, by omega, by omega, by omega, by omega⟩
      · obtain ⟨k, hk, e⟩ := mem_lAt.1 hmt
        have := h.p.hp.least k hk
        omega
      · have := (Nmp.of c0 k2).blk T cs hb
        have hco := blk_at hb c0
        refine this.at ?_
        rw [Array.getElem?_setIfInBounds, if_neg (by omega), Array.getElem?_setIfInBounds, if_pos rfl, if_pos (Array.getElem?_eq_some_iff.1 hco).1]
      · unfold Tk
        rw [k5]
        constructor
        · rintro ⟨a1, a2, a3⟩
          by_cases e : t = lAt xs 0
          · exact .inr e
          · exact .inl ⟨a1, a2, fun hx => a3 ⟨hx, e⟩⟩
        · rintro (⟨a1, a2, a3⟩ | rfl)
          · exact ⟨a1, a2, fun hx => a3 hx.1⟩
          · exact ⟨hr.1, hr.2, fun hx => hx.2 rfl⟩
    rw [← hn] at c1
    generalize lAt xs 0 = x at *
    clear h hb hn h0 hx
    go_enter Tryz.func24, Tryz.ntmps24
    go_wp2_with fail
    refine HL.out.mono ?_
    rintro e w1 ⟨rfl, rfl⟩
    clear HL
    go_wp2_with fail
    refine HP.out.mono ?_
    rintro e w2 ⟨rfl, hE⟩
    have HG := mkH (HE.out w2 hE)
    clear hE HE HP c0 c1 f0
    go_wp2
    go_ret
    exact ⟨_, rfl, HG.out⟩
theorem mfree_any {w : World} {B o : Nat} {last : Int} {v : Value} {xs : List Int} {T : TypeId} {cs : Array Value} (hb : Blk w B T cs) (h : Nm w B o last v xs) (hx : xs.length ≤ 100000) {k : Int} (hk : Tk last xs k) :
    Calls Tryz.prog 28 #[.pointer (some ⟨B, o, none⟩), .int .i64 k] w fun e w' => e = .returned (.tuple #[]) ∧ ∃ v' xs', Nm w' B o last v' xs' ∧ Nmp B o last v v' w w' ∧ (∀ t, Tk last xs' t ↔ Tk last xs t ∧ t ≠ k) ∧ xs'.length = xs.length + 1 := by
  have HP := mkH (hpush_any hb h.b h.p.hp h.p.nd k hk.2.2 hx)
  have HE : Hid (∀ w', (∃ v' xs', Bk w' B (o + 1) v' xs' ∧ Bkp B (o + 1) v v' w w' ∧ Hp xs' xs'.length ∧ xs'.Nodup ∧ (∀ x, x ∈ xs' ↔ x ∈ xs ∨ x = k) ∧ xs'.length = xs.length + 1) → ∃ v' xs', Nm w' B o last v' xs' ∧ Nmp B o last v v' w w' ∧ (∀ t, Tk last xs' t ↔ Tk last xs t ∧ t ≠ k) ∧ xs'.length = xs.length + 1) := fun w' ⟨v', xs', k1, k2, k3, k4, k5, k6⟩ => by
    refine ⟨v', xs', ⟨?_, k1, ⟨k3, k4, fun x hx => ?_, h.p.l0⟩⟩, Nmp.of h.c k2, fun t => ?_, k6⟩
    · have := (Nmp.of h.c k2).blk T cs hb
      have hco := blk_at hb h.c
      refine this.at ?_
      rw [Array.getElem?_setIfInBounds, if_neg (by omega), Array.getElem?_setIfInBounds, if_pos rfl, if_pos (Array.getElem?_eq_some_iff.1 hco).1]
    · rcases (k5 x).1 hx with e | rfl
      · exact h.p.rg x e
      · exact ⟨hk.1, hk.2.1⟩
    · unfold Tk
      rw [k5]
      exact ⟨fun ⟨a1, a2, a3⟩ => ⟨⟨a1, a2, fun hx => a3 (.inl hx)⟩, fun e => a3 (.inr e)⟩, fun ⟨⟨a1, a2, a3⟩, a4⟩ => ⟨a1, a2, fun hx => hx.elim a3 a4⟩⟩
  clear h hb hk hx
  go_enter Tryz.func28, Tryz.ntmps28
  go_wp2_with fail
  refine HP.out.mono ?_
  rintro e w2 ⟨rfl, hE⟩
  have HG := mkH (HE.out w2 hE)
  clear hE HE HP
  go_wp2
  go_returns
  exact ⟨rfl, HG.out⟩
end Go.Proofs.YtlmdjghcmofdlaaGreat
