/- A grid of one's own: what is kept while its cells are written; New. -/
import Derived.Test.YtcflbekjiohfnaaCellWorld
import Derived.Deep.RegionHeld3
import Derived.Deep.DrawnRows
import Derived.Laws.MakeOwn
namespace Go.Proofs.Ytcflbekjiohfnaa
open Go.RowKit
set_option linter.unusedVariables false

/-- All blocks below n but K are as they were. -/
structure But (n K : Nat) (w w' : World) : Prop where
  os : w'.os = w.os
  tape : w'.tape = w.tape
  output : w'.output = w.output
  size : w.heap.size ≤ w'.heap.size
  block : ∀ k, k < n → k ≠ K → w'.heap[k]? = w.heap[k]?
theorem But.refl (n K : Nat) (w : World) : But n K w w := ⟨rfl, rfl, rfl, Nat.le_refl _, fun _ _ _ => rfl⟩
theorem Below.but {n : Nat} (K : Nat) {w w' : World} (h : Below n w w') : But n K w w' := ⟨h.os, h.tape, h.output, h.size, fun k hk _ => h.block k hk⟩
theorem But.trans {n K : Nat} {a b c : World} (h : But n K a b) (k : But n K b c) : But n K a c :=
  ⟨k.os.trans h.os, k.tape.trans h.tape, k.output.trans h.output, Nat.le_trans h.size k.size, fun i hi hn => (k.block i hi hn).trans (h.block i hi hn)⟩
theorem But.mono {n m K : Nat} {w w' : World} (h : But n K w w') (hm : m ≤ n) : But m K w w' := ⟨h.os, h.tape, h.output, h.size, fun k hk hn => h.block k (Nat.lt_of_lt_of_le hk hm) hn⟩
theorem But.step {n K : Nat} {a b c : World} (h : But n K a b) (k : But b.heap.size K b c) (hn : n ≤ a.heap.size) : But n K a c := h.trans (k.mono (Nat.le_trans hn h.size))
theorem But.below {n K : Nat} {w w' : World} (h : But n K w w') (hK : n ≤ K) : Below n w w' := ⟨h.os, h.tape, h.output, h.size, fun k hk => h.block k hk (by omega)⟩
theorem But.alloc {n K : Nat} {a b : World} (h : But n K a b) (hn : n ≤ a.heap.size) (o : Obj) : But n K a (b.alloc o) :=
  h.trans (Below.but K (((Below.refl _ _).alloc (Nat.le_refl _) o).mono (Nat.le_trans hn h.size)))
theorem But.set {n K : Nat} {a b : World} (h : But n K a b) (o : Nat) (u : Value) : But n K a (b.setCell ⟨K, o, none⟩ u) :=
  ⟨h.os, h.tape, h.output, by show _ ≤ (b.heap.modify _ _).size; rw [Array.size_modify]; exact h.size, fun k hk hn => (Below.heap_setCell b ⟨K, o, none⟩ u k hn).trans (h.block k hk hn)⟩
theorem But.drew {n K : Nat} {a b : World} (h : But n K a b) : But n K a b.drew := ⟨h.os, h.tape, h.output, h.size, h.block⟩
theorem But.grown {K : Nat} {w w' : World} (h : But w.heap.size K w w') : w.grownBy w' (some K) := ⟨h.os, h.tape, h.output, h.size, fun k hk hn => h.block k hk (fun e => hn (by rw [e]))⟩
theorem But.cell {n K b o : Nat} {w w' : World} (h : But n K w w') (hb : b < n) (hn : b ≠ K) : w'.cell? ⟨b, o, none⟩ = w.cell? ⟨b, o, none⟩ := World.cell?_of_block (w := w) (h.block b hb hn)
theorem Blk.but {n K B : Nat} {w w' : World} {t : TypeId} {cs : Array Value} (h : Blk w B t cs) (hb : But n K w w') (hB : B < n) (hn : B ≠ K) : Blk w' B t cs := (hb.block B hB hn).trans h
/-- Grown out of K's world by an append onto a row of one's own. -/
theorem But.append {n K base : Nat} {a w w1 : World} {ty size k : Nat} {v : Value} {xs : List Value} (hB : But n K a w) (hn : n ≤ w.heap.size) (hb : n ≤ base) (hown : w.ownsRow base ty size v k xs) (hg : w.grownBy w1 v.ownBlock) : But n K a w1 :=
  ⟨hg.os.trans hB.os, hg.tape.trans hB.tape, hg.output.trans hB.output, Nat.le_trans hB.size hg.size, fun j hj hjk => (hg.block j (by omega) (fun e => by have := (hown.lt j e.symm).1; omega)).trans (hB.block j hj hjk)⟩
theorem Blk.append {base B : Nat} {w w1 : World} {ty size k : Nat} {v : Value} {xs : List Value} {t : TypeId} {cs : Array Value} (h : Blk w B t cs) (hB : B < base) (hown : w.ownsRow base ty size v k xs) (hg : w.grownBy w1 v.ownBlock) : Blk w1 B t cs :=
  h.kept hg (fun ej => by have := (hown.lt B ej.symm).1; omega)
theorem grownBy_set (W : World) (K o : Nat) (u : Value) : W.grownBy (W.setCell ⟨K, o, none⟩ u) (some K) := ((But.refl W.heap.size K W).set o u).grown

/-- A grid of one's own: its block B, its row K, its table T. -/
structure Own (W : World) (F : Nat → Prop) (B K T : Nat) (zw zh : Int) (ks : List Kd) (cl : Int) (L : List Int) : Prop where
  blk : Blk W B 63 (gridCells zw zh (.pointer (some ⟨T, 0, none⟩)) (.slice (some ⟨K, 0, none⟩) L.length L.length))
  row : Blk W K 5 (rowOf L)
  tab : Tab W F T ks cl
  kin : Kin ks.length L
  rt : Pl.rt zw zh = true
  len : (L.length : Int) = zw * zh
  ne : B ≠ K
  nf : ¬ F K
  fb : ∀ b, F b → b < W.heap.size
theorem Own.l1 {W : World} {F : Nat → Prop} {B K T : Nat} {zw zh : Int} {ks : List Kd} {cl : Int} {L : List Int} (h : Own W F B K T zw zh ks cl L) : L.length ≤ 4194304 ∧ 1 ≤ L.length := by
  obtain ⟨a, b, c, d, e⟩ := Pl.rt_iff.1 h.rt
  have := Pl.mul_bd a b c d
  have := h.len
  omega
theorem Own.grd {W : World} {F : Nat → Prop} {B K T : Nat} {zw zh : Int} {ks : List Kd} {cl : Int} {L : List Int} (h : Own W F B K T zw zh ks cl L) : Grd W B zw zh (.pointer (some ⟨T, 0, none⟩)) ks cl (some ⟨K, 0, none⟩) L :=
  ⟨h.blk, .inr ⟨F, T, rfl, h.tab⟩, .inr ⟨K, rfl, h.row⟩, h.kin, h.l1.1⟩
theorem Own.gv {W : World} {F : Nat → Prop} {B K T : Nat} {zw zh : Int} {ks : List Kd} {cl : Int} {L : List Int} (h : Own W F B K T zw zh ks cl L) : GV W (.pointer (some ⟨B, 0, none⟩)) ks cl L := .inr ⟨B, zw, zh, _, _, rfl, h.grd⟩
theorem Own.below {W W' : World} {F : Nat → Prop} {B K T : Nat} {zw zh : Int} {ks : List Kd} {cl : Int} {L : List Int} (h : Own W F B K T zw zh ks cl L) (hb : Below W.heap.size W W') : Own W' F B K T zw zh ks cl L :=
  ⟨h.blk.below hb, h.row.below hb, h.tab.below hb, h.kin, h.rt, h.len, h.ne, h.nf, fun b hF => Nat.lt_of_lt_of_le (h.fb b hF) hb.size⟩
/-- The same grid, its row written. -/
theorem Own.put {W W' : World} {F : Nat → Prop} {B K T : Nat} {zw zh : Int} {ks : List Kd} {cl : Int} {L L' : List Int} (h : Own W F B K T zw zh ks cl L) (hb : But W.heap.size K W W') (hr : Blk W' K 5 (rowOf L')) (hl : L'.length = L.length) (hk : Kin ks.length L') : Own W' F B K T zw zh ks cl L' :=
  ⟨by rw [hl]; exact h.blk.but hb h.blk.lt h.ne, hr, h.tab.kept (fun b hF => hb.block b (h.fb b hF) (fun e => h.nf (e ▸ hF))), hk, h.rt, by rw [hl]; exact h.len, h.ne, h.nf, fun b hF => Nat.lt_of_lt_of_le (h.fb b hF) hb.size⟩
/-- Another grid's row was written. -/
theorem Own.but {W W' : World} {F : Nat → Prop} {B K T K' : Nat} {zw zh : Int} {ks : List Kd} {cl : Int} {L : List Int} (h : Own W F B K T zw zh ks cl L) (hb : But W.heap.size K' W W') (h1 : K' ≠ B) (h2 : K' ≠ K) (h3 : ¬ F K') : Own W' F B K T zw zh ks cl L :=
  ⟨h.blk.but hb h.blk.lt h1.symm, h.row.but hb h.row.lt h2.symm, h.tab.kept (fun b hF => hb.block b (h.fb b hF) (fun e => h3 (e ▸ hF))), h.kin, h.rt, h.len, h.ne, h.nf, fun b hF => Nat.lt_of_lt_of_le (h.fb b hF) hb.size⟩

theorem made_one (z : Value) (n : Nat) : madeCells #[z] n = Array.replicate n z := by
  apply Array.ext
  · simp [madeCells]
  · intro i h1 h2
    simp [madeCells, Nat.mod_one]
theorem Try.infoU : (Try.prog.info? 5).map (fun i => (i.zero, i.size, i.bytes)) = some (some (.int .u8 0), 1, 1) := by kernel_rfl
/-- make([]uint8, n). -/
theorem make_u8 (m : Nat) (hm : m ≤ 4194304) (w : World) : (Instr.makeSlice 61 (.int .i64 m) (.int .i64 m)).run Try.prog w = .ok (.slice (some ⟨w.heap.size, 0, none⟩) m m) (w.alloc (.cells (rowOf (List.replicate m 0)) 5)) := by
  obtain ⟨i0, hi, hz0, hz1, hz2⟩ := info_parts Try.infoU
  have h := run_make (P := Try.prog) w 61 5 i0 (.int .u8 0) Try.underlying61 hi hz0 .i64 .i64 m m (by omega) (by omega) (by rw [hz2]; omega) (by omega)
  rw [h, hz1]
  simp only [Int.toNat_natCast, Nat.mul_one]
  rw [← rowOf_zeros, ← made_one]
  rfl

attribute [local go_sem ↓] Go.wp_at_zero Go.wp_at_succ

set_option maxHeartbeats 800000 in
theorem gnew_wide (zw zh : Int) (p : Value) (w : World) (h : Pl.rt zw zh = false) : Calls Try.prog 29 #[Pl.sz zw zh, p] w fun e w' => e = .returned (.tuple #[.pointer none, .int .i64 1]) ∧ Below w.heap.size w w' := by
  have H : Hid (Pl.rt zw zh = false) := h
  clear h
  go_enter Try.func29, Try.ntmps29
  go_wp2_with fail
  refine (Pl.right_any zw zh _).mono ?_
  rintro e w1 ⟨rfl, hb⟩
  rw [H.out]
  go_wp2
  go_ret2
  exact ⟨rfl, below_step ((Below.refl _ _).alloc (Nat.le_refl _) _) hb (Nat.le_refl _)⟩

set_option maxHeartbeats 800000 in
theorem gnew_bare (zw zh : Int) (p : Value) (cl : Int) (w : World) (ht : TabV w p [] cl) (h : Pl.rt zw zh = true) : Calls Try.prog 29 #[Pl.sz zw zh, p] w fun e w' => e = .returned (.tuple #[.pointer none, .int .i64 1]) ∧ Below w.heap.size w w' := by
  have H : Hid (Pl.rt zw zh = true) := h
  have HT : Hid (TabV w p [] cl) := ht
  clear h ht
  go_enter Try.func29, Try.ntmps29
  go_wp2_with fail
  refine (Pl.right_any zw zh _).mono ?_
  rintro e w1 ⟨rfl, hb⟩
  rw [H.out]
  have hb1 := below_step ((Below.refl _ _).alloc (Nat.le_refl _) _) hb (Nat.le_refl _)
  have HT1 : Hid (TabV w1 p [] cl) := HT.out.below hb1
  go_wp2_with fail
  refine (kinds_any HT1.out).mono ?_
  rintro e w2 ⟨rfl, rfl⟩
  rw [show (([] : List Kd).length : Int) = 0 from rfl]
  go_wp2
  go_ret2
  exact ⟨rfl, hb1⟩

set_option maxRecDepth 100000 in
set_option maxHeartbeats 1600000 in
theorem gnew_yes (zw zh : Int) (F : Nat → Prop) (T : Nat) (ks : List Kd) (cl : Int) (w : World) (ht : Tab w F T ks cl) (hF : ∀ b, F b → b < w.heap.size) (hks : 1 ≤ ks.length) (h : Pl.rt zw zh = true) :
    Calls Try.prog 29 #[Pl.sz zw zh, .pointer (some ⟨T, 0, none⟩)] w fun e w' => ∃ B K, e = .returned (.tuple #[.pointer (some ⟨B, 0, none⟩), .int .i64 0]) ∧ w.heap.size ≤ B ∧ w.heap.size ≤ K ∧
      Own w' F B K T zw zh ks cl (List.replicate (zw * zh).toNat 0) ∧ Below w.heap.size w w' := by
  have H : Hid (Pl.rt zw zh = true) := h
  obtain ⟨z1, z2, z3, z4, z5⟩ := Pl.rt_iff.1 h
  have zb := Pl.mul_bd z1 z2 z3 z4
  have HC : Hid (Pl.cellsN zw zh = zw * zh) := by show Pl.cellsN zw zh = _; unfold Pl.cellsN; rw [if_pos h]
  have HT : Hid (Tab w F T ks cl) := ht
  have n1 := ht.n1
  clear h ht
  obtain ⟨n, hn⟩ : ∃ n : Nat, (n : Int) = ks.length := ⟨ks.length, rfl⟩
  have hn0 : ((n : Int) == 0) = false := by simp; omega
  go_enter Try.func29, Try.ntmps29
  go_wp2_with fail
  refine (Pl.right_any zw zh _).mono ?_
  rintro e w1 ⟨rfl, hb⟩
  rw [H.out]
  have hb1 := below_step ((Below.refl _ _).alloc (Nat.le_refl _) _) hb (Nat.le_refl _)
  have HT1 : Hid (TabV w1 (.pointer (some ⟨T, 0, none⟩)) ks cl) := .inr ⟨F, T, rfl, HT.out.below hb1⟩
  obtain ⟨x0, x1⟩ := ((Blk.new w 26 #[.int .i64 zw, .int .i64 zh]).below hb).cells2
  have hlt1 : w.heap.size < w1.heap.size := by have := hb.size; simp at this; omega
  go_wp2_with fail
  refine (kinds_any HT1.out).mono ?_
  rintro e w2 ⟨rfl, rfl⟩
  rw [← hn]
  go_wp2
  obtain ⟨m, hm⟩ : ∃ m : Nat, (m : Int) = zw * zh := ⟨(zw * zh).toNat, by omega⟩
  have HC' : Hid (Pl.cellsN zw zh = (m : Int)) := HC.out.trans hm.symm
  have hml : m ≤ 4194304 := by omega
  have HM : Hid ((m : Int) = zw * zh) := hm
  have hmk := make_u8 m hml
  clear hm zb z5
  go_region_held3 (fun w' => w'.cell? ⟨w.heap.size, 0, none⟩ = some (.int .i64 zw) ∧ w'.cell? ⟨w.heap.size, 1, none⟩ = some (.int .i64 zh))
    (first
      | go_keep
      | (go_split_ands
         refine ⟨?_, ?_⟩
         · (rw [hb3.cell (p := ⟨w.heap.size, 0, none⟩) (by simpa using hlt1)]; assumption)
         · (rw [hb3.cell (p := ⟨w.heap.size, 1, none⟩) (by simpa using hlt1)]; assumption)))
    ((go_at_call 48; refine (Pl.cells_any zw zh _).mono ?_; rintro e w3 ⟨rfl, hb3⟩; rw [HC'.out]))
  all_goals go_wp2
  go_ret2
  have hb4 : Below w2.heap.size w2 w3 := ⟨hb3.os, hb3.tape, hb3.output, hb3.size, hb3.block⟩
  have hB3 : Below w.heap.size w w3 := below_step hb1 hb4 (Nat.le_refl _)
  have hs3 := hB3.size
  have hB5 := (hB3.alloc hs3 (.cells (rowOf (List.replicate m 0)) 5)).alloc (by simp; omega) (.cells (gridCells zw zh (.pointer (some ⟨T, 0, none⟩)) (.slice (some ⟨w3.heap.size, 0, none⟩) m m)) 63)
  have hmt : (zw * zh).toNat = m := by have := HM.out; omega
  refine ⟨w3.heap.size + 1, w3.heap.size, rfl, by omega, by omega, ?_, hB5⟩
  rw [hmt]
  refine ⟨?_, (Blk.new w3 _ _).alloc _, HT.out.below hB5, Kin.zeros _ (by omega), H.out, by rw [List.length_replicate]; exact HM.out, by omega, fun hh => ?_, fun b hh => ?_⟩
  · have := Blk.new (w3.alloc (.cells (rowOf (List.replicate m 0)) 5)) 63 (gridCells zw zh (.pointer (some ⟨T, 0, none⟩)) (.slice (some ⟨w3.heap.size, 0, none⟩) m m))
    simpa using this
  · have := hF _ hh; omega
  · have := hF _ hh; simp; omega
end Go.Proofs.Ytcflbekjiohfnaa
