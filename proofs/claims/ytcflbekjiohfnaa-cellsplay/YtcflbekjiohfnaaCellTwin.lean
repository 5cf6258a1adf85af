/- Twin. -/
import Derived.Test.YtcflbekjiohfnaaCellBatchOk
import Derived.Laws.IdiomCopy
namespace Go.Proofs.Ytcflbekjiohfnaa
open Go.RowKit
set_option linter.unusedVariables false
attribute [local go_sem ↓] Go.wp_at_zero Go.wp_at_succ

theorem setCells_blk {b : Nat} {t : TypeId} : ∀ (vs : List Value) (o : Nat) (W : World) (c0 : Array Value), Blk W b t c0 → ∃ c : Array Value, c.size = c0.size ∧ Blk (W.setCells b o vs) b t c
  | [], _, W, c0, h => ⟨c0, rfl, h⟩
  | v :: r, o, W, c0, h => by
    obtain ⟨c, h1, h2⟩ := setCells_blk r (o + 1) _ _ (h.setAt o v)
    exact ⟨c, by rw [h1]; simp, h2⟩
theorem setCells_below {b n : Nat} (hn : n ≤ b) : ∀ (vs : List Value) (o : Nat) (W0 W : World), Below n W0 W → Below n W0 (W.setCells b o vs)
  | [], _, _, _, h => h
  | v :: r, o, W0, W, h => setCells_below hn r (o + 1) W0 _ (h.setCell (by simpa using hn) v)
theorem setCells_size (b : Nat) : ∀ (vs : List Value) (o : Nat) (W : World), (W.setCells b o vs).heap.size = W.heap.size
  | [], _, _ => rfl
  | v :: r, o, W => by
    show ((W.setCell ⟨b, o, none⟩ v).setCells b (o + 1) r).heap.size = _
    rw [setCells_size b r]
    show (W.heap.modify _ _).size = _
    rw [Array.size_modify]
/-- copy of a row of bytes onto a new one. -/
theorem copy_row {w : World} {K : Nat} {L : List Int} (h : Blk w K 5 (rowOf L)) : ∃ w2, (∀ ty, (Builtin.copy_ #[61, 61] ty #[.slice (some ⟨w.heap.size, 0, none⟩) L.length L.length, .slice (some ⟨K, 0, none⟩) L.length L.length]).run Try.prog (w.alloc (.cells (rowOf (List.replicate L.length 0)) 5)) = .ok (goInt L.length) w2) ∧
    Blk w2 w.heap.size 5 (rowOf L) ∧ Below w.heap.size w w2 ∧ w2.heap.size = w.heap.size + 1 := by
  have hN := Blk.new w 5 (rowOf (List.replicate L.length 0))
  have hK := h.alloc (.cells (rowOf (List.replicate L.length 0)) 5)
  have hX : Below w.heap.size w (w.alloc (.cells (rowOf (List.replicate L.length 0)) 5)) := (Below.refl _ _).alloc (Nat.le_refl _) _
  have hXs : (w.alloc (.cells (rowOf (List.replicate L.length 0)) 5)).heap.size = w.heap.size + 1 := by simp
  generalize w.alloc (.cells (rowOf (List.replicate L.length 0)) 5) = X at *
  have hcell : ∀ j, j < L.length → X.cell? ⟨w.heap.size, 0 + j, none⟩ = some (.int .u8 0) := fun j hj => by
    rw [Nat.zero_add, hN.at (rowOf_at (L := List.replicate L.length 0) (i := j) (by simpa using hj)), lAt_eq (by simpa using hj)]
    simp
  have hlen : (L.map (Value.int .u8)).length = L.length := by simp
  obtain ⟨i0, hi, hz0, hz1, hz2⟩ := info_parts Try.infoU
  have hrun := fun ty => run_copy_cells (P := Try.prog) X 61 61 ty 5 w.heap.size 0 L.length L.length ⟨K, 0, none⟩ L.length L.length (L.map (Value.int .u8)) Try.underlying61 (by rw [hi]; simp [hz1]) (by simp)
    (fun j v hv => by
      have hj : j < L.length := by have := (List.getElem?_eq_some_iff.1 hv).1; simpa using this
      rw [add_eq, Nat.zero_add, hK.at (rowOf_at hj)]
      rw [List.getElem?_map, lAt_some hj] at hv
      simpa using hv)
    (fun j hj => by rw [hcell j (by simpa using hj)]; rfl) (fun j hj => hN.frozen _) (fun v hv => by
      obtain ⟨x, _, rfl⟩ := List.mem_map.1 hv
      rfl)
  rw [hlen] at hrun
  obtain ⟨c, hc1, hc2⟩ := setCells_blk (L.map (Value.int .u8)) 0 X _ hN
  have hin := World.cell?_setCells_in w.heap.size (L.map (Value.int .u8)) 0 X (fun j hj => by rw [hcell j (by simpa using hj)]; rfl)
  have hcr : c = rowOf L := by
    apply Array.ext
    · rw [hc1]; simp [rowOf]
    · intro i h1 h2
      have hi' : i < L.length := by simpa [rowOf] using h2
      have h3 := hin i (by simpa using hi')
      rw [Nat.zero_add, hc2.at (j := i) (v := c[i]) (Array.getElem?_eq_getElem h1)] at h3
      have h4 := Option.some.inj h3
      rw [h4]
      simp [rowOf]
  rw [hcr] at hc2
  exact ⟨_, hrun, hc2, setCells_below (Nat.le_refl _) _ _ _ _ hX, by rw [setCells_size, hXs]⟩

set_option maxHeartbeats 400000 in
theorem twin_nil (w : World) : Calls Try.prog 28 #[.pointer none] w fun e w' => e = .returned (.pointer none) ∧ w' = w := by
  go_enter Try.func28, Try.ntmps28
  go_wp2
  go_ret
  exact ⟨rfl, rfl⟩

set_option maxRecDepth 100000 in
set_option maxHeartbeats 1600000 in
theorem twin_yes {w : World} {F : Nat → Prop} {B K T : Nat} {zw zh : Int} {ks : List Kd} {cl : Int} {L : List Int} (h : Own w F B K T zw zh ks cl L) :
    Calls Try.prog 28 #[.pointer (some ⟨B, 0, none⟩)] w fun e w' => ∃ B2 K2, e = .returned (.pointer (some ⟨B2, 0, none⟩)) ∧ w.heap.size ≤ B2 ∧ w.heap.size ≤ K2 ∧ Own w' F B2 K2 T zw zh ks cl L ∧ Below w.heap.size w w' := by
  have HO : Hid (Own w F B K T zw zh ks cl L) := h
  have c0 : w.cell? ⟨B, 0, none⟩ = some (.int .i64 zw) := h.blk.at (j := 0) rfl
  have c1 : w.cell? ⟨B, 1, none⟩ = some (.int .i64 zh) := h.blk.at (j := 1) rfl
  have c2 : w.cell? ⟨B, 2, none⟩ = some (.pointer (some ⟨T, 0, none⟩)) := h.blk.at (j := 2) rfl
  have c3 : w.cell? ⟨B, 3, none⟩ = some (.slice (some ⟨K, 0, none⟩) L.length L.length) := h.blk.at (j := 3) rfl
  have hBlt := h.blk.lt
  have hmk := make_u8 L.length h.l1.1 w
  obtain ⟨w2, hcp, hr2, hb2, hs2⟩ := copy_row h.row
  have hl := h.l1.1
  have HR2 : Hid (Blk w2 w.heap.size 5 (rowOf L)) := hr2
  have g0 := (hb2.cell (p := ⟨B, 0, none⟩) hBlt).trans c0
  have g1 := (hb2.cell (p := ⟨B, 1, none⟩) hBlt).trans c1
  have g2 := (hb2.cell (p := ⟨B, 2, none⟩) hBlt).trans c2
  clear h hr2
  generalize hM : L.length = M at *
  go_enter Try.func28, Try.ntmps28
  go_wp2
  go_region_held3 (fun w' => w'.cell? ⟨B, 0, none⟩ = some (.int .i64 zw) ∧ w'.cell? ⟨B, 1, none⟩ = some (.int .i64 zh) ∧ w'.cell? ⟨B, 2, none⟩ = some (.pointer (some ⟨T, 0, none⟩)))
    (go_keep) (fail)
  all_goals go_wp2
  go_ret
  have hB5 : Below w.heap.size w (w2.alloc (.cells (gridCells zw zh (.pointer (some ⟨T, 0, none⟩)) (.slice (some ⟨w.heap.size, 0, none⟩) M M)) 63)).drew := (below_new hb2 (Nat.le_refl _) _).drew
  have ho := HO.out
  have hs5 := hB5.size
  have hN := Blk.new w2 63 (gridCells zw zh (.pointer (some ⟨T, 0, none⟩)) (.slice (some ⟨w.heap.size, 0, none⟩) M M))
  rw [hs2] at hN
  refine ⟨w.heap.size + 1, w.heap.size, rfl, by omega, by omega, ?_, hB5⟩
  exact ⟨by rw [hM]; exact hN, HR2.out.alloc _, ho.tab.below hB5, ho.kin, ho.rt, ho.len, by omega, fun hh => by have := ho.fb _ hh; omega, fun b hh => Nat.lt_of_lt_of_le (ho.fb b hh) hs5⟩
end Go.Proofs.Ytcflbekjiohfnaa
