/- Contract of slices.Clone over kinds. -/
import Derived.Test.YtcflbekjiohfnaaTerrWorld
namespace Go.Proofs.Ytcflbekjiohfnaa
open Go.RowKit
set_option linter.unusedVariables false

set_option maxHeartbeats 800000 in
theorem clone_nil (w : World) : Calls Try.prog 50 #[.slice none 0 0] w fun e w' => e = .returned (.slice none 0 0) ∧ w' = w := by
  have hnil := fun (w : World) (a : Option Addr) (n c n' c' : Nat) => Lib.run_eql_slice_nil (P := Try.prog) w 27 74 a n c n' c' Try.underlying27
  go_enter Try.func50, Try.ntmps50
  go_wp2
  go_ret
  exact ⟨rfl, rfl⟩

def kcells (ks : List Kd) : List Value := ks.flatMap fun x => [.int .i64 x.1, .int .u8 x.2]
theorem kcells_len (ks : List Kd) : (kcells ks).length = ks.length * 2 := by
  induction ks with
  | nil => rfl
  | cons x ks ih => simp only [kcells, List.flatMap_cons, List.length_append, List.length_cons, List.length_nil] at *; omega
theorem kcells_at (ks : List Kd) : ∀ i, i < ks.length → (kcells ks)[i * 2]? = some (.int .i64 (kAt ks i).1) ∧ (kcells ks)[i * 2 + 1]? = some (.int .u8 (kAt ks i).2) := by
  induction ks with
  | nil => intro i hi; simp at hi
  | cons x ks ih =>
    intro i hi
    cases i with
    | zero => exact ⟨rfl, rfl⟩
    | succ i =>
      have h := ih i (by simpa using hi)
      rw [show (i + 1) * 2 = i * 2 + 2 by omega]
      simpa [kcells, kAt, Nat.add_right_comm _ 2 1] using h
theorem kcells_one (ks : List Kd) : ∀ u ∈ kcells ks, u.oneCell' = true := by
  intro u hu
  simp only [kcells, List.mem_flatMap, List.mem_cons, List.not_mem_nil, or_false] at hu
  obtain ⟨x, _, rfl | rfl⟩ := hu <;> rfl
theorem add_eq (b o j : Nat) : (⟨b, o, none⟩ : Addr).add j = ⟨b, o + j, none⟩ := by unfold Addr.add; split <;> simp_all
/-- The cells of the kinds, as append's law asks for them. -/
theorem kcells_cell {W : World} {b off : Nat} {ks : List Kd} (hk : ∀ i, i < ks.length → W.cell? ⟨b, off + i * 2, none⟩ = some (.int .i64 (kAt ks i).1) ∧ W.cell? ⟨b, off + i * 2 + 1, none⟩ = some (.int .u8 (kAt ks i).2)) :
    ∀ j u, (kcells ks)[j]? = some u → W.cell? ((⟨b, off, none⟩ : Addr).add j) = some u := by
  intro j u hu
  have hj := (List.getElem?_eq_some_iff.1 hu).1
  rw [kcells_len] at hj
  rw [add_eq]
  rcases (show j = j / 2 * 2 ∨ j = j / 2 * 2 + 1 by omega) with h | h
  · have h1 := kcells_at ks (j / 2) (by omega)
    rw [← h, hu] at h1
    have h2 := (hk (j / 2) (by omega)).1
    rw [← h] at h2
    rw [h2, ← h1.1]
  · have h1 := kcells_at ks (j / 2) (by omega)
    rw [← h, hu] at h1
    have h2 := (hk (j / 2) (by omega)).2
    rw [Nat.add_assoc, ← h] at h2
    rw [h2, ← h1.2]
theorem own_kat {W : World} {base : Nat} {v : Value} {ks : List Kd} (h : W.ownsRow base 74 2 v ks.length (kcells ks)) (h0 : 1 ≤ ks.length) :
    ∃ g cap, v = .slice (some ⟨g, 0, none⟩) ks.length cap ∧ base ≤ g ∧ g < W.heap.size ∧ ks.length ≤ cap ∧ (∀ o, W.frozen? ⟨g, o, none⟩ = false) ∧ KAt W (some ⟨g, 0, none⟩) ks := by
  have hc := h
  rcases h.2 with ⟨_, h⟩ | ⟨g, cap, cur, rfl, hb, hg, hn, _⟩
  · omega
  · refine ⟨g, cap, rfl, hb, (Array.getElem?_eq_some_iff.1 hg).1, hn, fun o => by simp [World.frozen?, hg], .inr ⟨g, 0, rfl, fun i hi => ?_⟩⟩
    have h1 := hc.cells rfl _ _ (kcells_at ks i hi).1
    have h2 := hc.cells rfl _ _ (kcells_at ks i hi).2
    rw [add_eq] at h1 h2
    exact ⟨h1, h2⟩
theorem Try.infoK : (Try.prog.info? 74).map (fun i => (i.zero, i.size, i.bytes)) = some (some (.agg #[.int .i64 0, .int .u8 0]), 2, 16) := by kernel_rfl

set_option maxHeartbeats 800000 in
theorem clone_some (b off cap : Nat) (ks : List Kd) (w : World) (hk : ∀ i, i < ks.length → w.cell? ⟨b, off + i * 2, none⟩ = some (.int .i64 (kAt ks i).1) ∧ w.cell? ⟨b, off + i * 2 + 1, none⟩ = some (.int .u8 (kAt ks i).2))
    (h0 : 1 ≤ ks.length) (h1 : ks.length ≤ 16) : Calls Try.prog 50 #[.slice (some ⟨b, off, none⟩) ks.length cap] w fun e w' => ∃ g cap', e = .returned (.slice (some ⟨g, 0, none⟩) ks.length cap') ∧ w.heap.size ≤ g ∧ ks.length ≤ cap' ∧ KAt w' (some ⟨g, 0, none⟩) ks ∧ (∀ o, w'.frozen? ⟨g, o, none⟩ = false) ∧ Below w.heap.size w w' := by
  have hb : b < w.heap.size := cell_lt (hk 0 h0).1
  have hnil := fun (w : World) (a : Option Addr) (n c n' c' : Nat) => Lib.run_eql_slice_nil (P := Try.prog) w 27 74 a n c n' c' Try.underlying27
  obtain ⟨i0, hi, hz0, hz1, hz2⟩ := info_parts Try.infoK
  have hB := (Below.refl w.heap.size w).alloc (Nat.le_refl _) (.cells #[] 74)
  have hk2 := kcells_cell (fun i hi => ⟨(hB.cell (p := ⟨b, _, none⟩) hb).trans (hk i hi).1, (hB.cell (p := ⟨b, _, none⟩) hb).trans (hk i hi).2⟩)
  go_enter Try.func50, Try.ntmps50
  go_wp2_with (at_builtin; refine wpList_append_own _ rfl _ _ 27 rfl w.heap.size 74 i0 (.agg #[.int .i64 0, .int .u8 0]) 2 16 Try.underlying27 hi hz0 hz1 hz2 rfl (by decide) _ _ _ rfl (World.ownsRow_made w #[] 0 (Nat.le_refl _) (Nat.zero_le _) rfl) ⟨b, off, none⟩ ks.length cap (kcells ks) rfl (kcells_len ks) hk2 (kcells_one ks) (by unfold maxLen; omega) (by omega) (by simp) ?_)
  intro v' w1 hown hgrow _
  have hB1 := hB.grown hgrow (by simp) (by intro r hr; simp [Value.ownBlock] at hr; omega)
  obtain ⟨g, cap', rfl, hg, hgl, hcap, hfr, hka⟩ := own_kat (ks := ks) (by simpa using hown) h0
  have HF : Hid (∀ o, w1.frozen? ⟨g, o, none⟩ = false) := hfr
  clear hfr
  go_wp2
  go_ret
  exact ⟨g, cap', rfl, hg, hcap, hka, HF.out, hB1⟩
end Go.Proofs.Ytcflbekjiohfnaa
