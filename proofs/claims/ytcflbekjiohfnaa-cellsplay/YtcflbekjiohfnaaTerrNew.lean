/- Contract of terrain.New: a table, or none. -/
import Derived.Test.YtcflbekjiohfnaaTerrRight
import Derived.Test.YtcflbekjiohfnaaTerrClone
import Derived.Test.YtcflbekjiohfnaaTail
namespace Go.Proofs.Ytcflbekjiohfnaa
open Go.RowKit
set_option linter.unusedVariables false

def tbCells (s c : Value) (f : Nat → Int) : Array Value := #[s, c, .int .i64 (f 0), .int .i64 (f 1), .int .i64 (f 2), .int .i64 (f 3), .int .i64 (f 4), .int .i64 (f 5), .int .i64 (f 6), .int .i64 (f 7)]
theorem tbCells_at (s c : Value) (f : Nat → Int) {k : Nat} (h : k < 8) : (tbCells s c f)[2 + k]? = some (.int .i64 (f k)) := by
  match k, h with
  | 0, _ | 1, _ | 2, _ | 3, _ | 4, _ | 5, _ | 6, _ | 7, _ => rfl
theorem tbCells_set (s c : Value) (f : Nat → Int) (x : Int) {k : Nat} (h : k < 8) : (tbCells s c f).setIfInBounds (2 + k) (.int .i64 x) = tbCells s c (fun i => if i = k then x else f i) := by
  match k, h with
  | 0, _ | 1, _ | 2, _ | 3, _ | 4, _ | 5, _ | 6, _ | 7, _ => rfl

/-- A table in block B; F holds of each block that it lies in. -/
structure Tab (W : World) (F : Nat → Prop) (B : Nat) (ks : List Kd) (cl : Int) : Prop where
  ex : ∃ ao cap, Blk W B 92 (tbCells (.slice ao ks.length cap) (.int .i64 cl) (fun i => leastN ks cl i)) ∧ KAt W ao ks ∧ (ks = [] → ao = none ∧ cap = 0) ∧ ∀ a, ao = some a → F a.block
  fb : F B
  wk : Wk ks
  n1 : ks.length ≤ 16
  c0 : 0 ≤ cl
  c1 : cl ≤ 8
theorem KAt.kept {W W' : World} {ao : Option Addr} {ks : List Kd} (h : KAt W ao ks) (hb : ∀ a, ao = some a → W'.heap[a.block]? = W.heap[a.block]?) : KAt W' ao ks := by
  rcases h with h | ⟨b, off, e, h⟩
  · exact .inl h
  · have hb' : ∀ o, W'.cell? ⟨b, o, none⟩ = W.cell? ⟨b, o, none⟩ := fun o => World.cell?_of_block (w := W) (hb ⟨b, off, none⟩ e)
    exact .inr ⟨b, off, e, fun i hi => ⟨(hb' _).trans (h i hi).1, (hb' _).trans (h i hi).2⟩⟩
theorem Tab.below {W W' : World} {F : Nat → Prop} {B : Nat} {ks : List Kd} {cl : Int} (h : Tab W F B ks cl) (hb : Below W.heap.size W W') : Tab W' F B ks cl := by
  obtain ⟨ao, cap, h1, h2, h3⟩ := h.ex
  exact ⟨⟨ao, cap, h1.below hb, h2.below hb, h3⟩, h.fb, h.wk, h.n1, h.c0, h.c1⟩
theorem Tab.kept {W W' : World} {F : Nat → Prop} {B : Nat} {ks : List Kd} {cl : Int} (h : Tab W F B ks cl) (hb : ∀ b, F b → W'.heap[b]? = W.heap[b]?) : Tab W' F B ks cl := by
  obtain ⟨ao, cap, h1, h2, h3, h4⟩ := h.ex
  exact ⟨⟨ao, cap, (hb _ h.fb).trans h1, h2.kept (fun a e => hb _ (h4 a e)), h3, h4⟩, h.fb, h.wk, h.n1, h.c0, h.c1⟩
theorem Tab.mono {W : World} {F G : Nat → Prop} {B : Nat} {ks : List Kd} {cl : Int} (h : Tab W F B ks cl) (hb : ∀ b, F b → b < W.heap.size → G b) : Tab W G B ks cl := by
  obtain ⟨ao, cap, h1, h2, h3, h4⟩ := h.ex
  refine ⟨⟨ao, cap, h1, h2, h3, fun a e => hb _ (h4 a e) ?_⟩, hb _ h.fb h1.lt, h.wk, h.n1, h.c0, h.c1⟩
  rcases h2 with h5 | ⟨b, off, e', h5⟩
  · rw [(h3 h5).1] at e; cases e
  · rw [e'] at e; cases e
    rcases ks with _ | ⟨x, ks⟩
    · rw [(h3 rfl).1] at e'; cases e'
    · exact cell_lt (h5 0 (by simp)).1
theorem Tab.lt {W : World} {F : Nat → Prop} {B : Nat} {ks : List Kd} {cl : Int} (h : Tab W F B ks cl) : B < W.heap.size := by
  obtain ⟨ao, cap, h1, _⟩ := h.ex
  exact h1.lt

set_option maxHeartbeats 400000 in
theorem new_out (ao : Option Addr) (cap n : Nat) (cl : Int) (w : World) (h : ¬ (1 ≤ n ∧ n ≤ 16 ∧ 1 ≤ cl ∧ cl ≤ 8)) :
    Calls Try.prog 31 #[.slice ao n cap, .int .i64 cl] w fun e w' => e = .returned (.tuple #[.pointer none, .int .i64 1]) ∧ Below w.heap.size w w' := by
  go_enter Try.func31, Try.ntmps31
  go_wp2_with fail
  refine (right_out ao cap n cl w h).mono ?_
  rintro e w1 ⟨rfl, hb⟩
  go_wp2
  go_ret2
  exact ⟨rfl, hb⟩

set_option maxHeartbeats 400000 in
theorem new_no (ao : Option Addr) (cap : Nat) (ks : List Kd) (cl : Int) (w : World) (hk : KAt w ao ks) (hw : Wk ks) (h : okT ks cl = false) :
    Calls Try.prog 31 #[.slice ao ks.length cap, .int .i64 cl] w fun e w' => e = .returned (.tuple #[.pointer none, .int .i64 1]) ∧ Below w.heap.size w w' := by
  have H : Hid (okT ks cl = false) := h
  clear h
  go_enter Try.func31, Try.ntmps31
  go_wp2_with fail
  refine (right_any ao cap ks cl w hk hw).mono ?_
  rintro e w1 ⟨rfl, hb⟩
  rw [H.out]
  go_wp2
  go_ret2
  exact ⟨rfl, hb⟩

set_option maxHeartbeats 1600000 in
theorem new_yes (b off cap : Nat) (ks : List Kd) (cl : Int) (w : World) (hk : ∀ i, i < ks.length → w.cell? ⟨b, off + i * 2, none⟩ = some (.int .i64 (kAt ks i).1) ∧ w.cell? ⟨b, off + i * 2 + 1, none⟩ = some (.int .u8 (kAt ks i).2)) (hw : Wk ks) (h : okT ks cl = true) :
    Calls Try.prog 31 #[.slice (some ⟨b, off, none⟩) ks.length cap, .int .i64 cl] w fun e w' => ∃ B, e = .returned (.tuple #[.pointer (some ⟨B, 0, none⟩), .int .i64 0]) ∧ Tab w' (fun b => w.heap.size ≤ b) B ks cl ∧ Below w.heap.size w w' := by
  obtain ⟨h0, h1, h2, h3, _⟩ := okT_iff.1 h
  have hb : b < w.heap.size := cell_lt (hk 0 h0).1
  have H : Hid (okT ks cl = true) := h
  clear h
  go_enter Try.func31, Try.ntmps31
  go_wp2_with fail
  refine (right_any _ cap ks cl w (.inr ⟨b, off, rfl, hk⟩) hw).mono ?_
  rintro e w1 ⟨rfl, hb1⟩
  rw [H.out]
  have hk1 : ∀ i, i < ks.length → w1.cell? ⟨b, off + i * 2, none⟩ = some (.int .i64 (kAt ks i).1) ∧ w1.cell? ⟨b, off + i * 2 + 1, none⟩ = some (.int .u8 (kAt ks i).2) :=
    fun i hi => ⟨(hb1.cell (p := ⟨b, _, none⟩) hb).trans (hk i hi).1, (hb1.cell (p := ⟨b, _, none⟩) hb).trans (hk i hi).2⟩
  go_wp2_with fail
  refine (clone_some b off cap ks w1 hk1 h0 h1).mono ?_
  rintro e w2 ⟨g, cap', rfl, hg, hcap, hka, _, hb2⟩
  have hB2 := below_step hb1 hb2 (Nat.le_refl _)
  have hgl : g < w2.heap.size := by
    rcases hka with h | ⟨b', o', e', h⟩
    · rw [h] at h0; simp at h0
    · cases e'; exact cell_lt (h 0 h0).1
  obtain ⟨B, hBe⟩ : ∃ B, B = w2.heap.size := ⟨_, rfl⟩
  have hk3 : ∀ i, i < ks.length → w2.cell? ⟨b, off + i * 2, none⟩ = some (.int .i64 (kAt ks i).1) ∧ w2.cell? ⟨b, off + i * 2 + 1, none⟩ = some (.int .u8 (kAt ks i).2) :=
    fun i hi => ⟨(hB2.cell (p := ⟨b, _, none⟩) hb).trans (hk i hi).1, (hB2.cell (p := ⟨b, _, none⟩) hb).trans (hk i hi).2⟩
  have hBs := hB2.size
  go_wp2
  go_loopw [18] (fun i wr => ∃ k : Nat, (k : Int) ≤ cl ∧ i = .int .i64 k ∧ Blk wr B 92 (tbCells (.slice (some ⟨g, 0, none⟩) ks.length cap') (.int .i64 cl) (fun i => if i < k then leastL ks i else 0)) ∧ KAt wr (some ⟨g, 0, none⟩) ks ∧ Below w.heap.size w wr) (fun i _ => cl.toNat - (intOf i).toNat)
  case atStart =>
    refine ⟨0, by omega, rfl, ?_, hka.below ((Below.refl _ _).alloc (Nat.le_refl _) _), below_new hB2 (Nat.le_refl _) _⟩
    rw [hBe]
    exact Blk.new w2 _ _
  case round =>
    obtain ⟨k, hkl, rfl, hblk, hkat, hB⟩ := hrel
    by_cases hlt : (k : Int) < cl
    · have hlt8 : k < 8 := by omega
      have HL : Hid (∀ g : Grow wr, Calls Try.prog 51 #[.slice (some ⟨b, off, none⟩) ks.length cap, .int .i64 k] g.w fun e w' => e = .returned (.int .i64 (leastL ks k)) ∧ Below g.w.heap.size g.w w') := fun G =>
        leastOf_any b off cap ks k G.w (fun i hi => ⟨((below_step hB G.h (Nat.le_refl _)).cell (p := ⟨b, _, none⟩) hb).trans (hk i hi).1, ((below_step hB G.h (Nat.le_refl _)).cell (p := ⟨b, _, none⟩) hb).trans (hk i hi).2⟩) hw h0 h1 (by omega) (by omega)
      have hne := Grow.ne wr
      have HK : Hid (KAt wr (some ⟨g, 0, none⟩) ks) := hkat
      have HBl : Hid (Blk wr B 92 (tbCells (.slice (some ⟨g, 0, none⟩) ks.length cap') (.int .i64 cl) (fun i => if i < k then leastL ks i else 0))) := hblk
      clear hkat hblk hk hk1 hk3 hka
      go_wp2
      refine wp_region_tail 8 (by kernel_rfl) (by kernel_rfl) (by kernel_rfl) ?_
      simp only [stillAt, stillOp, List.set_cons_succ, List.set_cons_zero, List.getElem?_cons_succ, List.getElem?_cons_zero, Option.getD_some, List.drop_succ_cons, List.drop_zero]
      repeat (go_big_quiet_step ((go_at_call 51; exact grow_call (HL.out _))))
      refine wpQuiet_nil ?_
      rintro w3 ⟨⟨_, hb3⟩, rfl⟩
      have hbl3 := HBl.out.below hb3
      have hc3 := hbl3.at (tbCells_at _ _ _ hlt8)
      have hf3 := hbl3.frozen (2 + k)
      rw [hBe] at hc3 hf3
      go_wp2
      go_roundw
      case rel =>
        refine ⟨k + 1, by omega, by go_num, ?_, ?_, ?_⟩
        · have h4 := hbl3.setAt (2 + k) (.int .i64 (leastL ks k))
          rw [tbCells_set _ _ _ _ hlt8] at h4
          rw [← hBe]
          refine (show tbCells _ _ _ = tbCells _ _ _ from congrArg _ (funext fun i => ?_)) ▸ h4
          by_cases hik : i = k
          · subst hik; simp
          · rw [if_neg hik]
            by_cases h5 : i < k
            · rw [if_pos h5, if_pos (by omega)]
            · rw [if_neg h5, if_neg (by omega)]
        · rcases HK.out.below hb3 with h | ⟨b', o', e', h⟩
          · exact .inl h
          · cases e'
            exact .inr ⟨g, 0, rfl, fun i hi => ⟨(cell_other (by omega)).trans (h i hi).1, (cell_other (by omega)).trans (h i hi).2⟩⟩
        · exact (below_step hB hb3 (Nat.le_refl _)).setCell (by simp; omega) _
      case measure => simp [intOf]; omega
    · have hke : (k : Int) = cl := by omega
      go_wp2
      go_ret2
      refine ⟨B, by rw [hBe]; rfl, ⟨⟨some ⟨g, 0, none⟩, cap', ?_, hkat, fun h => ?_, fun a e => (by cases e; have := hb1.size; exact Nat.le_trans this hg)⟩, (by rw [hBe]; exact hBs), hw, h1, by omega, h3⟩, hB⟩
      · refine (show tbCells _ _ _ = tbCells _ _ _ from congrArg _ (funext fun i => ?_)) ▸ hblk
        unfold leastN hasN
        by_cases h5 : i < k
        · rw [if_pos h5]; simp; omega
        · rw [if_neg h5]; simp; omega
      · rw [h] at h0; simp at h0
end Go.Proofs.Ytcflbekjiohfnaa
