/- kindsOf, Batch. -/
import Derived.Test.YtcflbekjiohfnaaCellBatch
namespace Go.Proofs.Ytcflbekjiohfnaa
open Go.RowKit
set_option linter.unusedVariables false
attribute [local go_sem ↓] Go.wp_at_zero Go.wp_at_succ

set_option maxRecDepth 100000 in
set_option maxHeartbeats 1600000 in
theorem kindsOf_any {w : World} {F : Nat → Prop} {B K T : Nat} {zw zh : Int} {ks : List Kd} {cl : Int} {L : List Int} (h : Own w F B K T zw zh ks cl L) (R cap : Nat) (cs : List Int) (hcs : cs.length ≤ 65536) (hc : ∀ i, i < cs.length → w.cell? ⟨R, i, none⟩ = some (.int .i64 (lAt cs i))) (hin : ∀ c ∈ cs, 0 ≤ c ∧ c < L.length) :
    Calls Try.prog 39 #[.pointer (some ⟨B, 0, none⟩), .slice (some ⟨R, 0, none⟩) cs.length cap] w fun e w' => ∃ A, e = .returned (.slice (some ⟨A, 0, none⟩) cs.length cs.length) ∧ w.heap.size ≤ A ∧ Hid (Blk w' A 5 (rowOf (fillTo (fun i => lAt L (lAt cs i).toNat) cs.length cs.length))) ∧ Below w.heap.size w w' := by
  have hl1 := h.l1.1
  have n1 := h.tab.n1
  have c3 : w.cell? ⟨B, 3, none⟩ = some (.slice (some ⟨K, 0, none⟩) L.length L.length) := h.blk.at (j := 3) rfl
  have hBlt := h.blk.lt
  have hKlt := h.row.lt
  have HO : Hid (Own w F B K T zw zh ks cl L) := h
  have HC : Hid (∀ i, i < cs.length → w.cell? ⟨R, i, none⟩ = some (.int .i64 (lAt cs i))) := hc
  have HI : Hid (∀ c ∈ cs, 0 ≤ c ∧ c < L.length) := hin
  clear h hc hin
  obtain ⟨A, hA⟩ : ∃ A, A = w.heap.size := ⟨_, rfl⟩
  have hmk := make_u8 cs.length (by omega)
  generalize hN : cs.length = N at *
  generalize hM : L.length = M at *
  go_enter Try.func39, Try.ntmps39
  go_wp2
  go_loopw [13] (fun i wr => ∃ k : Nat, k ≤ N ∧ i = .int .i64 k ∧ Hid (Blk wr A 5 (rowOf (fillTo (fun i => lAt L (lAt cs i).toNat) N k))) ∧ A < wr.heap.size ∧ Below w.heap.size w wr) (fun i _ => N - (intOf i).toNat)
  case atStart => exact ⟨0, Nat.zero_le _, rfl, by show Blk _ _ _ _; rw [fillTo_zero, hA]; exact Blk.new w _ _, by simp [hA], (Below.refl _ _).alloc (Nat.le_refl _) _⟩
  case round =>
    obtain ⟨k, hkn, rfl, HR, hAlt, hB⟩ := hrel
    by_cases hlt : k < N
    · have r0 := HC.out k (by omega)
      have r0' := (hB.cell (p := ⟨R, _, none⟩) (cell_lt r0)).trans r0
      have hx := HI.out (lAt cs k) (lAt_mem (by omega))
      have c3' := (hB.cell (p := ⟨B, 3, none⟩) hBlt).trans c3
      have kx := (hB.cell (p := ⟨K, (lAt cs k).toNat, none⟩) hKlt).trans (HO.out.row.at (rowOf_at (L := L) (i := (lAt cs k).toNat) (by omega)))
      have a0 := HR.out.at (rowOf_at (L := fillTo (fun i => lAt L (lAt cs i).toNat) N k) (i := k) (by rw [fillTo_len]; exact hlt))
      have f0 := HR.out.frozen k
      have HS : Hid (rowOf (fillTo (fun i => lAt L (lAt cs i).toNat) N (k + 1)) = (rowOf (fillTo (fun i => lAt L (lAt cs i).toNat) N k)).setIfInBounds k (.int .u8 (lAt L (lAt cs k).toNat))) := by
        show _ = _
        rw [rowOf_set, ← fillTo_set]
      rw [hA] at a0 f0
      have hRlt' : w.heap.size < wr.heap.size := by omega
      generalize lAt L (lAt cs k).toNat = y at *
      generalize lAt cs k = x at *
      clear r0
      go_wp2
      go_roundw
      case rel =>
        refine ⟨k + 1, by omega, by go_num, ?_, ?_, ?_⟩
        · show Blk _ _ _ _
          rw [HS.out, hA]
          rw [hA] at HR
          exact HR.out.setAt k _
        · simp; omega
        · exact hB.setCell (by simp) _
      case measure => simp [intOf]; omega
    · have hke : k = N := by omega
      subst hke
      go_wp2
      go_ret
      exact ⟨A, by rw [hA]; rfl, by omega, HR, hB⟩

theorem int_wrap_u8 {k : Int} (h0 : 0 ≤ k) (h1 : k < 256) : IntKind.u8.wrap k = k := by
  simp [IntKind.wrap, IntKind.bits, IntKind.signed] <;> omega

set_option maxRecDepth 100000 in
set_option maxHeartbeats 400000 in
theorem batch_nil (v : Value) (w : World) : Calls Try.prog 13 #[.pointer none, v] w fun e w' => e = .returned (.tuple #[.slice none 0 0, .int .i64 2]) ∧ Below w.heap.size w w' := by
  go_enter Try.func13, Try.ntmps13
  go_wp2_with fail
  refine (refuses_nil _ _).mono ?_
  rintro e w1 ⟨rfl, hb⟩
  go_wp2
  go_ret2
  exact ⟨rfl, hb⟩

set_option maxRecDepth 100000 in
set_option maxHeartbeats 400000 in
theorem batch_no {w : World} {B : Nat} {ks : List Kd} {cl : Int} {L : List Int} (h : GV w (.pointer (some ⟨B, 0, none⟩)) ks cl L) (ao : Option Addr) (cap : Nat) (es : List Ed) (hes : es.length ≤ 9223372036854775807) (he : EAt w ao es) (hr : errB ks.length L.length es ≠ 0) :
    Calls Try.prog 13 #[.pointer (some ⟨B, 0, none⟩), .slice ao es.length cap] w fun e w' => e = .returned (.tuple #[.slice none 0 0, .int .i64 (errB ks.length L.length es)]) ∧ Below w.heap.size w w' := by
  have HC : Hid (Calls Try.prog 37 #[.pointer (some ⟨B, 0, none⟩), .slice ao es.length cap] w fun e w' => e = .returned (.int .i64 (errB ks.length L.length es)) ∧ Below w.heap.size w w') := refuses_any h ao cap es hes he
  clear h he
  generalize errB ks.length L.length es = r at *
  have hr' : (r == 0) = false := by simpa using hr
  go_enter Try.func13, Try.ntmps13
  go_wp2_with fail
  refine Calls.mono HC.out ?_
  rintro e w1 ⟨rfl, hb⟩
  go_wp2
  go_ret2
  exact ⟨rfl, hb⟩
end Go.Proofs.Ytcflbekjiohfnaa
