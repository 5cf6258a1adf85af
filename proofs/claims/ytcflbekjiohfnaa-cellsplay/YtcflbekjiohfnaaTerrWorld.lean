/- Layer 2 (terrain) in memory: a slice of kinds, a table. -/
import Derived.Test.YtcflbekjiohfnaaProg
import Derived.Test.YtcflbekjiohfnaaTerrPlain
import Derived.Test.YtcflbekjiohfnaaKit
namespace Go.Proofs.Ytcflbekjiohfnaa
open Go.RowKit
set_option linter.unusedVariables false

theorem cell_lt {W : World} {b o : Nat} {v : Value} (h : W.cell? ⟨b, o, none⟩ = some v) : b < W.heap.size := by
  rcases Nat.lt_or_ge b W.heap.size with h1 | h1
  · exact h1
  · simp [World.cell?, Array.getElem?_eq_none h1] at h

theorem cell_other {W : World} {b o b' o' : Nat} {v : Value} (h : b ≠ b') : (W.setCell ⟨b', o', none⟩ v).cell? ⟨b, o, none⟩ = W.cell? ⟨b, o, none⟩ :=
  World.cell?_of_block (w := W) (Below.heap_setCell _ _ _ b h)
/-- The kinds that a slice's address leads to. -/
def KAt (W : World) (ao : Option Addr) (ks : List Kd) : Prop := ks = [] ∨ ∃ b off, ao = some ⟨b, off, none⟩ ∧
  ∀ i, i < ks.length → W.cell? ⟨b, off + i * 2, none⟩ = some (.int .i64 (kAt ks i).1) ∧ W.cell? ⟨b, off + i * 2 + 1, none⟩ = some (.int .u8 (kAt ks i).2)
theorem KAt.below {W W' : World} {ao : Option Addr} {ks : List Kd} (h : KAt W ao ks) (hb : Below W.heap.size W W') : KAt W' ao ks := by
  rcases h with h | ⟨b, off, e, h⟩
  · exact .inl h
  · exact .inr ⟨b, off, e, fun i hi => ⟨(hb.cell (p := ⟨b, _, none⟩) (cell_lt (h i hi).1)).trans (h i hi).1, (hb.cell (p := ⟨b, _, none⟩) (cell_lt (h i hi).2)).trans (h i hi).2⟩⟩

theorem Blk.at {W : World} {B : Nat} {t : TypeId} {cs : Array Value} (h : Blk W B t cs) {j : Nat} {v : Value} (hj : cs[j]? = some v) : W.cell? ⟨B, j, none⟩ = some v := by
  simp [World.cell?, show W.heap[B]? = _ from h, hj]
theorem Blk.setAt {W : World} {B : Nat} {t : TypeId} {cs : Array Value} (h : Blk W B t cs) (j : Nat) (v : Value) : Blk (W.setCell ⟨B, j, none⟩ v) B t (cs.setIfInBounds j v) := by
  obtain ⟨hlt, hk⟩ := Array.getElem?_eq_some_iff.1 h
  show (W.heap.modify B _)[B]? = _
  rw [Array.getElem?_eq_getElem (by rw [Array.size_modify]; exact hlt), Array.getElem_modify_self, hk]
  rfl
theorem bits_one {m : Int} (h0 : 0 ≤ m) (h1 : m < 256) : bits BinOp.and IntKind.u8 m 1 = m % 2 := by
  have h : ∀ n : Fin 256, bits BinOp.and IntKind.u8 (n.val : Int) 1 = (n.val : Int) % 2 := by decide +kernel
  obtain ⟨n, rfl⟩ := Int.eq_ofNat_of_zero_le h0
  exact h ⟨n, by omega⟩
theorem shr_bd {m k : Int} (h0 : 0 ≤ m) (h1 : m < 256) : 0 ≤ m / 2 ^ k.toNat ∧ m / 2 ^ k.toNat < 256 :=
  ⟨Int.ediv_nonneg h0 (Int.le_of_lt (Int.pow_pos (by decide))), Int.lt_of_le_of_lt (Int.ediv_le_self _ h0) h1⟩

abbrev kd (x : Kd) : Value := .agg #[.int .i64 x.1, .int .u8 x.2]

set_option maxHeartbeats 400000 in
theorem stands_any (x : Kd) (k : Int) (w : World) (h0 : 0 ≤ k) (h1 : k < 8) (hm : 0 ≤ x.2 ∧ x.2 < 256) : Calls Try.prog 61 #[kd x, .int .i64 k] w fun e w' => e = .returned (.bool (bitB x.2 k)) ∧ Below w.heap.size w w' := by
  go_enter Try.func61, Try.ntmps61
  go_wp2
  go_ret
  have hs := shr_bd (k := k) hm.1 hm.2
  exact ⟨ret_of (congrArg Value.bool (by rw [bits_one hs.1 hs.2]; rfl)), (Below.refl _ _).alloc (Nat.le_refl _) _⟩

set_option maxHeartbeats 400000 in
theorem rightKind_any (x : Kd) (cl : Int) (w : World) (h0 : 1 ≤ cl) (h1 : cl ≤ 8) (hm : 0 ≤ x.2 ∧ x.2 < 256) : Calls Try.prog 63 #[kd x, .int .i64 cl] w fun e w' => e = .returned (.bool (okK cl x)) ∧ Below w.heap.size w w' := by
  by_cases c1 : 1 ≤ x.1
  · by_cases c2 : x.1 ≤ 255
    · go_enter Try.func63, Try.ntmps63
      go_wp2
      go_ret
      exact ⟨ret_of (congrArg Value.bool (by simp [okK, c1, c2])), (Below.refl _ _).alloc (Nat.le_refl _) _⟩
    · have hd : decide (x.1 ≤ 255) = false := by simpa using c2
      go_enter Try.func63, Try.ntmps63
      go_wp2
      go_ret
      exact ⟨ret_of (congrArg Value.bool (show _ = okK cl x from by unfold okK; rw [hd]; simp)), (Below.refl _ _).alloc (Nat.le_refl _) _⟩
  · have hd : decide (1 ≤ x.1) = false := by simpa using c1
    go_enter Try.func63, Try.ntmps63
    go_wp2
    go_ret
    exact ⟨ret_of (congrArg Value.bool (show _ = okK cl x from by unfold okK; rw [hd]; simp)), (Below.refl _ _).alloc (Nat.le_refl _) _⟩

end Go.Proofs.Ytcflbekjiohfnaa
