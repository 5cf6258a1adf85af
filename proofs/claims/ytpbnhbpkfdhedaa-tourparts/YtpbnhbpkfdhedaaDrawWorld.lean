/- Layer 4 (draws) in memory: a list of numbers of 32 bits, draws. -/
import Derived.Test.YtpbnhbpkfdhedaaDrawNum
import Derived.Test.YtpbnhbpkfdhedaaListAt
import Derived.Test.YtpbnhbpkfdhedaaBut
import Derived.Laws.Rows
namespace Go.Proofs.Ytpbnhbpkfdhedaa
open Go.RowKit
set_option linter.unusedVariables false

/-- The number n that draws of the list xs draw. -/
def drawN (xs : List Int) (n : Nat) : Int := numN n (lAt xs n)
theorem drawN_bd (xs : List Int) (n : Nat) : 0 ≤ drawN xs n ∧ drawN xs n < 4294967296 := numN_bd _ _
def Wu (xs : List Int) : Prop := ∀ x ∈ xs, 0 ≤ x ∧ x < 4294967296
theorem Wu.at {xs : List Int} (h : Wu xs) (i : Nat) : 0 ≤ lAt xs i ∧ lAt xs i < 4294967296 := by
  by_cases hi : i < xs.length
  · exact h _ (lAt_mem hi)
  · rw [lAt_out (by omega)]; omega
def us (xs : List Int) : List Value := xs.map (Value.int .u32)
theorem us_len (xs : List Int) : (us xs).length = xs.length := by simp [us]
theorem us_at {xs : List Int} {i : Nat} (h : i < xs.length) : (us xs)[i]? = some (.int .u32 (lAt xs i)) := by
  unfold us; rw [List.getElem?_map, lAt_some h]; rfl
theorem us_one (xs : List Int) : ∀ u ∈ us xs, u.oneCell' = true := by
  intro u hu
  simp only [us, List.mem_map] at hu
  obtain ⟨x, _, rfl⟩ := hu
  rfl
/-- The numbers that a slice's address leads to. -/
def UAt (W : World) (ao : Option Addr) (xs : List Int) : Prop := xs = [] ∨ ∃ b off, ao = some ⟨b, off, none⟩ ∧ ∀ i, i < xs.length → W.cell? ⟨b, off + i, none⟩ = some (.int .u32 (lAt xs i))
theorem UAt.below {W W' : World} {ao : Option Addr} {xs : List Int} (h : UAt W ao xs) (hb : Below W.heap.size W W') : UAt W' ao xs := by
  rcases h with h | ⟨b, off, e, h⟩
  · exact .inl h
  · exact .inr ⟨b, off, e, fun i hi => (hb.cell (p := ⟨b, _, none⟩) (cell_lt (h i hi))).trans (h i hi)⟩
theorem us_cell {W : World} {b off : Nat} {xs : List Int} (h : ∀ i, i < xs.length → W.cell? ⟨b, off + i, none⟩ = some (.int .u32 (lAt xs i))) : ∀ j u, (us xs)[j]? = some u → W.cell? ((⟨b, off, none⟩ : Addr).add j) = some u := by
  intro j u hu
  have hj := (List.getElem?_eq_some_iff.1 hu).1
  rw [us_len] at hj
  rw [us_at hj] at hu
  cases hu
  rw [show (⟨b, off, none⟩ : Addr).add j = ⟨b, off + j, none⟩ from by unfold Addr.add; split <;> simp_all]
  exact h j hj

/-- Draws in block B, whose list lies in block G. -/
structure Drw (W : World) (B G : Nat) (xs : List Int) (n : Nat) : Prop where
  ex : ∃ ao cap, Blk W B 114 #[.slice ao xs.length cap, .int .i64 n] ∧ (xs = [] ∨ (ao = some ⟨G, 0, none⟩ ∧ G ≠ B ∧ ∀ i, i < xs.length → W.cell? ⟨G, i, none⟩ = some (.int .u32 (lAt xs i))))
  wu : Wu xs
  len : xs.length ≤ 4096
  gl : G < W.heap.size
theorem Drw.lt {W : World} {B G n : Nat} {xs : List Int} (h : Drw W B G xs n) : B < W.heap.size := by
  obtain ⟨ao, cap, h1, _⟩ := h.ex
  exact h1.lt
theorem Drw.kept {W W' : World} {B G n : Nat} {xs : List Int} (h : Drw W B G xs n) (h1 : W'.heap[B]? = W.heap[B]?) (h2 : W'.heap[G]? = W.heap[G]?) (hs : W.heap.size ≤ W'.heap.size) : Drw W' B G xs n := by
  obtain ⟨ao, cap, e1, e2⟩ := h.ex
  exact ⟨⟨ao, cap, h1.trans e1, e2.imp id (fun ⟨a, b, c⟩ => ⟨a, b, fun i hi => (World.cell?_of_block (w := W) h2).trans (c i hi)⟩)⟩, h.wu, h.len, Nat.lt_of_lt_of_le h.gl hs⟩
theorem Drw.below {W W' : World} {B G n : Nat} {xs : List Int} (h : Drw W B G xs n) (hb : Below W.heap.size W W') : Drw W' B G xs n :=
  h.kept (hb.block _ h.lt) (hb.block _ h.gl) hb.size
theorem Drw.but {W W' : World} {B G n K : Nat} {xs : List Int} (h : Drw W B G xs n) (hb : But W.heap.size K W W') (h1 : K ≠ B) (h2 : K ≠ G) : Drw W' B G xs n :=
  h.kept (hb.block _ h.lt h1.symm) (hb.block _ h.gl h2.symm) hb.size

set_option maxHeartbeats 400000 in
theorem listed_any {w : World} {B G n : Nat} {xs : List Int} (h : Drw w B G xs n) (i : Nat) : Calls Try.prog 96 #[.pointer (some ⟨B, 0, none⟩), .int .i64 i] w fun e w' => e = .returned (.int .u32 (lAt xs i)) ∧ w' = w := by
  obtain ⟨ao, cap, h1, h2⟩ := h.ex
  have hl := h.len
  have c0 : w.cell? ⟨B, 0, none⟩ = some (.slice ao xs.length cap) := by simp [World.cell?, show w.heap[B]? = _ from h1]
  by_cases hi : i < xs.length
  · rcases h2 with h2 | ⟨rfl, _, h2⟩
    · subst h2; simp at hi
    have c2 := h2 i hi
    clear h h1 h2
    generalize lAt xs i = x at *
    generalize xs.length = m at *
    go_enter Try.func96, Try.ntmps96
    go_wp2
    go_ret
    exact ⟨rfl, rfl⟩
  · rw [lAt_out (by omega)]
    clear h h1 h2
    generalize xs.length = m at *
    go_enter Try.func96, Try.ntmps96
    go_wp2
    go_ret
    exact ⟨rfl, rfl⟩
set_option maxHeartbeats 400000 in
theorem next_nil (w : World) : Calls Try.prog 61 #[.pointer none] w fun e w' => e = .returned (.int .u32 0) ∧ w' = w := by
  go_enter Try.func61, Try.ntmps61
  go_wp2
  go_ret
  exact ⟨rfl, rfl⟩
set_option maxHeartbeats 800000 in
theorem next_any {w : World} {B G n : Nat} {xs : List Int} (h : Drw w B G xs n) (hn : n < 9223372036854775807) :
    Calls Try.prog 61 #[.pointer (some ⟨B, 0, none⟩)] w fun e w' => e = .returned (.int .u32 (drawN xs n)) ∧ Drw w' B G xs (n + 1) ∧ But w.heap.size B w w' := by
  obtain ⟨ao, cap, h1, h2⟩ := h.ex
  have hl := h.len
  have hx := h.wu.at n
  have c1 : w.cell? ⟨B, 1, none⟩ = some (.int .i64 n) := by simp [World.cell?, show w.heap[B]? = _ from h1]
  have f1 := h1.frozen 1
  have hB := h.lt
  have HU : Hid (But w.heap.size B w (w.setCell ⟨B, 1, none⟩ (.int .i64 ((n : Int) + 1)))) := (But.refl _ _ _).set 1 _
  have HD : Hid (Drw (w.setCell ⟨B, 1, none⟩ (.int .i64 ((n : Int) + 1))) B G xs (n + 1)) := by
    refine ⟨⟨ao, cap, ?_, h2.imp id (fun ⟨a, b, c⟩ => ⟨a, b, fun i hi => (HU.out.cell h.gl b).trans (c i hi)⟩)⟩, h.wu, h.len, Nat.lt_of_lt_of_le h.gl HU.out.size⟩
    have := Array.getElem?_eq_some_iff.1 h1
    show (w.heap.modify B _)[B]? = _
    rw [Array.getElem?_eq_getElem (by rw [Array.size_modify]; exact this.1), Array.getElem_modify_self, this.2]
    rfl
  clear h h1 h2
  go_enter Try.func61, Try.ntmps61
  go_wp2_with fail
  refine (listed_any HD.out n).mono ?_
  rintro e w1 ⟨rfl, rfl⟩
  go_wp2_with fail
  refine (number_any n (lAt xs n) _ (by omega) (by omega) hx.1 hx.2).mono ?_
  rintro e w1 ⟨rfl, rfl⟩
  go_wp2
  go_ret
  exact ⟨rfl, HD.out, HU.out⟩
end Go.Proofs.Ytpbnhbpkfdhedaa
