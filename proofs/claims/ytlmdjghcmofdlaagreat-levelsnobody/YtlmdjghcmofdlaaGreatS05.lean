/- Lemmas. -/
import Derived.Test.YtlmdjghcmofdlaaGreatProg
import Derived.Test.YtlmdjghcmofdlaaGreatS02
import Derived.OpenShut
import Derived.Laws.Rows
set_option maxRecDepth 100000
set_option maxHeartbeats 64000000
namespace Go.Proofs.YtlmdjghcmofdlaaGreat
open Go.RowKit
set_option linter.unusedVariables false
def stir (z d : Int) : Int := bits BinOp.xor IntKind.u64 z (z / d)
def numN (i x : Int) : Int :=
  stir (IntKind.u64.wrap (stir (IntKind.u64.wrap (stir (IntKind.u64.wrap (IntKind.u64.wrap ((i + 1) * 11400714819323198485) + x)) 1073741824 * 13787848793156543929)) 134217728 * 10723151780598845931)) 2147483648 / 4294967296 % 4294967296
theorem number_any (i x : Int) (w : World) (h0 : 0 ≤ i) (h1 : i < 9223372036854775807) (hx : 0 ≤ x) (hx1 : x < 4294967296) : Calls Tryz.prog 119 #[.int .i64 i, .int .u32 x] w fun e w' => e = .returned (.int .u32 (numN i x)) ∧ w' = w := by
  go_enter Tryz.func119, Tryz.ntmps119
  go_wp2
  go_ret
  exact ⟨rfl, rfl⟩
end Go.Proofs.YtlmdjghcmofdlaaGreat
/- Layer 4 (draws) in memory: a list of numbers of 32 bits, draws. -/
namespace Go.Proofs.YtlmdjghcmofdlaaGreat
open Go.RowKit
set_option linter.unusedVariables false
def drawN (xs : List Int) (n : Nat) : Int := numN n (lAt xs n)
def Wu (xs : List Int) : Prop := ∀ x ∈ xs, 0 ≤ x ∧ x < 4294967296
theorem Wu.at {xs : List Int} (h : Wu xs) (i : Nat) : 0 ≤ lAt xs i ∧ lAt xs i < 4294967296 := by
  by_cases hi : i < xs.length
  · exact h _ (lAt_mem hi)
  · rw [lAt_out (by omega)]; omega
def us (xs : List Int) : List Value := xs.map (Value.int .u32)
structure Drw (W : World) (B G : Nat) (xs : List Int) (n : Nat) : Prop where
  ex : ∃ ao cap, Blk W B 72 #[.slice ao xs.length cap, .int .i64 n] ∧ (xs = [] ∨ (ao = some ⟨G, 0, none⟩ ∧ G ≠ B ∧ ∀ i, i < xs.length → W.cell? ⟨G, i, none⟩ = some (.int .u32 (lAt xs i))))
  wu : Wu xs
  len : xs.length ≤ 4096
  gl : G < W.heap.size
theorem Drw.lt {W : World} {B G n : Nat} {xs : List Int} (h : Drw W B G xs n) : B < W.heap.size := by
  obtain ⟨ao, cap, h1, _⟩ := h.ex
  exact h1.lt
theorem Drw.kept {W W' : World} {B G n : Nat} {xs : List Int} (h : Drw W B G xs n) (h1 : W'.heap[B]? = W.heap[B]?) (h2 : W'.heap[G]? = W.heap[G]?) (hs : W.heap.size ≤ W'.heap.size) : Drw W' B G xs n := by
  obtain ⟨ao, cap, e1, e2⟩ := h.ex
  exact ⟨⟨ao, cap, h1.trans e1, e2.imp id (fun ⟨a, b, c⟩ => ⟨a, b, fun i hi => (World.cell?_of_block (w := W) h2).trans (c i hi)⟩)⟩, h.wu, h.len, Nat.lt_of_lt_of_le h.gl hs⟩
theorem Drw.below {W W' : World} {B G n : Nat} {xs : List Int} (h : Drw W B G xs n) (hb : Below W.heap.size W W') : Drw W' B G xs n :=
  h.kept (hb.block _ h.lt) (hb.block _ h.gl) hb.size
theorem listed_any {w : World} {B G n : Nat} {xs : List Int} (h : Drw w B G xs n) (i : Nat) : Calls Tryz.prog 120 #[.pointer (some ⟨B, 0, none⟩), .int .i64 i] w fun e w' => e = .returned (.int .u32 (lAt xs i)) ∧ w' = w := by
  obtain ⟨ao, cap, h1, h2⟩ := h.ex
  have hl := h.len
  have c0 : w.cell? ⟨B, 0, none⟩ = some (.slice ao xs.length cap) := by simp [World.cell?, show w.heap[B]? = _ from h1]
  by_cases hi : i < xs.length
  · rcases h2 with h2 | ⟨rfl, _, h2⟩
    · subst h2; simp at hi
    have c2 := h2 i hi
    clear h h1 h2
    generalize lAt xs i = x at *
    generalize xs.length = m at *
    go_enter Tryz.func120, Tryz.ntmps120
    go_wp2
    go_ret
    exact ⟨rfl, rfl⟩
  · rw [lAt_out (by omega)]
    clear h h1 h2
    generalize xs.length = m at *
    go_enter Tryz.func120, Tryz.ntmps120
    go_wp2
    go_ret
    exact ⟨rfl, rfl⟩
theorem next_any {w : World} {B G n : Nat} {xs : List Int} (h : Drw w B G xs n) (hn : n < 9223372036854775807) :
    Calls Tryz.prog 96 #[.pointer (some ⟨B, 0, none⟩)] w fun e w' => e = .returned (.int .u32 (drawN xs n)) ∧ Drw w' B G xs (n + 1) ∧ But w.heap.size B w w' := by
  obtain ⟨ao, cap, h1, h2⟩ := h.ex
  have hl := h.len
  have hx := h.wu.at n
  have c1 : w.cell? ⟨B, 1, none⟩ = some (.int .i64 n) := by simp [World.cell?, show w.heap[B]? = _ from h1]
  have f1 := h1.frozen 1
  have hB := h.lt
  have HU : Hid (But w.heap.size B w (w.setCell ⟨B, 1, none⟩ (.int .i64 ((n : Int) + 1)))) := (But.refl _ _ _).set 1 _
  have HD : Hid (Drw (w.setCell ⟨B, 1, none⟩ (.int .i64 ((n : Int) + 1))) B G xs (n + 1)) := by
    refine ⟨⟨ao, cap, ?_, h2.imp id (fun ⟨a, b, c⟩ => ⟨a, b, fun i hi => (HU.out.cell h.gl b).trans (c i hi)⟩)⟩, h.wu, h.len, Nat.lt_of_lt_of_le h.gl HU.out.size⟩
    have := Array.getElem?_eq_some_iff.1 h1
    show (w.heap.modify B _)[B]? = _
    rw [Array.getElem?_eq_getElem (by rw [Array.size_modify]; exact this.1), Array.getElem_modify_self, this.2]
    rfl
  clear h h1 h2
  go_enter Tryz.func96, Tryz.ntmps96
  go_wp2_with fail
  refine (listed_any HD.out n).mono ?_
  rintro e w1 ⟨rfl, rfl⟩
  go_wp2_with fail
  refine (number_any n (lAt xs n) _ (by omega) (by omega) hx.1 hx.2).mono ?_
  rintro e w1 ⟨rfl, rfl⟩
  go_wp2
  go_ret
  exact ⟨rfl, HD.out, HU.out⟩
end Go.Proofs.YtlmdjghcmofdlaaGreat
/- slices.Clone over numbers of 32 bits; draws.New; the law's awake. -/
namespace Go.Proofs.YtlmdjghcmofdlaaGreat
open Go.RowKit
set_option linter.unusedVariables false
end Go.Proofs.YtlmdjghcmofdlaaGreat
