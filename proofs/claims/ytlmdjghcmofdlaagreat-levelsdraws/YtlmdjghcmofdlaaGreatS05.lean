/- Lemmas. -/
import Derived.Test.YtlmdjghcmofdlaaGreatProg
import Derived.Test.YtlmdjghcmofdlaaGreatS02
import Derived.OpenShut
import Derived.Laws.Rows
set_option maxRecDepth 100000
set_option maxHeartbeats 64000000
namespace Go.Proofs.YtlmdjghcmofdlaaGreat
open Go.RowKit
set_option linter.unusedVariables false
def stir (z d : Int) : Int := bits BinOp.xor IntKind.u64 z (z / d)
def numN (i x : Int) : Int :=
  stir (IntKind.u64.wrap (stir (IntKind.u64.wrap (stir (IntKind.u64.wrap (IntKind.u64.wrap ((i + 1) * 11400714819323198485) + x)) 1073741824 * 13787848793156543929)) 134217728 * 10723151780598845931)) 2147483648 / 4294967296 % 4294967296
theorem number_any (i x : Int) (w : World) (h0 : 0 ≤ i) (h1 : i < 9223372036854775807) (hx : 0 ≤ x) (hx1 : x < 4294967296) : Calls Tryz.prog 119 #[.int .i64 i, .int .u32 x] w fun e w' => e = .returned (.int .u32 (numN i x)) ∧ w' = w := by
  go_enter Tryz.func119, Tryz.ntmps119
  go_wp2
  go_ret
  exact ⟨rfl, rfl⟩
end Go.Proofs.YtlmdjghcmofdlaaGreat
/- Layer 4 (draws) in memory: a list of numbers of 32 bits, draws. -/
namespace Go.Proofs.YtlmdjghcmofdlaaGreat
open Go.RowKit
set_option linter.unusedVariables false
def drawN (xs : List Int) (n : Nat) : Int := numN n (lAt xs n)
def Wu (xs : List Int) : Prop := ∀ x ∈ xs, 0 ≤ x ∧ x < 4294967296
theorem Wu.at {xs : List Int} (h : Wu xs) (i : Nat) : 0 ≤ lAt xs i ∧ lAt xs i < 4294967296 := by
  by_cases hi : i < xs.length
  · exact h _ (lAt_mem hi)
  · rw [lAt_out (by omega)]; omega
def us (xs : List Int) : List Value := xs.map (Value.int .u32)
theorem us_len (xs : List Int) : (us xs).length = xs.length := by simp [us]
theorem us_at {xs : List Int} {i : Nat} (h : i < xs.length) : (us xs)[i]? = some (.int .u32 (lAt xs i)) := by
  unfold us; rw [List.getElem?_map, lAt_some h]; rfl
theorem us_one (xs : List Int) : ∀ u ∈ us xs, u.oneCell' = true := by
  intro u hu
  simp only [us, List.mem_map] at hu
  obtain ⟨x, _, rfl⟩ := hu
  rfl
def UAt (W : World) (ao : Option Addr) (xs : List Int) : Prop := xs = [] ∨ ∃ b off, ao = some ⟨b, off, none⟩ ∧ ∀ i, i < xs.length → W.cell? ⟨b, off + i, none⟩ = some (.int .u32 (lAt xs i))
theorem UAt.below {W W' : World} {ao : Option Addr} {xs : List Int} (h : UAt W ao xs) (hb : Below W.heap.size W W') : UAt W' ao xs := by
  rcases h with h | ⟨b, off, e, h⟩
  · exact .inl h
  · exact .inr ⟨b, off, e, fun i hi => (hb.cell (p := ⟨b, _, none⟩) (cell_lt (h i hi))).trans (h i hi)⟩
theorem us_cell {W : World} {b off : Nat} {xs : List Int} (h : ∀ i, i < xs.length → W.cell? ⟨b, off + i, none⟩ = some (.int .u32 (lAt xs i))) : ∀ j u, (us xs)[j]? = some u → W.cell? ((⟨b, off, none⟩ : Addr).add j) = some u := by
  intro j u hu
  have hj := (List.getElem?_eq_some_iff.1 hu).1
  rw [us_len] at hj
  rw [us_at hj] at hu
  cases hu
  rw [show (⟨b, off, none⟩ : Addr).add j = ⟨b, off + j, none⟩ from by unfold Addr.add; split <;> simp_all]
  exact h j hj
structure Drw (W : World) (B G : Nat) (xs : List Int) (n : Nat) : Prop where
  ex : ∃ ao cap, Blk W B 72 #[.slice ao xs.length cap, .int .i64 n] ∧ (xs = [] ∨ (ao = some ⟨G, 0, none⟩ ∧ G ≠ B ∧ ∀ i, i < xs.length → W.cell? ⟨G, i, none⟩ = some (.int .u32 (lAt xs i))))
  wu : Wu xs
  len : xs.length ≤ 4096
  gl : G < W.heap.size
theorem Drw.lt {W : World} {B G n : Nat} {xs : List Int} (h : Drw W B G xs n) : B < W.heap.size := by
  obtain ⟨ao, cap, h1, _⟩ := h.ex
  exact h1.lt
theorem Drw.kept {W W' : World} {B G n : Nat} {xs : List Int} (h : Drw W B G xs n) (h1 : W'.heap[B]? = W.heap[B]?) (h2 : W'.heap[G]? = W.heap[G]?) (hs : W.heap.size ≤ W'.heap.size) : Drw W' B G xs n := by
  obtain ⟨ao, cap, e1, e2⟩ := h.ex
  exact ⟨⟨ao, cap, h1.trans e1, e2.imp id (fun ⟨a, b, c⟩ => ⟨a, b, fun i hi => (World.cell?_of_block (w := W) h2).trans (c i hi)⟩)⟩, h.wu, h.len, Nat.lt_of_lt_of_le h.gl hs⟩
theorem Drw.below {W W' : World} {B G n : Nat} {xs : List Int} (h : Drw W B G xs n) (hb : Below W.heap.size W W') : Drw W' B G xs n :=
  h.kept (hb.block _ h.lt) (hb.block _ h.gl) hb.size
theorem listed_any {w : World} {B G n : Nat} {xs : List Int} (h : Drw w B G xs n) (i : Nat) : Calls Tryz.prog 120 #[.pointer (some ⟨B, 0, none⟩), .int .i64 i] w fun e w' => e = .returned (.int .u32 (lAt xs i)) ∧ w' = w := by
  obtain ⟨ao, cap, h1, h2⟩ := h.ex
  have hl := h.len
  have c0 : w.cell? ⟨B, 0, none⟩ = some (.slice ao xs.length cap) := by simp [World.cell?, show w.heap[B]? = _ from h1]
  by_cases hi : i < xs.length
  · rcases h2 with h2 | ⟨rfl, _, h2⟩
    · subst h2; simp at hi
    have c2 := h2 i hi
    clear h h1 h2
    generalize lAt xs i = x at *
    generalize xs.length = m at *
    go_enter Tryz.func120, Tryz.ntmps120
    go_wp2
    go_ret
    exact ⟨rfl, rfl⟩
  · rw [lAt_out (by omega)]
    clear h h1 h2
    generalize xs.length = m at *
    go_enter Tryz.func120, Tryz.ntmps120
    go_wp2
    go_ret
    exact ⟨rfl, rfl⟩
theorem next_any {w : World} {B G n : Nat} {xs : List Int} (h : Drw w B G xs n) (hn : n < 9223372036854775807) :
    Calls Tryz.prog 96 #[.pointer (some ⟨B, 0, none⟩)] w fun e w' => e = .returned (.int .u32 (drawN xs n)) ∧ Drw w' B G xs (n + 1) ∧ But w.heap.size B w w' := by
  obtain ⟨ao, cap, h1, h2⟩ := h.ex
  have hl := h.len
  have hx := h.wu.at n
  have c1 : w.cell? ⟨B, 1, none⟩ = some (.int .i64 n) := by simp [World.cell?, show w.heap[B]? = _ from h1]
  have f1 := h1.frozen 1
  have hB := h.lt
  have HU : Hid (But w.heap.size B w (w.setCell ⟨B, 1, none⟩ (.int .i64 ((n : Int) + 1)))) := (But.refl _ _ _).set 1 _
  have HD : Hid (Drw (w.setCell ⟨B, 1, none⟩ (.int .i64 ((n : Int) + 1))) B G xs (n + 1)) := by
    refine ⟨⟨ao, cap, ?_, h2.imp id (fun ⟨a, b, c⟩ => ⟨a, b, fun i hi => (HU.out.cell h.gl b).trans (c i hi)⟩)⟩, h.wu, h.len, Nat.lt_of_lt_of_le h.gl HU.out.size⟩
    have := Array.getElem?_eq_some_iff.1 h1
    show (w.heap.modify B _)[B]? = _
    rw [Array.getElem?_eq_getElem (by rw [Array.size_modify]; exact this.1), Array.getElem_modify_self, this.2]
    rfl
  clear h h1 h2
  go_enter Tryz.func96, Tryz.ntmps96
  go_wp2_with fail
  refine (listed_any HD.out n).mono ?_
  rintro e w1 ⟨rfl, rfl⟩
  go_wp2_with fail
  refine (number_any n (lAt xs n) _ (by omega) (by omega) hx.1 hx.2).mono ?_
  rintro e w1 ⟨rfl, rfl⟩
  go_wp2
  go_ret
  exact ⟨rfl, HD.out, HU.out⟩
end Go.Proofs.YtlmdjghcmofdlaaGreat
/- slices.Clone over numbers of 32 bits; draws.New; the law's awake. -/
namespace Go.Proofs.YtlmdjghcmofdlaaGreat
open Go.RowKit
set_option linter.unusedVariables false
theorem Tryz.infoW : (Tryz.prog.info? 70).map (fun i => (i.zero, i.size, i.bytes)) = some (some (.int .u32 0), 1, 4) := by kernel_rfl
theorem uclone_nil (n cap : Nat) (w : World) : Calls Tryz.prog 39 #[.slice none n cap] w fun e w' => e = .returned (.slice none 0 0) ∧ w' = w := by
  have hnil := fun (w : World) (a : Option Addr) (n c n' c' : Nat) => Lib.run_eql_slice_nil (P := Tryz.prog) w 40 70 a n c n' c' Tryz.underlying40
  go_enter Tryz.func39, Tryz.ntmps39
  go_wp2
  go_ret
  exact ⟨rfl, rfl⟩
theorem uclone_empty (a : Addr) (cap : Nat) (w : World) : Calls Tryz.prog 39 #[.slice (some a) 0 cap] w fun e w' => ∃ g cap', e = .returned (.slice (some ⟨g, 0, none⟩) 0 cap') ∧ Below w.heap.size w w' := by
  have hnil := fun (w : World) (a : Option Addr) (n c n' c' : Nat) => Lib.run_eql_slice_nil (P := Tryz.prog) w 40 70 a n c n' c' Tryz.underlying40
  go_enter Tryz.func39, Tryz.ntmps39
  go_wp2
  go_ret
  exact ⟨_, _, rfl, (Below.refl _ _).alloc (Nat.le_refl _) _⟩
theorem own_us {W : World} {base : Nat} {v : Value} {xs : List Int} (h : W.ownsRow base 70 1 v xs.length (us xs)) (h0 : 1 ≤ xs.length) :
    ∃ g cap, v = .slice (some ⟨g, 0, none⟩) xs.length cap ∧ base ≤ g ∧ g < W.heap.size ∧ xs.length ≤ cap ∧ (∀ o, W.frozen? ⟨g, o, none⟩ = false) ∧ ∀ i, i < xs.length → W.cell? ⟨g, i, none⟩ = some (.int .u32 (lAt xs i)) := by
  have hc := h
  rcases h.2 with ⟨_, h⟩ | ⟨g, cap, cur, rfl, hb, hg, hn, _⟩
  · omega
  · refine ⟨g, cap, rfl, hb, (Array.getElem?_eq_some_iff.1 hg).1, hn, fun o => by simp [World.frozen?, hg], fun i hi => ?_⟩
    have h1 := hc.cells rfl _ _ (us_at hi)
    rw [add_eq, Nat.zero_add] at h1
    exact h1
theorem uclone_some (b off cap : Nat) (xs : List Int) (w : World) (hk : ∀ i, i < xs.length → w.cell? ⟨b, off + i, none⟩ = some (.int .u32 (lAt xs i)))
    (h0 : 1 ≤ xs.length) (h1 : xs.length ≤ 4096) : Calls Tryz.prog 39 #[.slice (some ⟨b, off, none⟩) xs.length cap] w fun e w' => ∃ g cap', e = .returned (.slice (some ⟨g, 0, none⟩) xs.length cap') ∧ w.heap.size ≤ g ∧ g < w'.heap.size ∧ (∀ i, i < xs.length → w'.cell? ⟨g, i, none⟩ = some (.int .u32 (lAt xs i))) ∧ Below w.heap.size w w' := by
  have hb : b < w.heap.size := cell_lt (hk 0 h0)
  have hnil := fun (w : World) (a : Option Addr) (n c n' c' : Nat) => Lib.run_eql_slice_nil (P := Tryz.prog) w 40 70 a n c n' c' Tryz.underlying40
  obtain ⟨i0, hi, hz0, hz1, hz2⟩ := info_parts Tryz.infoW
  have hB := (Below.refl w.heap.size w).alloc (Nat.le_refl _) (.cells #[] 70)
  have hk2 := us_cell (fun i hi => (hB.cell (p := ⟨b, _, none⟩) hb).trans (hk i hi))
  clear hk
  go_enter Tryz.func39, Tryz.ntmps39
  go_wp2_with (at_builtin; refine wpList_append_own _ rfl _ _ 40 rfl w.heap.size 70 i0 (.int .u32 0) 1 4 Tryz.underlying40 hi hz0 hz1 hz2 rfl (by decide) _ _ _ rfl (World.ownsRow_made w #[] 0 (Nat.le_refl _) (Nat.zero_le _) rfl) ⟨b, off, none⟩ xs.length cap (us xs) rfl (by rw [us_len]; omega) hk2 (us_one xs) (by unfold maxLen; omega) (by omega) (by simp) ?_)
  intro v' w1 hown hgrow _
  have hB1 := hB.grown hgrow (by simp) (by intro r hr; simp [Value.ownBlock] at hr; omega)
  obtain ⟨g, cap', rfl, hg, hgl, hcap, hfr, hka⟩ := own_us (xs := xs) (by simpa using hown) h0
  have HF : Hid (∀ i, i < xs.length → w1.cell? ⟨g, i, none⟩ = some (.int .u32 (lAt xs i))) := hka
  clear hfr hka
  go_wp2
  go_ret
  exact ⟨g, cap', rfl, hg, hgl, HF.out, hB1⟩
theorem dnew_nil (cap : Nat) (w : World) : Calls Tryz.prog 20 #[.slice none 0 cap] w fun e w' => ∃ B G, e = .returned (.tuple #[.pointer (some ⟨B, 0, none⟩), .int .i64 0]) ∧ w.heap.size ≤ B ∧ w.heap.size ≤ G ∧ Drw w' B G [] 0 ∧ Below w.heap.size w w' := by
  go_enter Tryz.func20, Tryz.ntmps20
  go_wp2_with fail
  refine (uclone_nil 0 cap w).mono ?_
  rintro e w1 ⟨rfl, rfl⟩
  go_wp2
  go_ret2
  exact ⟨_, w1.heap.size, rfl, Nat.le_refl _, Nat.le_refl _, ⟨⟨none, 0, Blk.new w1 _ _, .inl rfl⟩, fun x hx => (by cases hx), by simp, by simp⟩, (Below.refl _ _).alloc (Nat.le_refl _) _⟩
theorem dnew_empty (a : Addr) (cap : Nat) (w : World) : Calls Tryz.prog 20 #[.slice (some a) 0 cap] w fun e w' => ∃ B G, e = .returned (.tuple #[.pointer (some ⟨B, 0, none⟩), .int .i64 0]) ∧ w.heap.size ≤ B ∧ w.heap.size ≤ G ∧ Drw w' B G [] 0 ∧ Below w.heap.size w w' := by
  go_enter Tryz.func20, Tryz.ntmps20
  go_wp2_with fail
  refine (uclone_empty a cap w).mono ?_
  rintro e w1 ⟨g, cap', rfl, hb⟩
  have hs := hb.size
  go_wp2
  go_ret2
  exact ⟨_, w1.heap.size, rfl, hs, hs, ⟨⟨_, _, Blk.new w1 _ _, .inl rfl⟩, fun x hx => (by cases hx), by simp, by simp⟩, hb.alloc hs _⟩
theorem dnew_some (b off cap : Nat) (xs : List Int) (w : World) (hk : ∀ i, i < xs.length → w.cell? ⟨b, off + i, none⟩ = some (.int .u32 (lAt xs i))) (hw : Wu xs) (h0 : 1 ≤ xs.length) (h1 : xs.length ≤ 4096) :
    Calls Tryz.prog 20 #[.slice (some ⟨b, off, none⟩) xs.length cap] w fun e w' => ∃ B G, e = .returned (.tuple #[.pointer (some ⟨B, 0, none⟩), .int .i64 0]) ∧ w.heap.size ≤ B ∧ w.heap.size ≤ G ∧ Drw w' B G xs 0 ∧ Below w.heap.size w w' := by
  have HK : Hid (∀ i, i < xs.length → w.cell? ⟨b, off + i, none⟩ = some (.int .u32 (lAt xs i))) := hk
  clear hk
  go_enter Tryz.func20, Tryz.ntmps20
  go_wp2_with fail
  refine (uclone_some b off cap xs w HK.out h0 h1).mono ?_
  rintro e w1 ⟨g, cap', rfl, hg, hgl, hc, hb⟩
  have HC : Hid (∀ i, i < xs.length → w1.cell? ⟨g, i, none⟩ = some (.int .u32 (lAt xs i))) := hc
  clear hc
  have hs := hb.size
  go_wp2
  go_ret2
  have hb2 := (Below.refl w1.heap.size w1).alloc (Nat.le_refl _) (.cells #[.slice (some ⟨g, 0, none⟩) xs.length cap', .int .i64 0] 72)
  exact ⟨_, g, rfl, hs, hg, ⟨⟨_, _, Blk.new w1 _ _, .inr ⟨rfl, by omega, fun i hi => (hb2.cell (p := ⟨g, i, none⟩) hgl).trans (HC.out i hi)⟩⟩, hw, h1, by simp; omega⟩, hb.alloc hs _⟩
theorem dnew_yes (ao : Option Addr) (n cap : Nat) (xs : List Int) (w : World) (hn : xs.length = n) (hk : UAt w ao xs) (hw : Wu xs) (h1 : n ≤ 4096) :
    Calls Tryz.prog 20 #[.slice ao n cap] w fun e w' => ∃ B G, e = .returned (.tuple #[.pointer (some ⟨B, 0, none⟩), .int .i64 0]) ∧ w.heap.size ≤ B ∧ w.heap.size ≤ G ∧ Drw w' B G xs 0 ∧ Below w.heap.size w w' := by
  subst hn
  rcases hk with rfl | ⟨b, off, rfl, hk⟩
  · match ao with
    | none => exact dnew_nil cap w
    | some a => exact dnew_empty a cap w
  · by_cases h0 : 1 ≤ xs.length
    · exact dnew_some b off cap xs w hk hw h0 h1
    · obtain rfl : xs = [] := by cases xs with
        | nil => rfl
        | cons x xs => simp at h0
      exact dnew_empty _ cap w
end Go.Proofs.YtlmdjghcmofdlaaGreat
