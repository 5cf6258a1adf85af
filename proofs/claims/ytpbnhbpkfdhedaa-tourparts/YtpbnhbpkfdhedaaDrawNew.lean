/- slices.Clone over numbers of 32 bits; draws.New; the law's awake. -/
import Derived.Test.YtpbnhbpkfdhedaaDrawWorld
namespace Go.Proofs.Ytpbnhbpkfdhedaa
open Go.RowKit
set_option linter.unusedVariables false

theorem Try.infoW : (Try.prog.info? 110).map (fun i => (i.zero, i.size, i.bytes)) = some (some (.int .u32 0), 1, 4) := by kernel_rfl

set_option maxHeartbeats 800000 in
theorem uclone_nil (n cap : Nat) (w : World) : Calls Try.prog 89 #[.slice none n cap] w fun e w' => e = .returned (.slice none 0 0) ∧ w' = w := by
  have hnil := fun (w : World) (a : Option Addr) (n c n' c' : Nat) => Lib.run_eql_slice_nil (P := Try.prog) w 22 110 a n c n' c' Try.underlying22
  go_enter Try.func89, Try.ntmps89
  go_wp2
  go_ret
  exact ⟨rfl, rfl⟩

set_option maxHeartbeats 800000 in
theorem uclone_empty (a : Addr) (cap : Nat) (w : World) : Calls Try.prog 89 #[.slice (some a) 0 cap] w fun e w' => ∃ g cap', e = .returned (.slice (some ⟨g, 0, none⟩) 0 cap') ∧ Below w.heap.size w w' := by
  have hnil := fun (w : World) (a : Option Addr) (n c n' c' : Nat) => Lib.run_eql_slice_nil (P := Try.prog) w 22 110 a n c n' c' Try.underlying22
  go_enter Try.func89, Try.ntmps89
  go_wp2
  go_ret
  exact ⟨_, _, rfl, (Below.refl _ _).alloc (Nat.le_refl _) _⟩

/-- A row of numbers of one's own. -/
theorem own_us {W : World} {base : Nat} {v : Value} {xs : List Int} (h : W.ownsRow base 110 1 v xs.length (us xs)) (h0 : 1 ≤ xs.length) :
    ∃ g cap, v = .slice (some ⟨g, 0, none⟩) xs.length cap ∧ base ≤ g ∧ g < W.heap.size ∧ xs.length ≤ cap ∧ (∀ o, W.frozen? ⟨g, o, none⟩ = false) ∧ ∀ i, i < xs.length → W.cell? ⟨g, i, none⟩ = some (.int .u32 (lAt xs i)) := by
  have hc := h
  rcases h.2 with ⟨_, h⟩ | ⟨g, cap, cur, rfl, hb, hg, hn, _⟩
  · omega
  · refine ⟨g, cap, rfl, hb, (Array.getElem?_eq_some_iff.1 hg).1, hn, fun o => by simp [World.frozen?, hg], fun i hi => ?_⟩
    have h1 := hc.cells rfl _ _ (us_at hi)
    rw [add_eq, Nat.zero_add] at h1
    exact h1

set_option maxHeartbeats 800000 in
theorem uclone_some (b off cap : Nat) (xs : List Int) (w : World) (hk : ∀ i, i < xs.length → w.cell? ⟨b, off + i, none⟩ = some (.int .u32 (lAt xs i)))
    (h0 : 1 ≤ xs.length) (h1 : xs.length ≤ 4096) : Calls Try.prog 89 #[.slice (some ⟨b, off, none⟩) xs.length cap] w fun e w' => ∃ g cap', e = .returned (.slice (some ⟨g, 0, none⟩) xs.length cap') ∧ w.heap.size ≤ g ∧ g < w'.heap.size ∧ (∀ i, i < xs.length → w'.cell? ⟨g, i, none⟩ = some (.int .u32 (lAt xs i))) ∧ Below w.heap.size w w' := by
  have hb : b < w.heap.size := cell_lt (hk 0 h0)
  have hnil := fun (w : World) (a : Option Addr) (n c n' c' : Nat) => Lib.run_eql_slice_nil (P := Try.prog) w 22 110 a n c n' c' Try.underlying22
  obtain ⟨i0, hi, hz0, hz1, hz2⟩ := info_parts Try.infoW
  have hB := (Below.refl w.heap.size w).alloc (Nat.le_refl _) (.cells #[] 110)
  have hk2 := us_cell (fun i hi => (hB.cell (p := ⟨b, _, none⟩) hb).trans (hk i hi))
  clear hk
  go_enter Try.func89, Try.ntmps89
  go_wp2_with (at_builtin; refine wpList_append_own _ rfl _ _ 22 rfl w.heap.size 110 i0 (.int .u32 0) 1 4 Try.underlying22 hi hz0 hz1 hz2 rfl (by decide) _ _ _ rfl (World.ownsRow_made w #[] 0 (Nat.le_refl _) (Nat.zero_le _) rfl) ⟨b, off, none⟩ xs.length cap (us xs) rfl (by rw [us_len]; omega) hk2 (us_one xs) (by unfold maxLen; omega) (by omega) (by simp) ?_)
  intro v' w1 hown hgrow _
  have hB1 := hB.grown hgrow (by simp) (by intro r hr; simp [Value.ownBlock] at hr; omega)
  obtain ⟨g, cap', rfl, hg, hgl, hcap, hfr, hka⟩ := own_us (xs := xs) (by simpa using hown) h0
  have HF : Hid (∀ i, i < xs.length → w1.cell? ⟨g, i, none⟩ = some (.int .u32 (lAt xs i))) := hka
  clear hfr hka
  go_wp2
  go_ret
  exact ⟨g, cap', rfl, hg, hgl, HF.out, hB1⟩

set_option maxHeartbeats 400000 in
theorem dnew_no (ao : Option Addr) (n cap : Nat) (w : World) (h : 4096 < n) (hn : n ≤ 9223372036854775807) : Calls Try.prog 47 #[.slice ao n cap] w fun e w' => e = .returned (.tuple #[.pointer none, .int .i64 1]) ∧ w' = w := by
  go_enter Try.func47, Try.ntmps47
  go_wp2
  go_ret2
  exact ⟨rfl, rfl⟩
set_option maxHeartbeats 400000 in
theorem dnew_nil (cap : Nat) (w : World) : Calls Try.prog 47 #[.slice none 0 cap] w fun e w' => ∃ B G, e = .returned (.tuple #[.pointer (some ⟨B, 0, none⟩), .int .i64 0]) ∧ w.heap.size ≤ B ∧ w.heap.size ≤ G ∧ Drw w' B G [] 0 ∧ Below w.heap.size w w' := by
  go_enter Try.func47, Try.ntmps47
  go_wp2_with fail
  refine (uclone_nil 0 cap w).mono ?_
  rintro e w1 ⟨rfl, rfl⟩
  go_wp2
  go_ret2
  exact ⟨_, w1.heap.size, rfl, Nat.le_refl _, Nat.le_refl _, ⟨⟨none, 0, Blk.new w1 _ _, .inl rfl⟩, fun x hx => (by cases hx), by simp, by simp⟩, (Below.refl _ _).alloc (Nat.le_refl _) _⟩
set_option maxHeartbeats 400000 in
theorem dnew_empty (a : Addr) (cap : Nat) (w : World) : Calls Try.prog 47 #[.slice (some a) 0 cap] w fun e w' => ∃ B G, e = .returned (.tuple #[.pointer (some ⟨B, 0, none⟩), .int .i64 0]) ∧ w.heap.size ≤ B ∧ w.heap.size ≤ G ∧ Drw w' B G [] 0 ∧ Below w.heap.size w w' := by
  go_enter Try.func47, Try.ntmps47
  go_wp2_with fail
  refine (uclone_empty a cap w).mono ?_
  rintro e w1 ⟨g, cap', rfl, hb⟩
  have hs := hb.size
  go_wp2
  go_ret2
  exact ⟨_, w1.heap.size, rfl, hs, hs, ⟨⟨_, _, Blk.new w1 _ _, .inl rfl⟩, fun x hx => (by cases hx), by simp, by simp⟩, hb.alloc hs _⟩
set_option maxHeartbeats 400000 in
theorem dnew_some (b off cap : Nat) (xs : List Int) (w : World) (hk : ∀ i, i < xs.length → w.cell? ⟨b, off + i, none⟩ = some (.int .u32 (lAt xs i))) (hw : Wu xs) (h0 : 1 ≤ xs.length) (h1 : xs.length ≤ 4096) :
    Calls Try.prog 47 #[.slice (some ⟨b, off, none⟩) xs.length cap] w fun e w' => ∃ B G, e = .returned (.tuple #[.pointer (some ⟨B, 0, none⟩), .int .i64 0]) ∧ w.heap.size ≤ B ∧ w.heap.size ≤ G ∧ Drw w' B G xs 0 ∧ Below w.heap.size w w' := by
  have HK : Hid (∀ i, i < xs.length → w.cell? ⟨b, off + i, none⟩ = some (.int .u32 (lAt xs i))) := hk
  clear hk
  go_enter Try.func47, Try.ntmps47
  go_wp2_with fail
  refine (uclone_some b off cap xs w HK.out h0 h1).mono ?_
  rintro e w1 ⟨g, cap', rfl, hg, hgl, hc, hb⟩
  have HC : Hid (∀ i, i < xs.length → w1.cell? ⟨g, i, none⟩ = some (.int .u32 (lAt xs i))) := hc
  clear hc
  have hs := hb.size
  go_wp2
  go_ret2
  have hb2 := (Below.refl w1.heap.size w1).alloc (Nat.le_refl _) (.cells #[.slice (some ⟨g, 0, none⟩) xs.length cap', .int .i64 0] 114)
  exact ⟨_, g, rfl, hs, hg, ⟨⟨_, _, Blk.new w1 _ _, .inr ⟨rfl, by omega, fun i hi => (hb2.cell (p := ⟨g, i, none⟩) hgl).trans (HC.out i hi)⟩⟩, hw, h1, by simp; omega⟩, hb.alloc hs _⟩
/-- New of a list that may be: draws of which none was drawn. -/
theorem dnew_yes (ao : Option Addr) (n cap : Nat) (xs : List Int) (w : World) (hn : xs.length = n) (hk : UAt w ao xs) (hw : Wu xs) (h1 : n ≤ 4096) :
    Calls Try.prog 47 #[.slice ao n cap] w fun e w' => ∃ B G, e = .returned (.tuple #[.pointer (some ⟨B, 0, none⟩), .int .i64 0]) ∧ w.heap.size ≤ B ∧ w.heap.size ≤ G ∧ Drw w' B G xs 0 ∧ Below w.heap.size w w' := by
  subst hn
  rcases hk with rfl | ⟨b, off, rfl, hk⟩
  · match ao with
    | none => exact dnew_nil cap w
    | some a => exact dnew_empty a cap w
  · by_cases h0 : 1 ≤ xs.length
    · exact dnew_some b off cap xs w hk hw h0 h1
    · obtain rfl : xs = [] := by cases xs with
        | nil => rfl
        | cons x xs => simp at h0
      exact dnew_empty _ cap w
end Go.Proofs.Ytpbnhbpkfdhedaa
