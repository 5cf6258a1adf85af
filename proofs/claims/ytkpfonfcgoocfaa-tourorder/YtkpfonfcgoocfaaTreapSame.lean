/- Layer 6's statements: same, Made, number. -/
import Derived.Test.YtkpfonfcgoocfaaTreapLaw
import Derived.Test.YtkpfonfcgoocfaaTreapMake
import Derived.Test.YtkpfonfcgoocfaaTreapFind
import Derived.Test.YtkpfonfcgoocfaaDrawNew
namespace Go.Proofs.Ytkpfonfcgoocfaa
open Go.RowKit
set_option linter.unusedVariables false
variable {Xh : Hx}


theorem same6_any {w : World} {ax ay : Option Addr} {cx cy : Nat} {xs ys : List Int} (hx : NAt .i64 w ax xs) (hy : NAt .i64 w ay ys) (h1 : xs.length ≤ 9000000000000000000) (h2 : ys.length ≤ 9000000000000000000) :
    Calls Try.prog 38 #[.slice ax xs.length cx, .slice ay ys.length cy] w fun e w' => e = .returned (.bool (decide (xs = ys))) ∧ Below w.heap.size w w' := by
  replace hx : xs = [] ∨ ∃ g off, ax = some ⟨g, off, none⟩ ∧ ∀ i, i < xs.length → w.cell? ⟨g, off + i, none⟩ = some (.int .i64 (lAt xs i)) := hx.imp id (fun ⟨b, off, e, _, h⟩ => ⟨b, off, e, h⟩)
  replace hy : ys = [] ∨ ∃ g off, ay = some ⟨g, off, none⟩ ∧ ∀ i, i < ys.length → w.cell? ⟨g, off + i, none⟩ = some (.int .i64 (lAt ys i)) := hy.imp id (fun ⟨b, off, e, _, h⟩ => ⟨b, off, e, h⟩)
  by_cases hl : xs.length = ys.length
  · have HX : Hid (xs = [] ∨ ∃ g off, ax = some ⟨g, off, none⟩ ∧ ∀ i, i < xs.length → w.cell? ⟨g, off + i, none⟩ = some (.int .i64 (lAt xs i))) := hx
    have HY : Hid (ys = [] ∨ ∃ g off, ay = some ⟨g, off, none⟩ ∧ ∀ i, i < ys.length → w.cell? ⟨g, off + i, none⟩ = some (.int .i64 (lAt ys i))) := hy
    clear hx hy
    have HD : Hid (∀ k, k < xs.length → lAt xs k ≠ lAt ys k → decide (xs = ys) = false) := fun k hk h => by
      have : xs ≠ ys := fun e => h (by rw [e])
      simpa using this
    have HE : Hid ((∀ i, i < xs.length → lAt xs i = lAt ys i) → decide (xs = ys) = true) := fun h => by
      have : xs = ys := list_ext hl h
      simpa using this
    generalize hN : xs.length = N at *
    rw [← hl]
    go_enter Try.func38, Try.ntmps38
    go_wp2
    go_loopw [5] (fun i wr => ∃ k : Nat, k ≤ N ∧ i = .int .i64 k ∧ Hid (∀ i, i < k → lAt xs i = lAt ys i) ∧ Below w.heap.size w wr) (fun i _ => N - (intOf i).toNat)
    case atStart => exact ⟨0, Nat.zero_le _, rfl, fun i hi => absurd hi (Nat.not_lt_zero _), Below.refl _ _⟩
    case round =>
      obtain ⟨k, hkn, rfl, HA, hB⟩ := hrel
      by_cases hlt : k < N
      · rcases HX.out with h | ⟨gx, ox, rfl, hxc⟩
        · rw [h] at hN; simp at hN; omega
        · rcases HY.out with h | ⟨gy, oy, rfl, hyc⟩
          · rw [h] at hl; simp at hl; omega
          · have a0 := hxc k (by omega)
            have b0 := hyc k (by omega)
            have a1 := (hB.cell (p := ⟨gx, _, none⟩) (cell_lt a0)).trans a0
            have b1 := (hB.cell (p := ⟨gy, _, none⟩) (cell_lt b0)).trans b0
            have g0 := Grow.cell (cell_lt a1) a1
            have g1 := Grow.cell (cell_lt b1) b1
            have gn := Grow.ne wr
            have HDk := HD.out k hlt
            have HDk' : Hid (lAt xs k ≠ lAt ys k → decide (xs = ys) = false) := HDk
            have HS : Hid (lAt xs k = lAt ys k → ∀ i, i < k + 1 → lAt xs i = lAt ys i) := fun e i hi => by
              by_cases h : i < k
              · exact HA.out i h
              · rw [show i = k by omega]; exact e
            clear hxc hyc a0 b0 HDk
            generalize lAt xs k = p at *
            generalize lAt ys k = q at *
            go_wp2
            refine wp_region_grow (by kernel_rfl) (by kernel_rfl) ?_
            repeat (go_big_quiet_step (fail))
            refine wpQuiet_nil ?_
            rintro w6 ⟨⟨_, hb6⟩, rfl⟩
            clear g0 g1 gn
            have hB6 := below_step hB hb6 (Nat.le_refl _)
            by_cases hpq : p = q
            · have e0 : (p != q) = false := by simp [hpq]
              rw [e0]
              have HS' : Hid (∀ i, i < k + 1 → lAt xs i = lAt ys i) := HS.out hpq
              clear HS e0
              go_wp2
              go_roundw
              case rel => exact ⟨k + 1, by omega, by go_num, HS', hB6⟩
              case measure => simp [intOf]; omega
            · have e0 : (p != q) = true := by simp [hpq]
              rw [e0]
              clear e0
              go_wp2
              go_ret
              exact ⟨ret_of (congrArg Value.bool (HDk'.out hpq).symm), hB6⟩
      · have hke : k = N := by omega
        subst hke
        go_wp2
        go_ret
        exact ⟨ret_of (congrArg Value.bool (HE.out HA.out).symm), hB⟩
  · have e0 : decide (xs = ys) = false := by
      have : xs ≠ ys := fun e => hl (by rw [e])
      simpa using this
    rw [e0]
    clear hx hy e0
    generalize xs.length = n at *
    generalize ys.length = m at *
    have e1 : ((n : Int) == (m : Int)) = false := by simp; omega
    go_enter Try.func38, Try.ntmps38
    go_wp2
    go_ret
    exact ⟨rfl, Below.refl _ _⟩
/-- No items. -/
def S0 : Int → List Int := fun _ => []
def V0 : Int → Vl := fun _ => zeV
/-- A forest in a block of its own. -/
abbrev X0 : Hx := ⟨97, []⟩
theorem Tp.fresh {w : World} {d : Option Addr} {B : Nat} {F : Nat → Prop} {mx : Nat} (hb : Blk w B Xh.T (.slice none 0 0 :: .slice none 0 0 :: .pointer d :: Xh.ex).toArray) (hF : F B) (hlt : ∀ k, F k → k < w.heap.size) (hd : Dok w F (fun k => k = B) d mx) : Tp Xh w F B [] [] S0 V0 mx := by
  refine ⟨⟨B, [], d, fun k => k = B, ⟨⟨.slice none 0 0, .slice none 0 0, hb, RowW.empty _ _ _, RowW.empty _ _ _, fun k h => (by cases h), fun k h => (by cases h), fun k h => (by cases h)⟩, rfl, fun k hk => by rw [hk]; exact hb.lt, fun s hs => (by cases hs), fun f hf => (by cases hf), hole2 _⟩, ⟨fun i hi => ?_, fun i hi => ?_, fun i j hj => ?_, fun i _ => rfl⟩, rfl, fun i => ?_, fun k hk => by rw [hk]; exact hF, hd⟩, hlt, ⟨by simp, fun f hf => (by cases hf)⟩, by simp⟩
  · have := (tk_iff.1 hi).2.2; simp at this
  · have := (tk_iff.1 hi).2.2; simp at this
  · cases hj
  · unfold nd V0; split
    · simp [zeN]
    · rfl
set_option maxHeartbeats 400000 in
theorem tnew_any (d : Option Addr) (w : World) : Calls Try.prog 45 #[.pointer d] w fun e w' => e = .returned (.pointer (some ⟨w.heap.size, 0, none⟩)) ∧ w' = w.alloc (.cells #[.slice none 0 0, .slice none 0 0, .pointer d] 97) := by
  go_enter Try.func45, Try.ntmps45
  go_wp2
  go_ret
  exact ⟨rfl, rfl⟩
/-- A forest whose priorities a list draws. -/
theorem made_any (ao : Option Addr) (cap : Nat) (xs : List Int) (w : World) (hk : UAt w ao xs) (hw : Wu xs) (hn : xs.length ≤ 9223372036854775807) :
    Calls Try.prog 8 #[.slice ao xs.length cap] w fun e w' => ∃ B F, e = .returned (.pointer (some ⟨B, 0, none⟩)) ∧ Tp X0 w' F B [] [] S0 V0 0 ∧ (∀ k, F k → w.heap.size ≤ k) ∧ Below w.heap.size w w' := by
  by_cases h : xs.length ≤ 4096
  · have HN := dnew_yes ao xs.length cap xs w rfl hk hw h
    clear hk hw hn h
    go_enter Try.func8, Try.ntmps8
    go_wp2_with fail
    refine HN.mono ?_
    rintro e w1 ⟨D, Dg, rfl, h1, h2, hd, hb⟩
    have HD : Hid (Drw w1 D Dg xs 0) := hd
    have HB : Hid (Below w.heap.size w w1) := hb
    clear HN hd hb
    go_wp2_with fail
    refine (tnew_any _ _).mono ?_
    rintro e w2 ⟨rfl, rfl⟩
    go_wp2
    go_ret
    have hbb := (Below.refl w1.heap.size w1).alloc (Nat.le_refl _) (.cells #[.slice none 0 0, .slice none 0 0, .pointer (some ⟨D, 0, none⟩)] 97)
    have hDl := HD.out.lt
    have hGl := HD.out.gl
    have hs := HB.out.size
    refine ⟨_, fun k => k = w1.heap.size ∨ k = D ∨ k = Dg, rfl, Tp.fresh (Blk.new w1 _ _) (.inl rfl) (fun k hk => ?_) (.inr ⟨D, Dg, xs, 0, rfl, HD.out.below hbb, Nat.le_refl _, .inr (.inl rfl), .inr (.inr rfl), by omega, by omega⟩), fun k hk => ?_, HB.out.trans (hbb.mono hs)⟩
    · simp; omega
    · omega
  · have HN := dnew_no ao xs.length cap w (by omega) hn
    clear hk hw h
    go_enter Try.func8, Try.ntmps8
    go_wp2_with fail
    refine HN.mono ?_
    rintro e w1 ⟨rfl, rfl⟩
    clear HN
    go_wp2_with fail
    refine (tnew_any _ _).mono ?_
    rintro e w2 ⟨rfl, rfl⟩
    go_wp2
    go_ret
    exact ⟨_, fun k => k = w1.heap.size, rfl, Tp.fresh (Blk.new w1 _ _) rfl (fun k hk => by subst hk; simp) (.inl rfl), fun k hk => by omega, (Below.refl _ _).alloc (Nat.le_refl _) _⟩
/-- A number of 32 bits, or 0. -/
def numI (i : Int) : Int := if i < -2147483648 ∨ i > 2147483647 then 0 else i
theorem numI_bd (i : Int) : -2147483648 ≤ numI i ∧ numI i ≤ 2147483647 := by unfold numI; split <;> omega
theorem number6_any (i : Int) (w : World) : Calls Try.prog 46 #[.int .i64 i] w fun e w' => e = .returned (.int .i32 (numI i)) ∧ w' = w := by
  by_cases h : i < -2147483648
  · rw [show numI i = 0 from if_pos (.inl h)]
    go_enter Try.func46, Try.ntmps46
    go_wp2
    go_ret
    exact ⟨rfl, rfl⟩
  · by_cases h2 : i > 2147483647
    · rw [show numI i = 0 from if_pos (.inr h2)]
      have h' : decide (i < -2147483648) = false := by simpa using h
      go_enter Try.func46, Try.ntmps46
      go_wp2
      go_ret
      exact ⟨rfl, rfl⟩
    · rw [show numI i = i from if_neg (by omega)]
      have h' : decide (i < -2147483648) = false := by simpa using h
      have h2' : decide (2147483647 < i) = false := by simpa using h2
      have hlo : -2147483648 ≤ i := by omega
      have hhi : i ≤ 2147483647 := by omega
      go_enter Try.func46, Try.ntmps46
      go_wp2
      go_ret
      exact ⟨rfl, rfl⟩
end Go.Proofs.Ytkpfonfcgoocfaa
