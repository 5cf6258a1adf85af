/- Layer 9's statements: a bag carried through a walk; wakes. -/
import Derived.Test.YthdmmjboaoonbabEdgesLaw
namespace Go.Proofs.Ythdmmjboaoonbab
open Go.RowKit
set_option linter.unusedVariables false

/-- What Put answers, and what it leaves; what Take leaves. -/
def putE (s : Bg) (v l e : Int) : Int := if l < 0 ∨ 63 < l ∨ e < 1 then 1 else if e ∈ s.L (v, l) then 5 else 0
def putB (s : Bg) (v l e : Int) : Bg := if putE s v l e = 0 then s.put (v, l) e else s
def takeB (s : Bg) (v l e : Int) : Bg := if e ∈ s.L (v, l) then s.take (v, l) e else s
/-- A bag in block B, all of it made since w0. -/
def BgS (w0 W : World) (B : Nat) (s : Bg) (k : Nat) : Prop := ∃ F, BgM W F B s k ∧ (∀ q, F q → w0.heap.size ≤ q) ∧ Below w0.heap.size w0 W
section
variable {w0 W W' : World} {B : Nat} {s : Bg} {k : Nat}
theorem BgS.ok (h : BgS w0 W B s k) : s.Ok k := let ⟨_, h1, _⟩ := h; h1.1
theorem BgS.bl (h : BgS w0 W B s k) : Below w0.heap.size w0 W := let ⟨_, _, _, h1⟩ := h; h1
theorem BgS.below (h : BgS w0 W B s k) (hb : Below W.heap.size W W') : BgS w0 W' B s k := by
  obtain ⟨F, h1, h2, h3⟩ := h
  exact ⟨F, h1.below hb, h2, h3.trans (hb.mono h3.size)⟩
theorem BgS.step {F F' : Nat → Prop} {s' : Bg} {k' : Nat} (h2 : ∀ q, F q → w0.heap.size ≤ q) (h3 : Below w0.heap.size w0 W) (h : BgM W' F' B s' k') (hs : Step F F' W W') : BgS w0 W' B s' k' :=
  ⟨F', h, fun q hq => (hs.ext q hq).elim (h2 q) (fun h => Nat.le_trans h3.size h), h3.trans (hs.below h3.size h2)⟩
theorem BgS.mono (h : BgS w0 W B s k) {k' : Nat} (hk : k ≤ k') : BgS w0 W B s k' := by
  obtain ⟨F, h1, h2, h3⟩ := h
  exact ⟨F, h1.mono hk, h2, h3⟩
theorem BgS.from (h : BgS w0 W B s k) : ∃ F, BgM W F B s k ∧ (∀ q, F q → w0.heap.size ≤ q) ∧ Below w0.heap.size w0 W := h
theorem snew_any (hb : Below w0.heap.size w0 W) : Calls Try.prog 6 #[] W fun x w' => ∃ B, x = .returned (.pointer (some ⟨B, 0, none⟩)) ∧ BgS w0 w' B bg0 0 := by
  refine (bnew_any W).mono ?_
  rintro x w' ⟨rfl, h1, h2⟩
  exact ⟨_, rfl, _, h1, fun q hq => by rw [hq]; exact hb.size, hb.trans (h2.mono hb.size)⟩
theorem sput_any (h : BgS w0 W B s k) (hk : k ≤ 100000) {v l e : Int} (ha : okT (v, l, e)) : Calls Try.prog 7 #[.pointer (some ⟨B, 0, none⟩), .int .i64 v, .int .i64 l, .int .i64 e] W fun x w' => x = .returned (.int .i64 (putE s v l e)) ∧ BgS w0 w' B (putB s v l e) (k + 1) := by
  obtain ⟨F, h1, h2, h3⟩ := h
  by_cases hc : l < 0 ∨ 63 < l ∨ e < 1
  · have e1 : putE s v l e = 1 := if_pos hc
    rw [show putB s v l e = s from if_neg (by rw [e1]; decide), e1]
    refine (bput_arg (some ⟨B, 0, none⟩) (by simp) hc).mono ?_
    rintro x w' ⟨rfl, rfl⟩
    exact ⟨rfl, _, h1.mono (by omega), h2, h3⟩
  · by_cases hm : e ∈ s.L (v, l)
    · have e1 : putE s v l e = 5 := by unfold putE; rw [if_neg hc, if_pos hm]
      rw [show putB s v l e = s from if_neg (by rw [e1]; decide), e1]
      refine (bput_there h1 ha (by omega) (by omega) (by omega) hm).mono ?_
      rintro x w' ⟨rfl, rfl⟩
      exact ⟨rfl, _, h1.mono (by omega), h2, h3⟩
    · have e1 : putE s v l e = 0 := by unfold putE; rw [if_neg hc, if_neg hm]
      rw [show putB s v l e = s.put (v, l) e from if_pos e1, e1]
      refine (bput_ok h1 hk ha (by omega) (by omega) (by omega) hm).mono ?_
      rintro x w' ⟨rfl, F', g1, g2⟩
      exact ⟨rfl, BgS.step h2 h3 g1 g2⟩
theorem stake_any (h : BgS w0 W B s k) (hk : k ≤ 100000) {v l e : Int} (ha : okT (v, l, e)) : Calls Try.prog 9 #[.pointer (some ⟨B, 0, none⟩), .int .i64 v, .int .i64 l, .int .i64 e] W fun x w' => x = .returned (.bool (decide (e ∈ s.L (v, l)))) ∧ BgS w0 w' B (takeB s v l e) k := by
  obtain ⟨F, h1, h2, h3⟩ := h
  by_cases hm : e ∈ s.L (v, l)
  · rw [decide_eq_true hm, show takeB s v l e = s.take (v, l) e from if_pos hm]
    refine (btake_yes h1 hk ha hm).mono ?_
    rintro x w' ⟨rfl, g1, g2⟩
    exact ⟨rfl, BgS.step h2 h3 g1 g2⟩
  · rw [decide_eq_false hm, show takeB s v l e = s from if_neg hm]
    refine (btake_no h1 ha hm).mono ?_
    rintro x w' ⟨rfl, rfl⟩
    exact ⟨rfl, _, h1, h2, h3⟩
theorem shas_any (h : BgS w0 W B s k) {v l e : Int} (ha : okT (v, l, e)) : Calls Try.prog 14 #[.pointer (some ⟨B, 0, none⟩), .int .i64 v, .int .i64 l, .int .i64 e] W fun x w' => x = .returned (.bool (decide (e ∈ s.L (v, l)))) ∧ w' = W := let ⟨_, h1, _⟩ := h; bhas_any h1 ha
theorem smany_any (h : BgS w0 W B s k) {v l : Int} (ha : okP (v, l)) : Calls Try.prog 11 #[.pointer (some ⟨B, 0, none⟩), .int .i64 v, .int .i64 l] W fun x w' => x = .returned (.int .i64 (s.L (v, l)).length) ∧ w' = W := let ⟨_, h1, _⟩ := h; bmany_any h1 ha
theorem slen_any (h : BgS w0 W B s k) : Calls Try.prog 12 #[.pointer (some ⟨B, 0, none⟩)] W fun x w' => x = .returned (.int .i64 s.n) ∧ w' = W := let ⟨_, h1, _⟩ := h; blen_any h1
theorem sof_any (h : BgS w0 W B s k) (hk : k ≤ 100000) {v l most : Int} (ha : okP (v, l)) (hm2 : most ≤ 9223372036854775807) :
    Calls Try.prog 13 #[.pointer (some ⟨B, 0, none⟩), .int .i64 v, .int .i64 l, .int .i64 most] W fun e w' => ∃ ao cap, e = .returned (.slice ao (firstN (s.L (v, l)) most).length cap) ∧ NAt .i64 w' ao (firstN (s.L (v, l)) most) ∧ BgS w0 w' B s k := by
  obtain ⟨F, h1, h2, h3⟩ := h
  refine (of_any h1 hk ha hm2).mono ?_
  rintro e w' ⟨ao, cap, rfl, g1, g2⟩
  exact ⟨ao, cap, rfl, g1, BgS.below ⟨F, h1, h2, h3⟩ g2⟩
/-- A slice of constants. -/
theorem nat_new (W : World) (xs : List Int) : NAt .i64 (W.alloc (.cells (i6s xs).toArray 3)) (some ⟨W.heap.size, 0, none⟩) xs := by
  refine .inr ⟨_, 0, rfl, by simp, fun i hi => ?_⟩
  rw [Nat.zero_add]
  exact (Blk.new W 3 (i6s xs).toArray).at (by simpa using i6s_at hi)
theorem sput_to (h : BgS w0 W B s k) (hk : k ≤ 100000) {v l e : Int} (ha : okT (v, l, e)) (c : Int) (s' : Bg) (hc : putE s v l e = c) (hs : putB s v l e = s') : Calls Try.prog 7 #[.pointer (some ⟨B, 0, none⟩), .int .i64 v, .int .i64 l, .int .i64 e] W fun x w' => x = .returned (.int .i64 c) ∧ BgS w0 w' B s' (k + 1) := by
  subst hc hs
  exact sput_any h hk ha
theorem stake_to (h : BgS w0 W B s k) (hk : k ≤ 100000) {v l e : Int} (ha : okT (v, l, e)) (c : Bool) (s' : Bg) (hc : decide (e ∈ s.L (v, l)) = c) (hs : takeB s v l e = s') : Calls Try.prog 9 #[.pointer (some ⟨B, 0, none⟩), .int .i64 v, .int .i64 l, .int .i64 e] W fun x w' => x = .returned (.bool c) ∧ BgS w0 w' B s' k := by
  subst hc hs
  exact stake_any h hk ha
theorem shas_to (h : BgS w0 W B s k) {v l e : Int} (ha : okT (v, l, e)) (c : Bool) (hc : decide (e ∈ s.L (v, l)) = c) : Calls Try.prog 14 #[.pointer (some ⟨B, 0, none⟩), .int .i64 v, .int .i64 l, .int .i64 e] W fun x w' => x = .returned (.bool c) ∧ w' = W := by
  subst hc
  exact shas_any h ha
theorem smany_to (h : BgS w0 W B s k) {v l : Int} (ha : okP (v, l)) (n : Nat) (hn : (s.L (v, l)).length = n) : Calls Try.prog 11 #[.pointer (some ⟨B, 0, none⟩), .int .i64 v, .int .i64 l] W fun x w' => x = .returned (.int .i64 n) ∧ w' = W := by
  subst hn
  exact smany_any h ha
theorem slen_to (h : BgS w0 W B s k) (n : Nat) (hn : s.n = n) : Calls Try.prog 12 #[.pointer (some ⟨B, 0, none⟩)] W fun x w' => x = .returned (.int .i64 n) ∧ w' = W := by
  subst hn
  exact slen_any h
theorem sof_to (h : BgS w0 W B s k) (hk : k ≤ 100000) {v l most : Int} (ha : okP (v, l)) (hm2 : most ≤ 9223372036854775807) (R : List Int) (n : Nat) (hR : firstN (s.L (v, l)) most = R) (hn : R.length = n) :
    Calls Try.prog 13 #[.pointer (some ⟨B, 0, none⟩), .int .i64 v, .int .i64 l, .int .i64 most] W fun e w' => ∃ ao cap, e = .returned (.slice ao n cap) ∧ NAt .i64 w' ao R ∧ BgS w0 w' B s k := by
  subst hn hR
  exact sof_any h hk ha hm2
/-- Of two slices the same numbers. -/
theorem same9_to {w : World} {ax ay : Option Addr} {n m cx cy : Nat} (xs ys : List Int) (hx : NAt .i64 w ax xs) (hy : NAt .i64 w ay ys) (hn : xs.length = n) (hm : ys.length = m) (h1 : n ≤ 9000000000000000000) (h2 : m ≤ 9000000000000000000) (c : Bool) (hc : decide (xs = ys) = c) :
    Calls Try.prog 10 #[.slice ax n cx, .slice ay m cy] w fun e w' => e = .returned (.bool c) ∧ Below w.heap.size w w' := by
  subst hn hm hc
  exact same9_any hx hy h1 h2
def wk1 : Bg := putB bg0 1 0 5
def wk2 : Bg := putB wk1 1 0 6
def wk3 : Bg := putB wk2 1 0 7
def wk4 : Bg := putB wk3 1 0 5
def wk5 : Bg := takeB wk4 1 0 5
set_option maxRecDepth 100000 in
set_option maxHeartbeats 1600000 in
theorem wakes9_any (w : World) : Calls Try.prog 5 #[] w fun e w' => e = .returned (.bool true) ∧ Below w.heap.size w w' := by
  go_enter Try.func5, Try.ntmps5
  go_wp2_with fail
  refine (snew_any (Below.refl _ _)).mono ?_
  rintro x w1 ⟨B, rfl, h1⟩
  have S1 := hid_mk h1
  clear h1
  go_wp2_with fail
  refine (sput_to S1.out (by omega) ⟨by decide, by decide, by decide⟩ 0 wk1 (by decide +kernel) rfl).mono ?_
  rintro x w2 ⟨rfl, h2⟩
  have S2 := hid_mk h2
  clear h2 S1
  go_wp2_with fail
  refine (sput_to S2.out (by omega) ⟨by decide, by decide, by decide⟩ 0 wk2 (by decide +kernel) rfl).mono ?_
  rintro x w3 ⟨rfl, h2⟩
  have S3 := hid_mk h2
  clear h2 S2
  go_wp2_with fail
  refine (sput_to S3.out (by omega) ⟨by decide, by decide, by decide⟩ 0 wk3 (by decide +kernel) rfl).mono ?_
  rintro x w4 ⟨rfl, h2⟩
  have S4 := hid_mk h2
  clear h2 S3
  go_wp2_with fail
  refine (sput_to S4.out (by omega) ⟨by decide, by decide, by decide⟩ 5 wk4 (by decide +kernel) rfl).mono ?_
  rintro x w5 ⟨rfl, h2⟩
  have S5 := hid_mk h2
  clear h2 S4
  go_wp2_with fail
  refine (stake_to S5.out (by omega) ⟨by decide, by decide, by decide⟩ true wk5 (by decide +kernel) rfl).mono ?_
  rintro x w6 ⟨rfl, h2⟩
  have S6 := hid_mk h2
  clear h2 S5
  go_wp2_with fail
  refine (sof_to S6.out (by omega) ⟨by decide, by decide⟩ (by decide) [7, 6] 2 (by decide +kernel) rfl).mono ?_
  rintro x w7 ⟨ao, cap, rfl, hn, h2⟩
  have HN := hid_mk hn
  have S7 := hid_mk h2
  clear h2 hn S6
  go_wp2_with fail
  have hbn : Below w7.heap.size w7 (w7.alloc (.cells #[.int .i64 7, .int .i64 6] 3)) := (Below.refl _ _).alloc (Nat.le_refl _) _
  refine (same9_to [7, 6] [7, 6] (HN.out.below hbn) (nat_new w7 [7, 6]) rfl rfl (by decide) (by decide) true (by decide)).mono ?_
  rintro x w8 ⟨rfl, h8⟩
  have S8 := hid_mk ((S7.out.below hbn).below h8)
  clear hbn h8 HN S7
  go_wp2_with fail
  refine (slen_to S8.out 2 (by decide +kernel)).mono ?_
  rintro x w9 ⟨rfl, rfl⟩
  go_wp2_with fail
  refine (shas_to S8.out ⟨by decide, by decide, by decide⟩ true (by decide +kernel)).mono ?_
  rintro x w10 ⟨rfl, rfl⟩
  go_wp2
  go_ret
  exact ⟨rfl, S8.out.bl⟩
end
end Go.Proofs.Ythdmmjboaoonbab
