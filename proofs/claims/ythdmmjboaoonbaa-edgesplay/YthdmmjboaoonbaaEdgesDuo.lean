/- Layer 9's statements: a bag and the document's list, carried together through a round. -/
import Derived.Test.YthdmmjboaoonbaaEdgesRef
namespace Go.Proofs.Ythdmmjboaoonbaa
open Go.RowKit
set_option linter.unusedVariables false

def putW (s : Bg) (ws : List On) (v l e : Int) : List On := if putE s v l e = 0 then ws ++ [(v, l, e)] else ws
def takeX (s : Bg) (ws : List On) (v l e : Int) : List On := if e ∈ s.L (v, l) then takeW ws (v, l, e) else ws
theorem putE_in {s : Bg} {v l e : Int} (h : putE s v l e = 0) : 0 ≤ l ∧ l ≤ 63 ∧ 1 ≤ e ∧ e ∉ s.L (v, l) := by
  unfold putE at h
  split at h
  · cases h
  · split at h
    · cases h
    · rename_i h1 h2; exact ⟨by omega, by omega, by omega, h2⟩
theorem Rel9.putB {s : Bg} {ws : List On} (h : Rel9 s ws) (v l e : Int) : Rel9 (putB s v l e) (putW s ws v l e) := by
  unfold Go.Proofs.Ythdmmjboaoonbaa.putB putW
  by_cases h0 : putE s v l e = 0
  · rw [if_pos h0, if_pos h0]; exact h.put (putE_in h0).2.2.2
  · rw [if_neg h0, if_neg h0]; exact h
theorem Rel9.takeB {s : Bg} {ws : List On} (h : Rel9 s ws) (v l e : Int) : Rel9 (takeB s v l e) (takeX s ws v l e) := by
  unfold Go.Proofs.Ythdmmjboaoonbaa.takeB takeX
  by_cases h0 : e ∈ s.L (v, l)
  · rw [if_pos h0, if_pos h0]; exact h.take h0
  · rw [if_neg h0, if_neg h0]; exact h
theorem putB_n {s : Bg} {v l e : Int} : (putB s v l e).n ≤ s.n + 1 := by
  unfold putB; split
  · simp [Bg.put]
  · omega
theorem takeB_n {s : Bg} {v l e : Int} : (takeB s v l e).n ≤ s.n := by
  unfold takeB; split
  · simp [Bg.take]
  · omega
/-- Behind X, whose bag lay in the blocks of FX. -/
structure Rnd (X : World) (FX : Nat → Prop) (W : World) (B : Nat) (s : Bg) (k : Nat) (v : Value) (ws : List On) : Prop where
  ex : ∃ F, BgM W F B s k ∧ Step FX F X W ∧ ∀ q, v.ownBlock = some q → ¬ F q
  row : R9 W v ws
section
variable {X W W' : World} {FX : Nat → Prop} {B : Nat} {s : Bg} {k : Nat} {u : Value} {ws : List On}
theorem Rnd.below (h : Rnd X FX W B s k u ws) (hb : Below W.heap.size W W') : Rnd X FX W' B s k u ws := by
  obtain ⟨F, h1, h2, h3⟩ := h.ex
  exact ⟨⟨F, h1.below hb, h2.trans (Step.of_below hb), h3⟩, h.row.below hb⟩
theorem Rnd.mono (h : Rnd X FX W B s k u ws) {k' : Nat} (hk : k ≤ k') : Rnd X FX W B s k' u ws := by
  obtain ⟨F, h1, h2, h3⟩ := h.ex
  exact ⟨⟨F, h1.mono hk, h2, h3⟩, h.row⟩
theorem Rnd.cell (h : Rnd X FX W B s k u ws) {q : Nat} (hq : q < X.heap.size) (hn : ¬ FX q) (o : Nat) : W.cell? ⟨q, o, none⟩ = X.cell? ⟨q, o, none⟩ := by
  obtain ⟨F, h1, h2, h3⟩ := h.ex
  exact World.cell?_of_block (w := X) (h2.only.block q hq hn)
theorem Rnd.size (h : Rnd X FX W B s k u ws) : X.heap.size ≤ W.heap.size := let ⟨_, _, h2, _⟩ := h.ex; h2.size
theorem Rnd.ok (h : Rnd X FX W B s k u ws) : s.Ok k := let ⟨_, h1, _⟩ := h.ex; h1.1
theorem Rnd.put (h : Rnd X FX W B s k u ws) (hk : k ≤ 100000) {v l e : Int} (ha : okT (v, l, e)) : Calls Try.prog 19 #[.pointer (some ⟨B, 0, none⟩), .int .i64 v, .int .i64 l, .int .i64 e] W fun x w' => x = .returned (.int .i64 (putE s v l e)) ∧ Rnd X FX w' B (putB s v l e) (k + 1) u ws := by
  obtain ⟨F, h1, h2, h3⟩ := h.ex
  have stay : Rnd X FX W B s (k + 1) u ws := ⟨⟨F, h1.mono (by omega), h2, h3⟩, h.row⟩
  by_cases hc : l < 0 ∨ 63 < l ∨ e < 1
  · have e1 : putE s v l e = 1 := if_pos hc
    rw [show putB s v l e = s from if_neg (by rw [e1]; decide), e1]
    refine (bput_arg (some ⟨B, 0, none⟩) (by simp) hc).mono ?_
    rintro x w' ⟨rfl, rfl⟩
    exact ⟨rfl, stay⟩
  · by_cases hm : e ∈ s.L (v, l)
    · have e1 : putE s v l e = 5 := by unfold putE; rw [if_neg hc, if_pos hm]
      rw [show putB s v l e = s from if_neg (by rw [e1]; decide), e1]
      refine (bput_there h1 ha (by omega) (by omega) (by omega) hm).mono ?_
      rintro x w' ⟨rfl, rfl⟩
      exact ⟨rfl, stay⟩
    · have e1 : putE s v l e = 0 := by unfold putE; rw [if_neg hc, if_neg hm]
      rw [show putB s v l e = s.put (v, l) e from if_pos e1, e1]
      refine (bput_ok h1 hk ha (by omega) (by omega) (by omega) hm).mono ?_
      rintro x w' ⟨rfl, F', g1, g2⟩
      refine ⟨rfl, ⟨F', g1, h2.trans g2, fun q hq hf => ?_⟩, RowW.kept h.row fun q hq => g2.only.block q (RowW.lt h.row hq) (h3 q hq)⟩
      rcases g2.ext q hf with h' | h'
      · exact h3 q hq h'
      · have := RowW.lt h.row hq; omega
theorem Rnd.take (h : Rnd X FX W B s k u ws) (hk : k ≤ 100000) {v l e : Int} (ha : okT (v, l, e)) : Calls Try.prog 21 #[.pointer (some ⟨B, 0, none⟩), .int .i64 v, .int .i64 l, .int .i64 e] W fun x w' => x = .returned (.bool (decide (e ∈ s.L (v, l)))) ∧ Rnd X FX w' B (takeB s v l e) k u ws := by
  obtain ⟨F, h1, h2, h3⟩ := h.ex
  by_cases hm : e ∈ s.L (v, l)
  · rw [decide_eq_true hm, show takeB s v l e = s.take (v, l) e from if_pos hm]
    refine (btake_yes h1 hk ha hm).mono ?_
    rintro x w' ⟨rfl, g1, g2⟩
    exact ⟨rfl, ⟨F, g1, h2.trans g2, h3⟩, RowW.kept h.row fun q hq => g2.only.block q (RowW.lt h.row hq) (h3 q hq)⟩
  · rw [decide_eq_false hm, show takeB s v l e = s from if_neg hm]
    refine (btake_no h1 ha hm).mono ?_
    rintro x w' ⟨rfl, rfl⟩
    exact ⟨rfl, h⟩
theorem Rnd.has (h : Rnd X FX W B s k u ws) {v l e : Int} (ha : okT (v, l, e)) : Calls Try.prog 16 #[.pointer (some ⟨B, 0, none⟩), .int .i64 v, .int .i64 l, .int .i64 e] W fun x w' => x = .returned (.bool (decide (e ∈ s.L (v, l)))) ∧ w' = W := let ⟨_, h1, _⟩ := h.ex; bhas_any h1 ha
theorem Rnd.many (h : Rnd X FX W B s k u ws) {v l : Int} (ha : okP (v, l)) : Calls Try.prog 25 #[.pointer (some ⟨B, 0, none⟩), .int .i64 v, .int .i64 l] W fun x w' => x = .returned (.int .i64 (s.L (v, l)).length) ∧ w' = W := let ⟨_, h1, _⟩ := h.ex; bmany_any h1 ha
theorem Rnd.len (h : Rnd X FX W B s k u ws) : Calls Try.prog 26 #[.pointer (some ⟨B, 0, none⟩)] W fun x w' => x = .returned (.int .i64 s.n) ∧ w' = W := let ⟨_, h1, _⟩ := h.ex; blen_any h1
theorem Rnd.of (h : Rnd X FX W B s k u ws) (hk : k ≤ 100000) {v l most : Int} (ha : okP (v, l)) (hm2 : most ≤ 9223372036854775807) :
    Calls Try.prog 24 #[.pointer (some ⟨B, 0, none⟩), .int .i64 v, .int .i64 l, .int .i64 most] W fun e w' => ∃ ao cap, e = .returned (.slice ao (firstN (s.L (v, l)) most).length cap) ∧ NAt .i64 w' ao (firstN (s.L (v, l)) most) ∧ Below W.heap.size W w' := let ⟨_, h1, _⟩ := h.ex; of_any h1 hk ha hm2
/-- The row is another one, made since. -/
theorem Rnd.row' (h : Rnd X FX W B s k u ws) (hb : Below W.heap.size W W') {u' : Value} {ws' : List On} (hr : R9 W' u' ws') (hn : ∀ q, u'.ownBlock = some q → W.heap.size ≤ q) : Rnd X FX W' B s k u' ws' := by
  obtain ⟨F, h1, h2, h3⟩ := h.ex
  exact ⟨⟨F, h1.below hb, h2.trans (Step.of_below hb), fun q hq hf => by have := hn q hq; have := h1.lt q hf; omega⟩, hr⟩
theorem Rnd.rput (h : Rnd X FX W B s k u ws) (hR : Rel9 s ws) (hl : ws.length ≤ 10000) (v l e : Int) : Calls Try.prog 18 #[u, .agg #[.int .i64 v, .int .i64 l, .int .i64 e]] W fun r w' => ∃ ao cap, r = .returned (.tuple #[.slice ao (putW s ws v l e).length cap, .int .i64 (putE s v l e)]) ∧ Rnd X FX w' B s k (.slice ao (putW s ws v l e).length cap) (putW s ws v l e) := by
  obtain ⟨ao, cap, e0⟩ := RowW.form h.row
  by_cases hc : l < 0 ∨ 63 < l ∨ e < 1
  · have e1 : putE s v l e = 1 := if_pos hc
    rw [show putW s ws v l e = ws from if_neg (by rw [e1]; decide), e1]
    refine (rput9_arg u hc W).mono ?_
    rintro r w' ⟨rfl, hb⟩
    exact ⟨ao, cap, by rw [e0], by rw [← e0]; exact h.below hb⟩
  · by_cases hm : e ∈ s.L (v, l)
    · have e1 : putE s v l e = 5 := by unfold putE; rw [if_neg hc, if_pos hm]
      rw [show putW s ws v l e = ws from if_neg (by rw [e1]; decide), e1]
      refine (rput9_there h.row hl (by omega) (by omega) (by omega) (hR.mem.1 hm)).mono ?_
      rintro r w' ⟨rfl, hb⟩
      exact ⟨ao, cap, by rw [e0], by rw [← e0]; exact h.below hb⟩
    · have e1 : putE s v l e = 0 := by unfold putE; rw [if_neg hc, if_neg hm]
      rw [show putW s ws v l e = ws ++ [(v, l, e)] from if_pos e1, e1, show (ws ++ [(v, l, e)]).length = ws.length + 1 by simp]
      refine (rput9_ok h.row hl (by omega) (by omega) (by omega) (fun hx => hm (hR.mem.2 hx))).mono ?_
      rintro r w' ⟨ao2, cap2, rfl, g1, g2, hb⟩
      refine ⟨ao2, cap2, rfl, h.row' hb ?_ g2⟩
      unfold R9
      rw [show (ws ++ [(v, l, e)]).length = ws.length + 1 by simp]
      exact g1
theorem Rnd.rtake (h : Rnd X FX W B s k u ws) (hR : Rel9 s ws) (hl : ws.length ≤ 10000) (v l e : Int) : Calls Try.prog 20 #[u, .agg #[.int .i64 v, .int .i64 l, .int .i64 e]] W fun r w' => ∃ ao cap, r = .returned (.tuple #[.slice ao (takeX s ws v l e).length cap, .bool (decide (e ∈ s.L (v, l)))]) ∧ Rnd X FX w' B s k (.slice ao (takeX s ws v l e).length cap) (takeX s ws v l e) := by
  obtain ⟨ao, cap, e0⟩ := RowW.form h.row
  by_cases hm : e ∈ s.L (v, l)
  · have hlen : (takeW ws (v, l, e)).length = ws.length - 1 := by rw [← (hR.take hm).n, ← hR.n]; rfl
    rw [decide_eq_true hm, show takeX s ws v l e = takeW ws (v, l, e) from if_pos hm, hlen]
    refine (rtake9_yes h.row hl (hR.mem.1 hm)).mono ?_
    rintro r w' ⟨ao2, cap2, rfl, g1, g2, hb⟩
    refine ⟨ao2, cap2, rfl, h.row' hb ?_ g2⟩
    unfold R9
    rw [hlen]
    exact g1
  · rw [decide_eq_false hm, show takeX s ws v l e = ws from if_neg hm]
    refine (rtake9_no h.row hl (fun hx => hm (hR.mem.2 hx))).mono ?_
    rintro r w' ⟨rfl, hb⟩
    exact ⟨ao, cap, by rw [e0], by rw [← e0]; exact h.below hb⟩
theorem Rnd.rat (h : Rnd X FX W B s k u ws) (hl : ws.length ≤ 10000) (v l e : Int) : Calls Try.prog 17 #[u, .agg #[.int .i64 v, .int .i64 l, .int .i64 e]] W fun r w' => r = .returned (.int .i64 (atW ws (v, l, e))) ∧ Below W.heap.size W w' := rat9_any h.row hl v l e
theorem Rnd.rof (h : Rnd X FX W B s k u ws) (hl : ws.length ≤ 10000) (v l : Int) : Calls Try.prog 22 #[u, .int .i64 v, .int .i64 l] W fun r w' => ∃ ao cap, r = .returned (.slice ao (ofW ws (v, l)).length cap) ∧ NAt .i64 w' ao (ofW ws (v, l)) ∧ Below W.heap.size W w' := rof9_any h.row hl v l
end
/-- Between two rounds. -/
def Duo9 (w0 W : World) (B : Nat) (s : Bg) (k : Nat) (u : Value) (ws : List On) : Prop := ∃ F, BgM W F B s k ∧ R9 W u ws ∧ (∀ q, u.ownBlock = some q → ¬ F q) ∧ (∀ q, F q → w0.heap.size ≤ q) ∧ Below w0.heap.size w0 W
section
variable {w0 W X : World} {B : Nat} {s : Bg} {k : Nat} {u : Value} {ws : List On}
theorem Duo9.start (h : BgS w0 W B bg0 0) : Duo9 w0 W B bg0 0 (.slice none 0 0) [] := by
  obtain ⟨F, h1, h2, h3⟩ := h
  exact ⟨F, h1, R9.nil W, fun q hq => (by cases hq), h2, h3⟩
theorem Duo9.bl (h : Duo9 w0 W B s k u ws) : Below w0.heap.size w0 W := let ⟨_, _, _, _, _, h⟩ := h; h
/-- A round begins, with new blocks laid. -/
theorem Duo9.round (h : Duo9 w0 W B s k u ws) (hb : Below W.heap.size W X) : ∃ FX, Rnd X FX X B s k u ws ∧ (∀ q, FX q → q < W.heap.size) ∧ ∀ X' W' s' k' u' ws', X' = X → Rnd X' FX W' B s' k' u' ws' → Duo9 w0 W' B s' k' u' ws' := by
  obtain ⟨F, h1, h2, h3, h4, h5⟩ := h
  refine ⟨F, ⟨⟨F, h1.below hb, Step.refl F X, h3⟩, h2.below hb⟩, h1.lt, ?_⟩
  rintro X' W' s' k' u' ws' rfl hr
  obtain ⟨F', g1, g2, g3⟩ := hr.ex
  have hX : Below w0.heap.size w0 X' := h5.trans (hb.mono h5.size)
  exact ⟨F', g1, hr.row, g3, fun q hq => (g2.ext q hq).elim (h4 q) (fun h => Nat.le_trans hX.size h), hX.trans (g2.below hX.size h4)⟩
end
end Go.Proofs.Ythdmmjboaoonbaa
