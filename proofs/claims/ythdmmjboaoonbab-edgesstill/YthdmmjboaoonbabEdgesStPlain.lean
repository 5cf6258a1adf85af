/- Layer 9's statements: EdgesStill: the bag, the list that grows and what is looked at, while a walk's rounds run. -/
import Derived.Test.YthdmmjboaoonbabEdgesIter
import Derived.Test.YthdmmjboaoonbabEdgesActs
namespace Go.Proofs.Ythdmmjboaoonbab
open Go.RowKit
set_option linter.unusedVariables false

/-- The blocks that a bag lies in, and no others. -/
def Ft (B b c : Nat) (V : Int × Int → Value) : Nat → Prop := fun j => j = B ∨ j = b ∨ j = c ∨ ∃ a, (V a).ownBlock = some j
section
variable {b c B k : Nat} {V : Int × Int → Value} {W : World} {F : Nat → Prop} {s : Bg}
theorem BgX.sub (h : BgX b c V W F B s k) {j : Nat} (hj : Ft B b c V j) : F j := by
  rcases hj with rfl | rfl | rfl | ⟨a, ha⟩
  · exact h.fb
  · exact h.f1
  · exact h.f2
  · exact (h.row a).2 j ha
theorem BgX.tight (h : BgX b c V W F B s k) : BgX b c V W (Ft B b c V) B s k :=
  ⟨h.blk, h.lists, h.places, fun a => ⟨(h.row a).1, fun g hg => .inr (.inr (.inr ⟨a, hg⟩))⟩, h.nil, h.apart, h.bc, .inl rfl, .inr (.inl rfl), .inr (.inr (.inl rfl)), fun g hg => h.lt g (h.sub hg)⟩
end
abbrev p31 : Int × Int := (3, 1)
/-- What holds between the rounds: w0 the world at the function's start, w1 where the walk begins, Z how great the memory was at the first round; gb: the box of the list that grows. -/
structure Rs (w0 w1 : World) (G : Nat → Prop) (gb Z B b c : Nat) (L : List Int) (k : Nat) (pre : List Int) (A : World) : Prop where
  ex : ∃ (s : Bg) (u : Value), s.Ok k ∧ s.n = (s.L p31).length ∧ Blk A gb 22 #[u] ∧ RowW A 3 1 u pre.length (i6s pre) ∧ (∀ q, u.ownBlock = some q → Z ≤ q) ∧
    ((L = [] ∧ s = bg0 ∧ Blk A B 43 #[.map none, .map none]) ∨
      ∃ V, BgX b c V A (Ft B b c V) B s k ∧ (b < w1.heap.size ∧ c < w1.heap.size) ∧ ∀ j, Ft B b c V j → (j < w1.heap.size ∨ Z ≤ j) ∧ ¬ G j ∧ j ≠ gb ∧ w0.heap.size ≤ j ∧ u.ownBlock ≠ some j)
  kept : ∀ j, G j → A.heap[j]? = w1.heap[j]?
  gl : ∀ j, G j → j < w1.heap.size
  gg : gb < w1.heap.size ∧ w0.heap.size ≤ gb ∧ ¬ G gb
  sz : w1.heap.size ≤ A.heap.size
  s0 : w0.heap.size ≤ w1.heap.size
  bl : Below w0.heap.size w0 A
section
variable {w0 w1 A A' : World} {G : Nat → Prop} {gb Z B b c k : Nat} {L pre : List Int}
theorem Rs.own (w0 w1 : World) (G : Nat → Prop) (gb Z B b c : Nat) (L : List Int) (k : List Int → Nat) : OwnFrom w1.heap.size (fun pre A => Rs w0 w1 G gb Z B b c L (k pre) pre A) := fun pre A A' row h hg hr => by
  have hr2 : ∀ r, row = some r → ∃ o : Obj, A.heap[r]? = some o ∧ o.isCells = false := fun r e => (hr r e).2
  obtain ⟨s, u, h1, h2, h3, h4, h5, h6⟩ := h.ex
  have hs0 := h.s0
  have keep : ∀ V, BgX b c V A (Ft B b c V) B s (k pre) → (b < w1.heap.size ∧ c < w1.heap.size) → ∀ g, Ft B b c V g → A'.heap[g]? = A.heap[g]? := by
    intro V v1 v2 g hg'
    refine hg.block g (v1.lt g hg') (fun e => ?_)
    obtain ⟨q1, o, ho, hc⟩ := hr g e.symm
    rcases hg' with rfl | rfl | rfl | ⟨a, ha⟩
    · rw [show A.heap[g]? = _ from v1.blk] at ho; cases ho; cases hc
    · omega
    · omega
    · rcases (v1.row a).1.2 with ⟨e0, _⟩ | ⟨g', cap, cur, e0, hb, _⟩
      · rw [e0] at ha; cases ha
      · rw [e0] at ha; cases ha
        rw [show A.heap[g']? = _ from hb] at ho; cases ho; cases hc
  refine ⟨⟨s, u, h1, h2, blk_grown h3 hg hr2, h4.grown hg hr2, h5, h6.imp (fun ⟨a1, a2, a3⟩ => ⟨a1, a2, blk_grown a3 hg hr2⟩) (fun ⟨V, v1, v2, v3⟩ => ⟨V, v1.kept (keep V v1 v2) hg.size, v2, v3⟩)⟩, fun j hj => (hg.block j (by have := h.gl j hj; have := h.sz; omega) (fun e => by have := (hr j e.symm).1; have := h.gl j hj; omega)).trans (h.kept j hj), h.gl, h.gg, Nat.le_trans h.sz hg.size, h.s0, h.bl.trans ⟨hg.os, hg.tape, hg.output, hg.size, fun j hj => hg.block j (by have := h.bl.size; omega) (fun e => by have := (hr j e.symm).1; omega)⟩⟩
theorem Rs.mono (h : Rs w0 w1 G gb Z B b c L k pre A) {k' : Nat} (hk : k ≤ k') : Rs w0 w1 G gb Z B b c L k' pre A := by
  obtain ⟨s, u, h1, h2, h3, h4, h5, h6⟩ := h.ex
  exact ⟨⟨s, u, h1.mono hk, h2, h3, h4, h5, h6.imp id (fun ⟨V, v1, v2, v3⟩ => ⟨V, v1.mono hk, v2, v3⟩)⟩, h.kept, h.gl, h.gg, h.sz, h.s0, h.bl⟩
/-- The bag was written in a round. -/
theorem Rs.step {s s' : Bg} {u : Value} {V V' : Int × Int → Value} {F' : Nat → Prop} {k' : Nat} (h : Rs w0 w1 G gb Z B b c L k pre A) (hZ : Z ≤ A.heap.size) (hX : w1.heap.size ≤ Z) (h3 : Blk A gb 22 #[u]) (h4 : RowW A 3 1 u pre.length (i6s pre)) (h5 : ∀ q, u.ownBlock = some q → Z ≤ q) (v2 : b < w1.heap.size ∧ c < w1.heap.size)
    (v3 : ∀ j, Ft B b c V j → (j < w1.heap.size ∨ Z ≤ j) ∧ ¬ G j ∧ j ≠ gb ∧ w0.heap.size ≤ j ∧ u.ownBlock ≠ some j) (q1 : BgX b c V' A' F' B s' k') (q2 : s'.Ok k') (hn : s'.n = (s'.L p31).length) (q3 : Step (Ft B b c V) F' A A') :
    Rs w0 w1 G gb Z B b c L k' pre A' ∧ BK w1.heap.size Z A A' := by
  have hgl := h3.lt
  have hsz := h.sz
  have hs0 := h.s0
  refine ⟨⟨⟨s', u, q2, hn, (q3.only.block gb hgl (fun e => (v3 gb e).2.2.1 rfl)).trans h3, h4.kept fun q hq => q3.only.block q (h4.lt hq) (fun e => (v3 q e).2.2.2.2 hq), h5, .inr ⟨V', q1.tight, v2, fun j hj => ?_⟩⟩, fun j hj => (q3.only.block j (by have := h.gl j hj; omega) (fun e => (v3 j e).2.1 hj)).trans (h.kept j hj), h.gl, h.gg, Nat.le_trans h.sz q3.size, h.s0, h.bl.trans (q3.below h.bl.size (fun j hj => (v3 j hj).2.2.2.1))⟩, BK.of_only q3.only hZ (fun j hj => (v3 j hj).1)⟩
  rcases q3.ext j (q1.sub hj) with hj | hj
  · exact v3 j hj
  · refine ⟨.inr (by omega), fun hg => by have := h.gl j hg; omega, by omega, by omega, fun e => by have := h4.lt e; omega⟩
theorem Rs.put (h : Rs w0 w1 G gb Z B b c L k pre A) (hL : L ≠ []) (hZ : Z ≤ A.heap.size) (hX : w1.heap.size ≤ Z) (hk : k ≤ 100000) {e : Int} (he : -9223372036854775808 ≤ e ∧ e ≤ 9223372036854775807) :
    Calls Try.prog 7 #[.pointer (some ⟨B, 0, none⟩), .int .i64 3, .int .i64 1, .int .i64 e] A fun x w' => (∃ r, x = .returned (.int .i64 r)) ∧ Rs w0 w1 G gb Z B b c L (k + 1) pre w' ∧ BK w1.heap.size Z A w' := by
  obtain ⟨s, u, h1, h2, h3, h4, h5, ⟨h6, _⟩ | ⟨V, v1, v2, v3⟩⟩ := h.ex
  · exact absurd h6 hL
  have ha : okT (3, 1, e) := ⟨by simp, by simp, he⟩
  by_cases hc : (1 : Int) < 0 ∨ 63 < (1 : Int) ∨ e < 1
  · refine (bput_arg (some ⟨B, 0, none⟩) (by simp) hc).mono ?_
    rintro x w' ⟨rfl, rfl⟩
    exact ⟨⟨_, rfl⟩, h.mono (by omega), BK.refl _ _ _⟩
  · by_cases hm : e ∈ s.L (3, 1)
    · refine (bput_there (show BgM A (Ft B b c V) B s k from ⟨h1, .inr ⟨b, c, V, v1⟩⟩) ha (by omega) (by omega) (by omega) hm).mono ?_
      rintro x w' ⟨rfl, rfl⟩
      exact ⟨⟨_, rfl⟩, h.mono (by omega), BK.refl _ _ _⟩
    · refine (bput_okXV v1 h1 hk ha (by omega) (by omega) (by omega) hm).mono ?_
      rintro x w' ⟨rfl, F', V', q1, q2, q3⟩
      exact ⟨⟨_, rfl⟩, h.step (s := s) hZ hX h3 h4 h5 v2 v3 q1 q2 (by simp [Bg.put, updQ_at, h2]) q3⟩
theorem Rs.take (h : Rs w0 w1 G gb Z B b c L k pre A) (hL : L ≠ []) (hZ : Z ≤ A.heap.size) (hX : w1.heap.size ≤ Z) (hk : k ≤ 100000) {e : Int} (he : -9223372036854775808 ≤ e ∧ e ≤ 9223372036854775807) :
    Calls Try.prog 9 #[.pointer (some ⟨B, 0, none⟩), .int .i64 3, .int .i64 1, .int .i64 e] A fun x w' => (∃ r, x = .returned (.bool r)) ∧ Rs w0 w1 G gb Z B b c L (k + 1) pre w' ∧ BK w1.heap.size Z A w' := by
  obtain ⟨s, u, h1, h2, h3, h4, h5, ⟨h6, _⟩ | ⟨V, v1, v2, v3⟩⟩ := h.ex
  · exact absurd h6 hL
  have ha : okT (3, 1, e) := ⟨by simp, by simp, he⟩
  by_cases hm : e ∈ s.L (3, 1)
  · refine (btake_okXV v1 h1 hk ha hm).mono ?_
    rintro x w' ⟨rfl, V', q1, q2, q3⟩
    exact ⟨⟨_, rfl⟩, h.step (s := s) hZ hX h3 h4 h5 v2 v3 (q1.mono (Nat.le_succ k)) (q2.mono (Nat.le_succ k)) (by simp only [Bg.take, updQ_at, p31] at h2 ⊢; rw [delL_len hm, h2]) q3⟩
  · refine (btake_no (show BgM A (Ft B b c V) B s k from ⟨h1, .inr ⟨b, c, V, v1⟩⟩) ha hm).mono ?_
    rintro x w' ⟨rfl, rfl⟩
    exact ⟨⟨_, rfl⟩, h.mono (by omega), BK.refl _ _ _⟩
theorem Rs.blk (h : Rs w0 w1 G gb Z B b c L k pre A) {j : Nat} {ty : TypeId} {vs : Array Value} (hj : G j) (hb : Blk w1 j ty vs) : Blk A j ty vs := (h.kept j hj).trans hb
/-- The bag, as the readers want it. -/
theorem Rs.bag (h : Rs w0 w1 G gb Z B b c L k pre A) : ∃ (s : Bg) (F : Nat → Prop), BgM A F B s k ∧ s.n = (s.L p31).length := by
  obtain ⟨s, u, h1, h2, h3, h4, h5, ⟨h6, rfl, h7⟩ | ⟨V, v1, v2, v3⟩⟩ := h.ex
  · exact ⟨bg0, fun j => j = B, ⟨h1, .inl ⟨rfl, h7, rfl, fun j hj => hj ▸ h7.lt⟩⟩, h2⟩
  · exact ⟨s, _, ⟨h1, .inr ⟨b, c, V, v1⟩⟩, h2⟩
/-- One number more in the list that grows. -/
theorem Rs.push {x : Int} {u : Value} {g cap : Nat} {A2 : World} (h : Rs w0 w1 G gb Z B b c L k pre A) (hA : ∃ (s : Bg), s.Ok k ∧ s.n = (s.L p31).length ∧ Blk A gb 22 #[u] ∧ RowW A 3 1 u pre.length (i6s pre) ∧ (∀ q, u.ownBlock = some q → Z ≤ q) ∧
    ((L = [] ∧ s = bg0 ∧ Blk A B 43 #[.map none, .map none]) ∨
      ∃ V, BgX b c V A (Ft B b c V) B s k ∧ (b < w1.heap.size ∧ c < w1.heap.size) ∧ ∀ j, Ft B b c V j → (j < w1.heap.size ∨ Z ≤ j) ∧ ¬ G j ∧ j ≠ gb ∧ w0.heap.size ≤ j ∧ u.ownBlock ≠ some j)) (hL : L ≠ []) (hZ : Z ≤ A.heap.size) (hX : w1.heap.size ≤ Z)
    (p1 : Blk A2 gb 22 #[.slice (some ⟨g, 0, none⟩) (pre.length + 1) cap]) (p2 : RowW A2 3 1 (.slice (some ⟨g, 0, none⟩) (pre.length + 1) cap) (pre.length + 1) (i6s pre ++ [.int .i64 x])) (hat : u.ownBlock = some g ∨ A.heap.size ≤ g) (p4 : A.heap.size ≤ A2.heap.size)
    (p5 : ∀ q, q < A.heap.size → q ≠ gb → u.ownBlock ≠ some q → A2.heap[q]? = A.heap[q]?) (ho : A2.os = A.os ∧ A2.tape = A.tape ∧ A2.output = A.output) : Rs w0 w1 G gb Z B b c L k (pre ++ [x]) A2 ∧ BK w1.heap.size Z A A2 := by
  obtain ⟨s, h1, h2, h3, h4, h5, ⟨h6, _⟩ | ⟨V, v1, v2, v3⟩⟩ := hA
  · exact absurd h6 hL
  have hsz := h.sz
  have hs0 := h.s0
  obtain ⟨g1, g2, g3⟩ := h.gg
  have hgZ : Z ≤ g := by
    rcases hat with e | e
    · exact h5 g e
    · omega
  have uZ : ∀ q, q < Z → u.ownBlock ≠ some q := fun q hq e => by have := h5 q e; omega
  refine ⟨⟨⟨s, _, h1, h2, p1, ?_, fun q hq => ?_, .inr ⟨V, v1.kept (fun j hj => p5 j (v1.lt j hj) (v3 j hj).2.2.1 (v3 j hj).2.2.2.2) p4, v2, fun j hj => ⟨(v3 j hj).1, (v3 j hj).2.1, (v3 j hj).2.2.1, (v3 j hj).2.2.2.1, fun e => ?_⟩⟩⟩, fun j hj => ?_, h.gl, h.gg, by omega, h.s0, ?_⟩, ⟨p4, fun j hj1 hj2 => p5 j (by omega) (by omega) (uZ j hj2)⟩⟩
  · rw [i6s_snoc, List.length_append]; exact p2
  · cases hq; exact hgZ
  · cases e
    rcases hat with e | e
    · exact (v3 g hj).2.2.2.2 e
    · have := v1.lt g hj; omega
  · have := h.gl j hj
    exact (p5 j (by omega) (fun e => g3 (e ▸ hj)) (uZ j (by omega))).trans (h.kept j hj)
  · have := h.bl.size
    exact h.bl.trans ⟨ho.1, ho.2.1, ho.2.2, p4, fun j hj => p5 j (by omega) (by omega) (uZ j (by omega))⟩
end
/-- Ahead of the walk: the bag, the list u of what was put (Lw), apart; the blocks of G lie as they lay at X. -/
structure L1 (w0 X : World) (G : Nat → Prop) (W : World) (B : Nat) (s : Bg) (k : Nat) (u : Value) (Lw : List Int) : Prop where
  ex : ∃ F, BgM W F B s k ∧ (∀ q, u.ownBlock = some q → ¬ F q) ∧ ∀ j, F j → ¬ G j ∧ w0.heap.size ≤ j
  row : RowW W 3 1 u Lw.length (i6s Lw)
  rg : ∀ q, u.ownBlock = some q → ¬ G q ∧ w0.heap.size ≤ q
  n : s.n = (s.L p31).length
  kept : ∀ j, G j → W.heap[j]? = X.heap[j]?
  gl : ∀ j, G j → j < X.heap.size
  sz : X.heap.size ≤ W.heap.size
  bl : Below w0.heap.size w0 W
section
variable {w0 X W W' : World} {G : Nat → Prop} {B k : Nat} {s : Bg} {u : Value} {Lw : List Int}
theorem L1.below (h : L1 w0 X G W B s k u Lw) (hb : Below W.heap.size W W') : L1 w0 X G W' B s k u Lw := by
  obtain ⟨F, h1, h2, h3⟩ := h.ex
  exact ⟨⟨F, h1.below hb, h2, h3⟩, h.row.kept (fun q hq => hb.block q (h.row.lt hq)), h.rg, h.n, fun j hj => (hb.block j (by have := h.gl j hj; have := h.sz; omega)).trans (h.kept j hj), h.gl, Nat.le_trans h.sz hb.size, h.bl.trans (hb.mono h.bl.size)⟩
theorem L1.mono (h : L1 w0 X G W B s k u Lw) {k' : Nat} (hk : k ≤ k') : L1 w0 X G W B s k' u Lw := by
  obtain ⟨F, h1, h2, h3⟩ := h.ex
  exact ⟨⟨F, h1.mono hk, h2, h3⟩, h.row, h.rg, h.n, h.kept, h.gl, h.sz, h.bl⟩
theorem L1.put (h : L1 w0 X G W B s k u Lw) (hk : k ≤ 100000) {e : Int} (he : -9223372036854775808 ≤ e ∧ e ≤ 9223372036854775807) :
    Calls Try.prog 7 #[.pointer (some ⟨B, 0, none⟩), .int .i64 3, .int .i64 1, .int .i64 e] W fun x w' => x = .returned (.int .i64 (putE s 3 1 e)) ∧ L1 w0 X G w' B (putB s 3 1 e) (k + 1) u Lw := by
  obtain ⟨F, h1, h2, h3⟩ := h.ex
  have ha : okT (3, 1, e) := ⟨by simp, by simp, he⟩
  by_cases hc : (1 : Int) < 0 ∨ 63 < (1 : Int) ∨ e < 1
  · have e1 : putE s 3 1 e = 1 := if_pos hc
    rw [show putB s 3 1 e = s from if_neg (by rw [e1]; decide), e1]
    refine (bput_arg (some ⟨B, 0, none⟩) (by simp) hc).mono ?_
    rintro x w' ⟨rfl, rfl⟩
    exact ⟨rfl, h.mono (by omega)⟩
  · by_cases hm : e ∈ s.L (3, 1)
    · have e1 : putE s 3 1 e = 5 := by unfold putE; rw [if_neg hc, if_pos hm]
      rw [show putB s 3 1 e = s from if_neg (by rw [e1]; decide), e1]
      refine (bput_there h1 ha (by omega) (by omega) (by omega) hm).mono ?_
      rintro x w' ⟨rfl, rfl⟩
      exact ⟨rfl, h.mono (by omega)⟩
    · have e1 : putE s 3 1 e = 0 := by unfold putE; rw [if_neg hc, if_neg hm]
      rw [show putB s 3 1 e = s.put (3, 1) e from if_pos e1, e1]
      refine (bput_ok h1 hk ha (by omega) (by omega) (by omega) hm).mono ?_
      rintro x w' ⟨rfl, F', g1, g2⟩
      have hbs := h.bl.size
      have hsz := h.sz
      refine ⟨rfl, ⟨F', g1, fun q hq hf => ?_, fun j hj => ?_⟩, h.row.kept (fun q hq => g2.only.block q (h.row.lt hq) (h2 q hq)), h.rg, by simp [Bg.put, updQ_at, h.n], fun j hj => (g2.only.block j (by have := h.gl j hj; omega) (fun hf => (h3 j hf).1 hj)).trans (h.kept j hj), h.gl, Nat.le_trans h.sz g2.size, h.bl.trans (g2.below hbs (fun j hj => (h3 j hj).2))⟩
      · rcases g2.ext q hf with hf | hf
        · exact h2 q hq hf
        · have := h.row.lt hq; omega
      · rcases g2.ext j hj with hj | hj
        · exact h3 j hj
        · exact ⟨fun hg => by have := h.gl j hg; omega, by omega⟩
theorem L1.cell (h : L1 w0 X G W B s k u Lw) {j : Nat} {ty : TypeId} {vs : Array Value} (hj : G j) (hb : Blk X j ty vs) : Blk W j ty vs := (h.kept j hj).trans hb
/-- One was appended. -/
theorem L1.push {e : Int} {g cap : Nat} {A : World} (h : L1 w0 X G W B s k u Lw) (hb : Below W.heap.size W A) (p2 : RowW W' 3 1 (.slice (some ⟨g, 0, none⟩) (Lw.length + 1) cap) (Lw.length + 1) (i6s Lw ++ [.int .i64 e])) (hg : A.grownBy W' u.ownBlock) (hat : u.ownBlock = some g ∨ W.heap.size ≤ g) :
    L1 w0 X G W' B s k (.slice (some ⟨g, 0, none⟩) (Lw.length + 1) cap) (Lw ++ [e]) := by
  obtain ⟨F, h1, h2, h3⟩ := h.ex
  have hs1 := hb.size
  have hs2 := hg.size
  have hbs := h.bl.size
  have hsz := h.sz
  have keep : ∀ q, q < W.heap.size → u.ownBlock ≠ some q → W'.heap[q]? = W.heap[q]? := fun q hq hn => (hg.block q (by omega) (Ne.symm hn)).trans (hb.block q hq)
  refine ⟨⟨F, h1.kept (fun q hq => keep q (h1.lt q hq) (fun e => h2 q e hq)) (by omega), fun q hq hf => ?_, h3⟩, by rw [i6s_snoc, List.length_append]; exact p2, fun q hq => ?_, h.n, fun j hj => (keep j (by have := h.gl j hj; omega) (fun e => (h.rg j e).1 hj)).trans (h.kept j hj), h.gl, by omega, h.bl.trans ⟨hg.os.trans hb.os, hg.tape.trans hb.tape, hg.output.trans hb.output, by omega, fun j hj => keep j (by omega) (fun e => by have := (h.rg j e).2; omega)⟩⟩
  · cases hq
    rcases hat with e | e
    · exact h2 g e hf
    · have := h1.lt g hf; omega
  · have hq' : g = q := by simpa [Value.ownBlock] using hq
    rw [← hq']
    rcases hat with e | e
    · exact h.rg g e
    · exact ⟨fun hgg => by have := h.gl g hgg; omega, by omega⟩
/-- Where the walk begins. -/
theorem L1.walk (h : L1 w0 X G W B s k u (s.L p31)) {A : World} (hb : Below W.heap.size W A) {gb : Nat} (hgb : Blk A gb 22 #[.slice none 0 0]) (hg1 : W.heap.size ≤ gb) {G' : Nat → Prop} (hG : ∀ j, G' j → j < A.heap.size ∧ j ≠ gb ∧ (j < W.heap.size → G j ∨ u.ownBlock = some j)) :
    ∃ b c, ∀ Z, Rs w0 A G' gb Z B b c (s.L p31) k [] A := by
  obtain ⟨F, h1, h2, h3⟩ := h.ex
  have hbs := h.bl.size
  have hs1 := hb.size
  have hbl := hgb.lt
  have h1' := h1.below hb
  obtain ⟨k0, ⟨e1, e2, e3, e4⟩ | ⟨b, c, V, v1⟩⟩ := h1'
  · refine ⟨0, 0, fun Z => ⟨⟨s, _, k0, h.n, hgb, RowW.empty _ _ _, (fun q hq => by cases hq), .inl ⟨by rw [e1]; rfl, e1, e2⟩⟩, fun j hj => rfl, fun j hj => (hG j hj).1, ⟨hbl, by omega, fun hg => (hG gb hg).2.1 rfl⟩, Nat.le_refl _, by omega, h.bl.trans (hb.mono hbs)⟩⟩
  · refine ⟨b, c, fun Z => ⟨⟨s, _, k0, h.n, hgb, RowW.empty _ _ _, (fun q hq => by cases hq), .inr ⟨V, v1.tight, ⟨v1.lt b v1.f1, v1.lt c v1.f2⟩, fun j hj => ?_⟩⟩, fun j hj => rfl, fun j hj => (hG j hj).1, ⟨hbl, by omega, fun hg => (hG gb hg).2.1 rfl⟩, Nat.le_refl _, by omega, h.bl.trans (hb.mono hbs)⟩⟩
    have hf := v1.sub hj
    have hjl := h1.lt j hf
    exact ⟨.inl (by omega), fun hg => ((hG j hg).2.2 hjl).elim (fun e => (h3 j hf).1 e) (fun e => h2 j e hf), by omega, (h3 j hf).2, by simp [Value.ownBlock]⟩
end
def Nb' (w w' : World) (B : Nat) : Prop := BgM w' (fun g => g = B) B bg0 0 ∧ Below w.heap.size w w' ∧ w.heap.size ≤ B
theorem nb_new' (w : World) : Calls Try.prog 6 #[] w fun x w' => ∃ B, x = .returned (.pointer (some ⟨B, 0, none⟩)) ∧ Nb' w w' B := (bnew_any w).mono fun x w' h => ⟨w.heap.size, h.1, h.2.1, h.2.2, Nat.le_refl _⟩
theorem l1_start {w W0 W1 X : World} {B : Nat} {G : Nat → Prop} {x y : Value} {tx ty : TypeId} (hb : Below w.heap.size w W0) (g1 : Blk W0 w.heap.size tx #[x]) (g2 : Blk W0 (w.heap.size + 1) ty #[y]) (hN : Nb' W0 W1 B) (hX : X = W1.alloc (.cells #[.pointer (some ⟨B, 0, none⟩)] 25)) (hG : G = fun j => j = w.heap.size ∨ j = w.heap.size + 1 ∨ j = W1.heap.size) :
    L1 w X G X B bg0 0 (.slice none 0 0) [] ∧ Blk X w.heap.size tx #[x] ∧ Blk X (w.heap.size + 1) ty #[y] ∧ Blk X W1.heap.size 25 #[.pointer (some ⟨B, 0, none⟩)] ∧ w.heap.size + 2 ≤ W1.heap.size := by
  obtain ⟨h1, h2, h3⟩ := hN
  have l1 := h1.lt B rfl
  have l2 := g2.lt
  have s1 := h2.size
  have hXb : Below W1.heap.size W1 X := by rw [hX]; exact (Below.refl _ _).alloc (Nat.le_refl _) _
  have s2 := hXb.size
  have sX : X.heap.size = W1.heap.size + 1 := by rw [hX]; simp
  refine ⟨⟨⟨_, h1.below hXb, fun q hq => by simp [Value.ownBlock] at hq, fun j hj => ?_⟩, RowW.empty _ _ _, fun q hq => by simp [Value.ownBlock] at hq, rfl, fun j hj => rfl, fun j hj => ?_, Nat.le_refl _, (hb.trans (h2.mono hb.size)).trans (hXb.mono (by omega))⟩, (g1.below h2).below hXb, (g2.below h2).below hXb, by rw [hX]; exact Blk.new W1 _ _, by omega⟩
  · subst hj
    rw [hG]
    exact ⟨by omega, by omega⟩
  · rw [hG] at hj
    rcases hj with rfl | rfl | rfl <;> omega
theorem many_n {w : World} {F : Nat → Prop} {B k : Nat} {s : Bg} (h : BgM w F B s k) (hn : s.n = (s.L p31).length) : Calls Try.prog 11 #[.pointer (some ⟨B, 0, none⟩), .int .i64 3, .int .i64 1] w fun x w' => x = .returned (.int .i64 s.n) ∧ w' = w := by
  rw [hn]
  exact bmany_any h (v := 3) (l := 1) ⟨by decide, by decide⟩
end Go.Proofs.Ythdmmjboaoonbab
