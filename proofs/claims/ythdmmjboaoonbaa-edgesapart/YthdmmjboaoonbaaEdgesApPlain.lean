/- Layer 9's statements: EdgesApart: two bags apart, and a map of what stands in one of them. -/
import Derived.Test.YthdmmjboaoonbaaEdgesApKey
namespace Go.Proofs.Ythdmmjboaoonbaa
open Go.RowKit
open Go.Maps (Keyed)
set_option linter.unusedVariables false

def inB (s : Bg) (x : Int × Int × Int) : Prop := x.2.2 ∈ s.L (x.1, x.2.1)
instance (s : Bg) (x : Int × Int × Int) : Decidable (inB s x) := by unfold inB; infer_instance
def isOne (q : Int × Int × Int → Option Int) (x : Int × Int × Int) : Bool := decide (q x = some 1)
/-- What is known of all bag s1, of the bag s2 of one place, of the map q with the keys K. -/
structure Gh (v l : Int) (s1 s2 : Bg) (q : Int × Int × Int → Option Int) (K : List (Int × Int × Int)) : Prop where
  nodup : K.Nodup
  keys : ∀ x, (q x).isSome = true ↔ x ∈ K
  bin : ∀ x c, q x = some c → c = 0 ∨ c = 1
  one : ∀ x, q x = some 1 ↔ inB s1 x
  n : s1.n = (K.filter (isOne q)).length
  same : s2.L (v, l) = s1.L (v, l)
  n2 : s2.n = (s2.L (v, l)).length
theorem Gh.nil (v l : Int) : Gh v l bg0 bg0 (fun _ => none) [] := ⟨List.nodup_nil, (fun x => by simp), (fun x c h => by cases h), (fun x => by simp [inB, bg0]), rfl, rfl, rfl⟩
section
variable {v l : Int} {s1 s2 : Bg} {q : Int × Int × Int → Option Int} {K : List (Int × Int × Int)}
theorem inB_put {x y : Int × Int × Int} : inB (s1.put (x.1, x.2.1) x.2.2) y ↔ y = x ∨ inB s1 y := by
  obtain ⟨a, b, e⟩ := x; obtain ⟨a', b', e'⟩ := y
  simp only [inB, Bg.put]
  by_cases h : ((a', b') : Int × Int) = (a, b)
  · cases h
    rw [updQ_at]
    simp
    exact Or.comm
  · rw [updQ_ne h]
    constructor
    · exact .inr
    · rintro (h1 | h1)
      · cases h1; exact absurd rfl h
      · exact h1
theorem inB_take {x y : Int × Int × Int} (hn : (s1.L (x.1, x.2.1)).Nodup) (hx : inB s1 x) : inB (s1.take (x.1, x.2.1) x.2.2) y ↔ y ≠ x ∧ inB s1 y := by
  obtain ⟨a, b, e⟩ := x; obtain ⟨a', b', e'⟩ := y
  simp only [inB, Bg.take]
  by_cases h : ((a', b') : Int × Int) = (a, b)
  · cases h
    rw [updQ_at, delL_mem hx hn]
    constructor
    · rintro ⟨h1, h2⟩; exact ⟨fun e => h2 (by cases e; rfl), h1⟩
    · rintro ⟨h1, h2⟩; exact ⟨h2, fun e => h1 (by rw [e])⟩
  · rw [updQ_ne h]
    constructor
    · exact fun h1 => ⟨fun e => h (by cases e; rfl), h1⟩
    · exact fun h1 => h1.2
/-- One was put into the bag of all. -/
theorem Gh.put1 (h : Gh v l s1 s2 q K) {x : Int × Int × Int} (hx : ¬ inB s1 x) (hne : (x.1, x.2.1) ≠ (v, l)) : ∃ K', K'.length = (if (q x).isSome then K.length else K.length + 1) ∧ Gh v l (s1.put (x.1, x.2.1) x.2.2) s2 (updQ q x (some 1)) K' := by
  have base : ∀ K', K'.Nodup → (∀ y, y ∈ K' ↔ y = x ∨ y ∈ K) → ((K'.filter (isOne (updQ q x (some 1)))).length = (K.filter (isOne q)).length + 1) → Gh v l (s1.put (x.1, x.2.1) x.2.2) s2 (updQ q x (some 1)) K' := fun K' h1 h2 h3 => by
    refine ⟨h1, fun y => ?_, fun y c hc => ?_, fun y => ?_, by rw [h3, ← h.n]; rfl, ?_, h.n2⟩
    · rw [h2]
      by_cases hy : y = x
      · subst hy; simp [updQ_at]
      · rw [updQ_ne hy, h.keys]; simp [hy]
    · by_cases hy : y = x
      · subst hy; rw [updQ_at] at hc; cases hc; exact .inr rfl
      · rw [updQ_ne hy] at hc; exact h.bin y c hc
    · rw [inB_put]
      by_cases hy : y = x
      · subst hy; simp [updQ_at]
      · rw [updQ_ne hy, h.one]; simp [hy]
    · rw [h.same]; simp only [Bg.put]; rw [updQ_ne (Ne.symm hne)]
  by_cases hq : (q x).isSome = true
  · refine ⟨K, by rw [if_pos hq], base K h.nodup (fun y => ⟨.inr, fun hy => hy.elim (fun e => e ▸ (h.keys x).1 hq) id⟩) ?_⟩
    refine count_one (x := x) h.nodup ((h.keys x).1 hq) ?_ (by simp [isOne, updQ_at]) (fun y hy => by simp [isOne, updQ_ne hy])
    simp only [isOne, decide_eq_false_iff_not]
    exact fun e => hx ((h.one x).1 e)
  · have hxK : x ∉ K := fun e => hq ((h.keys x).2 e)
    refine ⟨K ++ [x], by rw [if_neg hq]; simp, base _ ?_ (fun y => by simp [or_comm]) ?_⟩
    · rw [List.nodup_append]
      exact ⟨h.nodup, by simp, fun y hy z hz => by simp at hz; subst hz; rintro rfl; exact hxK hy⟩
    · rw [List.filter_append, List.length_append, count_same (p := isOne q) (fun y hy => by simp [isOne, updQ_ne (fun e => hxK (e ▸ hy) : y ≠ x)])]
      simp [isOne, updQ_at]
theorem Gh.take1 (h : Gh v l s1 s2 q K) (hnd : ∀ a, (s1.L a).Nodup) {x : Int × Int × Int} (hx : inB s1 x) (hne : (x.1, x.2.1) ≠ (v, l)) : Gh v l (s1.take (x.1, x.2.1) x.2.2) s2 (updQ q x (some 0)) K ∧ (q x).isSome = true := by
  have hq1 := (h.one x).2 hx
  have hxK := (h.keys x).1 (by rw [hq1]; rfl)
  have hc : (K.filter (isOne q)).length = (K.filter (isOne (updQ q x (some 0)))).length + 1 :=
    count_one (x := x) h.nodup hxK (by simp [isOne, updQ_at]) (by simp [isOne, hq1]) (fun y hy => by simp [isOne, updQ_ne hy])
  refine ⟨⟨h.nodup, fun y => ?_, fun y c hc => ?_, fun y => ?_, ?_, ?_, h.n2⟩, by rw [hq1]; rfl⟩
  · by_cases hy : y = x
    · subst hy; simp [updQ_at, hxK]
    · rw [updQ_ne hy, h.keys]
  · by_cases hy : y = x
    · subst hy; rw [updQ_at] at hc; cases hc; exact .inl rfl
    · rw [updQ_ne hy] at hc; exact h.bin y c hc
  · rw [inB_take (hnd _) hx]
    by_cases hy : y = x
    · subst hy; simp [updQ_at]
    · rw [updQ_ne hy, h.one]; simp [hy]
  · simp only [Bg.take]; rw [h.n, hc]; omega
  · rw [h.same]; simp only [Bg.take]; rw [updQ_ne (Ne.symm hne)]
/-- The same, at the place of the other bag, which follows. -/
theorem Gh.put2 (h : Gh v l s1 s2 q K) {e : Int} (hx : e ∉ s1.L (v, l)) : ∃ K', K'.length = (if (q (v, l, e)).isSome then K.length else K.length + 1) ∧ Gh v l (s1.put (v, l) e) (s2.put (v, l) e) (updQ q (v, l, e) (some 1)) K' := by
  have h' : Gh (v + 1) l s1 ⟨s1.L, (s1.L (v + 1, l)).length⟩ q K := ⟨h.nodup, h.keys, h.bin, h.one, h.n, rfl, rfl⟩
  obtain ⟨K', k1, k2⟩ := h'.put1 (x := (v, l, e)) hx (by intro e1; have := congrArg Prod.fst e1; simp at this; omega)
  refine ⟨K', k1, k2.nodup, k2.keys, k2.bin, k2.one, k2.n, ?_, ?_⟩
  · simp only [Bg.put, updQ_at]; rw [h.same]
  · simp only [Bg.put, updQ_at]; rw [h.n2]; simp
theorem Gh.take2 (h : Gh v l s1 s2 q K) (hnd : ∀ a, (s1.L a).Nodup) {e : Int} (hx : e ∈ s1.L (v, l)) : Gh v l (s1.take (v, l) e) (s2.take (v, l) e) (updQ q (v, l, e) (some 0)) K ∧ (q (v, l, e)).isSome = true := by
  have h' : Gh (v + 1) l s1 ⟨s1.L, (s1.L (v + 1, l)).length⟩ q K := ⟨h.nodup, h.keys, h.bin, h.one, h.n, rfl, rfl⟩
  obtain ⟨k2, k3⟩ := h'.take1 hnd (x := (v, l, e)) hx (by intro e1; have := congrArg Prod.fst e1; simp at this; omega)
  refine ⟨⟨k2.nodup, k2.keys, k2.bin, k2.one, k2.n, ?_, ?_⟩, k3⟩
  · simp only [Bg.take, updQ_at]; rw [h.same]
  · simp only [Bg.take, updQ_at]; rw [h.n2, h.same, delL_len hx]
end
/-- Both bags and the map, apart; the blocks of G lie as they lay at X. -/
structure Ap (w0 X : World) (G : Nat → Prop) (W : World) (B1 B2 bm : Nat) (s1 s2 : Bg) (q : Int × Int × Int → Option Int) (cnt k : Nat) : Prop where
  ex : ∃ F1 F2, BgM W F1 B1 s1 k ∧ BgM W F2 B2 s2 k ∧ (∀ j, F1 j → ¬ F2 j ∧ j ≠ bm ∧ ¬ G j ∧ w0.heap.size ≤ j) ∧ (∀ j, F2 j → j ≠ bm ∧ ¬ G j ∧ w0.heap.size ≤ j)
  map : MapN Try.prog 53 3 actK okT W bm q cnt
  mg : ¬ G bm ∧ w0.heap.size ≤ bm
  kept : ∀ j, G j → W.heap[j]? = X.heap[j]?
  gl : ∀ j, G j → j < X.heap.size
  sz : X.heap.size ≤ W.heap.size
  bl : Below w0.heap.size w0 W
section
variable {w0 X W W' : World} {G : Nat → Prop} {B1 B2 bm : Nat} {s1 s2 : Bg} {q : Int × Int × Int → Option Int} {cnt k : Nat}
theorem Ap.swap (h : Ap w0 X G W B1 B2 bm s1 s2 q cnt k) : Ap w0 X G W B2 B1 bm s2 s1 q cnt k := by
  obtain ⟨F1, F2, h1, h2, h3, h4⟩ := h.ex
  exact ⟨⟨F2, F1, h2, h1, fun j hj => ⟨fun hf => (h3 j hf).1 hj, h4 j hj⟩, fun j hj => (h3 j hj).2⟩, h.map, h.mg, h.kept, h.gl, h.sz, h.bl⟩
theorem Ap.below (h : Ap w0 X G W B1 B2 bm s1 s2 q cnt k) (hb : Below W.heap.size W W') : Ap w0 X G W' B1 B2 bm s1 s2 q cnt k := by
  obtain ⟨F1, F2, h1, h2, h3, h4⟩ := h.ex
  exact ⟨⟨F1, F2, h1.below hb, h2.below hb, h3, h4⟩, h.map.kept (hb.block _ h.map.lt), h.mg, fun j hj => (hb.block j (by have := h.gl j hj; have := h.sz; omega)).trans (h.kept j hj), h.gl, Nat.le_trans h.sz hb.size, h.bl.trans (hb.mono h.bl.size)⟩
theorem Ap.mono (h : Ap w0 X G W B1 B2 bm s1 s2 q cnt k) {k' : Nat} (hk : k ≤ k') : Ap w0 X G W B1 B2 bm s1 s2 q cnt k' := by
  obtain ⟨F1, F2, h1, h2, h3, h4⟩ := h.ex
  exact ⟨⟨F1, F2, h1.mono hk, h2.mono hk, h3, h4⟩, h.map, h.mg, h.kept, h.gl, h.sz, h.bl⟩
theorem Ap.ok (h : Ap w0 X G W B1 B2 bm s1 s2 q cnt k) : s1.Ok k := let ⟨_, _, h1, _⟩ := h.ex; h1.1
/-- The first bag was written. -/
theorem Ap.step1 (h : Ap w0 X G W B1 B2 bm s1 s2 q cnt k) {F1 F2 F' : Nat → Prop} (h2 : BgM W F2 B2 s2 k) (h3 : ∀ j, F1 j → ¬ F2 j ∧ j ≠ bm ∧ ¬ G j ∧ w0.heap.size ≤ j) (h4 : ∀ j, F2 j → j ≠ bm ∧ ¬ G j ∧ w0.heap.size ≤ j) {s' : Bg} {k' : Nat} (hk : k ≤ k') (g1 : BgM W' F' B1 s' k') (g2 : Step F1 F' W W') : Ap w0 X G W' B1 B2 bm s' s2 q cnt k' := by
  have hml := h.map.lt
  have hbs := h.bl.size
  have hsz := h.sz
  refine ⟨⟨F', F2, g1, (h2.step g2 (fun j hj hf => (h3 j hf).1 hj)).mono hk, fun j hj => ?_, h4⟩, h.map.kept (g2.only.block bm hml (fun hf => (h3 bm hf).2.1 rfl)), h.mg, fun j hj => (g2.only.block j (by have := h.gl j hj; omega) (fun hf => (h3 j hf).2.2.1 hj)).trans (h.kept j hj), h.gl, Nat.le_trans h.sz g2.size, h.bl.trans (g2.below hbs (fun j hj => (h3 j hj).2.2.2))⟩
  rcases g2.ext j hj with hj | hj
  · exact h3 j hj
  · refine ⟨fun hf => ?_, by omega, fun hg => ?_, by omega⟩
    · have := h2.lt j hf; omega
    · have := h.gl j hg; omega
theorem Ap.put1 (h : Ap w0 X G W B1 B2 bm s1 s2 q cnt k) (hk : k ≤ 100000) {v l e : Int} (ha : okT (v, l, e)) : Calls Try.prog 19 #[.pointer (some ⟨B1, 0, none⟩), .int .i64 v, .int .i64 l, .int .i64 e] W fun x w' => x = .returned (.int .i64 (putE s1 v l e)) ∧ Ap w0 X G w' B1 B2 bm (putB s1 v l e) s2 q cnt (k + 1) := by
  obtain ⟨F1, F2, h1, h2, h3, h4⟩ := h.ex
  by_cases hc : l < 0 ∨ 63 < l ∨ e < 1
  · have e1 : putE s1 v l e = 1 := if_pos hc
    rw [show putB s1 v l e = s1 from if_neg (by rw [e1]; decide), e1]
    refine (bput_arg (some ⟨B1, 0, none⟩) (by simp) hc).mono ?_
    rintro x w' ⟨rfl, rfl⟩
    exact ⟨rfl, h.mono (by omega)⟩
  · by_cases hm : e ∈ s1.L (v, l)
    · have e1 : putE s1 v l e = 5 := by unfold putE; rw [if_neg hc, if_pos hm]
      rw [show putB s1 v l e = s1 from if_neg (by rw [e1]; decide), e1]
      refine (bput_there h1 ha (by omega) (by omega) (by omega) hm).mono ?_
      rintro x w' ⟨rfl, rfl⟩
      exact ⟨rfl, h.mono (by omega)⟩
    · have e1 : putE s1 v l e = 0 := by unfold putE; rw [if_neg hc, if_neg hm]
      rw [show putB s1 v l e = s1.put (v, l) e from if_pos e1, e1]
      refine (bput_ok h1 hk ha (by omega) (by omega) (by omega) hm).mono ?_
      rintro x w' ⟨rfl, F', g1, g2⟩
      exact ⟨rfl, h.step1 h2 h3 h4 (by omega) g1 g2⟩
theorem Ap.take1 (h : Ap w0 X G W B1 B2 bm s1 s2 q cnt k) (hk : k ≤ 100000) {v l e : Int} (ha : okT (v, l, e)) : Calls Try.prog 21 #[.pointer (some ⟨B1, 0, none⟩), .int .i64 v, .int .i64 l, .int .i64 e] W fun x w' => x = .returned (.bool (decide (e ∈ s1.L (v, l)))) ∧ Ap w0 X G w' B1 B2 bm (takeB s1 v l e) s2 q cnt (k + 1) := by
  obtain ⟨F1, F2, h1, h2, h3, h4⟩ := h.ex
  by_cases hm : e ∈ s1.L (v, l)
  · rw [decide_eq_true hm, show takeB s1 v l e = s1.take (v, l) e from if_pos hm]
    refine (btake_yes h1 hk ha hm).mono ?_
    rintro x w' ⟨rfl, g1, g2⟩
    exact ⟨rfl, h.step1 h2 h3 h4 (Nat.le_succ k) (g1.mono (Nat.le_succ k)) g2⟩
  · rw [decide_eq_false hm, show takeB s1 v l e = s1 from if_neg hm]
    refine (btake_no h1 ha hm).mono ?_
    rintro x w' ⟨rfl, rfl⟩
    exact ⟨rfl, h.mono (by omega)⟩
theorem Ap.put2 (h : Ap w0 X G W B1 B2 bm s1 s2 q cnt k) (hk : k ≤ 100000) {v l e : Int} (ha : okT (v, l, e)) : Calls Try.prog 19 #[.pointer (some ⟨B2, 0, none⟩), .int .i64 v, .int .i64 l, .int .i64 e] W fun x w' => x = .returned (.int .i64 (putE s2 v l e)) ∧ Ap w0 X G w' B1 B2 bm s1 (putB s2 v l e) q cnt (k + 1) :=
  (h.swap.put1 hk ha).mono fun x w' ⟨a, b⟩ => ⟨a, b.swap⟩
theorem Ap.take2 (h : Ap w0 X G W B1 B2 bm s1 s2 q cnt k) (hk : k ≤ 100000) {v l e : Int} (ha : okT (v, l, e)) : Calls Try.prog 21 #[.pointer (some ⟨B2, 0, none⟩), .int .i64 v, .int .i64 l, .int .i64 e] W fun x w' => x = .returned (.bool (decide (e ∈ s2.L (v, l)))) ∧ Ap w0 X G w' B1 B2 bm s1 (takeB s2 v l e) q cnt (k + 1) :=
  (h.swap.take1 hk ha).mono fun x w' ⟨a, b⟩ => ⟨a, b.swap⟩
/-- The map was written. -/
theorem Ap.stored (h : Ap w0 X G W B1 B2 bm s1 s2 q cnt k) {q' : Int × Int × Int → Option Int} {cnt' : Nat} (hm : MapN Try.prog 53 3 actK okT W' bm q' cnt') (hg : W.grownBy W' (some bm)) : Ap w0 X G W' B1 B2 bm s1 s2 q' cnt' k := by
  obtain ⟨F1, F2, h1, h2, h3, h4⟩ := h.ex
  have keep : ∀ j, j < W.heap.size → j ≠ bm → W'.heap[j]? = W.heap[j]? := fun j hj hn => hg.block j hj (fun e => hn (Option.some.inj e))
  have hs := hg.size
  have hbs := h.bl.size
  have hmg := h.mg
  refine ⟨⟨F1, F2, h1.kept (fun j hj => keep j (h1.lt j hj) (h3 j hj).2.1) hs, h2.kept (fun j hj => keep j (h2.lt j hj) (h4 j hj).1) hs, h3, h4⟩, hm, h.mg, fun j hj => (keep j (by have := h.gl j hj; have := h.sz; omega) (fun e => h.mg.1 (e ▸ hj))).trans (h.kept j hj), h.gl, Nat.le_trans h.sz hs, ?_⟩
  exact h.bl.trans ⟨hg.os, hg.tape, hg.output, hs, fun j hj => keep j (by omega) (by omega)⟩
def Nb (w w' : World) (B : Nat) : Prop := BgM w' (fun g => g = B) B bg0 0 ∧ Below w.heap.size w w' ∧ w.heap.size ≤ B
theorem nb_new (w : World) : Calls Try.prog 15 #[] w fun x w' => ∃ B, x = .returned (.pointer (some ⟨B, 0, none⟩)) ∧ Nb w w' B := (bnew_any w).mono fun x w' h => ⟨w.heap.size, h.1, h.2.1, h.2.2, Nat.le_refl _⟩
theorem Ap.start {w w1 w2 : World} {B1 B2 : Nat} (h1 : Nb w w1 B1) (h2 : Nb w1 w2 B2) : Ap w w (fun _ => False) (w2.alloc (.map #[] 0)) B1 B2 w2.heap.size bg0 bg0 (fun _ => none) 0 0 := by
  obtain ⟨h1, hb1, g1⟩ := h1
  obtain ⟨h2, hb2, g2⟩ := h2
  have l1 := h1.lt _ rfl
  have l2 := h2.lt _ rfl
  have a1 := hb1.size
  have a2 := hb2.size
  have hm : Below w2.heap.size w2 (w2.alloc (.map #[] 0)) := (Below.refl _ _).alloc (Nat.le_refl _) _
  have h1' := h1.below hb2
  refine ⟨⟨_, _, h1'.below hm, h2.below hm, fun j hj => ?_, fun j hj => ?_⟩, MapN.made KA w2, ⟨fun h => h, by omega⟩, fun j hj => hj.elim, fun j hj => hj.elim, ?_, ?_⟩
  · subst hj; exact ⟨by omega, by omega, fun h => h, by omega⟩
  · subst hj; exact ⟨by omega, fun h => h, by omega⟩
  · have := hm.size; omega
  · exact (hb1.trans (hb2.mono (by omega))).trans (hm.mono (by omega))
/-- A new round: its boxes lie behind all. -/
theorem Ap.round (h : Ap w0 X G W B1 B2 bm s1 s2 q cnt k) (hb : Below W.heap.size W W') : Ap w0 W' (fun j => W.heap.size ≤ j ∧ j < W'.heap.size) W' B1 B2 bm s1 s2 q cnt k := by
  have h' := h.below hb
  have hml := h.map.lt
  obtain ⟨F1, F2, h1, h2, h3, h4⟩ := h.ex
  exact ⟨⟨F1, F2, h1.below hb, h2.below hb, fun j hj => ⟨(h3 j hj).1, (h3 j hj).2.1, fun hg => by have := h1.lt j hj; omega, (h3 j hj).2.2.2⟩, fun j hj => ⟨(h4 j hj).1, fun hg => by have := h2.lt j hj; omega, (h4 j hj).2.2⟩⟩, h'.map, ⟨fun hg => by omega, h.mg.2⟩, fun _ _ => rfl, fun j hj => hj.2, Nat.le_refl _, h'.bl⟩
theorem Ap.has1 (h : Ap w0 X G W B1 B2 bm s1 s2 q cnt k) {v l e : Int} (ha : okT (v, l, e)) : Calls Try.prog 16 #[.pointer (some ⟨B1, 0, none⟩), .int .i64 v, .int .i64 l, .int .i64 e] W fun x w' => x = .returned (.bool (decide (e ∈ s1.L (v, l)))) ∧ w' = W := let ⟨_, _, h1, _⟩ := h.ex; bhas_any h1 ha
theorem Ap.len1 (h : Ap w0 X G W B1 B2 bm s1 s2 q cnt k) : Calls Try.prog 26 #[.pointer (some ⟨B1, 0, none⟩)] W fun x w' => x = .returned (.int .i64 s1.n) ∧ w' = W := let ⟨_, _, h1, _⟩ := h.ex; blen_any h1
theorem Ap.many1 (h : Ap w0 X G W B1 B2 bm s1 s2 q cnt k) {v l : Int} (ha : okP (v, l)) : Calls Try.prog 25 #[.pointer (some ⟨B1, 0, none⟩), .int .i64 v, .int .i64 l] W fun x w' => x = .returned (.int .i64 (s1.L (v, l)).length) ∧ w' = W := let ⟨_, _, h1, _⟩ := h.ex; bmany_any h1 ha
theorem Ap.of1 (h : Ap w0 X G W B1 B2 bm s1 s2 q cnt k) (hk : k ≤ 100000) {v l most : Int} (ha : okP (v, l)) (hm2 : most ≤ 9223372036854775807) :
    Calls Try.prog 24 #[.pointer (some ⟨B1, 0, none⟩), .int .i64 v, .int .i64 l, .int .i64 most] W fun e w' => ∃ ao cap, e = .returned (.slice ao (firstN (s1.L (v, l)) most).length cap) ∧ NAt .i64 w' ao (firstN (s1.L (v, l)) most) ∧ Below W.heap.size W w' := let ⟨_, _, h1, _⟩ := h.ex; of_any h1 hk ha hm2
theorem Ap.same (h : Ap w0 X G W B1 B2 bm s1 s2 q cnt k) {v l : Int} {K : List (Int × Int × Int)} (hg : Gh v l s1 s2 q K) : firstN (s2.L (v, l)) 1000 = firstN (s1.L (v, l)) 1000 := by rw [hg.same]
end
end Go.Proofs.Ythdmmjboaoonbaa
