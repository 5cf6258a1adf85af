/- Layer 10's statements: more of a graph that was made behind a start. -/
import Derived.Test.YtcbgeahcnjamdabGreatLevWakes
import Derived.Test.YtcbgeahcnjamdabGreatLevReadD
namespace Go.Proofs.YtcbgeahcnjamdabGreat
open Go.RowKit
set_option linter.unusedVariables false
section
variable {F : Nat → Prop} {w W : World} {B : Nat} {n : Int} {m : Nat} {V : List Int} {sv lv : Int → Int} {M : List (Int × Int × Int)} {T : Nat}
theorem wk_insert_e (h : Wk w W B n m V sv lv M T) (hT : T + 1 ≤ 200) {r a b : Int} (hr : Least (fun t => ∃ a b, (t, a, b) ∈ M) r) (ha : a ∈ V) (hb : b ∈ V) (hab : a ≠ b) (hj : Jn (Am M) a b) :
    Calls Tryz.prog 10 #[.pointer (some ⟨B, 0, none⟩), .int .i64 a, .int .i64 b] W fun e w' => e = .returned (.tuple #[.int .i64 r, .int .i64 0]) ∧ Wk w w' B n m V sv lv (M ++ [(r, a, b)]) (T + 1) ∧
      Calls Tryz.prog 16 #[.pointer (some ⟨B, 0, none⟩), .int .i64 r] w' fun e w2 => e = .returned (.tuple #[.int .i64 a, .int .i64 b, .int .i64 0, .bool false, .bool true]) ∧ Below w'.heap.size w' w2 := by
  obtain ⟨F, ⟨p, g, h, hE, rfl, rfl⟩, h2, h3⟩ := h
  refine (ls_insert h hT ha hb hab).mono fun e w' H => ?_
  obtain ⟨r', q0, q1, F', g', t, q2, q3, q4, q5, q6, q7⟩ := H
  have hr' := tk_ext hE.isS q1
  obtain rfl := Least.one hr' hr
  have hn : g.E r' = none := by
    cases k : g.E r' with
    | none => rfl
    | some x => exact absurd ⟨x, k⟩ q1.2.1
  have ht : t = false := by
    cases t with
    | false => rfl
    | true => exact absurd (by rw [hE.ae]; exact hj) (q7.1 rfl)
  subst ht
  refine ⟨q0, Wk.next h2 h3 ⟨p, g', q2, by rw [q4]; exact hE.ins hn, q5, q6⟩ q3, ?_⟩
  obtain ⟨K, D, hl⟩ := q2
  have hx : g'.E r' = some ⟨a, b, 0, false⟩ := by rw [q4, updQ_at]
  exact edge_some hl.gm (hl.gi.e64 hx) hx
theorem wk_delete_no (h : Wk w W B n m V sv lv M T) {e : Int} (he : B64 e) (hx : ∀ a b, (e, a, b) ∉ M) : Calls Tryz.prog 11 #[.pointer (some ⟨B, 0, none⟩), .int .i64 e] W fun r w' => r = .returned (.int .i64 4) ∧ Below W.heap.size W w' := by
  obtain ⟨F, h1, h2, h3⟩ := h
  exact lg_delete_no h1 he hx
theorem wk_insert_arg (h : Wk w W B n m V sv lv M T) {a : Int} (ha : a ∈ V) :
    Calls Tryz.prog 10 #[.pointer (some ⟨B, 0, none⟩), .int .i64 a, .int .i64 a] W fun e w' => e = .returned (.tuple #[.int .i64 0, .int .i64 1]) ∧ Below W.heap.size W w' := by
  obtain ⟨F, h1, h2, h3⟩ := h
  exact (lg_insert_no h1 (h1.b64 ha) (h1.b64 ha) (.inr (.inr rfl))).mono fun e w' H => ⟨H.1.1 ⟨ha, ha⟩, H.2⟩
theorem wk_insert_none (h : Wk w W B n m V sv lv M T) {a b : Int} (ha : B64 a) (hb : B64 b) (hn : b ∉ V) :
    Calls Tryz.prog 10 #[.pointer (some ⟨B, 0, none⟩), .int .i64 a, .int .i64 b] W fun e w' => e = .returned (.tuple #[.int .i64 0, .int .i64 4]) ∧ Below W.heap.size W w' := by
  obtain ⟨F, h1, h2, h3⟩ := h
  exact (lg_insert_no h1 ha hb (.inr (.inl hn))).mono fun e w' H => ⟨H.1.2 fun k => hn k.2, H.2⟩
theorem wk_drop_state (h : Wk w W B n m V sv lv M T) (hT : T + 1 ≤ 200) {v : Int} (hv : v ∈ V) (he : ∃ e a b, (e, a, b) ∈ M ∧ (a = v ∨ b = v)) :
    Calls Tryz.prog 9 #[.pointer (some ⟨B, 0, none⟩), .int .i64 v] W fun e w' => e = .returned (.int .i64 13) ∧ Wk w w' B n m V sv lv M (T + 1) := by
  obtain ⟨F, h1, h2, h3⟩ := h
  refine (lg_drop h1 hT v (h1.b64 hv)).mono fun e w' H => ?_
  rcases H with ⟨a, _⟩ | ⟨_, _, a, F', q1, q2⟩ | ⟨_, a, _⟩
  · exact absurd hv a
  · exact ⟨a, Wk.next h2 h3 q1 q2⟩
  · exact absurd he a
theorem wk_drop_no (h : Wk w W B n m V sv lv M T) (hT : T + 1 ≤ 200) {v : Int} (hb : B64 v) (hv : v ∉ V) :
    Calls Tryz.prog 9 #[.pointer (some ⟨B, 0, none⟩), .int .i64 v] W fun e w' => e = .returned (.int .i64 4) ∧ Below W.heap.size W w' := by
  obtain ⟨F, h1, h2, h3⟩ := h
  refine (lg_drop h1 hT v hb).mono fun e w' H => ?_
  rcases H with ⟨_, a, b⟩ | ⟨a, _⟩ | ⟨a, _⟩
  · exact ⟨a, b⟩
  · exact absurd a hv
  · exact absurd a hv
theorem wk_drop (h : Wk w W B n m V sv lv M T) (hT : T + 1 ≤ 200) {v : Int} (hv : v ∈ V) (he : ¬ ∃ e a b, (e, a, b) ∈ M ∧ (a = v ∨ b = v)) :
    Calls Tryz.prog 9 #[.pointer (some ⟨B, 0, none⟩), .int .i64 v] W fun e w' => e = .returned (.int .i64 0) ∧ Wk w w' B n m (V.filter fun u => decide (u ≠ v)) sv lv M (T + 1) := by
  obtain ⟨F, h1, h2, h3⟩ := h
  refine (lg_drop h1 hT v (h1.b64 hv)).mono fun e w' H => ?_
  rcases H with ⟨a, _⟩ | ⟨_, a, _⟩ | ⟨_, _, a, F', q1, q2⟩
  · exact absurd hv a
  · exact absurd a he
  · exact ⟨a, Wk.next h2 h3 q1 q2⟩
theorem wk_has (h : Wk w W B n m V sv lv M T) (v : Int) (hb : B64 v) {t : Bool} (ht : decide (v ∈ V) = t) : Calls Tryz.prog 18 #[.pointer (some ⟨B, 0, none⟩), .int .i64 v] W fun e w' => e = .returned (.bool t) ∧ Below W.heap.size W w' := by
  obtain ⟨F, h1, h2, h3⟩ := h
  rw [← ht]
  exact lg_has h1 v hb
theorem wk_full (h : Wk w W B n m V sv lv M T) (hT : T + 1 ≤ 200) (hn : n ≤ (V.length : Int)) (s l : Int) :
    Calls Tryz.prog 8 #[.pointer (some ⟨B, 0, none⟩), .int .i64 s, .int .i64 l] W fun e w' => e = .returned (.tuple #[.int .i64 0, .int .i64 6]) ∧ Below W.heap.size W w' := by
  obtain ⟨F, h1, h2, h3⟩ := h
  refine (lg_vertex h1 hT s l).mono fun e w' H => ?_
  rcases H with ⟨_, a, b⟩ | ⟨a, _⟩ | ⟨a, _⟩
  · exact ⟨a, b⟩
  · omega
  · omega
theorem wk_vertex_arg (h : Wk w W B n m V sv lv M T) (hT : T + 1 ≤ 200) (hn : (V.length : Int) < n) (s l : Int) (ok : okSL s l = false) :
    Calls Tryz.prog 8 #[.pointer (some ⟨B, 0, none⟩), .int .i64 s, .int .i64 l] W fun e w' => e = .returned (.tuple #[.int .i64 0, .int .i64 1]) ∧ Below W.heap.size W w' := by
  obtain ⟨F, h1, h2, h3⟩ := h
  refine (lg_vertex h1 hT s l).mono fun e w' H => ?_
  rcases H with ⟨a, _⟩ | ⟨_, _, a, b⟩ | ⟨_, a, _⟩
  · omega
  · exact ⟨a, b⟩
  · rw [ok] at a; cases a
theorem wk_high (h : Wk w W B n m V sv lv M T) : Calls Tryz.prog 17 #[.pointer (some ⟨B, 0, none⟩)] W fun e w' => e = .returned (.int .i64 ((m : Int) - 1)) ∧ Below W.heap.size W w' := by
  obtain ⟨F, h1, h2, h3⟩ := h
  exact lg_highest h1
/-- Another one. -/
theorem wk_more (h : Below w.heap.size w W) (n m : Nat) (h0 : 1 ≤ n) (h1 : n ≤ 4194304) (hm : bitLen n = m) : Calls Tryz.prog 7 #[.pointer none, .int .i64 n] W fun e w' => ∃ B, e = .returned (.tuple #[.pointer (some ⟨B, 0, none⟩), .int .i64 0]) ∧ Wk w w' B n m [] n0 n0 [] 0 ∧ Below W.heap.size W w' := by
  refine (lg_new none none n W h0 h1 (.inl ⟨rfl, rfl⟩)).mono fun e w' H => ?_
  obtain ⟨B, F, q0, q1, q2, q3⟩ := H
  rw [hm] at q1
  exact ⟨B, q0, ⟨F, q1, fun k hk => (q2 k hk).elim (fun k1 => Nat.le_trans h.size k1) fun ⟨D, Dg, xs, e, _⟩ => (by cases e), below_step h q3 (Nat.le_refl _)⟩, q3⟩
theorem wk_tree0 (h : Wk w W B n m V sv lv M T) {v : Int} (hv : v ∈ V) {t : Int} (ht : max 1 ((joinM M V v).length : Int) = t) : Calls Tryz.prog 19 #[.pointer (some ⟨B, 0, none⟩), .int .i64 v, .int .i64 0] W fun e w' => e = .returned (.int .i64 t) ∧ Below W.heap.size W w' := by
  obtain ⟨F, ⟨p, g, ⟨K, D, h⟩, hE, rfl, rfl⟩, h2, h3⟩ := h
  refine (tree_any h.gm (by have := h.kb; omega) h.gi.m.1 v (h.b64 hv)).mono ?_
  rintro e w' ⟨⟨s, rfl, _, q⟩, hb⟩
  obtain ⟨s', q1, rfl⟩ := q ((h.vp v).2 hv)
  obtain ⟨L, k1, rfl⟩ := q1.2 ((h.vp v).2 hv)
  rw [(h.tree hv k1).length_eq, joinM_eq hE, ht]
  exact ⟨rfl, hb⟩
theorem wk_tree_none (h : Wk w W B n m V sv lv M T) {v : Int} (hb : B64 v) (hv : v ∉ V) : Calls Tryz.prog 19 #[.pointer (some ⟨B, 0, none⟩), .int .i64 v, .int .i64 0] W fun e w' => e = .returned (.int .i64 0) ∧ Below W.heap.size W w' := by
  obtain ⟨F, ⟨p, g, ⟨K, D, h⟩, hE, rfl, rfl⟩, h2, h3⟩ := h
  refine (tree_any h.gm (by have := h.kb; omega) h.gi.m.1 v hb).mono ?_
  rintro e w' ⟨⟨s, rfl, q, _⟩, hb⟩
  exact ⟨by rw [q fun k => hv ((h.vp v).1 k)], hb⟩
theorem wk_tree_high (h : Wk w W B n m V sv lv M T) (v : Int) {l : Int} (hl : (m : Int) ≤ l) : Calls Tryz.prog 19 #[.pointer (some ⟨B, 0, none⟩), .int .i64 v, .int .i64 l] W fun e w' => e = .returned (.int .i64 0) ∧ Below W.heap.size W w' := by
  obtain ⟨F, ⟨p, g, ⟨K, D, h⟩, hE, rfl, rfl⟩, h2, h3⟩ := h
  exact tree_no h.gm v (.inr hl) h.gi.m.1
end
end Go.Proofs.YtcbgeahcnjamdabGreat
