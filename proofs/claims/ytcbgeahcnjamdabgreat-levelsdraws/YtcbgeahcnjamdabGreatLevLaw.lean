/- Layer 10's statements: a graph by its vertices and its edges' ends. -/
import Derived.Test.YtcbgeahcnjamdabGreatLevReadC
namespace Go.Proofs.YtcbgeahcnjamdabGreat
open Go.RowKit
set_option linter.unusedVariables false

/-- The edges that there are, by their ends. -/
def EL (E : EM) (M : List (Int × Int × Int)) : Prop := ∀ e a b, (∃ x, E e = some x ∧ x.a = a ∧ x.b = b) ↔ (e, a, b) ∈ M
def Am (M : List (Int × Int × Int)) (a b : Int) : Prop := ∃ e, (e, a, b) ∈ M
theorem EL.ae {E : EM} {M : List (Int × Int × Int)} (h : EL E M) : Ae E = Am M := by
  funext a b
  refine propext ⟨fun ⟨e, x, h1, h2, h3⟩ => ⟨e, (h e a b).1 ⟨x, h1, h2, h3⟩⟩, fun ⟨e, k⟩ => ?_⟩
  obtain ⟨x, h1, h2, h3⟩ := (h e a b).2 k
  exact ⟨e, x, h1, h2, h3⟩
theorem EL.isS {E : EM} {M : List (Int × Int × Int)} (h : EL E M) (e : Int) : (∃ x, E e = some x) ↔ ∃ a b, (e, a, b) ∈ M :=
  ⟨fun ⟨x, k⟩ => ⟨x.a, x.b, (h _ _ _).1 ⟨x, k, rfl, rfl⟩⟩, fun ⟨a, b, k⟩ => by obtain ⟨x, k, _⟩ := (h _ _ _).2 k; exact ⟨x, k⟩⟩
theorem EL.isN {E : EM} {M : List (Int × Int × Int)} (h : EL E M) {e : Int} (k : ∀ a b, (e, a, b) ∉ M) : E e = none := by
  cases hx : E e with
  | none => rfl
  | some x => exact absurd ((h _ _ _).1 ⟨x, hx, rfl, rfl⟩) (k _ _)
theorem EL.ins {E : EM} {M : List (Int × Int × Int)} (h : EL E M) {r a b l : Int} {t : Bool} (hn : E r = none) : EL (updQ E r (some ⟨a, b, l, t⟩)) (M ++ [(r, a, b)]) := fun e x y => by
  rw [List.mem_append, List.mem_singleton]
  by_cases he : e = r
  · subst he
    rw [updQ_at]
    constructor
    · rintro ⟨z, k1, k2, k3⟩
      cases k1
      exact .inr (by rw [← k2, ← k3])
    · rintro (k | k)
      · obtain ⟨z, k1, _⟩ := (h _ _ _).2 k
        rw [hn] at k1; cases k1
      · cases k
        exact ⟨_, rfl, rfl, rfl⟩
  · rw [updQ_ne he, h]
    exact ⟨.inl, fun k => k.elim id fun k => absurd (by cases k; rfl) he⟩
theorem EL.del {E E' : EM} {M : List (Int × Int × Int)} (h : EL E M) {r : Int} (k : Evx E E' r) : EL E' (M.filter fun x => decide (x.1 ≠ r)) := fun e x y => by
  rw [List.mem_filter, ← h]
  simp only [decide_eq_true_eq]
  by_cases he : e = r
  · subst he
    rw [k.1]
    exact ⟨fun ⟨z, k1, _⟩ => (by cases k1), fun k => absurd rfl k.2⟩
  · rcases k.2 e he with ⟨k1, k2⟩ | ⟨x0, x1, k1, k2, k3, k4, _⟩
    · rw [k1, k2]
      exact ⟨fun ⟨z, q, _⟩ => (by cases q), fun ⟨⟨z, q, _⟩, _⟩ => (by cases q)⟩
    · rw [k1, k2]
      constructor
      · rintro ⟨z, q, q1, q2⟩
        cases q
        exact ⟨⟨x0, rfl, by rw [← k3]; exact q1, by rw [← k4]; exact q2⟩, he⟩
      · rintro ⟨⟨z, q, q1, q2⟩, _⟩
        cases q
        exact ⟨x1, rfl, by rw [k3]; exact q1, by rw [k4]; exact q2⟩
/-- A graph between two calls, by what the document tells of it. -/
def Lg (F : Nat → Prop) (W : World) (B : Nat) (n : Int) (m : Nat) (V : List Int) (sv lv : Int → Int) (M : List (Int × Int × Int)) (T : Nat) : Prop := ∃ p g, Ls p W F B g V sv lv T ∧ EL g.E M ∧ g.n = n ∧ g.m = m
noncomputable def conM (M : List (Int × Int × Int)) (V : List Int) (a b : Int) : Bool := @decide (a ∈ V ∧ b ∈ V ∧ Jn (Am M) a b) (Classical.propDecidable _)
theorem conM_iff {M : List (Int × Int × Int)} {V : List Int} {a b : Int} : conM M V a b = true ↔ a ∈ V ∧ b ∈ V ∧ Jn (Am M) a b := by
  unfold conM
  exact @decide_eq_true_iff _ (Classical.propDecidable _)
noncomputable def joinM (M : List (Int × Int × Int)) (V : List Int) (v : Int) : List Int := if v ∈ V then V.filter fun u => @decide (Jn (Am M) v u) (Classical.propDecidable _) else []
section
variable {F : Nat → Prop} {w w' : World} {B : Nat} {n : Int} {m : Nat} {V : List Int} {sv lv : Int → Int} {M : List (Int × Int × Int)} {T : Nat}
theorem Lg.below (h : Lg F w B n m V sv lv M T) (hb : Below w.heap.size w w') : Lg F w' B n m V sv lv M T := by
  obtain ⟨p, g, h, r⟩ := h; exact ⟨p, g, h.below hb, r⟩
theorem Lg.step {F' F1 : Nat → Prop} (h : Lg F w B n m V sv lv M T) (hb : Step F' F1 w w') (hd : ∀ k, F k → ¬ F' k) : Lg F w' B n m V sv lv M T := by
  obtain ⟨p, g, h, r⟩ := h; exact ⟨p, g, h.step hb hd, r⟩
theorem Lg.with (h : Lg F w B n m V sv lv M T) {V' : List Int} {sv' lv' : Int → Int} {M' : List (Int × Int × Int)} (h1 : V = V') (h2 : sv = sv') (h3 : lv = lv') (h4 : M = M') : Lg F w B n m V' sv' lv' M' T := by subst h1 h2 h3 h4; exact h
theorem Lg.lt (h : Lg F w B n m V sv lv M T) : ∀ k, F k → k < w.heap.size := by
  obtain ⟨p, g, ⟨K, D, h⟩, r⟩ := h; exact h.gm.lt
theorem Lg.m1 (h : Lg F w B n m V sv lv M T) : 1 ≤ m ∧ m ≤ 23 := by
  obtain ⟨p, g, ⟨K, D, h⟩, _, _, rfl⟩ := h; exact h.gi.m
theorem Lg.b64 (h : Lg F w B n m V sv lv M T) {v : Int} (hv : v ∈ V) : B64 v := by
  obtain ⟨p, g, ⟨K, D, h⟩, _⟩ := h; exact h.b64 hv
theorem Lg.vnd (h : Lg F w B n m V sv lv M T) : V.Nodup := by
  obtain ⟨p, g, ⟨K, D, h⟩, _⟩ := h; exact h.vnd
theorem Lg.ends (h : Lg F w B n m V sv lv M T) {e a b : Int} (k : (e, a, b) ∈ M) : B64 e ∧ a ∈ V ∧ b ∈ V ∧ a ≠ b := by
  obtain ⟨p, g, ⟨K, D, h⟩, hE, _⟩ := h
  obtain ⟨x, k1, rfl, rfl⟩ := (hE _ _ _).2 k
  have q := h.gi.eb e x k1
  exact ⟨h.gi.e64 k1, q.2.2.1, q.2.2.2.1, q.2.1⟩
theorem EL.hase {E : EM} (h : EL E M) (v : Int) : HasE E v ↔ ∃ e a b, (e, a, b) ∈ M ∧ (a = v ∨ b = v) :=
  ⟨fun ⟨e, x, k1, k2⟩ => ⟨e, x.a, x.b, (h _ _ _).1 ⟨x, k1, rfl, rfl⟩, k2⟩, fun ⟨e, a, b, k1, k2⟩ => by obtain ⟨x, q1, rfl, rfl⟩ := (h _ _ _).2 k1; exact ⟨e, x, q1, k2⟩⟩
theorem lg_vertex (h : Lg F w B n m V sv lv M T) (hT : T + 1 ≤ 200) (s l : Int) :
    Calls Tryz.prog 8 #[.pointer (some ⟨B, 0, none⟩), .int .i64 s, .int .i64 l] w fun e w' =>
      (n ≤ V.length ∧ e = .returned (.tuple #[.int .i64 0, .int .i64 6]) ∧ Below w.heap.size w w') ∨
      ((V.length : Int) < n ∧ okSL s l = false ∧ e = .returned (.tuple #[.int .i64 0, .int .i64 1]) ∧ Below w.heap.size w w') ∨
      ((V.length : Int) < n ∧ okSL s l = true ∧ ∃ r, e = .returned (.tuple #[.int .i64 r, .int .i64 0]) ∧ Least (fun t => t ∈ V) r ∧ ∃ F', Lg F' w' B n m (V ++ [r]) (updI sv r s) (updI lv r l) M (T + 1) ∧ Step F F' w w') := by
  obtain ⟨p, g, h, hE, rfl, rfl⟩ := h
  refine (ls_vertex h hT s l).mono fun e w' H => ?_
  rcases H with a | a | ⟨a, b, r, c, d, F', g', q1, q2, q3, q4, q5⟩
  · exact .inl a
  · exact .inr (.inl a)
  · exact .inr (.inr ⟨a, b, r, c, d, F', ⟨p, g', q1, by rw [q3]; exact hE, q4, q5⟩, q2⟩)
theorem lg_drop (h : Lg F w B n m V sv lv M T) (hT : T + 1 ≤ 200) (v : Int) (hb : B64 v) :
    Calls Tryz.prog 9 #[.pointer (some ⟨B, 0, none⟩), .int .i64 v] w fun e w' =>
      (v ∉ V ∧ e = .returned (.int .i64 4) ∧ Below w.heap.size w w') ∨
      (v ∈ V ∧ (∃ e a b, (e, a, b) ∈ M ∧ (a = v ∨ b = v)) ∧ e = .returned (.int .i64 13) ∧ ∃ F', Lg F' w' B n m V sv lv M (T + 1) ∧ Step F F' w w') ∨
      (v ∈ V ∧ (¬ ∃ e a b, (e, a, b) ∈ M ∧ (a = v ∨ b = v)) ∧ e = .returned (.int .i64 0) ∧ ∃ F', Lg F' w' B n m (V.filter fun u => decide (u ≠ v)) sv lv M (T + 1) ∧ Step F F' w w') := by
  obtain ⟨p, g, h, hE, rfl, rfl⟩ := h
  refine (ls_drop h hT v hb).mono fun e w' H => ?_
  rw [hE.hase] at H
  rcases H with a | ⟨a, b, c, F', q1, q2⟩ | ⟨a, b, c, F', g', q1, q2, q3, q4, q5⟩
  · exact .inl a
  · exact .inr (.inl ⟨a, b, c, F', ⟨p, g, q1, hE, rfl, rfl⟩, q2⟩)
  · exact .inr (.inr ⟨a, b, c, F', ⟨p, g', q1, by rw [q3]; exact hE, q4, q5⟩, q2⟩)
theorem lg_insert_no (h : Lg F w B n m V sv lv M T) {a b : Int} (ha : B64 a) (hb : B64 b) (hno : a ∉ V ∨ b ∉ V ∨ a = b) :
    Calls Tryz.prog 10 #[.pointer (some ⟨B, 0, none⟩), .int .i64 a, .int .i64 b] w fun e w' => ((a ∈ V ∧ b ∈ V → e = .returned (.tuple #[.int .i64 0, .int .i64 1])) ∧ (¬ (a ∈ V ∧ b ∈ V) → e = .returned (.tuple #[.int .i64 0, .int .i64 4]))) ∧ Below w.heap.size w w' := by
  obtain ⟨p, g, h, _⟩ := h
  exact ls_insert_no h ha hb hno
theorem lg_insert (h : Lg F w B n m V sv lv M T) (hT : T + 1 ≤ 200) {a b : Int} (ha : a ∈ V) (hb : b ∈ V) (hab : a ≠ b) :
    Calls Tryz.prog 10 #[.pointer (some ⟨B, 0, none⟩), .int .i64 a, .int .i64 b] w fun e w' => ∃ r, e = .returned (.tuple #[.int .i64 r, .int .i64 0]) ∧ Least (fun t => ∃ a b, (t, a, b) ∈ M) r ∧ ∃ F', Lg F' w' B n m V sv lv (M ++ [(r, a, b)]) (T + 1) ∧ Step F F' w w' := by
  obtain ⟨p, g, h, hE, rfl, rfl⟩ := h
  refine (ls_insert h hT ha hb hab).mono fun e w' H => ?_
  obtain ⟨r, q0, q1, F', g', t, q2, q3, q4, q5, q6, _⟩ := H
  have hn : g.E r = none := by
    cases k : g.E r with
    | none => rfl
    | some x => exact absurd ⟨x, k⟩ q1.2.1
  exact ⟨r, q0, tk_ext hE.isS q1, F', ⟨p, g', q2, by rw [q4]; exact hE.ins hn, q5, q6⟩, q3⟩
theorem lg_delete_no (h : Lg F w B n m V sv lv M T) {e : Int} (he : B64 e) (hx : ∀ a b, (e, a, b) ∉ M) : Calls Tryz.prog 11 #[.pointer (some ⟨B, 0, none⟩), .int .i64 e] w fun r w' => r = .returned (.int .i64 4) ∧ Below w.heap.size w w' := by
  obtain ⟨p, g, h, hE, _⟩ := h
  exact ls_delete_no h he (hE.isN hx)
theorem lg_delete (h : Lg F w B n m V sv lv M T) (hT : T + 1 ≤ 200) {e a b : Int} (hx : (e, a, b) ∈ M) :
    Calls Tryz.prog 11 #[.pointer (some ⟨B, 0, none⟩), .int .i64 e] w fun r w' => r = .returned (.int .i64 0) ∧ ∃ F', Lg F' w' B n m V sv lv (M.filter fun x => decide (x.1 ≠ e)) (T + 1) ∧ Step F F' w w' := by
  obtain ⟨p, g, h, hE, rfl, rfl⟩ := h
  obtain ⟨x, k, _⟩ := (hE _ _ _).2 hx
  refine (ls_delete h hT k).mono fun r w' H => ?_
  obtain ⟨q0, F', g', q1, q2, q3, q4, q5⟩ := H
  exact ⟨q0, F', ⟨p, g', q1, hE.del q3, q4, q5⟩, q2⟩
theorem lg_has (h : Lg F w B n m V sv lv M T) (v : Int) (hb : B64 v) : Calls Tryz.prog 18 #[.pointer (some ⟨B, 0, none⟩), .int .i64 v] w fun e w' => e = .returned (.bool (decide (v ∈ V))) ∧ Below w.heap.size w w' := by
  obtain ⟨p, g, h, _⟩ := h
  exact ls_has h v hb
theorem lg_conn (h : Lg F w B n m V sv lv M T) (a b : Int) (ha : B64 a) (hb : B64 b) : Calls Tryz.prog 12 #[.pointer (some ⟨B, 0, none⟩), .int .i64 a, .int .i64 b] w fun e w' => e = .returned (.bool (conM M V a b)) ∧ Below w.heap.size w w' := by
  obtain ⟨p, g, h, hE, _⟩ := h
  have := ls_conn h a b ha hb
  unfold conN at this
  rw [hE.ae] at this
  exact this
theorem joinM_eq {E : EM} (hE : EL E M) (v : Int) : joinN E V v = joinM M V v := by
  unfold joinN joinM
  rw [hE.ae]
theorem lg_size (h : Lg F w B n m V sv lv M T) (v : Int) (hb : B64 v) : Calls Tryz.prog 13 #[.pointer (some ⟨B, 0, none⟩), .int .i64 v] w fun e w' => e = .returned (.int .i64 (joinM M V v).length) ∧ Below w.heap.size w w' := by
  obtain ⟨p, g, h, hE, _⟩ := h
  rw [← joinM_eq hE]
  exact ls_size h v hb
theorem lg_sum (h : Lg F w B n m V sv lv M T) (v : Int) (hb : B64 v) : Calls Tryz.prog 14 #[.pointer (some ⟨B, 0, none⟩), .int .i64 v] w fun e w' => e = .returned (.int .i64 (sumN' sv (joinM M V v))) ∧ Below w.heap.size w w' := by
  obtain ⟨p, g, h, hE, _⟩ := h
  rw [← joinM_eq hE]
  exact ls_sum h v hb
theorem lg_least (h : Lg F w B n m V sv lv M T) (v : Int) (hb : B64 v) : Calls Tryz.prog 15 #[.pointer (some ⟨B, 0, none⟩), .int .i64 v] w fun e w' => e = .returned (.int .i64 (minN' lv (joinM M V v))) ∧ Below w.heap.size w w' := by
  obtain ⟨p, g, h, hE, _⟩ := h
  rw [← joinM_eq hE]
  exact ls_least h v hb
theorem lg_highest (h : Lg F w B n m V sv lv M T) : Calls Tryz.prog 17 #[.pointer (some ⟨B, 0, none⟩)] w fun e w' => e = .returned (.int .i64 ((m : Int) - 1)) ∧ Below w.heap.size w w' := by
  obtain ⟨p, g, ⟨K, D, h⟩, hE, _, rfl⟩ := h
  exact highest_any h.gm h.gi.m.1
/-- A new one. -/
theorem lg_new (d : Option Addr) (dr : Option (Nat × Nat × List Int)) (n : Nat) (w : World) (h0 : 1 ≤ n) (h1 : n ≤ 4194304) (hd : Dw w d dr) : Calls Tryz.prog 7 #[.pointer d, .int .i64 n] w fun e w' => ∃ B F, e = .returned (.tuple #[.pointer (some ⟨B, 0, none⟩), .int .i64 0]) ∧ Lg F w' B n (bitLen n) [] n0 n0 [] 0 ∧ (∀ k, F k → w.heap.size ≤ k ∨ Shd dr k) ∧ Below w.heap.size w w' := by
  refine (lnew_yes d n w h0 h1).mono fun e w' H => ?_
  obtain ⟨B, M, bB, rv, Bl, q0, q1, q2⟩ := H
  have hl := ls_new h0 h1 q2 q1 hd
  have hE0 : EL (g00 n Bl.length).E [] := fun e a b => ⟨fun ⟨x, k, _⟩ => (by cases k), fun k => (by cases k)⟩
  refine ⟨B, _, q0, ⟨_, _, hl, hE0, rfl, q1⟩, ?_, q2.bl⟩
  · rintro k (rfl | rfl | rfl | k1 | k1 | k1)
    · exact .inl q2.lo.1
    · exact .inl q2.lo.2.1
    · exact .inl q2.lo.2.2.1
    · exact .inl (q2.ne3 _ k1).2
    · exact .inl (q2.lo.2.2.2 _ k1)
    · exact .inr k1
end
/-- The one least number that is free. -/
theorem Least.one {P : Int → Prop} {r s : Int} (h : Least P r) (k : Least P s) : r = s := by
  rcases Int.lt_trichotomy r s with hlt | he | hlt
  · exact absurd (k.2.2 r h.1 hlt) h.2.1
  · exact he
  · exact absurd (h.2.2 s k.1 hlt) k.2.1
/-- Nothing leads out of what is closed. -/
theorem Jn.closed {R : Int → Int → Prop} {S : Int → Prop} (h : ∀ a b, R a b → (S a ↔ S b)) {a b : Int} (k : Jn R a b) : S a → S b := by
  induction k with
  | refl => exact id
  | step _ e ih => exact fun ha => e.elim (fun e => (h _ _ e).1 (ih ha)) fun e => (h _ _ e).2 (ih ha)
end Go.Proofs.YtcbgeahcnjamdabGreat
