/- Layer 10: the calls of a graph's forests, told of the graph (by tools/gen_levcall.py). -/
import Derived.Test.YtcbgeahcnjamdabGreatLevView
namespace Go.Proofs.YtcbgeahcnjamdabGreat
open Go.RowKit
set_option linter.unusedVariables false

def IsI (e : Ending) : Prop := ∃ r, e = .returned (.int .i64 r)
def IsBn (e : Ending) (P : Prop) : Prop := ∃ b : Bool, e = .returned (.bool b) ∧ (b = true ↔ P)
section
variable {p : Gp} {w : World} {F : Nat → Prop} {B : Nat} {g : Gs} {K : Nat}
theorem updF_updF {α : Type} (q : Nat → α) (i : Nat) (x y : α) : updF (updF q i x) i y = updF q i y := by
  funext j
  by_cases e : j = i
  · subst e; rw [updF_at, updF_at]
  · rw [updF_ne e, updF_ne e, updF_ne e]
theorem setF_setF (g : Gs) (i : Nat) (P P' : Vx → Prop) (Q Q' : Ex → Prop) : (g.setF i P Q).setF i P' Q' = g.setF i P' Q' := by
  show Gs.mk g.n g.m (updF (updF g.P i P) i P') (updF (updF g.Q i Q) i Q') g.E g.ne g.s g.vl g.vb g.el g.eb = _
  rw [updF_updF, updF_updF]; rfl
theorem setF_P (g : Gs) (i : Nat) (P : Vx → Prop) (Q : Ex → Prop) : (g.setF i P Q).P i = P := updF_at _ _ _
theorem setF_Q (g : Gs) (i : Nat) (P : Vx → Prop) (Q : Ex → Prop) : (g.setF i P Q).Q i = Q := updF_at _ _ _
theorem setF_self (g : Gs) (i : Nat) : g.setF i (g.P i) (g.Q i) = g := by
  unfold Gs.setF
  cases g
  congr 1
  · funext j; unfold updF; split
    · rename_i h; subst h; rfl
    · rfl
  · funext j; unfold updF; split
    · rename_i h; subst h; rfl
    · rfl

theorem gadd_any (h : Gm p w F B g K) (hK : K ≤ 30000) {i : Nat} (hi : i < g.m) (v s l : Int) (hb : B64 v) (hok : okSL s l = true) :
    Calls Tryz.prog 27 #[.pointer (some ⟨p.Bf i, 0, none⟩), .int .i64 v, .int .i64 s, .int .i64 l] w fun e w' => IsI e ∧ ∃ F', Gm p w' F' B (g.setF i (addP (g.P i) v s l) (g.Q i)) (K + 1) ∧ Step F F' w w' := by
  obtain ⟨Fi, Gi, fi, h1, h2, h3, h5, h4⟩ := h.forest hi
  refine (foadd_any h1 v s l hb h2 hK).mono ?_
  rintro e w' ⟨Fi', rfl, k1, k2⟩
  obtain ⟨F', q1, q2⟩ := h4 w' Fi' _ _ (K + 1) _ _ k1 k2 (Fo.dr_add _ _ _ _) (by omega) (h2.add hK v s l) (h3.add h1.tb hok)
  exact ⟨⟨_, rfl⟩, F', q1, q2⟩

theorem gcut_any (h : Gm p w F B g K) (hK : K ≤ 30000) {i : Nat} (hi : i < g.m) (n : Int) (hb : B64 n) :
    Calls Tryz.prog 54 #[.pointer (some ⟨p.Bf i, 0, none⟩), .int .i64 n] w fun e w' => IsI e ∧ ∃ F', Gm p w' F' B (g.setF i (g.P i) (cutQ (g.Q i) n)) (K + 1) ∧ Step F F' w w' := by
  obtain ⟨Fi, Gi, fi, h1, h2, h3, h5, h4⟩ := h.forest hi
  refine (focut_any h1 n hb h2 hK).mono ?_
  rintro e w' ⟨Fi', rfl, k1, k2⟩
  obtain ⟨F', q1, q2⟩ := h4 w' Fi' _ _ (K + 1) _ _ k1 k2 (Fo.dr_cut _ _) (by omega) (h2.cut n) (h3.cut h1.tb)
  exact ⟨⟨_, rfl⟩, F', q1, q2⟩

theorem glink_any (h : Gm p w F B g K) (hK : K ≤ 30000) {i : Nat} (hi : i < g.m) (n a b : Int) (hn : B64 n) (ha : B64 a) (hb : B64 b) (h0 : 1 ≤ n) (he : ¬ Ep (g.Q i) n) (hva : Vp (g.P i) a) (hvb : Vp (g.P i) b) (hj : ¬ Jq (g.Q i) a b) :
    Calls Tryz.prog 78 #[.pointer (some ⟨p.Bf i, 0, none⟩), .int .i64 n, .int .i64 a, .int .i64 b] w fun e w' => IsI e ∧ ∃ F', Gm p w' F' B (g.setF i (g.P i) (linkQ (g.Q i) n a b)) (K + 1) ∧ Step F F' w w' := by
  obtain ⟨Fi, Gi, fi, h1, h2, h3, h5, h4⟩ := h.forest hi
  refine (folink_any h1 n a b hn ha hb h2 hK).mono ?_
  rintro e w' ⟨Fi', _, rfl, k1, k2⟩
  obtain ⟨F', q1, q2⟩ := h4 w' Fi' _ _ (K + 1) _ _ k1 k2 (Fo.dr_link _ _ _ _) (by omega) (h2.link hK n a b) (h3.link h1.tb h0 he hva hvb hj)
  exact ⟨⟨_, rfl⟩, F', q1, q2⟩

theorem gmark_any (h : Gm p w F B g K) (hK : K ≤ 30000) {i : Nat} (hi : i < g.m) (v b : Int) (hv : B64 v) (h0 : 0 ≤ b) (hb : b ≤ 15) (hp : Vp (g.P i) v) :
    Calls Tryz.prog 65 #[.pointer (some ⟨p.Bf i, 0, none⟩), .int .i64 v, .int .u8 b] w fun e w' => IsI e ∧ ∃ F', Gm p w' F' B (g.setF i (markP (g.P i) v b) (g.Q i)) K ∧ Step F F' w w' := by
  obtain ⟨Fi, Gi, fi, h1, h2, h3, h5, h4⟩ := h.forest hi
  refine (fomark_any h1 v b hv h2 hK).mono ?_
  rintro e w' ⟨Fi', rfl, k1, k2⟩
  obtain ⟨F', q1, q2⟩ := h4 w' Fi' _ _ K _ _ k1 k2 rfl (by omega) (h2.mark v b) (h3.mark h1.tb h0 hb hp)
  exact ⟨⟨_, rfl⟩, F', q1, q2⟩

theorem gemark_any (h : Gm p w F B g K) (hK : K ≤ 30000) {i : Nat} (hi : i < g.m) (n b : Int) (hn : B64 n) (h0 : 0 ≤ b) (hb : b ≤ 15) (hp : Ep (g.Q i) n) :
    Calls Tryz.prog 79 #[.pointer (some ⟨p.Bf i, 0, none⟩), .int .i64 n, .int .u8 b] w fun e w' => IsI e ∧ ∃ F', Gm p w' F' B (g.setF i (g.P i) (emarkQ (g.Q i) n b)) K ∧ Step F F' w w' := by
  obtain ⟨Fi, Gi, fi, h1, h2, h3, h5, h4⟩ := h.forest hi
  refine (foemark_any h1 n b hn h2 hK).mono ?_
  rintro e w' ⟨Fi', rfl, k1, k2⟩
  obtain ⟨F', q1, q2⟩ := h4 w' Fi' _ _ K _ _ k1 k2 rfl (by omega) (h2.emark n b) (h3.emark h1.tb h0 hb hp)
  exact ⟨⟨_, rfl⟩, F', q1, q2⟩

theorem gdrop_any (h : Gm p w F B g K) (hK : K ≤ 30000) {i : Nat} (hi : i < g.m) (v : Int) (hb : B64 v) :
    Calls Tryz.prog 28 #[.pointer (some ⟨p.Bf i, 0, none⟩), .int .i64 v] w fun e w' => (∃ r, e = .returned (.int .i64 r) ∧ (¬ Vp (g.P i) v → r = 4) ∧ (Vp (g.P i) v → Hase (g.Q i) v → r = 13) ∧ (Vp (g.P i) v → ¬ Hase (g.Q i) v → r = 0)) ∧ ∃ F', Gm p w' F' B (g.setF i (dropP (g.P i) (g.Q i) v) (g.Q i)) (K + 1) ∧ Step F F' w w' := by
  obtain ⟨Fi, Gi, fi, h1, h2, h3, h5, h4⟩ := h.forest hi
  obtain ⟨d1, d2⟩ := h3.drop h1.tb (v := v)
  refine (fodrop_any h1 v hb h2 hK).mono ?_
  rintro e w' ⟨Fi', rfl, k1, k2⟩
  obtain ⟨F', q1, q2⟩ := h4 w' Fi' _ _ (K + 1) _ _ k1 k2 (Fo.dr_drop _ _) (by omega) (h2.drop v) d1
  exact ⟨⟨_, rfl, d2⟩, F', q1, q2⟩
theorem ghas_any (h : Gm p w F B g K) {i : Nat} (hi : i < g.m) (v : Int) (hb : B64 v) :
    Calls Tryz.prog 40 #[.pointer (some ⟨p.Bf i, 0, none⟩), .int .i64 v] w fun e w' => IsBn e (Vp (g.P i) v) ∧ w' = w := by
  obtain ⟨Fi, Gi, fi, h1, h2, h3, h5, h4⟩ := h.forest hi
  refine (fohas_any h1 v hb).mono ?_
  rintro e w' ⟨rfl, rfl⟩
  exact ⟨⟨_, rfl, h3.has⟩, rfl⟩
theorem gsame_any (h : Gm p w F B g K) (hK : K ≤ 30000) {i : Nat} (hi : i < g.m) (a b : Int) (ha : B64 a) (hb : B64 b) :
    Calls Tryz.prog 36 #[.pointer (some ⟨p.Bf i, 0, none⟩), .int .i64 a, .int .i64 b] w fun e w' => IsBn e (Vp (g.P i) a ∧ Vp (g.P i) b ∧ Jq (g.Q i) a b) ∧ Below w.heap.size w w' := by
  obtain ⟨Fi, Gi, fi, h1, h2, h3, h5, h4⟩ := h.forest hi
  refine (fosame_any h1 a b ha hb h2 hK).mono ?_
  rintro e w' ⟨rfl, hb⟩
  exact ⟨⟨_, rfl, h3.same h1.tb⟩, hb⟩
/-- How many vertices a tree has. -/
def SizeIs (P : Vx → Prop) (Q : Ex → Prop) (v n : Int) : Prop := (¬ Vp P v → n = 0) ∧ (Vp P v → ∃ T, Tree P Q v T ∧ n = T.length)
theorem gsize_any (h : Gm p w F B g K) (hK : K ≤ 30000) {i : Nat} (hi : i < g.m) (v : Int) (hb : B64 v) :
    Calls Tryz.prog 37 #[.pointer (some ⟨p.Bf i, 0, none⟩), .int .i64 v] w fun e w' => (∃ n, e = .returned (.int .i64 n) ∧ SizeIs (g.P i) (g.Q i) v n ∧ 0 ≤ n ∧ n ≤ K) ∧ Below w.heap.size w w' := by
  obtain ⟨Fi, Gi, fi, h1, h2, h3, h5, h4⟩ := h.forest hi
  refine (fosize_any h1 v hb h2 hK).mono ?_
  rintro e w' ⟨rfl, hb⟩
  refine ⟨⟨_, rfl, ?_⟩, hb⟩
  by_cases hv : Vp (g.P i) v
  · obtain ⟨T, t1, t2⟩ := h3.tree h2 v
    obtain ⟨vs, es, k1, k2, k3⟩ := h3
    obtain ⟨e1, _⟩ := k1.total h1.tb ((vp_mem k2 v).2 hv) (t1.trv k2 k3)
    rw [sumL_one, wr_id (by omega) (by omega)] at e1
    rw [e1]
    exact ⟨⟨fun k => absurd hv k, fun _ => ⟨T, t1, rfl⟩⟩, by omega, by omega⟩
  · rw [(h3.none hv).1]
    exact ⟨⟨fun _ => rfl, fun k => absurd k hv⟩, Int.le_refl _, by show (0 : Int) ≤ K; omega⟩
/-- What a tree counts for; its least rank. -/
def SumIs (P : Vx → Prop) (Q : Ex → Prop) (sv : Int → Int) (v n : Int) : Prop := (¬ Vp P v → n = 0) ∧ (Vp P v → ∃ T, Tree P Q v T ∧ n = wr (sumL sv T))
def LeastIs (P : Vx → Prop) (Q : Ex → Prop) (lv : Int → Int) (v n : Int) : Prop := (¬ Vp P v → n = -1) ∧ (Vp P v → ∃ T, Tree P Q v T ∧ n = minL lv T)
theorem gsum_any (h : Gm p w F B g K) (hK : K ≤ 30000) {i : Nat} (hi : i < g.m) (v : Int) (hb : B64 v) {sv lv : Int → Int} (hs : ∀ x, g.P i x → x.s = sv x.v ∧ x.l = lv x.v) :
    Calls Tryz.prog 38 #[.pointer (some ⟨p.Bf i, 0, none⟩), .int .i64 v] w fun e w' => (∃ n, e = .returned (.int .i64 n) ∧ SumIs (g.P i) (g.Q i) sv v n) ∧ Below w.heap.size w w' := by
  obtain ⟨Fi, Gi, fi, h1, h2, h3, h5, h4⟩ := h.forest hi
  refine (fosum_any h1 v hb h2 hK).mono ?_
  rintro e w' ⟨rfl, hb⟩
  refine ⟨⟨_, rfl, ?_⟩, hb⟩
  by_cases hv : Vp (g.P i) v
  · obtain ⟨T, t1, t2⟩ := h3.tree h2 v
    obtain ⟨_, e2, _⟩ := h3.total h1.tb hv t1 hs
    exact ⟨fun k => absurd hv k, fun _ => ⟨T, t1, e2⟩⟩
  · rw [(h3.none hv).1]
    exact ⟨fun _ => rfl, fun k => absurd k hv⟩
theorem gleast_any (h : Gm p w F B g K) (hK : K ≤ 30000) {i : Nat} (hi : i < g.m) (v : Int) (hb : B64 v) {sv lv : Int → Int} (hs : ∀ x, g.P i x → x.s = sv x.v ∧ x.l = lv x.v) :
    Calls Tryz.prog 39 #[.pointer (some ⟨p.Bf i, 0, none⟩), .int .i64 v] w fun e w' => (∃ n, e = .returned (.int .i64 n) ∧ LeastIs (g.P i) (g.Q i) lv v n) ∧ Below w.heap.size w w' := by
  obtain ⟨Fi, Gi, fi, h1, h2, h3, h5, h4⟩ := h.forest hi
  refine (foleast_any h1 v hb h2 hK).mono ?_
  rintro e w' ⟨rfl, hb⟩
  refine ⟨⟨_, rfl, ?_⟩, hb⟩
  by_cases hv : Vp (g.P i) v
  · obtain ⟨T, t1, t2⟩ := h3.tree h2 v
    obtain ⟨_, _, e2⟩ := h3.total h1.tb hv t1 hs
    exact ⟨fun k => absurd hv k, fun _ => ⟨T, t1, by rw [h3.leastYes hv]; exact e2⟩⟩
  · rw [(h3.none hv).2]
    exact ⟨fun _ => rfl, fun k => absurd k hv⟩
/-- Which marked one is found. -/
def FoundV (P : Vx → Prop) (Q : Ex → Prop) (v u : Int) (ok : Bool) : Prop := (ok = true → ∃ x, P x ∧ Jq Q v x.v ∧ x.m = 1 ∧ u = x.v) ∧ (ok = false → ∀ x, P x → Jq Q v x.v → x.m = 0)
def FoundE (Q : Ex → Prop) (v n : Int) (ok : Bool) : Prop := (ok = true → ∃ y, Q y ∧ Jq Q v y.a ∧ y.m = 1 ∧ n = y.e) ∧ (ok = false → ∀ y, Q y → Jq Q v y.a → y.m = 0)
theorem gfindV_any (h : Gm p w F B g K) (hK : K ≤ 30000) {i : Nat} (hi : i < g.m) (v : Int) (hb : B64 v) (hv : Vp (g.P i) v) (hm : ∀ x, g.P i x → x.m = 0 ∨ x.m = 1) :
    Calls Tryz.prog 57 #[.pointer (some ⟨p.Bf i, 0, none⟩), .int .i64 v, .int .u8 1] w fun e w' => (∃ u ok, e = .returned (.tuple #[.int .i64 u, .bool ok]) ∧ FoundV (g.P i) (g.Q i) v u ok) ∧ Below w.heap.size w w' := by
  obtain ⟨Fi, Gi, fi, h1, h2, h3, h5, h4⟩ := h.forest hi
  refine (fofindV_any h1 v 1 hb h2 hK).mono ?_
  rintro e w' ⟨rfl, hb⟩
  refine ⟨⟨_, _, rfl, ?_⟩, hb⟩
  rcases h3.findV h1.tb hv hm with ⟨e1, x, q1, q2, q3, q4⟩ | ⟨e1, q⟩
  · exact ⟨fun _ => ⟨x, q1, q2, q3, q4⟩, fun k => absurd e1 (of_decide_eq_false k)⟩
  · exact ⟨fun k => absurd e1 (of_decide_eq_true k), fun _ => q⟩
theorem gfindE_any (h : Gm p w F B g K) (hK : K ≤ 30000) {i : Nat} (hi : i < g.m) (v : Int) (hb : B64 v) (hv : Vp (g.P i) v) (hm : ∀ y, g.Q i y → y.m = 0 ∨ y.m = 1) :
    Calls Tryz.prog 82 #[.pointer (some ⟨p.Bf i, 0, none⟩), .int .i64 v, .int .u8 1] w fun e w' => (∃ n ok, e = .returned (.tuple #[.int .i64 n, .bool ok]) ∧ FoundE (g.Q i) v n ok) ∧ Below w.heap.size w w' := by
  obtain ⟨Fi, Gi, fi, h1, h2, h3, h5, h4⟩ := h.forest hi
  refine (fofindE_any h1 v 1 hb h2 hK).mono ?_
  rintro e w' ⟨rfl, hb⟩
  refine ⟨⟨_, _, rfl, ?_⟩, hb⟩
  rcases h3.findE h1.tb hv hm with ⟨e1, x, q1, q2, q3, q4⟩ | ⟨e1, q⟩
  · exact ⟨fun _ => ⟨x, q1, q2, q3, q4⟩, fun k => absurd e1 (of_decide_eq_false k)⟩
  · exact ⟨fun k => absurd e1 (of_decide_eq_true k), fun _ => q⟩
theorem gsize_val (h : Gm p w F B g K) (hK : K ≤ 30000) {i : Nat} (hi : i < g.m) (v : Int) (hb : B64 v) :
    ∃ n, SizeIs (g.P i) (g.Q i) v n ∧ (0 ≤ n ∧ n ≤ K) ∧ ∀ g' : Grow w, Calls Tryz.prog 37 #[.pointer (some ⟨p.Bf i, 0, none⟩), .int .i64 v] g'.w fun e w' => e = .returned (.int .i64 n) ∧ Below g'.w.heap.size g'.w w' := by
  obtain ⟨Fi, Gi, fi, h1, h2, h3, h5, h4⟩ := h.forest hi
  have key : SizeIs (g.P i) (g.Q i) v (fi.total v).c ∧ 0 ≤ (fi.total v).c ∧ (fi.total v).c ≤ K := by
    by_cases hv : Vp (g.P i) v
    · obtain ⟨T, t1, t2⟩ := h3.tree h2 v
      obtain ⟨vs, es, k1, k2, k3⟩ := h3
      obtain ⟨e1, _⟩ := k1.total h1.tb ((vp_mem k2 v).2 hv) (t1.trv k2 k3)
      rw [sumL_one, wr_id (by omega) (by omega)] at e1
      rw [e1]
      exact ⟨⟨fun k => absurd hv k, fun _ => ⟨T, t1, rfl⟩⟩, by omega, by omega⟩
    · rw [(h3.none hv).1]
      exact ⟨⟨fun _ => rfl, fun k => absurd k hv⟩, Int.le_refl _, by show (0 : Int) ≤ K; omega⟩
  exact ⟨_, key.1, key.2, fun g' => fosize_any (h1.below g'.h) v hb h2 hK⟩
theorem gsize_fun (h : Gm p w F B g K) (hK : K ≤ 30000) {i : Nat} (hi : i < g.m) :
    ∃ sz : Int → Int, ∀ v, B64 v → SizeIs (g.P i) (g.Q i) v (sz v) ∧ ∀ g' : Grow w, Calls Tryz.prog 37 #[.pointer (some ⟨p.Bf i, 0, none⟩), .int .i64 v] g'.w fun e w' => e = .returned (.int .i64 (sz v)) ∧ Below g'.w.heap.size g'.w w' := by
  classical
  refine ⟨fun v => if hb : B64 v then (gsize_val h hK hi v hb).choose else 0, fun v hb => ?_⟩
  simp only [dif_pos hb]
  exact ⟨(gsize_val h hK hi v hb).choose_spec.1, (gsize_val h hK hi v hb).choose_spec.2.2⟩
theorem gsame_val (h : Gm p w F B g K) (hK : K ≤ 30000) {i : Nat} (hi : i < g.m) (a b : Int) (ha : B64 a) (hb : B64 b) :
    ∃ t : Bool, (t = true ↔ Vp (g.P i) a ∧ Vp (g.P i) b ∧ Jq (g.Q i) a b) ∧ ∀ g' : Grow w, Calls Tryz.prog 36 #[.pointer (some ⟨p.Bf i, 0, none⟩), .int .i64 a, .int .i64 b] g'.w fun e w' => e = .returned (.bool t) ∧ Below g'.w.heap.size g'.w w' := by
  obtain ⟨Fi, Gi, fi, h1, h2, h3, h5, h4⟩ := h.forest hi
  exact ⟨_, h3.same h1.tb, fun g' => fosame_any (h1.below g'.h) a b ha hb h2 hK⟩
theorem gfindV_val (h : Gm p w F B g K) (hK : K ≤ 30000) {i : Nat} (hi : i < g.m) (v : Int) (hb : B64 v) (hv : Vp (g.P i) v) (hm : ∀ x, g.P i x → x.m = 0 ∨ x.m = 1) :
    ∃ u ok, FoundV (g.P i) (g.Q i) v u ok ∧ ∀ g' : Grow w, Calls Tryz.prog 57 #[.pointer (some ⟨p.Bf i, 0, none⟩), .int .i64 v, .int .u8 1] g'.w fun e w' => e = .returned (.tuple #[.int .i64 u, .bool ok]) ∧ Below g'.w.heap.size g'.w w' := by
  obtain ⟨Fi, Gi, fi, h1, h2, h3, h5, h4⟩ := h.forest hi
  refine ⟨_, _, ?_, fun g' => fofindV_any (h1.below g'.h) v 1 hb h2 hK⟩
  rcases h3.findV h1.tb hv hm with ⟨e1, x, q1, q2, q3, q4⟩ | ⟨e1, q⟩
  · exact ⟨fun _ => ⟨x, q1, q2, q3, q4⟩, fun k => absurd e1 (of_decide_eq_false k)⟩
  · exact ⟨fun k => absurd e1 (of_decide_eq_true k), fun _ => q⟩
/-! The bag's. -/
theorem gput_any (h : Gm p w F B g K) (hK : K ≤ 30000) {v l n : Int} (ha : okT (v, l, n)) (h0 : 0 ≤ l) (h1 : l ≤ 63) (h2 : 1 ≤ n) (hm : n ∉ g.s.L (v, l)) :
    Calls Tryz.prog 80 #[.pointer (some ⟨p.bB, 0, none⟩), .int .i64 v, .int .i64 l, .int .i64 n] w fun e w' => IsI e ∧ ∃ F', Gm p w' F' B (g.setS (g.s.put (v, l) n)) (K + 1) ∧ Step F F' w w' := by
  obtain ⟨Fb, b1, b2, b3⟩ := h.bagL
  refine (bput_ok b1 (by omega) ha h0 h1 h2 hm).mono ?_
  rintro e w' ⟨rfl, Fb', k1, k2⟩
  obtain ⟨F', q1, q2⟩ := b3 w' Fb' _ (K + 1) k1 k2 (by omega)
  exact ⟨⟨_, rfl⟩, F', q1, q2⟩
theorem gtake_any (h : Gm p w F B g K) (hK : K ≤ 30000) {v l n : Int} (ha : okT (v, l, n)) (hm : n ∈ g.s.L (v, l)) :
    Calls Tryz.prog 63 #[.pointer (some ⟨p.bB, 0, none⟩), .int .i64 v, .int .i64 l, .int .i64 n] w fun e w' => e = .returned (.bool true) ∧ ∃ F', Gm p w' F' B (g.setS (g.s.take (v, l) n)) K ∧ Step F F' w w' := by
  obtain ⟨Fb, b1, b2, b3⟩ := h.bagL
  refine (btake_yes b1 (by omega) ha hm).mono ?_
  rintro e w' ⟨rfl, k1, k2⟩
  obtain ⟨F', q1, q2⟩ := b3 w' Fb _ K k1 k2 (Nat.le_refl _)
  exact ⟨rfl, F', q1, q2⟩
theorem gmany_any (h : Gm p w F B g K) {v l : Int} (ha : okP (v, l)) : Calls Tryz.prog 64 #[.pointer (some ⟨p.bB, 0, none⟩), .int .i64 v, .int .i64 l] w fun e w' => e = .returned (.int .i64 (g.s.L (v, l)).length) ∧ w' = w := by
  obtain ⟨Fb, b1, b2, b3⟩ := h.bagL
  exact bmany_any b1 ha
end
end Go.Proofs.YtcbgeahcnjamdabGreat
