/- Layer 10 (levels): a graph in memory. -/
import Derived.Test.YtcbgeahcnjamdabGreatForestRelC
import Derived.Test.YtcbgeahcnjamdabGreatForestLink
import Derived.Test.YtcbgeahcnjamdabGreatEdgesTake
import Derived.Test.YtcbgeahcnjamdabGreatLevNumC
namespace Go.Proofs.YtcbgeahcnjamdabGreat
open Go.RowKit
set_option linter.unusedVariables false

/-- An edge: its ends, its level, whether it is a tree edge. -/
structure Eg where
  a : Int
  b : Int
  l : Int
  t : Bool
deriving DecidableEq
def egv (x : Eg) : Value := .agg #[.int .i64 x.a, .int .i64 x.b, .int .i64 x.l, .bool x.t]
def eg0 : Value := .agg #[.int .i64 0, .int .i64 0, .int .i64 0, .bool false]
theorem KE : KeyT Tryz.prog 49 3 69 eg0 (fun i : Int => Value.int .i64 i) B64 :=
  ⟨keyI, by kernel_rfl, fun w => by kernel_rfl, fun a ha => ⟨_, keyI_mk ha⟩, fun a b _ _ h => by simpa using h⟩
/-- A forest has just the vertices of P, the edges of Q. -/
def Fv (f : Fo) (P : Vx → Prop) (Q : Ex → Prop) : Prop := ∃ vs es, Rel f vs es ∧ (∀ x, x ∈ vs ↔ P x) ∧ (∀ y, y ∈ es ↔ Q y)
theorem Fv.congr {f : Fo} {P P' : Vx → Prop} {Q Q' : Ex → Prop} (h : Fv f P Q) (hP : ∀ x, P x ↔ P' x) (hQ : ∀ y, Q y ↔ Q' y) : Fv f P' Q' := by
  obtain ⟨vs, es, h1, h2, h3⟩ := h
  exact ⟨vs, es, h1, fun x => (h2 x).trans (hP x), fun y => (h3 y).trans (hQ y)⟩
theorem Rel.up {f : Fo} {vs : List Vx} {es : List Ex} (h : Rel f vs es) (m : Nat) : Rel (f.wt (f.t.up m)) vs es :=
  ⟨⟨h.eu.tq, h.eu.iv, h.eu.ev, h.eu.vk, h.eu.ek⟩, h.vnd, h.esd, h.vin, h.vno, h.vall, h.ein, h.eno, h.eall, h.z⟩
theorem Fv.up {f : Fo} {P : Vx → Prop} {Q : Ex → Prop} (h : Fv f P Q) (m : Nat) : Fv (f.wt (f.t.up m)) P Q := by
  obtain ⟨vs, es, h1, h2, h3⟩ := h
  exact ⟨vs, es, h1.up m, h2, h3⟩
theorem Fo.Wf.up {f : Fo} {k k' : Nat} (h : f.Wf k) (hk : k ≤ k') : (f.wt (f.t.up (3 * k'))).Wf k' := by
  have h' := h.mono hk
  exact ⟨⟨⟨⟨h'.t.le.s.1, Nat.le_refl _⟩, h'.t.le.v, h'.t.le.fv, h'.t.le.e, h'.t.le.fe, h'.t.le.m⟩, h'.t.pb, h'.t.fv, h'.t.fe, h'.t.mv⟩, h'.nv, h'.ne, h'.vb, h'.eb⟩
theorem Fd.tb {W : World} {F : Nat → Prop} {B G : Nat} {f : Fo} (h : Fd W F B G f) : Tb f.t := by
  obtain ⟨x, y, u, v, h⟩ := h
  obtain ⟨Ft, h1, _⟩ := h.ex
  exact Tf.tb h1

/-- A graph's state: its forests' vertices (P) and edges (Q), level by level (m of them); its edges E, ne in all; the loose ones by vertex and level (s); the numbers that are given out. -/
structure Gs where
  n : Int
  m : Nat
  P : Nat → Vx → Prop
  Q : Nat → Ex → Prop
  E : Int → Option Eg
  ne : Nat
  s : Bg
  vl : Int
  vb : List Int
  el : Int
  eb : List Int
/-- Where it lies: the slice of its forests, their blocks, the map's, the bag's; the draws that the forests share. -/
structure Gp where
  rv : Value
  Bf : Nat → Nat
  bM : Nat
  bB : Nat
  dr : Option (Nat × Nat × List Int)
def Shd (dr : Option (Nat × Nat × List Int)) (k : Nat) : Prop := ∃ D Dg xs, dr = some (D, Dg, xs) ∧ (k = D ∨ k = Dg)
/-- The forests' pointers. -/
def ptrs (p : Gp) (m : Nat) : List Value := (List.range m).map fun i => .pointer (some ⟨p.Bf i, 0, none⟩)
theorem ptrs_len (p : Gp) (m : Nat) : (ptrs p m).length = m := by simp [ptrs]
theorem ptrs_at (p : Gp) {m i : Nat} (h : i < m) : (ptrs p m)[i]? = some (.pointer (some ⟨p.Bf i, 0, none⟩)) := by unfold ptrs; rw [List.getElem?_map, List.getElem?_range h]; rfl
def updF {α : Type} (q : Nat → α) (i : Nat) (x : α) : Nat → α := fun j => if j = i then x else q j
theorem updF_at {α : Type} (q : Nat → α) (i : Nat) (x : α) : updF q i x i = x := if_pos rfl
theorem updF_ne {α : Type} {q : Nat → α} {i j : Nat} {x : α} (h : j ≠ i) : updF q i x j = q j := if_neg h
/-- c: which part a block is of (0 the graph's own, 1 the pointers, 2 the map, 3 and 4 the numbers, 5 the bag, 6 the draws, 7 + i the forest i). -/
structure GmX (p : Gp) (c : Nat → Nat) (vv ev : Value) (Ff : Nat → Nat → Prop) (Fb : Nat → Prop) (W : World) (F : Nat → Prop) (B : Nat) (g : Gs) (K : Nat) : Prop where
  blk : Blk W B 60 #[.int .i64 g.n, p.rv, .map (some p.bM), .pointer (some ⟨p.bB, 0, none⟩), .int .i64 g.vl, vv, .int .i64 g.el, ev]
  row : RowW W 63 1 p.rv g.m (ptrs p g.m)
  fs : ∀ i, i < g.m → ∃ Gi fi, Fd W (Ff i) (p.Bf i) Gi fi ∧ fi.dr = p.dr ∧ fi.Wf K ∧ Fv fi (g.P i) (g.Q i)
  map : MapV Tryz.prog 3 eg0 (fun i : Int => Value.int .i64 i) B64 W p.bM (fun e => (g.E e).map egv) g.ne
  bag : BgM W Fb p.bB g.s K
  vn : Nm W B 4 g.vl vv g.vb
  en : Nm W B 6 g.el ev g.eb
  c0 : F B ∧ c B = 0
  c1 : ∀ k, p.rv.ownBlock = some k → F k ∧ c k = 1
  c2 : F p.bM ∧ c p.bM = 2
  c3 : ∀ k, vv.ownBlock = some k → F k ∧ c k = 3
  c4 : ∀ k, ev.ownBlock = some k → F k ∧ c k = 4
  c5 : ∀ k, Fb k → F k ∧ c k = 5
  c7 : ∀ i k, i < g.m → Ff i k → F k ∧ (c k = 7 + i ∨ (c k = 6 ∧ Shd p.dr k))
  lt : ∀ k, F k → k < W.heap.size
def Gm (p : Gp) (W : World) (F : Nat → Prop) (B : Nat) (g : Gs) (K : Nat) : Prop := ∃ c vv ev Ff Fb, GmX p c vv ev Ff Fb W F B g K
section
variable {p : Gp} {c : Nat → Nat} {vv ev : Value} {Ff : Nat → Nat → Prop} {Fb : Nat → Prop} {W W' : World} {F : Nat → Prop} {B : Nat} {g : Gs} {K : Nat}
theorem Nm.kept {w w' : World} {B o : Nat} {last : Int} {v : Value} {xs : List Int} (h : Nm w B o last v xs) (h1 : w'.heap[B]? = w.heap[B]?) (h2 : ∀ k, v.ownBlock = some k → w'.heap[k]? = w.heap[k]?) : Nm w' B o last v xs :=
  ⟨(World.cell?_of_block (w := w) h1).trans h.c, ⟨(World.cell?_of_block (w := w) h1).trans h.b.cell, h.b.row.kept h2, h.b.ap⟩, h.p⟩
theorem Gm.lt (h : Gm p W F B g K) : ∀ k, F k → k < W.heap.size := by obtain ⟨c, vv, ev, Ff, Fb, h⟩ := h; exact h.lt
theorem Gm.fb (h : Gm p W F B g K) : F B := by obtain ⟨c, vv, ev, Ff, Fb, h⟩ := h; exact h.c0.1
theorem Gm.kept (h : Gm p W F B g K) (hb : ∀ k, F k → W'.heap[k]? = W.heap[k]?) (hs : W.heap.size ≤ W'.heap.size) : Gm p W' F B g K := by
  obtain ⟨c, vv, ev, Ff, Fb, h⟩ := h
  refine ⟨c, vv, ev, Ff, Fb, ⟨(hb B h.c0.1).trans h.blk, h.row.kept fun k hk => hb k (h.c1 k hk).1, fun i hi => ?_, h.map.kept (hb _ h.c2.1), h.bag.kept (fun k hk => hb k (h.c5 k hk).1) hs, h.vn.kept (hb B h.c0.1) (fun k hk => hb k (h.c3 k hk).1), h.en.kept (hb B h.c0.1) (fun k hk => hb k (h.c4 k hk).1), h.c0, h.c1, h.c2, h.c3, h.c4, h.c5, h.c7, fun k hk => Nat.lt_of_lt_of_le (h.lt k hk) hs⟩⟩
  obtain ⟨Gi, fi, q1, q2⟩ := h.fs i hi
  exact ⟨Gi, fi, q1.kept (fun k hk => hb k (h.c7 i k hi hk).1) hs, q2⟩
theorem Gm.below (h : Gm p W F B g K) (hb : Below W.heap.size W W') : Gm p W' F B g K := h.kept (fun k hk => hb.block k (h.lt k hk)) hb.size
theorem Gm.step {F' F1 : Nat → Prop} (h : Gm p W F B g K) (hb : Step F' F1 W W') (hd : ∀ k, F k → ¬ F' k) : Gm p W' F B g K := h.kept (fun k hk => hb.only.block k (h.lt k hk) (hd k hk)) hb.size
theorem Gm.mono (h : Gm p W F B g K) {K' : Nat} (hK : K ≤ K') : Gm p W F B g K' := by
  obtain ⟨c, vv, ev, Ff, Fb, h⟩ := h
  refine ⟨c, vv, ev, Ff, Fb, ⟨h.blk, h.row, fun i hi => ?_, h.map, h.bag.mono hK, h.vn, h.en, h.c0, h.c1, h.c2, h.c3, h.c4, h.c5, h.c7, h.lt⟩⟩
  obtain ⟨Gi, fi, q1, q2, q3, q4⟩ := h.fs i hi
  exact ⟨Gi, fi, q1, q2, q3.mono hK, q4⟩
/-- The cells of the graph itself. -/
theorem Gm.cells (h : Gm p W F B g K) : ∃ vv ev, Blk W B 60 #[.int .i64 g.n, p.rv, .map (some p.bM), .pointer (some ⟨p.bB, 0, none⟩), .int .i64 g.vl, vv, .int .i64 g.el, ev] := by
  obtain ⟨c, vv, ev, Ff, Fb, h⟩ := h
  exact ⟨vv, ev, h.blk⟩
theorem Gm.ptr (h : Gm p W F B g K) {i : Nat} (hi : i < g.m) : ∃ q cap, p.rv = .slice (some ⟨q, 0, none⟩) g.m cap ∧ W.cell? ⟨q, i, none⟩ = some (.pointer (some ⟨p.Bf i, 0, none⟩)) ∧ q < W.heap.size ∧ g.m ≤ cap ∧ cap ≤ maxLen := by
  obtain ⟨c, vv, ev, Ff, Fb, h⟩ := h
  obtain ⟨q, cap, e⟩ := h.row.led (by omega)
  have hr := h.row
  rw [e] at hr
  have hq := hr.lt (k := q) rfl
  have hc := hr.cell (ptrs_at p hi)
  rcases hr.2 with ⟨e', _⟩ | ⟨q', cap', cur, e', _, k1, k2, _⟩
  · cases e'
  · cases e'; exact ⟨q, cap, e, hc, hq, k1, k2⟩
def Gs.setF (g : Gs) (i : Nat) (P : Vx → Prop) (Q : Ex → Prop) : Gs := ⟨g.n, g.m, updF g.P i P, updF g.Q i Q, g.E, g.ne, g.s, g.vl, g.vb, g.el, g.eb⟩
def Gs.setS (g : Gs) (s : Bg) : Gs := ⟨g.n, g.m, g.P, g.Q, g.E, g.ne, s, g.vl, g.vb, g.el, g.eb⟩
def Gs.setE (g : Gs) (E : Int → Option Eg) (ne : Nat) : Gs := ⟨g.n, g.m, g.P, g.Q, E, ne, g.s, g.vl, g.vb, g.el, g.eb⟩
def Gs.setV (g : Gs) (vl : Int) (vb : List Int) : Gs := ⟨g.n, g.m, g.P, g.Q, g.E, g.ne, g.s, vl, vb, g.el, g.eb⟩
def Gs.setN (g : Gs) (el : Int) (eb : List Int) : Gs := ⟨g.n, g.m, g.P, g.Q, g.E, g.ne, g.s, g.vl, g.vb, el, eb⟩
/-- A forest, and what becomes of the graph when it is written. -/
theorem Gm.forest (h : Gm p W F B g K) {i : Nat} (hi : i < g.m) : ∃ Fi Gi fi, Fd W Fi (p.Bf i) Gi fi ∧ fi.Wf K ∧ Fv fi (g.P i) (g.Q i) ∧ (∀ k, Fi k → F k) ∧ ∀ W' Fi' Gi' fi' K' P' Q', Fd W' Fi' (p.Bf i) Gi' fi' → Step Fi Fi' W W' → fi'.dr = fi.dr → K ≤ K' → fi'.Wf K' → Fv fi' P' Q' → ∃ F', Gm p W' F' B (g.setF i P' Q') K' ∧ Step F F' W W' := by
  obtain ⟨c, vv, ev, Ff, Fb, h⟩ := h
  obtain ⟨Gi, fi, q1, q2, q3, q4⟩ := h.fs i hi
  refine ⟨Ff i, Gi, fi, q1, q3, q4, fun k hk => (h.c7 i k hi hk).1, fun W' Fi' Gi' fi' K' P' Q' k1 k2 k3 k4 k5 k6 => ?_⟩
  have same : ∀ k, F k → c k ≠ 7 + i → c k ≠ 6 → W'.heap[k]? = W.heap[k]? := fun k hk n1 n2 => k2.only.block k (h.lt k hk) (fun hf => by rcases (h.c7 i k hi hf).2 with e | ⟨e, _⟩; exact n1 e; exact n2 e)
  have hs := k2.size
  obtain ⟨c', hc'⟩ : ∃ c' : Nat → Nat, c' = fun k => if k < W.heap.size then c k else 7 + i := ⟨_, rfl⟩
  have old : ∀ k, F k → c' k = c k := fun k hk => by rw [hc']; exact if_pos (h.lt k hk)
  have l1 : ∀ k, F k → k < W'.heap.size := fun k hk => Nat.lt_of_lt_of_le (h.lt k hk) hs
  refine ⟨fun k => F k ∨ Fi' k, ⟨c', vv, ev, updF Ff i Fi', Fb, ⟨(same B h.c0.1 (by rw [h.c0.2]; omega) (by rw [h.c0.2]; omega)).trans h.blk, h.row.kept fun k hk => ?_, fun j hj => ?_, h.map.kept (same _ h.c2.1 (by rw [h.c2.2]; omega) (by rw [h.c2.2]; omega)), (h.bag.kept (fun k hk => ?_) hs).mono k4, h.vn.kept (same B h.c0.1 (by rw [h.c0.2]; omega) (by rw [h.c0.2]; omega)) (fun k hk => ?_), h.en.kept (same B h.c0.1 (by rw [h.c0.2]; omega) (by rw [h.c0.2]; omega)) (fun k hk => ?_),
    ⟨.inl h.c0.1, by rw [old B h.c0.1]; exact h.c0.2⟩, fun k hk => ⟨.inl (h.c1 k hk).1, by rw [old k (h.c1 k hk).1]; exact (h.c1 k hk).2⟩, ⟨.inl h.c2.1, by rw [old _ h.c2.1]; exact h.c2.2⟩, fun k hk => ⟨.inl (h.c3 k hk).1, by rw [old k (h.c3 k hk).1]; exact (h.c3 k hk).2⟩, fun k hk => ⟨.inl (h.c4 k hk).1, by rw [old k (h.c4 k hk).1]; exact (h.c4 k hk).2⟩, fun k hk => ⟨.inl (h.c5 k hk).1, by rw [old k (h.c5 k hk).1]; exact (h.c5 k hk).2⟩, fun j k hj hk => ?_, fun k hk => hk.elim (l1 k) (k1.lt k)⟩⟩, ⟨⟨k2.only.os, k2.only.tape, k2.only.output, hs, fun k hk hn => k2.only.block k hk (fun hf => hn (h.c7 i k hi hf).1)⟩, fun k hk => ?_⟩⟩
  · exact same k (h.c1 k hk).1 (by rw [(h.c1 k hk).2]; omega) (by rw [(h.c1 k hk).2]; omega)
  · by_cases e : j = i
    · subst e
      refine ⟨Gi', fi', ?_, k3.trans q2, k5, ?_⟩
      · rw [updF_at]; exact k1
      · show Fv fi' (updF g.P j P' j) (updF g.Q j Q' j)
        rw [updF_at, updF_at]; exact k6
    · obtain ⟨Gj, fj, r1, r2, r3, r4⟩ := h.fs j hj
      rw [updF_ne e]
      show ∃ Gj fj, Fd W' (Ff j) (p.Bf j) Gj fj ∧ fj.dr = p.dr ∧ fj.Wf K' ∧ Fv fj (updF g.P i P' j) (updF g.Q i Q' j)
      rw [updF_ne e, updF_ne e]
      cases hd : p.dr with
      | none =>
        refine ⟨Gj, fj, r1.kept (fun k hk => ?_) hs, r2.trans hd, r3.mono k4, r4⟩
        rcases (h.c7 j k hj hk).2 with e1 | ⟨_, D, Dg, xs, e2, _⟩
        · exact same k (h.c7 j k hj hk).1 (by omega) (by omega)
        · rw [hd] at e2; cases e2
      | some q =>
        obtain ⟨D, Dg, xs⟩ := q
        obtain ⟨_, _, _, _, n, n1, n2⟩ := k1.shared (k3.trans (q2.trans hd))
        refine ⟨Gj, _, r1.drawn (m := 3 * K') (r2.trans hd) (fun k hk d1 d2 => ?_) hs n2 (by have := k5.t.le.s.2; omega), r2.trans hd, r3.up k4, r4.up _⟩
        rcases (h.c7 j k hj hk).2 with e1 | ⟨_, D', Dg', xs', e2, e3⟩
        · exact same k (h.c7 j k hj hk).1 (by omega) (by omega)
        · rw [hd] at e2; cases e2
          rcases e3 with e3 | e3
          · exact absurd e3 d1
          · exact absurd e3 d2
  · exact same k (h.c5 k hk).1 (by rw [(h.c5 k hk).2]; omega) (by rw [(h.c5 k hk).2]; omega)
  · exact same k (h.c3 k hk).1 (by rw [(h.c3 k hk).2]; omega) (by rw [(h.c3 k hk).2]; omega)
  · exact same k (h.c4 k hk).1 (by rw [(h.c4 k hk).2]; omega) (by rw [(h.c4 k hk).2]; omega)
  · by_cases e : j = i
    · subst e
      rw [updF_at] at hk
      refine ⟨.inr hk, ?_⟩
      rcases k2.ext k hk with h' | h'
      · rw [old k (h.c7 j k hj h').1]; exact (h.c7 j k hj h').2
      · rw [hc']; exact .inl (if_neg (by omega))
    · rw [updF_ne e] at hk
      rw [old k (h.c7 j k hj hk).1]
      exact ⟨.inl (h.c7 j k hj hk).1, (h.c7 j k hj hk).2⟩
  · rcases hk with hk | hk
    · exact .inl hk
    · exact (k2.ext k hk).imp (fun h' => (h.c7 i k hi h').1) id
/-- The bag of the loose edges. -/
theorem Gm.bagL (h : Gm p W F B g K) : ∃ Fb, BgM W Fb p.bB g.s K ∧ (∀ k, Fb k → F k) ∧ ∀ W' Fb' s' K', BgM W' Fb' p.bB s' K' → Step Fb Fb' W W' → K ≤ K' → ∃ F', Gm p W' F' B (g.setS s') K' ∧ Step F F' W W' := by
  obtain ⟨c, vv, ev, Ff, Fb, h⟩ := h
  refine ⟨Fb, h.bag, fun k hk => (h.c5 k hk).1, fun W' Fb' s' K' k1 k2 k4 => ?_⟩
  have same : ∀ k, F k → c k ≠ 5 → W'.heap[k]? = W.heap[k]? := fun k hk n1 => k2.only.block k (h.lt k hk) (fun hf => n1 (h.c5 k hf).2)
  have hs := k2.size
  obtain ⟨c', hc'⟩ : ∃ c' : Nat → Nat, c' = fun k => if k < W.heap.size then c k else 5 := ⟨_, rfl⟩
  have old : ∀ k, F k → c' k = c k := fun k hk => by rw [hc']; exact if_pos (h.lt k hk)
  refine ⟨fun k => F k ∨ Fb' k, ⟨c', vv, ev, Ff, Fb', ⟨(same B h.c0.1 (by rw [h.c0.2]; omega)).trans h.blk, h.row.kept fun k hk => ?_, fun j hj => ?_, h.map.kept (same _ h.c2.1 (by rw [h.c2.2]; omega)), k1, h.vn.kept (same B h.c0.1 (by rw [h.c0.2]; omega)) (fun k hk => ?_), h.en.kept (same B h.c0.1 (by rw [h.c0.2]; omega)) (fun k hk => ?_),
    ⟨.inl h.c0.1, by rw [old B h.c0.1]; exact h.c0.2⟩, fun k hk => ⟨.inl (h.c1 k hk).1, by rw [old k (h.c1 k hk).1]; exact (h.c1 k hk).2⟩, ⟨.inl h.c2.1, by rw [old _ h.c2.1]; exact h.c2.2⟩, fun k hk => ⟨.inl (h.c3 k hk).1, by rw [old k (h.c3 k hk).1]; exact (h.c3 k hk).2⟩, fun k hk => ⟨.inl (h.c4 k hk).1, by rw [old k (h.c4 k hk).1]; exact (h.c4 k hk).2⟩, fun k hk => ⟨.inr hk, ?_⟩, fun j k hj hk => ?_, fun k hk => hk.elim (fun hk => Nat.lt_of_lt_of_le (h.lt k hk) hs) (k1.lt k)⟩⟩, ⟨⟨k2.only.os, k2.only.tape, k2.only.output, hs, fun k hk hn => k2.only.block k hk (fun hf => hn (h.c5 k hf).1)⟩, fun k hk => ?_⟩⟩
  · exact same k (h.c1 k hk).1 (by rw [(h.c1 k hk).2]; omega)
  · obtain ⟨Gj, fj, r1, r2, r3, r4⟩ := h.fs j hj
    refine ⟨Gj, fj, r1.kept (fun k hk => same k (h.c7 j k hj hk).1 ?_) hs, r2, r3.mono k4, r4⟩
    rcases (h.c7 j k hj hk).2 with e | ⟨e, _⟩ <;> omega
  · exact same k (h.c3 k hk).1 (by rw [(h.c3 k hk).2]; omega)
  · exact same k (h.c4 k hk).1 (by rw [(h.c4 k hk).2]; omega)
  · rcases k2.ext k hk with h' | h'
    · rw [old k (h.c5 k h').1]; exact (h.c5 k h').2
    · rw [hc']; exact if_neg (by omega)
  · have := h.c7 j k hj hk
    rw [old k this.1]
    exact ⟨.inl this.1, this.2⟩
  · rcases hk with hk | hk
    · exact .inl hk
    · exact (k2.ext k hk).imp (fun h' => (h.c5 k h').1) id
/-- The edges' map. -/
theorem Gm.edgeL (h : Gm p W F B g K) : MapV Tryz.prog 3 eg0 (fun i : Int => Value.int .i64 i) B64 W p.bM (fun e => (g.E e).map egv) g.ne ∧ F p.bM ∧ ∀ W' E' ne', MapV Tryz.prog 3 eg0 (fun i : Int => Value.int .i64 i) B64 W' p.bM (fun e => (E' e).map egv) ne' → W.grownBy W' (some p.bM) → Gm p W' F B (g.setE E' ne') K ∧ Step F F W W' := by
  obtain ⟨c, vv, ev, Ff, Fb, h⟩ := h
  refine ⟨h.map, h.c2.1, fun W' E' ne' k1 k2 => ?_⟩
  have same : ∀ k, F k → c k ≠ 2 → W'.heap[k]? = W.heap[k]? := fun k hk n1 => k2.block k (h.lt k hk) (fun e => n1 (by cases e; exact h.c2.2))
  refine ⟨⟨c, vv, ev, Ff, Fb, ⟨(same B h.c0.1 (by rw [h.c0.2]; omega)).trans h.blk, h.row.kept fun k hk => ?_, fun j hj => ?_, k1, h.bag.kept (fun k hk => ?_) k2.size, h.vn.kept (same B h.c0.1 (by rw [h.c0.2]; omega)) (fun k hk => ?_), h.en.kept (same B h.c0.1 (by rw [h.c0.2]; omega)) (fun k hk => ?_), h.c0, h.c1, h.c2, h.c3, h.c4, h.c5, h.c7, fun k hk => Nat.lt_of_lt_of_le (h.lt k hk) k2.size⟩⟩, ⟨⟨k2.os, k2.tape, k2.output, k2.size, fun k hk hn => k2.block k hk (fun e => hn (by cases e; exact h.c2.1))⟩, fun k hk => .inl hk⟩⟩
  · exact same k (h.c1 k hk).1 (by rw [(h.c1 k hk).2]; omega)
  · obtain ⟨Gj, fj, r1, r2⟩ := h.fs j hj
    refine ⟨Gj, fj, r1.kept (fun k hk => same k (h.c7 j k hj hk).1 ?_) k2.size, r2⟩
    rcases (h.c7 j k hj hk).2 with e | ⟨e, _⟩ <;> omega
  · exact same k (h.c5 k hk).1 (by rw [(h.c5 k hk).2]; omega)
  · exact same k (h.c3 k hk).1 (by rw [(h.c3 k hk).2]; omega)
  · exact same k (h.c4 k hk).1 (by rw [(h.c4 k hk).2]; omega)
/-- The vertices' numbers. -/
theorem Gm.vnL (h : Gm p W F B g K) : ∃ vv T cs, Nm W B 4 g.vl vv g.vb ∧ Blk W B T cs ∧ (∀ k, vv.ownBlock = some k → F k) ∧ ∀ W' vl' vv' vb', Nm W' B 4 vl' vv' vb' → Nmp B 4 vl' vv vv' W W' → ∃ F', Gm p W' F' B (g.setV vl' vb') K ∧ Step F F' W W' := by
  obtain ⟨c, vv, ev, Ff, Fb, h⟩ := h
  refine ⟨vv, _, _, h.vn, h.blk, fun k hk => (h.c3 k hk).1, fun W' vl' vv' vb' k1 k2 => ?_⟩
  have same : ∀ k, F k → c k ≠ 0 → c k ≠ 3 → W'.heap[k]? = W.heap[k]? := fun k hk n1 n2 => k2.other k (h.lt k hk) (fun e => n1 (by rw [e]; exact h.c0.2)) (fun e => n2 (h.c3 k e).2)
  have hs := k2.size
  obtain ⟨c', hc'⟩ : ∃ c' : Nat → Nat, c' = fun k => if k < W.heap.size then c k else 3 := ⟨_, rfl⟩
  have old : ∀ k, F k → c' k = c k := fun k hk => by rw [hc']; exact if_pos (h.lt k hk)
  have hb := k2.blk _ _ h.blk
  have c6 := hb.at (j := 6) (v := .int .i64 g.el) rfl
  have c7 := hb.at (j := 7) (v := ev) rfl
  refine ⟨fun k => F k ∨ vv'.ownBlock = some k, ⟨c', vv', ev, Ff, Fb, ⟨hb, h.row.kept fun k hk => ?_, fun j hj => ?_, h.map.kept (same _ h.c2.1 (by rw [h.c2.2]; omega) (by rw [h.c2.2]; omega)), h.bag.kept (fun k hk => ?_) hs, k1, ⟨c6, ⟨c7, h.en.b.row.kept fun k hk => ?_, h.en.b.ap⟩, h.en.p⟩,
    ⟨.inl h.c0.1, by rw [old B h.c0.1]; exact h.c0.2⟩, fun k hk => ⟨.inl (h.c1 k hk).1, by rw [old k (h.c1 k hk).1]; exact (h.c1 k hk).2⟩, ⟨.inl h.c2.1, by rw [old _ h.c2.1]; exact h.c2.2⟩, fun k hk => ⟨.inr hk, ?_⟩, fun k hk => ⟨.inl (h.c4 k hk).1, by rw [old k (h.c4 k hk).1]; exact (h.c4 k hk).2⟩, fun k hk => ⟨.inl (h.c5 k hk).1, by rw [old k (h.c5 k hk).1]; exact (h.c5 k hk).2⟩, fun j k hj hk => ?_, fun k hk => hk.elim (fun hk => Nat.lt_of_lt_of_le (h.lt k hk) hs) (fun hk => k1.b.row.lt hk)⟩⟩, ⟨⟨k2.os, k2.tape, k2.output, hs, fun k hk hn => k2.other k hk (fun e => hn (by rw [e]; exact h.c0.1)) (fun e => hn (h.c3 k e).1)⟩, fun k hk => ?_⟩⟩
  · exact same k (h.c1 k hk).1 (by rw [(h.c1 k hk).2]; omega) (by rw [(h.c1 k hk).2]; omega)
  · obtain ⟨Gj, fj, r1, r2⟩ := h.fs j hj
    refine ⟨Gj, fj, r1.kept (fun k hk => same k (h.c7 j k hj hk).1 ?_ ?_) hs, r2⟩ <;> (rcases (h.c7 j k hj hk).2 with e | ⟨e, _⟩ <;> omega)
  · exact same k (h.c5 k hk).1 (by rw [(h.c5 k hk).2]; omega) (by rw [(h.c5 k hk).2]; omega)
  · exact same k (h.c4 k hk).1 (by rw [(h.c4 k hk).2]; omega) (by rw [(h.c4 k hk).2]; omega)
  · rcases k2.own k hk with h' | h'
    · rw [old k (h.c3 k h').1]; exact (h.c3 k h').2
    · rw [hc']; exact if_neg (by omega)
  · have := h.c7 j k hj hk
    rw [old k this.1]
    exact ⟨.inl this.1, this.2⟩
  · rcases hk with hk | hk
    · exact .inl hk
    · exact (k2.own k hk).imp (fun h' => (h.c3 k h').1) id
/-- The edges' numbers. -/
theorem Gm.enL (h : Gm p W F B g K) : ∃ ev T cs, Nm W B 6 g.el ev g.eb ∧ Blk W B T cs ∧ (∀ k, ev.ownBlock = some k → F k) ∧ ∀ W' el' ev' eb', Nm W' B 6 el' ev' eb' → Nmp B 6 el' ev ev' W W' → ∃ F', Gm p W' F' B (g.setN el' eb') K ∧ Step F F' W W' := by
  obtain ⟨c, vv, ev, Ff, Fb, h⟩ := h
  refine ⟨ev, _, _, h.en, h.blk, fun k hk => (h.c4 k hk).1, fun W' el' ev' eb' k1 k2 => ?_⟩
  have same : ∀ k, F k → c k ≠ 0 → c k ≠ 4 → W'.heap[k]? = W.heap[k]? := fun k hk n1 n2 => k2.other k (h.lt k hk) (fun e => n1 (by rw [e]; exact h.c0.2)) (fun e => n2 (h.c4 k e).2)
  have hs := k2.size
  obtain ⟨c', hc'⟩ : ∃ c' : Nat → Nat, c' = fun k => if k < W.heap.size then c k else 4 := ⟨_, rfl⟩
  have old : ∀ k, F k → c' k = c k := fun k hk => by rw [hc']; exact if_pos (h.lt k hk)
  have hb := k2.blk _ _ h.blk
  have c6 := hb.at (j := 4) (v := .int .i64 g.vl) rfl
  have c7 := hb.at (j := 5) (v := vv) rfl
  refine ⟨fun k => F k ∨ ev'.ownBlock = some k, ⟨c', vv, ev', Ff, Fb, ⟨hb, h.row.kept fun k hk => ?_, fun j hj => ?_, h.map.kept (same _ h.c2.1 (by rw [h.c2.2]; omega) (by rw [h.c2.2]; omega)), h.bag.kept (fun k hk => ?_) hs, ⟨c6, ⟨c7, h.vn.b.row.kept fun k hk => ?_, h.vn.b.ap⟩, h.vn.p⟩, k1,
    ⟨.inl h.c0.1, by rw [old B h.c0.1]; exact h.c0.2⟩, fun k hk => ⟨.inl (h.c1 k hk).1, by rw [old k (h.c1 k hk).1]; exact (h.c1 k hk).2⟩, ⟨.inl h.c2.1, by rw [old _ h.c2.1]; exact h.c2.2⟩, fun k hk => ⟨.inl (h.c3 k hk).1, by rw [old k (h.c3 k hk).1]; exact (h.c3 k hk).2⟩, fun k hk => ⟨.inr hk, ?_⟩, fun k hk => ⟨.inl (h.c5 k hk).1, by rw [old k (h.c5 k hk).1]; exact (h.c5 k hk).2⟩, fun j k hj hk => ?_, fun k hk => hk.elim (fun hk => Nat.lt_of_lt_of_le (h.lt k hk) hs) (fun hk => k1.b.row.lt hk)⟩⟩, ⟨⟨k2.os, k2.tape, k2.output, hs, fun k hk hn => k2.other k hk (fun e => hn (by rw [e]; exact h.c0.1)) (fun e => hn (h.c4 k e).1)⟩, fun k hk => ?_⟩⟩
  · exact same k (h.c1 k hk).1 (by rw [(h.c1 k hk).2]; omega) (by rw [(h.c1 k hk).2]; omega)
  · obtain ⟨Gj, fj, r1, r2⟩ := h.fs j hj
    refine ⟨Gj, fj, r1.kept (fun k hk => same k (h.c7 j k hj hk).1 ?_ ?_) hs, r2⟩ <;> (rcases (h.c7 j k hj hk).2 with e | ⟨e, _⟩ <;> omega)
  · exact same k (h.c5 k hk).1 (by rw [(h.c5 k hk).2]; omega) (by rw [(h.c5 k hk).2]; omega)
  · exact same k (h.c3 k hk).1 (by rw [(h.c3 k hk).2]; omega) (by rw [(h.c3 k hk).2]; omega)
  · rcases k2.own k hk with h' | h'
    · rw [old k (h.c4 k h').1]; exact (h.c4 k h').2
    · rw [hc']; exact if_neg (by omega)
  · have := h.c7 j k hj hk
    rw [old k this.1]
    exact ⟨.inl this.1, this.2⟩
  · rcases hk with hk | hk
    · exact .inl hk
    · exact (k2.own k hk).imp (fun h' => (h.c4 k h').1) id
end
end Go.Proofs.YtcbgeahcnjamdabGreat
