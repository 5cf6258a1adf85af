/- Lemmas. -/
import Derived.Test.YtlmdjghcmofdlaaGreatS20
import Derived.Test.YtlmdjghcmofdlaaGreatS17
import Derived.Test.YtlmdjghcmofdlaaGreatS21
import Derived.LoopN
import Derived.Deep.RegionHeld3
import Derived.BigQuiet
set_option maxRecDepth 100000
set_option maxHeartbeats 64000000
namespace Go.Proofs.YtlmdjghcmofdlaaGreat
open Go.RowKit
set_option linter.unusedVariables false
structure Eg where
  a : Int
  b : Int
  l : Int
  t : Bool
deriving DecidableEq
def egv (x : Eg) : Value := .agg #[.int .i64 x.a, .int .i64 x.b, .int .i64 x.l, .bool x.t]
def eg0 : Value := .agg #[.int .i64 0, .int .i64 0, .int .i64 0, .bool false]
theorem KE : KeyT Tryz.prog 49 3 63 eg0 (fun i : Int => Value.int .i64 i) B64 :=
  ⟨keyI, by kernel_rfl, fun w => by kernel_rfl, fun a ha => ⟨_, keyI_mk ha⟩, fun a b _ _ h => by simpa using h⟩
def Fv (f : Fo) (P : Vx → Prop) (Q : Ex → Prop) : Prop := ∃ vs es, Rel f vs es ∧ (∀ x, x ∈ vs ↔ P x) ∧ (∀ y, y ∈ es ↔ Q y)
theorem Rel.up {f : Fo} {vs : List Vx} {es : List Ex} (h : Rel f vs es) (m : Nat) : Rel (f.wt (f.t.up m)) vs es :=
  ⟨⟨h.eu.tq, h.eu.iv, h.eu.ev, h.eu.vk, h.eu.ek⟩, h.vnd, h.esd, h.vin, h.vno, h.vall, h.ein, h.eno, h.eall, h.z⟩
theorem Fv.up {f : Fo} {P : Vx → Prop} {Q : Ex → Prop} (h : Fv f P Q) (m : Nat) : Fv (f.wt (f.t.up m)) P Q := by
  obtain ⟨vs, es, h1, h2, h3⟩ := h
  exact ⟨vs, es, h1.up m, h2, h3⟩
theorem Fo.Wf.up {f : Fo} {k k' : Nat} (h : f.Wf k) (hk : k ≤ k') : (f.wt (f.t.up (3 * k'))).Wf k' := by
  have h' := h.mono hk
  exact ⟨⟨⟨⟨h'.t.le.s.1, Nat.le_refl _⟩, h'.t.le.v, h'.t.le.fv, h'.t.le.e, h'.t.le.fe, h'.t.le.m⟩, h'.t.pb, h'.t.fv, h'.t.fe, h'.t.mv⟩, h'.nv, h'.ne, h'.vb, h'.eb⟩
theorem Fd.tb {W : World} {F : Nat → Prop} {B G : Nat} {f : Fo} (h : Fd W F B G f) : Tb f.t := by
  obtain ⟨x, y, u, v, h⟩ := h
  obtain ⟨Ft, h1, _⟩ := h.ex
  exact Tf.tb h1
structure Gs where
  n : Int
  m : Nat
  P : Nat → Vx → Prop
  Q : Nat → Ex → Prop
  E : Int → Option Eg
  ne : Nat
  s : Bg
  vl : Int
  vb : List Int
  el : Int
  eb : List Int
structure Gp where
  rv : Value
  Bf : Nat → Nat
  bM : Nat
  bB : Nat
  dr : Option (Nat × Nat × List Int)
def Shd (dr : Option (Nat × Nat × List Int)) (k : Nat) : Prop := ∃ D Dg xs, dr = some (D, Dg, xs) ∧ (k = D ∨ k = Dg)
def ptrs (p : Gp) (m : Nat) : List Value := (List.range m).map fun i => .pointer (some ⟨p.Bf i, 0, none⟩)
theorem ptrs_at (p : Gp) {m i : Nat} (h : i < m) : (ptrs p m)[i]? = some (.pointer (some ⟨p.Bf i, 0, none⟩)) := by unfold ptrs; rw [List.getElem?_map, List.getElem?_range h]; rfl
def updF {α : Type} (q : Nat → α) (i : Nat) (x : α) : Nat → α := fun j => if j = i then x else q j
theorem updF_at {α : Type} (q : Nat → α) (i : Nat) (x : α) : updF q i x i = x := if_pos rfl
theorem updF_ne {α : Type} {q : Nat → α} {i j : Nat} {x : α} (h : j ≠ i) : updF q i x j = q j := if_neg h
structure GmX (p : Gp) (c : Nat → Nat) (vv ev : Value) (Ff : Nat → Nat → Prop) (Fb : Nat → Prop) (W : World) (F : Nat → Prop) (B : Nat) (g : Gs) (K : Nat) : Prop where
  blk : Blk W B 58 #[.int .i64 g.n, p.rv, .map (some p.bM), .pointer (some ⟨p.bB, 0, none⟩), .int .i64 g.vl, vv, .int .i64 g.el, ev]
  row : RowW W 59 1 p.rv g.m (ptrs p g.m)
  fs : ∀ i, i < g.m → ∃ Gi fi, Fd W (Ff i) (p.Bf i) Gi fi ∧ fi.dr = p.dr ∧ fi.Wf K ∧ Fv fi (g.P i) (g.Q i)
  map : MapV Tryz.prog 3 eg0 (fun i : Int => Value.int .i64 i) B64 W p.bM (fun e => (g.E e).map egv) g.ne
  bag : BgM W Fb p.bB g.s K
  vn : Nm W B 4 g.vl vv g.vb
  en : Nm W B 6 g.el ev g.eb
  c0 : F B ∧ c B = 0
  c1 : ∀ k, p.rv.ownBlock = some k → F k ∧ c k = 1
  c2 : F p.bM ∧ c p.bM = 2
  c3 : ∀ k, vv.ownBlock = some k → F k ∧ c k = 3
  c4 : ∀ k, ev.ownBlock = some k → F k ∧ c k = 4
  c5 : ∀ k, Fb k → F k ∧ c k = 5
  c7 : ∀ i k, i < g.m → Ff i k → F k ∧ (c k = 7 + i ∨ (c k = 6 ∧ Shd p.dr k))
  lt : ∀ k, F k → k < W.heap.size
def Gm (p : Gp) (W : World) (F : Nat → Prop) (B : Nat) (g : Gs) (K : Nat) : Prop := ∃ c vv ev Ff Fb, GmX p c vv ev Ff Fb W F B g K
section
variable {p : Gp} {c : Nat → Nat} {vv ev : Value} {Ff : Nat → Nat → Prop} {Fb : Nat → Prop} {W W' : World} {F : Nat → Prop} {B : Nat} {g : Gs} {K : Nat}
theorem Nm.kept {w w' : World} {B o : Nat} {last : Int} {v : Value} {xs : List Int} (h : Nm w B o last v xs) (h1 : w'.heap[B]? = w.heap[B]?) (h2 : ∀ k, v.ownBlock = some k → w'.heap[k]? = w.heap[k]?) : Nm w' B o last v xs :=
  ⟨(World.cell?_of_block (w := w) h1).trans h.c, ⟨(World.cell?_of_block (w := w) h1).trans h.b.cell, h.b.row.kept h2, h.b.ap⟩, h.p⟩
theorem Gm.lt (h : Gm p W F B g K) : ∀ k, F k → k < W.heap.size := by obtain ⟨c, vv, ev, Ff, Fb, h⟩ := h; exact h.lt
theorem Gm.kept (h : Gm p W F B g K) (hb : ∀ k, F k → W'.heap[k]? = W.heap[k]?) (hs : W.heap.size ≤ W'.heap.size) : Gm p W' F B g K := by
  obtain ⟨c, vv, ev, Ff, Fb, h⟩ := h
  refine ⟨c, vv, ev, Ff, Fb, ⟨(hb B h.c0.1).trans h.blk, h.row.kept fun k hk => hb k (h.c1 k hk).1, fun i hi => ?_, h.map.kept (hb _ h.c2.1), h.bag.kept (fun k hk => hb k (h.c5 k hk).1) hs, h.vn.kept (hb B h.c0.1) (fun k hk => hb k (h.c3 k hk).1), h.en.kept (hb B h.c0.1) (fun k hk => hb k (h.c4 k hk).1), h.c0, h.c1, h.c2, h.c3, h.c4, h.c5, h.c7, fun k hk => Nat.lt_of_lt_of_le (h.lt k hk) hs⟩⟩
  obtain ⟨Gi, fi, q1, q2⟩ := h.fs i hi
  exact ⟨Gi, fi, q1.kept (fun k hk => hb k (h.c7 i k hi hk).1) hs, q2⟩
theorem Gm.below (h : Gm p W F B g K) (hb : Below W.heap.size W W') : Gm p W' F B g K := h.kept (fun k hk => hb.block k (h.lt k hk)) hb.size
theorem Gm.step {F' F1 : Nat → Prop} (h : Gm p W F B g K) (hb : Step F' F1 W W') (hd : ∀ k, F k → ¬ F' k) : Gm p W' F B g K := h.kept (fun k hk => hb.only.block k (h.lt k hk) (hd k hk)) hb.size
theorem Gm.mono (h : Gm p W F B g K) {K' : Nat} (hK : K ≤ K') : Gm p W F B g K' := by
  obtain ⟨c, vv, ev, Ff, Fb, h⟩ := h
  refine ⟨c, vv, ev, Ff, Fb, ⟨h.blk, h.row, fun i hi => ?_, h.map, h.bag.mono hK, h.vn, h.en, h.c0, h.c1, h.c2, h.c3, h.c4, h.c5, h.c7, h.lt⟩⟩
  obtain ⟨Gi, fi, q1, q2, q3, q4⟩ := h.fs i hi
  exact ⟨Gi, fi, q1, q2, q3.mono hK, q4⟩
theorem Gm.cells (h : Gm p W F B g K) : ∃ vv ev, Blk W B 58 #[.int .i64 g.n, p.rv, .map (some p.bM), .pointer (some ⟨p.bB, 0, none⟩), .int .i64 g.vl, vv, .int .i64 g.el, ev] := by
  obtain ⟨c, vv, ev, Ff, Fb, h⟩ := h
  exact ⟨vv, ev, h.blk⟩
theorem Gm.ptr (h : Gm p W F B g K) {i : Nat} (hi : i < g.m) : ∃ q cap, p.rv = .slice (some ⟨q, 0, none⟩) g.m cap ∧ W.cell? ⟨q, i, none⟩ = some (.pointer (some ⟨p.Bf i, 0, none⟩)) ∧ q < W.heap.size ∧ g.m ≤ cap ∧ cap ≤ maxLen := by
  obtain ⟨c, vv, ev, Ff, Fb, h⟩ := h
  obtain ⟨q, cap, e⟩ := h.row.led (by omega)
  have hr := h.row
  rw [e] at hr
  have hq := hr.lt (k := q) rfl
  have hc := hr.cell (ptrs_at p hi)
  rcases hr.2 with ⟨e', _⟩ | ⟨q', cap', cur, e', _, k1, k2, _⟩
  · cases e'
  · cases e'; exact ⟨q, cap, e, hc, hq, k1, k2⟩
def Gs.setF (g : Gs) (i : Nat) (P : Vx → Prop) (Q : Ex → Prop) : Gs := ⟨g.n, g.m, updF g.P i P, updF g.Q i Q, g.E, g.ne, g.s, g.vl, g.vb, g.el, g.eb⟩
def Gs.setS (g : Gs) (s : Bg) : Gs := ⟨g.n, g.m, g.P, g.Q, g.E, g.ne, s, g.vl, g.vb, g.el, g.eb⟩
def Gs.setE (g : Gs) (E : Int → Option Eg) (ne : Nat) : Gs := ⟨g.n, g.m, g.P, g.Q, E, ne, g.s, g.vl, g.vb, g.el, g.eb⟩
def Gs.setV (g : Gs) (vl : Int) (vb : List Int) : Gs := ⟨g.n, g.m, g.P, g.Q, g.E, g.ne, g.s, vl, vb, g.el, g.eb⟩
def Gs.setN (g : Gs) (el : Int) (eb : List Int) : Gs := ⟨g.n, g.m, g.P, g.Q, g.E, g.ne, g.s, g.vl, g.vb, el, eb⟩
theorem Gm.forest (h : Gm p W F B g K) {i : Nat} (hi : i < g.m) : ∃ Fi Gi fi, Fd W Fi (p.Bf i) Gi fi ∧ fi.Wf K ∧ Fv fi (g.P i) (g.Q i) ∧ (∀ k, Fi k → F k) ∧ ∀ W' Fi' Gi' fi' K' P' Q', Fd W' Fi' (p.Bf i) Gi' fi' → Step Fi Fi' W W' → fi'.dr = fi.dr → K ≤ K' → fi'.Wf K' → Fv fi' P' Q' → ∃ F', Gm p W' F' B (g.setF i P' Q') K' ∧ Step F F' W W' := by
  obtain ⟨c, vv, ev, Ff, Fb, h⟩ := h
  obtain ⟨Gi, fi, q1, q2, q3, q4⟩ := h.fs i hi
  refine ⟨Ff i, Gi, fi, q1, q3, q4, fun k hk => (h.c7 i k hi hk).1, fun W' Fi' Gi' fi' K' P' Q' k1 k2 k3 k4 k5 k6 => ?_⟩
  have same : ∀ k, F k → c k ≠ 7 + i → c k ≠ 6 → W'.heap[k]? = W.heap[k]? := fun k hk n1 n2 => k2.only.block k (h.lt k hk) (fun hf => by rcases (h.c7 i k hi hf).2 with e | ⟨e, _⟩; exact n1 e; exact n2 e)
  have hs := k2.size
  obtain ⟨c', hc'⟩ : ∃ c' : Nat → Nat, c' = fun k => if k < W.heap.size then c k else 7 + i := ⟨_, rfl⟩
  have old : ∀ k, F k → c' k = c k := fun k hk => by rw [hc']; exact if_pos (h.lt k hk)
  have l1 : ∀ k, F k → k < W'.heap.size := fun k hk => Nat.lt_of_lt_of_le (h.lt k hk) hs
  refine ⟨fun k => F k ∨ Fi' k, ⟨c', vv, ev, updF Ff i Fi', Fb, ⟨(same B h.c0.1 (by rw [h.c0.2]; omega) (by rw [h.c0.2]; omega)).trans h.blk, h.row.kept fun k hk => ?_, fun j hj => ?_, h.map.kept (same _ h.c2.1 (by rw [h.c2.2]; omega) (by rw [h.c2.2]; omega)), (h.bag.kept (fun k hk => ?_) hs).mono k4, h.vn.kept (same B h.c0.1 (by rw [h.c0.2]; omega) (by rw [h.c0.2]; omega)) (fun k hk => ?_), h.en.kept (same B h.c0.1 (by rw [h.c0.2]; omega) (by rw [h.c0.2]; omega)) (fun k hk => ?_),
    ⟨.inl h.c0.1, by rw [old B h.c0.1]; exact h.c0.2⟩, fun k hk => ⟨.inl (h.c1 k hk).1, by rw [old k (h.c1 k hk).1]; exact (h.c1 k hk).2⟩, ⟨.inl h.c2.1, by rw [old _ h.c2.1]; exact h.c2.2⟩, fun k hk => ⟨.inl (h.c3 k hk).1, by rw [old k (h.c3 k hk).1]; exact (h.c3 k hk).2⟩, fun k hk => ⟨.inl (h.c4 k hk).1, by rw [old k (h.c4 k hk).1]; exact (h.c4 k hk).2⟩, fun k hk => ⟨.inl (h.c5 k hk).1, by rw [old k (h.c5 k hk).1]; exact (h.c5 k hk).2⟩, fun j k hj hk => ?_, fun k hk => hk.elim (l1 k) (k1.lt k)⟩⟩, ⟨⟨k2.only.os, k2.only.tape, k2.only.output, hs, fun k hk hn => k2.only.block k hk (fun hf => hn (h.c7 i k hi hf).1)⟩, fun k hk => ?_⟩⟩
  · exact same k (h.c1 k hk).1 (by rw [(h.c1 k hk).2]; omega) (by rw [(h.c1 k hk).2]; omega)
  · by_cases e : j = i
    · subst e
      refine ⟨Gi', fi', ?_, k3.trans q2, k5, ?_⟩
      · rw [updF_at]; exact k1
      · show Fv fi' (updF g.P j P' j) (updF g.Q j Q' j)
        rw [updF_at, updF_at]; exact k6
    · obtain ⟨Gj, fj, r1, r2, r3, r4⟩ := h.fs j hj
      rw [updF_ne e]
      show ∃ Gj fj, Fd W' (Ff j) (p.Bf j) Gj fj ∧ fj.dr = p.dr ∧ fj.Wf K' ∧ Fv fj (updF g.P i P' j) (updF g.Q i Q' j)
      rw [updF_ne e, updF_ne e]
      cases hd : p.dr with
      | none =>
        refine ⟨Gj, fj, r1.kept (fun k hk => ?_) hs, r2.trans hd, r3.mono k4, r4⟩
        rcases (h.c7 j k hj hk).2 with e1 | ⟨_, D, Dg, xs, e2, _⟩
        · exact same k (h.c7 j k hj hk).1 (by omega) (by omega)
        · rw [hd] at e2; cases e2
      | some q =>
        obtain ⟨D, Dg, xs⟩ := q
        obtain ⟨_, _, _, _, n, n1, n2⟩ := k1.shared (k3.trans (q2.trans hd))
        refine ⟨Gj, _, r1.drawn (m := 3 * K') (r2.trans hd) (fun k hk d1 d2 => ?_) hs n2 (by have := k5.t.le.s.2; omega), r2.trans hd, r3.up k4, r4.up _⟩
        rcases (h.c7 j k hj hk).2 with e1 | ⟨_, D', Dg', xs', e2, e3⟩
        · exact same k (h.c7 j k hj hk).1 (by omega) (by omega)
        · rw [hd] at e2; cases e2
          rcases e3 with e3 | e3
          · exact absurd e3 d1
          · exact absurd e3 d2
  · exact same k (h.c5 k hk).1 (by rw [(h.c5 k hk).2]; omega) (by rw [(h.c5 k hk).2]; omega)
  · exact same k (h.c3 k hk).1 (by rw [(h.c3 k hk).2]; omega) (by rw [(h.c3 k hk).2]; omega)
  · exact same k (h.c4 k hk).1 (by rw [(h.c4 k hk).2]; omega) (by rw [(h.c4 k hk).2]; omega)
  · by_cases e : j = i
    · subst e
      rw [updF_at] at hk
      refine ⟨.inr hk, ?_⟩
      rcases k2.ext k hk with h' | h'
      · rw [old k (h.c7 j k hj h').1]; exact (h.c7 j k hj h').2
      · rw [hc']; exact .inl (if_neg (by omega))
    · rw [updF_ne e] at hk
      rw [old k (h.c7 j k hj hk).1]
      exact ⟨.inl (h.c7 j k hj hk).1, (h.c7 j k hj hk).2⟩
  · rcases hk with hk | hk
    · exact .inl hk
    · exact (k2.ext k hk).imp (fun h' => (h.c7 i k hi h').1) id
theorem Gm.bagL (h : Gm p W F B g K) : ∃ Fb, BgM W Fb p.bB g.s K ∧ (∀ k, Fb k → F k) ∧ ∀ W' Fb' s' K', BgM W' Fb' p.bB s' K' → Step Fb Fb' W W' → K ≤ K' → ∃ F', Gm p W' F' B (g.setS s') K' ∧ Step F F' W W' := by
  obtain ⟨c, vv, ev, Ff, Fb, h⟩ := h
  refine ⟨Fb, h.bag, fun k hk => (h.c5 k hk).1, fun W' Fb' s' K' k1 k2 k4 => ?_⟩
  have same : ∀ k, F k → c k ≠ 5 → W'.heap[k]? = W.heap[k]? := fun k hk n1 => k2.only.block k (h.lt k hk) (fun hf => n1 (h.c5 k hf).2)
  have hs := k2.size
  obtain ⟨c', hc'⟩ : ∃ c' : Nat → Nat, c' = fun k => if k < W.heap.size then c k else 5 := ⟨_, rfl⟩
  have old : ∀ k, F k → c' k = c k := fun k hk => by rw [hc']; exact if_pos (h.lt k hk)
  refine ⟨fun k => F k ∨ Fb' k, ⟨c', vv, ev, Ff, Fb', ⟨(same B h.c0.1 (by rw [h.c0.2]; omega)).trans h.blk, h.row.kept fun k hk => ?_, fun j hj => ?_, h.map.kept (same _ h.c2.1 (by rw [h.c2.2]; omega)), k1, h.vn.kept (same B h.c0.1 (by rw [h.c0.2]; omega)) (fun k hk => ?_), h.en.kept (same B h.c0.1 (by rw [h.c0.2]; omega)) (fun k hk => ?_),
    ⟨.inl h.c0.1, by rw [old B h.c0.1]; exact h.c0.2⟩, fun k hk => ⟨.inl (h.c1 k hk).1, by rw [old k (h.c1 k hk).1]; exact (h.c1 k hk).2⟩, ⟨.inl h.c2.1, by rw [old _ h.c2.1]; exact h.c2.2⟩, fun k hk => ⟨.inl (h.c3 k hk).1, by rw [old k (h.c3 k hk).1]; exact (h.c3 k hk).2⟩, fun k hk => ⟨.inl (h.c4 k hk).1, by rw [old k (h.c4 k hk).1]; exact (h.c4 k hk).2⟩, fun k hk => ⟨.inr hk, ?_⟩, fun j k hj hk => ?_, fun k hk => hk.elim (fun hk => Nat.lt_of_lt_of_le (h.lt k hk) hs) (k1.lt k)⟩⟩, ⟨⟨k2.only.os, k2.only.tape, k2.only.output, hs, fun k hk hn => k2.only.block k hk (fun hf => hn (h.c5 k hf).1)⟩, fun k hk => ?_⟩⟩
  · exact same k (h.c1 k hk).1 (by rw [(h.c1 k hk).2]; omega)
  · obtain ⟨Gj, fj, r1, r2, r3, r4⟩ := h.fs j hj
    refine ⟨Gj, fj, r1.kept (fun k hk => same k (h.c7 j k hj hk).1 ?_) hs, r2, r3.mono k4, r4⟩
    rcases (h.c7 j k hj hk).2 with e | ⟨e, _⟩ <;> omega
  · exact same k (h.c3 k hk).1 (by rw [(h.c3 k hk).2]; omega)
  · exact same k (h.c4 k hk).1 (by rw [(h.c4 k hk).2]; omega)
  · rcases k2.ext k hk with h' | h'
    · rw [old k (h.c5 k h').1]; exact (h.c5 k h').2
    · rw [hc']; exact if_neg (by omega)
  · have := h.c7 j k hj hk
    rw [old k this.1]
    exact ⟨.inl this.1, this.2⟩
  · rcases hk with hk | hk
    · exact .inl hk
    · exact (k2.ext k hk).imp (fun h' => (h.c5 k h').1) id
theorem Gm.edgeL (h : Gm p W F B g K) : MapV Tryz.prog 3 eg0 (fun i : Int => Value.int .i64 i) B64 W p.bM (fun e => (g.E e).map egv) g.ne ∧ F p.bM ∧ ∀ W' E' ne', MapV Tryz.prog 3 eg0 (fun i : Int => Value.int .i64 i) B64 W' p.bM (fun e => (E' e).map egv) ne' → W.grownBy W' (some p.bM) → Gm p W' F B (g.setE E' ne') K ∧ Step F F W W' := by
  obtain ⟨c, vv, ev, Ff, Fb, h⟩ := h
  refine ⟨h.map, h.c2.1, fun W' E' ne' k1 k2 => ?_⟩
  have same : ∀ k, F k → c k ≠ 2 → W'.heap[k]? = W.heap[k]? := fun k hk n1 => k2.block k (h.lt k hk) (fun e => n1 (by cases e; exact h.c2.2))
  refine ⟨⟨c, vv, ev, Ff, Fb, ⟨(same B h.c0.1 (by rw [h.c0.2]; omega)).trans h.blk, h.row.kept fun k hk => ?_, fun j hj => ?_, k1, h.bag.kept (fun k hk => ?_) k2.size, h.vn.kept (same B h.c0.1 (by rw [h.c0.2]; omega)) (fun k hk => ?_), h.en.kept (same B h.c0.1 (by rw [h.c0.2]; omega)) (fun k hk => ?_), h.c0, h.c1, h.c2, h.c3, h.c4, h.c5, h.c7, fun k hk => Nat.lt_of_lt_of_le (h.lt k hk) k2.size⟩⟩, ⟨⟨k2.os, k2.tape, k2.output, k2.size, fun k hk hn => k2.block k hk (fun e => hn (by cases e; exact h.c2.1))⟩, fun k hk => .inl hk⟩⟩
  · exact same k (h.c1 k hk).1 (by rw [(h.c1 k hk).2]; omega)
  · obtain ⟨Gj, fj, r1, r2⟩ := h.fs j hj
    refine ⟨Gj, fj, r1.kept (fun k hk => same k (h.c7 j k hj hk).1 ?_) k2.size, r2⟩
    rcases (h.c7 j k hj hk).2 with e | ⟨e, _⟩ <;> omega
  · exact same k (h.c5 k hk).1 (by rw [(h.c5 k hk).2]; omega)
  · exact same k (h.c3 k hk).1 (by rw [(h.c3 k hk).2]; omega)
  · exact same k (h.c4 k hk).1 (by rw [(h.c4 k hk).2]; omega)
theorem Gm.vnL (h : Gm p W F B g K) : ∃ vv T cs, Nm W B 4 g.vl vv g.vb ∧ Blk W B T cs ∧ (∀ k, vv.ownBlock = some k → F k) ∧ ∀ W' vl' vv' vb', Nm W' B 4 vl' vv' vb' → Nmp B 4 vl' vv vv' W W' → ∃ F', Gm p W' F' B (g.setV vl' vb') K ∧ Step F F' W W' := by
  obtain ⟨c, vv, ev, Ff, Fb, h⟩ := h
  refine ⟨vv, _, _, h.vn, h.blk, fun k hk => (h.c3 k hk).1, fun W' vl' vv' vb' k1 k2 => ?_⟩
  have same : ∀ k, F k → c k ≠ 0 → c k ≠ 3 → W'.heap[k]? = W.heap[k]? := fun k hk n1 n2 => k2.other k (h.lt k hk) (fun e => n1 (by rw [e]; exact h.c0.2)) (fun e => n2 (h.c3 k e).2)
  have hs := k2.size
  obtain ⟨c', hc'⟩ : ∃ c' : Nat → Nat, c' = fun k => if k < W.heap.size then c k else 3 := ⟨_, rfl⟩
  have old : ∀ k, F k → c' k = c k := fun k hk => by rw [hc']; exact if_pos (h.lt k hk)
  have hb := k2.blk _ _ h.blk
  have c6 := hb.at (j := 6) (v := .int .i64 g.el) rfl
  have c7 := hb.at (j := 7) (v := ev) rfl
  refine ⟨fun k => F k ∨ vv'.ownBlock = some k, ⟨c', vv', ev, Ff, Fb, ⟨hb, h.row.kept fun k hk => ?_, fun j hj => ?_, h.map.kept (same _ h.c2.1 (by rw [h.c2.2]; omega) (by rw [h.c2.2]; omega)), h.bag.kept (fun k hk => ?_) hs, k1, ⟨c6, ⟨c7, h.en.b.row.kept fun k hk => ?_, h.en.b.ap⟩, h.en.p⟩,
    ⟨.inl h.c0.1, by rw [old B h.c0.1]; exact h.c0.2⟩, fun k hk => ⟨.inl (h.c1 k hk).1, by rw [old k (h.c1 k hk).1]; exact (h.c1 k hk).2⟩, ⟨.inl h.c2.1, by rw [old _ h.c2.1]; exact h.c2.2⟩, fun k hk => ⟨.inr hk, ?_⟩, fun k hk => ⟨.inl (h.c4 k hk).1, by rw [old k (h.c4 k hk).1]; exact (h.c4 k hk).2⟩, fun k hk => ⟨.inl (h.c5 k hk).1, by rw [old k (h.c5 k hk).1]; exact (h.c5 k hk).2⟩, fun j k hj hk => ?_, fun k hk => hk.elim (fun hk => Nat.lt_of_lt_of_le (h.lt k hk) hs) (fun hk => k1.b.row.lt hk)⟩⟩, ⟨⟨k2.os, k2.tape, k2.output, hs, fun k hk hn => k2.other k hk (fun e => hn (by rw [e]; exact h.c0.1)) (fun e => hn (h.c3 k e).1)⟩, fun k hk => ?_⟩⟩
  · exact same k (h.c1 k hk).1 (by rw [(h.c1 k hk).2]; omega) (by rw [(h.c1 k hk).2]; omega)
  · obtain ⟨Gj, fj, r1, r2⟩ := h.fs j hj
    refine ⟨Gj, fj, r1.kept (fun k hk => same k (h.c7 j k hj hk).1 ?_ ?_) hs, r2⟩ <;> (rcases (h.c7 j k hj hk).2 with e | ⟨e, _⟩ <;> omega)
  · exact same k (h.c5 k hk).1 (by rw [(h.c5 k hk).2]; omega) (by rw [(h.c5 k hk).2]; omega)
  · exact same k (h.c4 k hk).1 (by rw [(h.c4 k hk).2]; omega) (by rw [(h.c4 k hk).2]; omega)
  · rcases k2.own k hk with h' | h'
    · rw [old k (h.c3 k h').1]; exact (h.c3 k h').2
    · rw [hc']; exact if_neg (by omega)
  · have := h.c7 j k hj hk
    rw [old k this.1]
    exact ⟨.inl this.1, this.2⟩
  · rcases hk with hk | hk
    · exact .inl hk
    · exact (k2.own k hk).imp (fun h' => (h.c3 k h').1) id
theorem Gm.enL (h : Gm p W F B g K) : ∃ ev T cs, Nm W B 6 g.el ev g.eb ∧ Blk W B T cs ∧ (∀ k, ev.ownBlock = some k → F k) ∧ ∀ W' el' ev' eb', Nm W' B 6 el' ev' eb' → Nmp B 6 el' ev ev' W W' → ∃ F', Gm p W' F' B (g.setN el' eb') K ∧ Step F F' W W' := by
  obtain ⟨c, vv, ev, Ff, Fb, h⟩ := h
  refine ⟨ev, _, _, h.en, h.blk, fun k hk => (h.c4 k hk).1, fun W' el' ev' eb' k1 k2 => ?_⟩
  have same : ∀ k, F k → c k ≠ 0 → c k ≠ 4 → W'.heap[k]? = W.heap[k]? := fun k hk n1 n2 => k2.other k (h.lt k hk) (fun e => n1 (by rw [e]; exact h.c0.2)) (fun e => n2 (h.c4 k e).2)
  have hs := k2.size
  obtain ⟨c', hc'⟩ : ∃ c' : Nat → Nat, c' = fun k => if k < W.heap.size then c k else 4 := ⟨_, rfl⟩
  have old : ∀ k, F k → c' k = c k := fun k hk => by rw [hc']; exact if_pos (h.lt k hk)
  have hb := k2.blk _ _ h.blk
  have c6 := hb.at (j := 4) (v := .int .i64 g.vl) rfl
  have c7 := hb.at (j := 5) (v := vv) rfl
  refine ⟨fun k => F k ∨ ev'.ownBlock = some k, ⟨c', vv, ev', Ff, Fb, ⟨hb, h.row.kept fun k hk => ?_, fun j hj => ?_, h.map.kept (same _ h.c2.1 (by rw [h.c2.2]; omega) (by rw [h.c2.2]; omega)), h.bag.kept (fun k hk => ?_) hs, ⟨c6, ⟨c7, h.vn.b.row.kept fun k hk => ?_, h.vn.b.ap⟩, h.vn.p⟩, k1,
    ⟨.inl h.c0.1, by rw [old B h.c0.1]; exact h.c0.2⟩, fun k hk => ⟨.inl (h.c1 k hk).1, by rw [old k (h.c1 k hk).1]; exact (h.c1 k hk).2⟩, ⟨.inl h.c2.1, by rw [old _ h.c2.1]; exact h.c2.2⟩, fun k hk => ⟨.inl (h.c3 k hk).1, by rw [old k (h.c3 k hk).1]; exact (h.c3 k hk).2⟩, fun k hk => ⟨.inr hk, ?_⟩, fun k hk => ⟨.inl (h.c5 k hk).1, by rw [old k (h.c5 k hk).1]; exact (h.c5 k hk).2⟩, fun j k hj hk => ?_, fun k hk => hk.elim (fun hk => Nat.lt_of_lt_of_le (h.lt k hk) hs) (fun hk => k1.b.row.lt hk)⟩⟩, ⟨⟨k2.os, k2.tape, k2.output, hs, fun k hk hn => k2.other k hk (fun e => hn (by rw [e]; exact h.c0.1)) (fun e => hn (h.c4 k e).1)⟩, fun k hk => ?_⟩⟩
  · exact same k (h.c1 k hk).1 (by rw [(h.c1 k hk).2]; omega) (by rw [(h.c1 k hk).2]; omega)
  · obtain ⟨Gj, fj, r1, r2⟩ := h.fs j hj
    refine ⟨Gj, fj, r1.kept (fun k hk => same k (h.c7 j k hj hk).1 ?_ ?_) hs, r2⟩ <;> (rcases (h.c7 j k hj hk).2 with e | ⟨e, _⟩ <;> omega)
  · exact same k (h.c5 k hk).1 (by rw [(h.c5 k hk).2]; omega) (by rw [(h.c5 k hk).2]; omega)
  · exact same k (h.c3 k hk).1 (by rw [(h.c3 k hk).2]; omega) (by rw [(h.c3 k hk).2]; omega)
  · rcases k2.own k hk with h' | h'
    · rw [old k (h.c4 k h').1]; exact (h.c4 k h').2
    · rw [hc']; exact if_neg (by omega)
  · have := h.c7 j k hj hk
    rw [old k this.1]
    exact ⟨.inl this.1, this.2⟩
  · rcases hk with hk | hk
    · exact .inl hk
    · exact (k2.own k hk).imp (fun h' => (h.c4 k h').1) id
end
def Vp (P : Vx → Prop) (v : Int) : Prop := ∃ x, P x ∧ x.v = v
def Ep (Q : Ex → Prop) (e : Int) : Prop := ∃ y, Q y ∧ y.e = e
def Jq (Q : Ex → Prop) (a b : Int) : Prop := Jn (fun x y => ∃ z, Q z ∧ z.a = x ∧ z.b = y) a b
structure Tree (P : Vx → Prop) (Q : Ex → Prop) (v : Int) (T : List Int) : Prop where
  nd : T.Nodup
  mem : ∀ u, u ∈ T ↔ Vp P u ∧ Jq Q v u
theorem jn_iff {R R' : Int → Int → Prop} (h : ∀ x y, R x y ↔ R' x y) {v u : Int} : Jn R v u ↔ Jn R' v u := ⟨fun k => k.mono fun x y r => .inl ((h x y).1 r), fun k => k.mono fun x y r => .inl ((h x y).2 r)⟩
section
variable {vs : List Vx} {es : List Ex} {P : Vx → Prop} {Q : Ex → Prop}
theorem vp_mem (h : ∀ x, x ∈ vs ↔ P x) (v : Int) : v ∈ vs.map Vx.v ↔ Vp P v := by
  rw [List.mem_map]
  exact ⟨fun ⟨x, a, b⟩ => ⟨x, (h x).1 a, b⟩, fun ⟨x, a, b⟩ => ⟨x, (h x).2 a, b⟩⟩
theorem ep_mem (h : ∀ x, x ∈ es ↔ Q x) (v : Int) : v ∈ es.map Ex.e ↔ Ep Q v := by
  rw [List.mem_map]
  exact ⟨fun ⟨x, a, b⟩ => ⟨x, (h x).1 a, b⟩, fun ⟨x, a, b⟩ => ⟨x, (h x).2 a, b⟩⟩
theorem jq_iff (h : ∀ x, x ∈ es ↔ Q x) (a b : Int) : Jn (Ee es) a b ↔ Jq Q a b := jn_iff fun x y => ⟨fun ⟨z, k, r⟩ => ⟨z, (h z).1 k, r⟩, fun ⟨z, k, r⟩ => ⟨z, (h z).2 k, r⟩⟩
theorem tr_of (hv : ∀ x, x ∈ vs ↔ P x) (he : ∀ x, x ∈ es ↔ Q x) (nd : (vs.map Vx.v).Nodup) (v : Int) : ∃ T, Tree P Q v T ∧ Trv vs es v T ∧ T.length ≤ vs.length := by
  classical
  refine ⟨(vs.map Vx.v).filter fun u => decide (Jq Q v u), ⟨nd.sublist List.filter_sublist, fun u => ?_⟩, ⟨nd.sublist List.filter_sublist, fun u => ?_⟩, ?_⟩
  · rw [List.mem_filter, vp_mem hv]; simp
  · rw [List.mem_filter, jq_iff he]; simp
  · have := List.length_filter_le (fun u => decide (Jq Q v u)) (vs.map Vx.v)
    rw [List.length_map] at this; exact this
theorem Tree.trv (hv : ∀ x, x ∈ vs ↔ P x) (he : ∀ x, x ∈ es ↔ Q x) {v : Int} {T : List Int} (h : Tree P Q v T) : Trv vs es v T := ⟨h.nd, fun u => by rw [h.mem, vp_mem hv, jq_iff he]⟩
end
theorem sumL_one (T : List Int) : sumL (fun _ => 1) T = T.length := by
  induction T with
  | nil => rfl
  | cons a T ih => show 1 + sumL (fun _ => 1) T = _; rw [ih]; simp; omega
theorem sumL_congr {p q : Int → Int} {T : List Int} (h : ∀ u, u ∈ T → p u = q u) : sumL p T = sumL q T ∧ minL p T = minL q T := by
  induction T with
  | nil => exact ⟨rfl, rfl⟩
  | cons a T ih =>
    obtain ⟨i1, i2⟩ := ih (fun u hu => h u (by simp [hu]))
    exact ⟨by show p a + sumL p T = q a + sumL q T; rw [i1, h a (by simp)], by show min (p a) (minL p T) = min (q a) (minL q T); rw [i2, h a (by simp)]⟩
theorem Rel.card {f : Fo} {vs : List Vx} {es : List Ex} {K : Nat} (h : Rel f vs es) (hw : f.Wf K) : vs.length ≤ K := by
  have nd : ((vs.map Vx.v).map f.vi).Nodup := by
    have := h.vnd
    rw [List.nodup_iff_pairwise_ne, List.pairwise_map]
    rw [List.nodup_iff_pairwise_ne] at this
    refine List.Pairwise.imp_of_mem ?_ this
    intro a b ha hb hne e
    exact hne (h.vinj ha hb e)
  have := nd.length_le_of_subset (l₂ := List.map (fun k : Nat => (k : Int) + 1) (List.range f.t.v.length)) (fun j hj => by
    obtain ⟨v, hv, rfl⟩ := List.mem_map.1 hj
    have := isA_bd (h.isv hv).1
    exact List.mem_map.2 ⟨(f.vi v - 1).toNat, List.mem_range.2 (by omega), by omega⟩)
  have h2 := hw.t.le.v
  simp at this
  omega
section
variable {f : Fo} {P : Vx → Prop} {Q : Ex → Prop}
theorem Fo.dr_add (f : Fo) (v s l : Int) : (f.add v s l).dr = f.dr := by unfold Fo.add; split <;> rfl
theorem Fo.dr_drop (f : Fo) (v : Int) : (f.drop v).dr = f.dr := by unfold Fo.drop; split <;> rfl
theorem Fo.dr_link (f : Fo) (n a b : Int) : (f.link n a b).dr = f.dr := by unfold Fo.link; split <;> rfl
theorem Fo.dr_cut (f : Fo) (n : Int) : (f.cut n).dr = f.dr := by unfold Fo.cut; split <;> rfl
def addP (P : Vx → Prop) (v s l : Int) : Vx → Prop := fun x => P x ∨ (¬ Vp P v ∧ x = ⟨v, s, l, 0⟩)
def cutQ (Q : Ex → Prop) (e : Int) : Ex → Prop := fun y => Q y ∧ y.e ≠ e
def linkQ (Q : Ex → Prop) (e a b : Int) : Ex → Prop := fun y => Q y ∨ y = ⟨e, a, b, 0⟩
def markP (P : Vx → Prop) (v b : Int) : Vx → Prop := fun x => (P x ∧ x.v ≠ v) ∨ ∃ x0, P x0 ∧ x0.v = v ∧ x = ⟨v, x0.s, x0.l, b⟩
def emarkQ (Q : Ex → Prop) (e b : Int) : Ex → Prop := fun y => (Q y ∧ y.e ≠ e) ∨ ∃ y0, Q y0 ∧ y0.e = e ∧ y = ⟨e, y0.a, y0.b, b⟩
def Hase (Q : Ex → Prop) (v : Int) : Prop := ∃ y, Q y ∧ (y.a = v ∨ y.b = v)
def dropP (P : Vx → Prop) (Q : Ex → Prop) (v : Int) : Vx → Prop := fun x => P x ∧ (x.v ≠ v ∨ Hase Q v)
theorem Fv.add (hB : Tb f.t) (h : Fv f P Q) {v s l : Int} (hok : okSL s l = true) : Fv (f.add v s l) (addP P v s l) Q := by
  obtain ⟨vs, es, h1, h2, h3⟩ := h
  obtain ⟨a1, _, a3⟩ := h1.add hB (v := v) (s := s) (l := l)
  by_cases hv : v ∈ vs.map Vx.v
  · rw [(a1 hv).2]
    refine ⟨vs, es, h1, fun x => (h2 x).trans ⟨.inl, fun k => k.elim id fun k => absurd ((vp_mem h2 v).1 hv) k.1⟩, h3⟩
  · refine ⟨_, es, (a3 hv hok).2, fun x => ?_, h3⟩
    rw [List.mem_append, h2]
    exact ⟨fun k => k.imp id fun k => ⟨fun hp => hv ((vp_mem h2 v).2 hp), by simpa using k⟩, fun k => k.imp id fun k => by simpa using k.2⟩
theorem Fv.cut (hB : Tb f.t) (h : Fv f P Q) {e : Int} : Fv (f.cut e) P (cutQ Q e) := by
  obtain ⟨vs, es, h1, h2, h3⟩ := h
  obtain ⟨a1, a2⟩ := h1.cut hB (n := e)
  by_cases he : e ∈ es.map Ex.e
  · refine ⟨vs, _, (a2 he).2, h2, fun y => ?_⟩
    rw [List.mem_filter, h3]; simp [cutQ]
  · rw [(a1 he).2]
    exact ⟨vs, es, h1, h2, fun y => (h3 y).trans ⟨fun k => ⟨k, fun e' => he ((ep_mem h3 e).2 ⟨y, k, e'⟩)⟩, fun k => k.1⟩⟩
theorem Fv.link (hB : Tb f.t) (h : Fv f P Q) {e a b : Int} (h0 : 1 ≤ e) (he : ¬ Ep Q e) (ha : Vp P a) (hb : Vp P b) (hj : ¬ Jq Q a b) : Fv (f.link e a b) P (linkQ Q e a b) := by
  obtain ⟨vs, es, h1, h2, h3⟩ := h
  obtain ⟨_, _, _, _, a5⟩ := h1.link hB (n := e) (a := a) (b := b)
  have hs : f.same a b = false := by
    cases hs : f.same a b with
    | false => rfl
    | true => exact absurd ((jq_iff h3 a b).1 ((h1.same hB).1 hs).2.2) hj
  refine ⟨vs, _, (a5 (by omega) (fun k => he ((ep_mem h3 e).1 k)) ((vp_mem h2 a).2 ha) ((vp_mem h2 b).2 hb) hs).2, h2, fun y => ?_⟩
  rw [List.mem_append, h3]; simp [linkQ]
theorem Fv.mark (hB : Tb f.t) (h : Fv f P Q) {v b : Int} (h0 : 0 ≤ b) (h1 : b ≤ 15) (hv : Vp P v) : Fv (f.mark v b) (markP P v b) Q := by
  obtain ⟨vs, es, k1, h2, h3⟩ := h
  obtain ⟨_, _, a3⟩ := k1.mark hB (v := v) h0
  obtain ⟨x0, p0, p1⟩ := hv
  have hx0 := (h2 x0).2 p0
  refine ⟨_, es, (a3 (by omega) x0 hx0 p1).2, fun x => ?_, h3⟩
  rw [List.mem_map]
  constructor
  · rintro ⟨y, hy, rfl⟩
    by_cases e : y.v = v
    · rw [if_pos e]
      refine .inr ⟨x0, p0, p1, rfl⟩
    · rw [if_neg e]; exact .inl ⟨(h2 y).1 hy, e⟩
  · rintro (⟨q1, q2⟩ | ⟨x1, q1, q2, rfl⟩)
    · exact ⟨x, (h2 x).2 q1, if_neg q2⟩
    · obtain rfl : x1 = x0 := k1.one ((h2 x1).2 q1) hx0 (q2.trans p1.symm)
      exact ⟨x1, hx0, if_pos p1⟩
theorem Fv.emark (hB : Tb f.t) (h : Fv f P Q) {e b : Int} (h0 : 0 ≤ b) (h1 : b ≤ 15) (he : Ep Q e) : Fv (f.emark e b) P (emarkQ Q e b) := by
  obtain ⟨vs, es, k1, h2, h3⟩ := h
  obtain ⟨_, _, a3⟩ := k1.emark hB (n := e) h0
  obtain ⟨x0, p0, p1⟩ := he
  have hx0 := (h3 x0).2 p0
  refine ⟨vs, _, (a3 (by omega) x0 hx0 p1).2, h2, fun x => ?_⟩
  rw [List.mem_map]
  constructor
  · rintro ⟨y, hy, rfl⟩
    by_cases e' : y.e = e
    · rw [if_pos e']
      refine .inr ⟨x0, p0, p1, rfl⟩
    · rw [if_neg e']; exact .inl ⟨(h3 y).1 hy, e'⟩
  · rintro (⟨q1, q2⟩ | ⟨x1, q1, q2, rfl⟩)
    · exact ⟨x, (h3 x).2 q1, if_neg q2⟩
    · obtain rfl : x1 = x0 := k1.oneE ((h3 x1).2 q1) hx0 (q2.trans p1.symm)
      exact ⟨x1, hx0, if_pos p1⟩
theorem Fv.drop (hB : Tb f.t) (h : Fv f P Q) {v : Int} : Fv (f.drop v) (dropP P Q v) Q ∧ (¬ Vp P v → f.dropR v = 4) ∧ (Vp P v → Hase Q v → f.dropR v = 13) ∧ (Vp P v → ¬ Hase Q v → f.dropR v = 0) := by
  obtain ⟨vs, es, k1, h2, h3⟩ := h
  obtain ⟨a1, a2, a3⟩ := k1.drop hB (v := v)
  by_cases hv : v ∈ vs.map Vx.v
  · have hvp := (vp_mem h2 v).1 hv
    by_cases hh : Hase Q v
    · obtain ⟨y, y1, y2⟩ := hh
      obtain ⟨b1, b2⟩ := a2 hv ⟨y, (h3 y).2 y1, y2⟩
      refine ⟨?_, fun k => absurd hvp k, fun _ _ => b1, fun _ k => absurd ⟨y, y1, y2⟩ k⟩
      rw [b2]
      exact ⟨vs, es, k1, fun x => (h2 x).trans ⟨fun k => ⟨k, .inr ⟨y, y1, y2⟩⟩, fun k => k.1⟩, h3⟩
    · obtain ⟨b1, b2⟩ := a3 hv fun y hy => ⟨fun e => hh ⟨y, (h3 y).1 hy, .inl e⟩, fun e => hh ⟨y, (h3 y).1 hy, .inr e⟩⟩
      refine ⟨⟨_, es, b2, fun x => ?_, h3⟩, fun k => absurd hvp k, fun _ k => absurd k hh, fun _ _ => b1⟩
      rw [List.mem_filter, h2]
      simp [dropP, hh]
  · have hvp : ¬ Vp P v := fun k => hv ((vp_mem h2 v).2 k)
    obtain ⟨b1, b2⟩ := a1 hv
    refine ⟨?_, fun _ => b1, fun k => absurd k hvp, fun k => absurd k hvp⟩
    rw [b2]
    exact ⟨vs, es, k1, fun x => (h2 x).trans ⟨fun k => ⟨k, .inl fun e => hvp ⟨x, k, e⟩⟩, fun k => k.1⟩, h3⟩
theorem Fv.has (h : Fv f P Q) {v : Int} : (f.vi v != 0) = true ↔ Vp P v := by
  obtain ⟨vs, es, k1, h2, h3⟩ := h
  rw [← vp_mem h2, ← k1.mem]; simp
theorem Fv.same (hB : Tb f.t) (h : Fv f P Q) {a b : Int} : f.same a b = true ↔ Vp P a ∧ Vp P b ∧ Jq Q a b := by
  obtain ⟨vs, es, k1, h2, h3⟩ := h
  rw [k1.same hB, vp_mem h2, vp_mem h2, jq_iff h3]
theorem Fv.tree (h : Fv f P Q) {K : Nat} (hw : f.Wf K) (v : Int) : ∃ T, Tree P Q v T ∧ T.length ≤ K := by
  obtain ⟨vs, es, k1, h2, h3⟩ := h
  obtain ⟨T, t1, _, t2⟩ := tr_of h2 h3 k1.vnd v
  exact ⟨T, t1, Nat.le_trans t2 (k1.card hw)⟩
theorem Fv.total (hB : Tb f.t) (h : Fv f P Q) {v : Int} (hv : Vp P v) {T : List Int} (hT : Tree P Q v T) {sv lv : Int → Int} (hs : ∀ x, P x → x.s = sv x.v ∧ x.l = lv x.v) :
    (f.total v).c = wr T.length ∧ (f.total v).s = wr (sumL sv T) ∧ (f.total v).l = minL lv T := by
  obtain ⟨vs, es, k1, h2, h3⟩ := h
  obtain ⟨e1, e2, e3⟩ := k1.total hB ((vp_mem h2 v).2 hv) (hT.trv h2 h3)
  have hx : ∀ u, u ∈ T → (vat vs u).s = sv u ∧ (vat vs u).l = lv u := fun u hu => by
    obtain ⟨q1, q2⟩ := vat_in ((vp_mem h2 u).2 ((hT.mem u).1 hu).1)
    have := hs _ ((h2 _).1 q1)
    rw [q2] at this; exact this
  rw [sumL_one] at e1
  rw [(sumL_congr fun u hu => (hx u hu).1).1] at e2
  rw [(sumL_congr fun u hu => (hx u hu).2).2] at e3
  exact ⟨e1, e2, e3⟩
theorem Fv.none (h : Fv f P Q) {v : Int} (hv : ¬ Vp P v) : f.total v = zeV ∧ f.least v = -1 := by
  obtain ⟨vs, es, k1, h2, h3⟩ := h
  have h0 := k1.vno v (fun k => hv ((vp_mem h2 v).1 k))
  refine ⟨?_, by unfold Fo.least; rw [if_neg (by simp [h0])]⟩
  unfold Fo.total To.total
  rw [h0, To.item_no (by simp [isA] : isA f.t.v 0 = false), if_pos rfl]
theorem Fv.leastYes (h : Fv f P Q) {v : Int} (hv : Vp P v) : f.least v = (f.total v).l := by
  obtain ⟨vs, es, k1, h2, h3⟩ := h
  unfold Fo.least
  rw [if_pos (k1.mem.2 ((vp_mem h2 v).2 hv))]
theorem hasB_one {m : Int} (h : m = 0 ∨ m = 1) : hasB m 1 = true ↔ m = 1 := by
  rcases h with rfl | rfl
  · have : hasB 0 1 = false := by decide +kernel
    rw [this]; simp
  · have : hasB 1 1 = true := by decide +kernel
    simp [this]
theorem Fv.findV (hB : Tb f.t) (h : Fv f P Q) {v : Int} (hv : Vp P v) (hm : ∀ x, P x → x.m = 0 ∨ x.m = 1) :
    (f.findV v 1 ≠ 0 ∧ ∃ x, P x ∧ Jq Q v x.v ∧ x.m = 1 ∧ f.vo (f.findV v 1) = x.v) ∨ (f.findV v 1 = 0 ∧ ∀ x, P x → Jq Q v x.v → x.m = 0) := by
  obtain ⟨vs, es, k1, h2, h3⟩ := h
  obtain ⟨T, t1, t2, _⟩ := tr_of h2 h3 k1.vnd v
  rcases k1.findV hB ((vp_mem h2 v).2 hv) t2 (b := 1) (by omega) with ⟨e1, u, e2, e3, e4⟩ | ⟨e1, e2⟩
  · obtain ⟨q1, q2⟩ := vat_in ((vp_mem h2 u).2 ((t1.mem u).1 e2).1)
    have q3 := (h2 _).1 q1
    exact .inl ⟨e1, _, q3, by rw [q2]; exact ((t1.mem u).1 e2).2, (hasB_one (hm _ q3)).1 e3, by rw [q2]; exact e4⟩
  · refine .inr ⟨e1, fun x hx hj => ?_⟩
    have hu : x.v ∈ T := (t1.mem _).2 ⟨⟨x, hx, rfl⟩, hj⟩
    obtain ⟨q1, q2⟩ := vat_in ((vp_mem h2 x.v).2 ⟨x, hx, rfl⟩)
    have e : vat vs x.v = x := k1.one q1 ((h2 x).2 hx) q2
    have := e2 _ hu
    rw [e] at this
    rcases hm x hx with h' | h'
    · exact h'
    · rw [(hasB_one (.inr h')).2 h'] at this; cases this
theorem Fv.findE (hB : Tb f.t) (h : Fv f P Q) {v : Int} (hv : Vp P v) (hm : ∀ y, Q y → y.m = 0 ∨ y.m = 1) :
    (f.findE v 1 ≠ 0 ∧ ∃ y, Q y ∧ Jq Q v y.a ∧ y.m = 1 ∧ f.eo (f.findE v 1) = y.e) ∨ (f.findE v 1 = 0 ∧ ∀ y, Q y → Jq Q v y.a → y.m = 0) := by
  obtain ⟨vs, es, k1, h2, h3⟩ := h
  obtain ⟨T, t1, t2, _⟩ := tr_of h2 h3 k1.vnd v
  rcases k1.findE hB ((vp_mem h2 v).2 hv) t2 (b := 1) (by omega) with ⟨e1, y, e2, e3, e4, e5⟩ | ⟨e1, e2⟩
  · have q3 := (h3 _).1 e2
    exact .inl ⟨e1, y, q3, ((t1.mem _).1 e3).2, (hasB_one (hm _ q3)).1 e4, e5⟩
  · refine .inr ⟨e1, fun y hy hj => ?_⟩
    have hu : y.a ∈ T := (t1.mem _).2 ⟨(vp_mem h2 _).1 (k1.ein y ((h3 y).2 hy)).2.2.2.2.1, hj⟩
    have := e2 y ((h3 y).2 hy) hu
    rcases hm y hy with h' | h'
    · exact h'
    · rw [(hasB_one (.inr h')).2 h'] at this; cases this
end
abbrev EM := Int → Option Eg
def Te (E : EM) (S : Int → Prop) (i : Int) (a b : Int) : Prop := ∃ e x, ¬ S e ∧ E e = some x ∧ x.t = true ∧ i ≤ x.l ∧ x.a = a ∧ x.b = b
def Ae (E : EM) (a b : Int) : Prop := ∃ e x, E e = some x ∧ x.a = a ∧ x.b = b
theorem Te.low {E : EM} {S : Int → Prop} {i j : Int} (h : j ≤ i) {a b : Int} (k : Te E S i a b) : Te E S j a b := by
  obtain ⟨e, x, h1, h2, h3, h4, h5⟩ := k
  exact ⟨e, x, h1, h2, h3, by omega, h5⟩
theorem Jn.sub {R R' : Int → Int → Prop} (h : ∀ a b, R a b → R' a b) {a b : Int} (k : Jn R a b) : Jn R' a b := k.mono fun x y r => .inl (h x y r)
theorem Jn.lift {R R' : Int → Int → Prop} (h : ∀ a b, R a b → Jn R' a b) {a b : Int} (k : Jn R a b) : Jn R' a b := by
  induction k with
  | refl => exact .refl _
  | step _ e ih => exact ih.trans (e.elim (h _ _) (fun r => (h _ _ r).symm))
theorem Jn.one {R : Int → Int → Prop} {a b : Int} (h : R a b) : Jn R a b := .step (.refl _) (.inl h)
theorem Jn.low {E : EM} {S : Int → Prop} {i j : Int} (h : j ≤ i) {a b : Int} (k : Jn (Te E S i) a b) : Jn (Te E S j) a b := k.sub fun _ _ => Te.low h
def Acy (E : EM) (S : Int → Prop) : Prop := ∀ e x, ¬ S e → E e = some x → x.t = true → ¬ Jn (Te E (fun k => S k ∨ k = e) 0) x.a x.b
def Sz (E : EM) (S : Int → Prop) (n : Int) (m : Nat) : Prop := ∀ i : Nat, i < m → ∀ v (T : List Int), T.Nodup → (∀ u ∈ T, Jn (Te E S i) v u) → (T.length : Int) * 2 ^ i ≤ n
def Bb (E : EM) (S : Int → Prop) : Prop := ∀ e x, ¬ S e → E e = some x → x.t = false → Jn (Te E S x.l) x.a x.b
def Tg (E : EM) (S : Int → Prop) (go : Eg) (i : Int) (a b : Int) : Prop := Te E S i a b ∨ (a = go.a ∧ b = go.b)
structure Rp (E : EM) (S : Int → Prop) (n : Int) (m : Nat) (go : Eg) (i : Int) : Prop where
  acy : Acy E S
  sz : Sz E S n m
  nj : ¬ Jn (Te E S 0) go.a go.b
  b : ∀ e x, ¬ S e → E e = some x → x.t = false → Jn (Te E S x.l) x.a x.b ∨ (x.l ≤ i ∧ Jn (Tg E S go x.l) x.a x.b)
  c : ∀ j : Nat, (j : Int) ≤ i → j < m → ∀ Ta Tb : List Int, Ta.Nodup → Tb.Nodup → (∀ u ∈ Ta, Jn (Te E S j) go.a u) → (∀ u ∈ Tb, Jn (Te E S j) go.b u) → ((Ta.length : Int) + Tb.length) * 2 ^ j ≤ n
  l0 : ∀ e x, E e = some x → 0 ≤ x.l
theorem two_pow_pos (i : Nat) : (0 : Int) < 2 ^ i := Int.pow_pos (by decide)
theorem two_pow_succ (i : Nat) : (2 : Int) ^ (i + 1) = 2 ^ i * 2 := Int.pow_succ 2 i
theorem Tg.jn {E : EM} {S : Int → Prop} {go : Eg} {i a b : Int} : Jn (Tg E S go i) a b ↔ Jn (Te E S i) a b ∨ (Jn (Te E S i) a go.a ∧ Jn (Te E S i) go.b b) ∨ (Jn (Te E S i) a go.b ∧ Jn (Te E S i) go.a b) := Jn.more
theorem Rp.start {E : EM} {n : Int} {m : Nat} {x0 : Int} {go : Eg} (hx : E x0 = some go) (ht : go.t = true) (hl : 0 ≤ go.l) (h0 : ∀ e x, E e = some x → 0 ≤ x.l) (ha : Acy E (fun _ => False)) (hs : Sz E (fun _ => False) n m) (hb : Bb E (fun _ => False)) : Rp E (fun k => k = x0) n m go go.l := by
  have sub : ∀ i a b, Te E (fun k => k = x0) i a b → Te E (fun _ => False) i a b := fun i a b ⟨e, x, h1, h2⟩ => ⟨e, x, fun k => k, h2⟩
  have nj : ¬ Jn (Te E (fun k => k = x0) 0) go.a go.b := fun k => ha x0 go (fun k => k) hx ht (k.sub fun a b ⟨e, x, h1, h2⟩ => ⟨e, x, fun k => k.elim id h1, h2⟩)
  have add : ∀ i a b, Te E (fun _ => False) i a b → Tg E (fun k => k = x0) go i a b ∧ (go.l < i → Te E (fun k => k = x0) i a b) := fun i a b ⟨e, x, h1, h2, h3, h4, h5, h6⟩ => by
    by_cases e1 : e = x0
    · subst e1
      rw [hx] at h2; cases h2
      exact ⟨.inr ⟨h5.symm, h6.symm⟩, fun k => by omega⟩
    · exact ⟨.inl ⟨e, x, e1, h2, h3, h4, h5, h6⟩, fun _ => ⟨e, x, e1, h2, h3, h4, h5, h6⟩⟩
  refine ⟨fun e x h1 h2 h3 k => ha e x (fun k => k) h2 h3 (k.sub fun a b ⟨f, y, g1, g2⟩ => ⟨f, y, fun k => g1 (k.elim False.elim .inr), g2⟩), fun i hi v T h1 h2 => hs i hi v T h1 (fun u hu => (h2 u hu).sub (sub i)), nj, fun e x h1 h2 h3 => ?_, fun j hj hm Ta Tb d1 d2 k1 k2 => ?_, h0⟩
  · have k := hb e x (fun k => k) h2 h3
    by_cases hle : x.l ≤ go.l
    · exact .inr ⟨hle, k.sub fun a b r => (add _ a b r).1⟩
    · exact .inl (k.sub fun a b r => (add _ a b r).2 (by omega))
  · have hnd : (Ta ++ Tb).Nodup := by
      refine List.nodup_append.2 ⟨d1, d2, fun a ha b hb e => ?_⟩
      subst e
      exact nj (((k1 a ha).trans (k2 a hb).symm).low (by omega))
    have := hs j hm go.a (Ta ++ Tb) hnd (fun u hu => by
      rcases List.mem_append.1 hu with h | h
      · exact (k1 u h).sub (sub j)
      · have e1 : Jn (Te E (fun _ => False) j) go.a go.b := Jn.one ⟨x0, go, fun k => k, hx, ht, hj, rfl, rfl⟩
        exact e1.trans ((k2 u h).sub (sub j)))
    rw [List.length_append] at this
    simpa using this
section
variable {E : EM} {S : Int → Prop} {n : Int} {m : Nat} {go : Eg}
def Half (E : EM) (S : Int → Prop) (n : Int) (i : Nat) (v : Int) : Prop := ∀ T : List Int, T.Nodup → (∀ u ∈ T, Jn (Te E S i) v u) → 2 * (T.length : Int) * 2 ^ i ≤ n
theorem Half.room {i : Nat} {v a b : Int} (h : Half E S n i v) (hm : n < 2 ^ m) (ha : Jn (Te E S i) v a) (hb : Jn (Te E S i) v b) (hab : a ≠ b) : i + 1 < m := by
  have := h [a, b] (by simp [hab]) (fun u hu => by simp at hu; rcases hu with rfl | rfl; exact ha; exact hb)
  simp at this
  rcases Nat.lt_or_ge (i + 1) m with h1 | h1
  · exact h1
  · have h2 : (2 : Int) ^ m ≤ 2 ^ (i + 1) := by
      have := Nat.pow_le_pow_right (show 0 < 2 by decide) h1
      exact_mod_cast this
    rw [two_pow_succ] at h2
    have := two_pow_pos i
    omega
def upE (E : EM) (e : Int) (x : Eg) : EM := updQ E e (some ⟨x.a, x.b, x.l + 1, x.t⟩)
theorem te_up {e : Int} {x : Eg} (hx : E e = some x) (ht : x.t = true) (hS : ¬ S e) (j : Int) (a b : Int) : Te (upE E e x) S j a b ↔ Te E S j a b ∨ (j = x.l + 1 ∧ a = x.a ∧ b = x.b) := by
  constructor
  · rintro ⟨f, y, h1, h2, h3, h4, h5, h6⟩
    unfold upE at h2
    by_cases ef : f = e
    · subst ef
      rw [updQ_at] at h2; cases h2
      by_cases hj : j = x.l + 1
      · exact .inr ⟨hj, h5.symm, h6.symm⟩
      · exact .inl ⟨f, x, h1, hx, ht, by simp at h4; omega, h5, h6⟩
    · rw [updQ_ne ef] at h2
      exact .inl ⟨f, y, h1, h2, h3, h4, h5, h6⟩
  · rintro (⟨f, y, h1, h2, h3, h4, h5, h6⟩ | ⟨rfl, rfl, rfl⟩)
    · by_cases ef : f = e
      · subst ef
        rw [hx] at h2; cases h2
        exact ⟨f, _, h1, updQ_at _ _ _, h3, by show j ≤ x.l + 1; omega, h5, h6⟩
      · exact ⟨f, y, h1, by unfold upE; rw [updQ_ne ef]; exact h2, h3, h4, h5, h6⟩
    · exact ⟨e, _, hS, updQ_at _ _ _, ht, Int.le_refl _, rfl, rfl⟩
theorem te_up_ne {e : Int} {x : Eg} (hx : E e = some x) (S' : Int → Prop) {j : Int} (hj : j ≠ x.l + 1) (a b : Int) : Te (upE E e x) S' j a b ↔ Te E S' j a b := by
  constructor
  · rintro ⟨f, y, h1, h2, h3, h4, h5, h6⟩
    unfold upE at h2
    by_cases ef : f = e
    · subst ef
      rw [updQ_at] at h2; cases h2
      exact ⟨f, x, h1, hx, h3, by simp at h4; omega, h5, h6⟩
    · rw [updQ_ne ef] at h2
      exact ⟨f, y, h1, h2, h3, h4, h5, h6⟩
  · rintro ⟨f, y, h1, h2, h3, h4, h5, h6⟩
    by_cases ef : f = e
    · subst ef
      rw [hx] at h2; cases h2
      exact ⟨f, _, h1, updQ_at _ _ _, h3, by show j ≤ x.l + 1; omega, h5, h6⟩
    · exact ⟨f, y, h1, by unfold upE; rw [updQ_ne ef]; exact h2, h3, h4, h5, h6⟩
theorem upE_l0 {e : Int} {x : Eg} (hx : E e = some x) (h : ∀ e x, E e = some x → 0 ≤ x.l) : ∀ f y, upE E e x f = some y → 0 ≤ y.l := fun f y hy => by
  unfold upE at hy
  by_cases ef : f = e
  · subst ef; rw [updQ_at] at hy; cases hy; have := h f x hx; show 0 ≤ x.l + 1; omega
  · rw [updQ_ne ef] at hy; exact h f y hy
theorem Rp.upTree {i : Nat} (h : Rp E S n m go i) {v : Int} (hv : Half E S n i v) {e : Int} {x : Eg} (hx : E e = some x) (ht : x.t = true) (hS : ¬ S e) (hl : x.l = i) (hj : Jn (Te E S i) v x.a) : Rp (upE E e x) S n m go i ∧ Half (upE E e x) S n i v := by
  have same : ∀ (S' : Int → Prop) (j : Int), j ≤ i → ∀ a b, Te (upE E e x) S' j a b ↔ Te E S' j a b := fun S' j hj a b => te_up_ne hx S' (by omega) a b
  have jsame : ∀ (S' : Int → Prop) (j : Int), j ≤ i → ∀ a b, Jn (Te (upE E e x) S' j) a b ↔ Jn (Te E S' j) a b := fun S' j hj a b => jn_iff (same S' j hj)
  have mono : ∀ j a b, Te E S j a b → Te (upE E e x) S j a b := fun j a b k => (te_up hx ht hS j a b).2 (.inl k)
  have old : ∀ f y, upE E e x f = some y → ∃ y', E f = some y' ∧ y'.a = y.a ∧ y'.b = y.b ∧ y'.t = y.t ∧ (f ≠ e → y' = y) := fun f y hy => by
    unfold upE at hy
    by_cases ef : f = e
    · subst ef; rw [updQ_at] at hy; cases hy; exact ⟨x, hx, rfl, rfl, rfl, fun k => absurd rfl k⟩
    · rw [updQ_ne ef] at hy; exact ⟨y, hy, rfl, rfl, rfl, fun _ => rfl⟩
  refine ⟨⟨fun f y h1 h2 h3 => ?_, fun j hjm u T d1 d2 => ?_, fun k => h.nj ((jsame S 0 (by omega) _ _).1 k), fun f y h1 h2 h3 => ?_, fun j hji hjm Ta Tb d1 d2 k1 k2 => h.c j hji hjm Ta Tb d1 d2 (fun u hu => (jsame S j hji _ _).1 (k1 u hu)) (fun u hu => (jsame S j hji _ _).1 (k2 u hu)), upE_l0 hx h.l0⟩, fun T d1 d2 => hv T d1 (fun u hu => (jsame S i (by omega) _ _).1 (d2 u hu))⟩
  · obtain ⟨y', e1, e2, e3, e4, _⟩ := old f y h2
    rw [← e2, ← e3, jsame _ 0 (by omega)]
    exact h.acy f y' h1 e1 (e4.trans h3)
  · by_cases hji : (j : Int) = i + 1
    · have hj1 : j = i + 1 := by omega
      subst hj1
      by_cases hvu : Jn (Te E S i) v u
      · have := hv T d1 (fun z hz => by
          have k := d2 z hz
          have k2 : Jn (Te (upE E e x) S i) u z := k.low (by omega)
          exact hvu.trans ((jsame S i (by omega) _ _).1 k2))
        rw [two_pow_succ]
        rw [show (2 : Int) * T.length * 2 ^ i = T.length * (2 ^ i * 2) by rw [Int.mul_comm (2 : Int), Int.mul_assoc, Int.mul_comm (2 : Int)]] at this
        exact this
      · refine h.sz (i + 1) hjm u T d1 (fun z hz => ?_)
        have k := d2 z hz
        have k' : Jn (fun a b => Te E S ((i + 1 : Nat) : Int) a b ∨ (a = x.a ∧ b = x.b)) u z := k.sub fun a b r => by
          rcases (te_up hx ht hS _ a b).1 r with r | ⟨_, r1, r2⟩
          · exact .inl r
          · exact .inr ⟨r1, r2⟩
        have edge : Jn (Te E S i) x.a x.b := Jn.one ⟨e, x, hS, hx, ht, by omega, rfl, rfl⟩
        rcases Jn.more.1 k' with k1 | ⟨k1, _⟩ | ⟨k1, _⟩
        · exact k1
        · exact absurd (hj.trans (k1.low (by omega)).symm) hvu
        · exact absurd ((hj.trans edge).trans (k1.low (by omega)).symm) hvu
    · refine h.sz j hjm u T d1 (fun z hz => ?_)
      have k := d2 z hz
      exact k.sub fun a b r => (te_up_ne hx S (by omega) a b).1 r
  · obtain ⟨y', e1, e2, e3, e4, e5⟩ := old f y h2
    have hfe : f ≠ e := fun k => by
      subst k
      rw [hx] at e1; cases e1
      rw [ht, h3] at e4; cases e4
    obtain rfl := e5 hfe
    rcases h.b f y' h1 e1 h3 with k | ⟨k1, k2⟩
    · exact .inl (k.sub (mono _))
    · exact .inr ⟨k1, k2.sub fun a b r => r.imp (mono _ a b) id⟩
end
section
variable {E : EM} {S : Int → Prop} {n : Int} {m : Nat} {go : Eg}
theorem te_loose {e : Int} {x : Eg} (hx : E e = some x) (ht : x.t = false) (S' : Int → Prop) (j a b : Int) : Te (upE E e x) S' j a b ↔ Te E S' j a b := by
  constructor
  · rintro ⟨f, y, h1, h2, h3, h4⟩
    unfold upE at h2
    by_cases ef : f = e
    · subst ef; rw [updQ_at] at h2; cases h2; rw [ht] at h3; cases h3
    · rw [updQ_ne ef] at h2; exact ⟨f, y, h1, h2, h3, h4⟩
  · rintro ⟨f, y, h1, h2, h3, h4⟩
    by_cases ef : f = e
    · subst ef; rw [hx] at h2; cases h2; rw [ht] at h3; cases h3
    · exact ⟨f, y, h1, by unfold upE; rw [updQ_ne ef]; exact h2, h3, h4⟩
def NoTree (E : EM) (S : Int → Prop) (i : Int) (v : Int) : Prop := ∀ e x, ¬ S e → E e = some x → x.t = true → x.l = i → ¬ Jn (Te E S i) v x.a
theorem NoTree.rise {i v u : Int} (h : NoTree E S i v) (k : Jn (Te E S i) v u) : Jn (Te E S (i + 1)) v u := by
  induction k with
  | refl => exact .refl _
  | @step u w hp e ih =>
    have key : ∀ a b, Te E S i a b → Jn (Te E S i) v a → Te E S (i + 1) a b := fun a b ⟨f, y, h1, h2, h3, h4, h5, h6⟩ hj => by
      by_cases hl : y.l = i
      · exact absurd (h5 ▸ hj) (h f y h1 h2 h3 hl)
      · exact ⟨f, y, h1, h2, h3, by omega, h5, h6⟩
    rcases e with e | e
    · exact .step ih (.inl (key _ _ e hp))
    · exact .step ih (.inr (key _ _ e (.step hp (.inr e))))
theorem Rp.upLoose {i : Nat} (h : Rp E S n m go i) {v : Int} (hv : Half E S n i v) (hN : NoTree E S i v) {e : Int} {x : Eg} (hx : E e = some x) (ht : x.t = false) (hS : ¬ S e) (hl : x.l = i) (ha : Jn (Te E S i) v x.a) (hb : Jn (Te E S i) v x.b) :
    Rp (upE E e x) S n m go i ∧ Half (upE E e x) S n i v ∧ NoTree (upE E e x) S i v := by
  have same : ∀ (S' : Int → Prop) (j a b : Int), Te (upE E e x) S' j a b ↔ Te E S' j a b := te_loose hx ht
  have jsame : ∀ (S' : Int → Prop) (j a b : Int), Jn (Te (upE E e x) S' j) a b ↔ Jn (Te E S' j) a b := fun S' j a b => jn_iff (same S' j)
  have gsame : ∀ (j a b : Int), Jn (Tg (upE E e x) S go j) a b ↔ Jn (Tg E S go j) a b := fun j a b => jn_iff (fun a b => by unfold Tg; rw [same])
  have old : ∀ f y, upE E e x f = some y → (f = e ∧ y = ⟨x.a, x.b, x.l + 1, x.t⟩) ∨ (f ≠ e ∧ E f = some y) := fun f y hy => by
    unfold upE at hy
    by_cases ef : f = e
    · subst ef; rw [updQ_at] at hy; cases hy; exact .inl ⟨rfl, rfl⟩
    · rw [updQ_ne ef] at hy; exact .inr ⟨ef, hy⟩
  refine ⟨⟨fun f y h1 h2 h3 => ?_, fun j hjm u T d1 d2 => h.sz j hjm u T d1 fun z hz => (jsame _ _ _ _).1 (d2 z hz), fun k => h.nj ((jsame _ _ _ _).1 k), fun f y h1 h2 h3 => ?_, fun j hji hjm Ta Tb d1 d2 k1 k2 => h.c j hji hjm Ta Tb d1 d2 (fun u hu => (jsame _ _ _ _).1 (k1 u hu)) (fun u hu => (jsame _ _ _ _).1 (k2 u hu)), upE_l0 hx h.l0⟩, fun T d1 d2 => hv T d1 fun u hu => (jsame _ _ _ _).1 (d2 u hu), fun f y h1 h2 h3 h4 => ?_⟩
  · rw [jsame]
    rcases old f y h2 with ⟨rfl, rfl⟩ | ⟨e1, e2⟩
    · rw [ht] at h3; cases h3
    · exact h.acy f y h1 e2 h3
  · rw [jsame, gsame]
    rcases old f y h2 with ⟨rfl, rfl⟩ | ⟨e1, e2⟩
    · refine .inl ?_
      show Jn (Te E S (x.l + 1)) x.a x.b
      rw [hl]
      exact (hN.rise ha).symm.trans (hN.rise hb)
    · exact h.b f y h1 e2 h3
  · rw [jsame]
    rcases old f y h2 with ⟨rfl, rfl⟩ | ⟨e1, e2⟩
    · rw [ht] at h3; cases h3
    · exact hN f y h1 e2 h3 h4
theorem Rp.fail {i : Nat} (h : Rp E S n m go i) {v : Int} (hv : v = go.a ∨ v = go.b) (hno : ∀ e x, ¬ S e → E e = some x → x.t = false → x.l = i → ¬ Jn (Te E S i) v x.a ∧ ¬ Jn (Te E S i) v x.b) : Rp E S n m go ((i : Int) - 1) := by
  refine ⟨h.acy, h.sz, h.nj, fun e x h1 h2 h3 => ?_, fun j hj hm => h.c j (by omega) hm, h.l0⟩
  rcases h.b e x h1 h2 h3 with k | ⟨k1, k2⟩
  · exact .inl k
  · by_cases hl : x.l = i
    · refine .inl ?_
      obtain ⟨n1, n2⟩ := hno e x h1 h2 h3 hl
      rw [hl] at k2 ⊢
      rcases Tg.jn.1 k2 with k | ⟨c1, c2⟩ | ⟨c1, c2⟩
      · exact k
      · rcases hv with rfl | rfl
        · exact absurd c1.symm n1
        · exact absurd c2 n2
      · rcases hv with rfl | rfl
        · exact absurd c2 n2
        · exact absurd c1.symm n1
    · exact .inr ⟨by omega, k2⟩
theorem Rp.done (h : Rp E S n m go (-1)) : Bb E S := fun e x h1 h2 h3 => by
  rcases h.b e x h1 h2 h3 with k | ⟨k1, _⟩
  · exact k
  · have := h.l0 e x h2; omega
theorem Rp.half {i : Nat} (h : Rp E S n m go i) (hm : i < m) {v : Int} {na nb : Nat} (hA : ∃ Ta : List Int, Ta.Nodup ∧ (∀ u ∈ Ta, Jn (Te E S i) go.a u) ∧ Ta.length = na) (hB : ∃ Tb : List Int, Tb.Nodup ∧ (∀ u ∈ Tb, Jn (Te E S i) go.b u) ∧ Tb.length = nb)
    (hAm : ∀ T : List Int, T.Nodup → (∀ u ∈ T, Jn (Te E S i) go.a u) → T.length ≤ na) (hBm : ∀ T : List Int, T.Nodup → (∀ u ∈ T, Jn (Te E S i) go.b u) → T.length ≤ nb) (hv : v = if nb < na then go.b else go.a) : Half E S n i v := by
  obtain ⟨Ta, a1, a2, a3⟩ := hA
  obtain ⟨Tb, b1, b2, b3⟩ := hB
  have hc := h.c i (Int.le_refl _) hm Ta Tb a1 b1 a2 b2
  rw [a3, b3] at hc
  have hp := two_pow_pos i
  intro T d1 d2
  have le : 2 * (T.length : Int) ≤ (na : Int) + nb := by
    split at hv
    · rw [hv] at d2; have := hBm T d1 d2; omega
    · rw [hv] at d2; have := hAm T d1 d2; omega
  exact Int.le_trans (Int.mul_le_mul_of_nonneg_right le (Int.le_of_lt hp)) hc
/-! Another tree edge, of level l, from a to b. -/
theorem te_set {E' : EM} {e : Int} {y : Eg} (hE : E' = updQ E e (some y)) (hy : y.t = true) (hold : ∀ x, E e = some x → x.t = false) {S' : Int → Prop} (hS : ¬ S' e) (j a b : Int) : Te E' S' j a b ↔ Te E S' j a b ∨ (j ≤ y.l ∧ a = y.a ∧ b = y.b) := by
  subst hE
  constructor
  · rintro ⟨f, z, h1, h2, h3, h4, h5, h6⟩
    by_cases ef : f = e
    · subst ef; rw [updQ_at] at h2; cases h2; exact .inr ⟨h4, h5.symm, h6.symm⟩
    · rw [updQ_ne ef] at h2; exact .inl ⟨f, z, h1, h2, h3, h4, h5, h6⟩
  · rintro (⟨f, z, h1, h2, h3, h4, h5, h6⟩ | ⟨h1, rfl, rfl⟩)
    · by_cases ef : f = e
      · subst ef; rw [hold z h2] at h3; cases h3
      · exact ⟨f, z, h1, by rw [updQ_ne ef]; exact h2, h3, h4, h5, h6⟩
    · exact ⟨e, y, hS, updQ_at _ _ _, hy, h1, rfl, rfl⟩
theorem te_set_no {E' : EM} {e : Int} {y : Eg} (hE : E' = updQ E e (some y)) (hold : ∀ x, E e = some x → x.t = false) {S' : Int → Prop} (hS : S' e) (j a b : Int) : Te E' S' j a b ↔ Te E S' j a b := by
  subst hE
  constructor
  · rintro ⟨f, z, h1, h2, h3⟩
    have ef : f ≠ e := fun k => h1 (k ▸ hS)
    rw [updQ_ne ef] at h2; exact ⟨f, z, h1, h2, h3⟩
  · rintro ⟨f, z, h1, h2, h3⟩
    have ef : f ≠ e := fun k => h1 (k ▸ hS)
    exact ⟨f, z, h1, by rw [updQ_ne ef]; exact h2, h3⟩
theorem Acy.set {E' : EM} {e : Int} {y : Eg} (h : Acy E S) (hE : E' = updQ E e (some y)) (hy : y.t = true) (hold : ∀ x, E e = some x → x.t = false) (hS : ¬ S e) (h0 : ∀ e x, E e = some x → 0 ≤ x.l) (hj : ¬ Jn (Te E S 0) y.a y.b) : Acy E' S := by
  intro f z h1 h2 h3 k
  by_cases ef : f = e
  · subst ef
    rw [hE, updQ_at] at h2; cases h2
    refine hj (k.sub fun a b r => ?_)
    obtain ⟨f', z', g1, g2⟩ := (te_set_no hE hold (S' := fun k => S k ∨ k = f) (.inr rfl) 0 a b).1 r
    exact ⟨f', z', fun k => g1 (.inl k), g2⟩
  · have hf : E f = some z := by rw [hE, updQ_ne ef] at h2; exact h2
    have k' : Jn (fun a b => Te E (fun k => S k ∨ k = f) 0 a b ∨ (a = y.a ∧ b = y.b)) z.a z.b := k.sub fun a b r => by
      rcases (te_set hE hy hold (S' := fun k => S k ∨ k = f) (fun k => k.elim hS (fun k => ef k.symm)) 0 a b).1 r with r | ⟨_, r⟩
      · exact .inl r
      · exact .inr r
    have up : ∀ a b, Jn (Te E (fun k => S k ∨ k = f) 0) a b → Jn (Te E S 0) a b := fun a b k => k.sub fun a b ⟨f', z', g1, g2⟩ => ⟨f', z', fun k => g1 (.inl k), g2⟩
    have edge : Jn (Te E S 0) z.a z.b := Jn.one ⟨f, z, h1, hf, h3, h0 f z hf, rfl, rfl⟩
    rcases Jn.more.1 k' with k1 | ⟨k1, k2⟩ | ⟨k1, k2⟩
    · exact h f z h1 hf h3 k1
    · exact hj (((up _ _ k1).symm.trans edge).trans (up _ _ k2).symm)
    · exact hj (((up _ _ k2).trans edge.symm).trans (up _ _ k1))
theorem part_len (T : List Int) (P : Int → Prop) [DecidablePred P] : T.length = (T.filter fun u => decide (P u)).length + (T.filter fun u => decide (¬ P u)).length := by
  induction T with
  | nil => rfl
  | cons a T ih =>
    by_cases h : P a
    · rw [List.filter_cons_of_pos (by simpa using h), List.filter_cons_of_neg (by simpa using h)]; simp only [List.length_cons]; omega
    · rw [List.filter_cons_of_neg (by simpa using h), List.filter_cons_of_pos (by simpa using h)]; simp only [List.length_cons]; omega
theorem Rp.bind {i : Nat} (h : Rp E S n m go i) {e : Int} {x : Eg} (hx : E e = some x) (ht : x.t = false) (hS : ¬ S e) (hl : x.l = i) (hj : ¬ Jn (Te E S i) x.a x.b) :
    (∀ j : Int, 0 ≤ j → j ≤ i → ¬ Jn (Te E S j) x.a x.b) ∧ Acy (updQ E e (some ⟨x.a, x.b, x.l, true⟩)) S ∧ Sz (updQ E e (some ⟨x.a, x.b, x.l, true⟩)) S n m ∧ Bb (updQ E e (some ⟨x.a, x.b, x.l, true⟩)) S := by
  obtain ⟨E', hE⟩ : ∃ E', E' = updQ E e (some ⟨x.a, x.b, x.l, true⟩) := ⟨_, rfl⟩
  rw [← hE]
  have hold : ∀ y, E e = some y → y.t = false := fun y hy => by rw [hx] at hy; cases hy; exact ht
  have tset := fun (j a b : Int) => te_set hE rfl hold (S' := S) hS j a b
  have hc : (Jn (Te E S i) x.a go.a ∧ Jn (Te E S i) go.b x.b) ∨ (Jn (Te E S i) x.a go.b ∧ Jn (Te E S i) go.a x.b) := by
    rcases h.b e x hS hx ht with k | ⟨k1, k2⟩
    · rw [hl] at k; exact absurd k hj
    · rw [hl] at k2
      rcases Tg.jn.1 k2 with k | k | k
      · exact absurd k hj
      · exact .inl k
      · exact .inr k
  have nj : ∀ j : Int, 0 ≤ j → j ≤ i → ¬ Jn (Te E S j) x.a x.b := fun j h0 hji k => by
    have k0 := k.low h0
    rcases hc with ⟨c1, c2⟩ | ⟨c1, c2⟩
    · exact h.nj (((c1.low (by omega)).symm.trans k0).trans (c2.low (by omega)).symm)
    · exact h.nj (((c2.low (by omega)).trans k0.symm).trans (c1.low (by omega)))
  have mono : ∀ j a b, Te E S j a b → Te E' S j a b := fun j a b k => (tset j a b).2 (.inl k)
  have gl : ∀ j : Int, j ≤ i → ∀ a b, Jn (Tg E S go j) a b → Jn (Te E' S j) a b := fun j hji a b k => by
    have ed : Jn (Te E' S j) x.a x.b := Jn.one ((tset j _ _).2 (.inr ⟨by show j ≤ x.l; omega, rfl, rfl⟩))
    have gg : Jn (Te E' S j) go.a go.b := by
      rcases hc with ⟨c1, c2⟩ | ⟨c1, c2⟩
      · exact (((c1.low hji).sub (mono j)).symm.trans ed).trans ((c2.low hji).sub (mono j)).symm
      · exact (((c2.low hji).sub (mono j)).trans ed.symm).trans ((c1.low hji).sub (mono j))
    refine k.lift fun a b r => ?_
    rcases r with r | ⟨rfl, rfl⟩
    · exact Jn.one (mono j a b r)
    · exact gg
  refine ⟨nj, h.acy.set hE rfl hold hS h.l0 (nj 0 (Int.le_refl _) (by omega)), fun j hjm v T d1 d2 => ?_, fun f z h1 h2 h3 => ?_⟩
  · by_cases hji : (j : Int) ≤ i
    · -- who is joined to v
      have dec : ∀ u ∈ T, Jn (Te E S j) v u ∨ (Jn (Te E S j) v x.a ∧ Jn (Te E S j) x.b u) ∨ (Jn (Te E S j) v x.b ∧ Jn (Te E S j) x.a u) := fun u hu => by
        have k : Jn (fun a b => Te E S j a b ∨ (a = x.a ∧ b = x.b)) v u := (d2 u hu).sub fun a b r => by
          rcases (tset j a b).1 r with r | ⟨_, r⟩
          · exact .inl r
          · exact .inr r
        exact Jn.more.1 k
      by_cases hv : Jn (Te E S j) v x.a ∨ Jn (Te E S j) v x.b
      · have side : ∀ u ∈ T, Jn (Te E S j) go.a u ∨ Jn (Te E S j) go.b u := fun u hu => by
          have hxu : Jn (Te E S j) x.a u ∨ Jn (Te E S j) x.b u := by
            rcases dec u hu with k | ⟨_, k⟩ | ⟨_, k⟩
            · rcases hv with hv | hv
              · exact .inl (hv.symm.trans k)
              · exact .inr (hv.symm.trans k)
            · exact .inr k
            · exact .inl k
          rcases hc with ⟨c1, c2⟩ | ⟨c1, c2⟩
          · rcases hxu with k | k
            · exact .inl ((c1.low hji).symm.trans k)
            · exact .inr ((c2.low hji).trans k)
          · rcases hxu with k | k
            · exact .inr ((c1.low hji).symm.trans k)
            · exact .inl ((c2.low hji).trans k)
        classical
        have hp := part_len T (fun u => Jn (Te E S j) go.a u)
        have := h.c j hji hjm (T.filter fun u => decide (Jn (Te E S j) go.a u)) (T.filter fun u => decide (¬ Jn (Te E S j) go.a u)) (d1.sublist List.filter_sublist) (d1.sublist List.filter_sublist) (fun u hu => by simpa using (List.mem_filter.1 hu).2) (fun u hu => by
          obtain ⟨k1, k2⟩ := List.mem_filter.1 hu
          exact (side u k1).resolve_left (by simpa using k2))
        rw [hp]
        simpa using this
      · refine h.sz j hjm v T d1 fun u hu => ?_
        rcases dec u hu with k | ⟨k, _⟩ | ⟨k, _⟩
        · exact k
        · exact absurd (.inl k) hv
        · exact absurd (.inr k) hv
    · refine h.sz j hjm v T d1 fun u hu => (d2 u hu).sub fun a b r => ?_
      rcases (tset j a b).1 r with r | ⟨r, _⟩
      · exact r
      · have : (j : Int) ≤ x.l := r; omega
  · have ef : f ≠ e := fun k => by subst k; rw [hE, updQ_at] at h2; cases h2; cases h3
    have hf : E f = some z := by rw [hE, updQ_ne ef] at h2; exact h2
    rcases h.b f z h1 hf h3 with k | ⟨k1, k2⟩
    · exact k.sub (mono _)
    · exact gl _ k1 _ _ k2
/-! A graph at rest. -/
structure Rest (E : EM) (V : List Int) (n : Int) (m : Nat) : Prop where
  acy : Acy E (fun _ => False)
  sz : Sz E (fun _ => False) n m
  b : Bb E (fun _ => False)
  l0 : ∀ e x, E e = some x → 0 ≤ x.l ∧ x.l < m
  v : ∀ e x, E e = some x → x.a ≠ x.b ∧ x.a ∈ V ∧ x.b ∈ V
theorem Rest.joins {V : List Int} (h : Rest E V n m) (a b : Int) : Jn (Ae E) a b ↔ Jn (Te E (fun _ => False) 0) a b := by
  constructor
  · intro k
    refine k.lift fun a b ⟨e, x, h1, h2, h3⟩ => ?_
    subst h2 h3
    cases ht : x.t with
    | true => exact Jn.one ⟨e, x, fun k => k, h1, ht, (h.l0 e x h1).1, rfl, rfl⟩
    | false => exact (h.b e x (fun k => k) h1 ht).low (h.l0 e x h1).1
  · exact fun k => k.sub fun a b ⟨e, x, h1, h2, h3, h4, h5, h6⟩ => ⟨e, x, h2, h5, h6⟩
theorem mem_of_jn {R : Int → Int → Prop} {V : List Int} (hR : ∀ a b, R a b → a ∈ V ∧ b ∈ V) {v u : Int} (k : Jn R v u) : u = v ∨ (u ∈ V ∧ v ∈ V) := by
  induction k with
  | refl => exact .inl rfl
  | step hp e ih =>
    rcases e with e | e
    · rcases ih with rfl | ih
      · exact .inr ⟨(hR _ _ e).2, (hR _ _ e).1⟩
      · exact .inr ⟨(hR _ _ e).2, ih.2⟩
    · rcases ih with rfl | ih
      · exact .inr ⟨(hR _ _ e).1, (hR _ _ e).2⟩
      · exact .inr ⟨(hR _ _ e).1, ih.2⟩
theorem Rest.insTree {V : List Int} (h : Rest E V n m) (hV : (V.length : Int) ≤ n) (hn : 1 ≤ n) (hm : 1 ≤ m) {e a b : Int} (he : E e = none) (ha : a ∈ V) (hb : b ∈ V) (hab : a ≠ b) (hj : ¬ Jn (Te E (fun _ => False) 0) a b) : Rest (updQ E e (some ⟨a, b, 0, true⟩)) V n m := by
  obtain ⟨E', hE⟩ : ∃ E', E' = updQ E e (some ⟨a, b, 0, true⟩) := ⟨_, rfl⟩
  rw [← hE]
  have hold : ∀ y, E e = some y → y.t = false := fun y hy => by rw [he] at hy; cases hy
  have tset := fun (j a' b' : Int) => te_set hE rfl hold (S' := fun _ => False) (fun k => k) j a' b'
  have old : ∀ f y, E' f = some y → (f = e ∧ y = ⟨a, b, 0, true⟩) ∨ (f ≠ e ∧ E f = some y) := fun f y hy => by
    rw [hE] at hy
    by_cases ef : f = e
    · subst ef; rw [updQ_at] at hy; cases hy; exact .inl ⟨rfl, rfl⟩
    · rw [updQ_ne ef] at hy; exact .inr ⟨ef, hy⟩
  refine ⟨h.acy.set hE rfl hold (fun k => k) (fun e x k => (h.l0 e x k).1) hj, fun j hjm v T d1 d2 => ?_, fun f z h1 h2 h3 => ?_, fun f z h1 => ?_, fun f z h1 => ?_⟩
  · by_cases hj0 : j = 0
    · subst hj0
      have hT : (T.length : Int) ≤ n := by
        have hsub : ∀ u ∈ T, u = v ∨ u ∈ V := fun u hu => by
          rcases mem_of_jn (V := V) (fun a' b' r => by
            rcases (tset _ a' b').1 r with ⟨f, y, _, g2, _, _, rfl, rfl⟩ | ⟨_, rfl, rfl⟩
            · exact (h.v f y g2).2
            · exact ⟨ha, hb⟩) (d2 u hu) with k | k
          · exact .inl k
          · exact .inr k.1
        by_cases hv : v ∈ V
        · have := d1.length_le_of_subset (l₂ := V) (fun u hu => (hsub u hu).elim (fun k => k ▸ hv) id)
          omega
        · have := d1.length_le_of_subset (l₂ := [v]) (fun u hu => by
            rcases mem_of_jn (V := V) (fun a' b' r => by
              rcases (tset _ a' b').1 r with ⟨f, y, _, g2, _, _, rfl, rfl⟩ | ⟨_, rfl, rfl⟩
              · exact (h.v f y g2).2
              · exact ⟨ha, hb⟩) (d2 u hu) with k | k
            · simp [k]
            · exact absurd k.2 hv)
          simp at this
          omega
      simpa using hT
    · refine h.sz j hjm v T d1 fun u hu => (d2 u hu).sub fun a' b' r => ?_
      rcases (tset j a' b').1 r with r | ⟨r, _⟩
      · exact r
      · have : (j : Int) ≤ 0 := r; omega
  · rcases old f z h2 with ⟨rfl, rfl⟩ | ⟨_, k⟩
    · cases h3
    · exact (h.b f z h1 k h3).sub fun a' b' r => (tset _ a' b').2 (.inl r)
  · rcases old f z h1 with ⟨rfl, rfl⟩ | ⟨_, k⟩
    · exact ⟨Int.le_refl _, by show (0 : Int) < m; omega⟩
    · exact h.l0 f z k
  · rcases old f z h1 with ⟨rfl, rfl⟩ | ⟨_, k⟩
    · exact ⟨hab, ha, hb⟩
    · exact h.v f z k
theorem te_congr {E' : EM} {S S' : Int → Prop} (h : ∀ e x, x.t = true → ((¬ S e ∧ E e = some x) ↔ (¬ S' e ∧ E' e = some x))) (j a b : Int) : Te E S j a b ↔ Te E' S' j a b := by
  constructor
  · rintro ⟨f, y, h1, h2, h3, h4⟩
    obtain ⟨k1, k2⟩ := (h f y h3).1 ⟨h1, h2⟩
    exact ⟨f, y, k1, k2, h3, h4⟩
  · rintro ⟨f, y, h1, h2, h3, h4⟩
    obtain ⟨k1, k2⟩ := (h f y h3).2 ⟨h1, h2⟩
    exact ⟨f, y, k1, k2, h3, h4⟩
theorem Rest.loose {E' : EM} {S : Int → Prop} {V : List Int} (ha : Acy E S) (hs : Sz E S n m) (hE : ∀ e x, x.t = true → ((¬ S e ∧ E e = some x) ↔ E' e = some x)) (hb : ∀ e x, E' e = some x → x.t = false → Jn (Te E S x.l) x.a x.b) (hl : ∀ e x, E' e = some x → 0 ≤ x.l ∧ x.l < m) (hv : ∀ e x, E' e = some x → x.a ≠ x.b ∧ x.a ∈ V ∧ x.b ∈ V) : Rest E' V n m := by
  have tc : ∀ j a b, Te E S j a b ↔ Te E' (fun _ => False) j a b := te_congr fun e x ht => by rw [hE e x ht]; simp
  have jc : ∀ j a b, Jn (Te E S j) a b ↔ Jn (Te E' (fun _ => False) j) a b := fun j a b => jn_iff (tc j)
  refine ⟨fun e x h1 h2 h3 k => ?_, fun i hi v T d1 d2 => hs i hi v T d1 fun u hu => (jc _ _ _).2 (d2 u hu), fun e x h1 h2 h3 => (jc _ _ _).1 (hb e x h2 h3), hl, hv⟩
  obtain ⟨g1, g2⟩ := (hE e x h3).2 h2
  refine ha e x g1 g2 h3 (k.sub fun a b ⟨f, y, k1, k2, k3, k4⟩ => ?_)
  obtain ⟨q1, q2⟩ := (hE f y k3).2 k2
  exact ⟨f, y, fun q => q.elim q1 (fun q => k1 (.inr q)), q2, k3, k4⟩
end
def IsI (e : Ending) : Prop := ∃ r, e = .returned (.int .i64 r)
def IsBn (e : Ending) (P : Prop) : Prop := ∃ b : Bool, e = .returned (.bool b) ∧ (b = true ↔ P)
section
variable {p : Gp} {w : World} {F : Nat → Prop} {B : Nat} {g : Gs} {K : Nat}
theorem updF_updF {α : Type} (q : Nat → α) (i : Nat) (x y : α) : updF (updF q i x) i y = updF q i y := by
  funext j
  by_cases e : j = i
  · subst e; rw [updF_at, updF_at]
  · rw [updF_ne e, updF_ne e, updF_ne e]
theorem setF_setF (g : Gs) (i : Nat) (P P' : Vx → Prop) (Q Q' : Ex → Prop) : (g.setF i P Q).setF i P' Q' = g.setF i P' Q' := by
  show Gs.mk g.n g.m (updF (updF g.P i P) i P') (updF (updF g.Q i Q) i Q') g.E g.ne g.s g.vl g.vb g.el g.eb = _
  rw [updF_updF, updF_updF]; rfl
theorem setF_P (g : Gs) (i : Nat) (P : Vx → Prop) (Q : Ex → Prop) : (g.setF i P Q).P i = P := updF_at _ _ _
theorem setF_Q (g : Gs) (i : Nat) (P : Vx → Prop) (Q : Ex → Prop) : (g.setF i P Q).Q i = Q := updF_at _ _ _
theorem setF_self (g : Gs) (i : Nat) : g.setF i (g.P i) (g.Q i) = g := by
  unfold Gs.setF
  cases g
  congr 1
  · funext j; unfold updF; split
    · rename_i h; subst h; rfl
    · rfl
  · funext j; unfold updF; split
    · rename_i h; subst h; rfl
    · rfl
theorem gadd_any (h : Gm p w F B g K) (hK : K ≤ 30000) {i : Nat} (hi : i < g.m) (v s l : Int) (hb : B64 v) (hok : okSL s l = true) :
    Calls Tryz.prog 25 #[.pointer (some ⟨p.Bf i, 0, none⟩), .int .i64 v, .int .i64 s, .int .i64 l] w fun e w' => IsI e ∧ ∃ F', Gm p w' F' B (g.setF i (addP (g.P i) v s l) (g.Q i)) (K + 1) ∧ Step F F' w w' := by
  obtain ⟨Fi, Gi, fi, h1, h2, h3, h5, h4⟩ := h.forest hi
  refine (foadd_any h1 v s l hb h2 hK).mono ?_
  rintro e w' ⟨Fi', rfl, k1, k2⟩
  obtain ⟨F', q1, q2⟩ := h4 w' Fi' _ _ (K + 1) _ _ k1 k2 (Fo.dr_add _ _ _ _) (by omega) (h2.add hK v s l) (h3.add h1.tb hok)
  exact ⟨⟨_, rfl⟩, F', q1, q2⟩
theorem gcut_any (h : Gm p w F B g K) (hK : K ≤ 30000) {i : Nat} (hi : i < g.m) (n : Int) (hb : B64 n) :
    Calls Tryz.prog 53 #[.pointer (some ⟨p.Bf i, 0, none⟩), .int .i64 n] w fun e w' => IsI e ∧ ∃ F', Gm p w' F' B (g.setF i (g.P i) (cutQ (g.Q i) n)) (K + 1) ∧ Step F F' w w' := by
  obtain ⟨Fi, Gi, fi, h1, h2, h3, h5, h4⟩ := h.forest hi
  refine (focut_any h1 n hb h2 hK).mono ?_
  rintro e w' ⟨Fi', rfl, k1, k2⟩
  obtain ⟨F', q1, q2⟩ := h4 w' Fi' _ _ (K + 1) _ _ k1 k2 (Fo.dr_cut _ _) (by omega) (h2.cut n) (h3.cut h1.tb)
  exact ⟨⟨_, rfl⟩, F', q1, q2⟩
theorem glink_any (h : Gm p w F B g K) (hK : K ≤ 30000) {i : Nat} (hi : i < g.m) (n a b : Int) (hn : B64 n) (ha : B64 a) (hb : B64 b) (h0 : 1 ≤ n) (he : ¬ Ep (g.Q i) n) (hva : Vp (g.P i) a) (hvb : Vp (g.P i) b) (hj : ¬ Jq (g.Q i) a b) :
    Calls Tryz.prog 75 #[.pointer (some ⟨p.Bf i, 0, none⟩), .int .i64 n, .int .i64 a, .int .i64 b] w fun e w' => IsI e ∧ ∃ F', Gm p w' F' B (g.setF i (g.P i) (linkQ (g.Q i) n a b)) (K + 1) ∧ Step F F' w w' := by
  obtain ⟨Fi, Gi, fi, h1, h2, h3, h5, h4⟩ := h.forest hi
  refine (folink_any h1 n a b hn ha hb h2 hK).mono ?_
  rintro e w' ⟨Fi', _, rfl, k1, k2⟩
  obtain ⟨F', q1, q2⟩ := h4 w' Fi' _ _ (K + 1) _ _ k1 k2 (Fo.dr_link _ _ _ _) (by omega) (h2.link hK n a b) (h3.link h1.tb h0 he hva hvb hj)
  exact ⟨⟨_, rfl⟩, F', q1, q2⟩
theorem gmark_any (h : Gm p w F B g K) (hK : K ≤ 30000) {i : Nat} (hi : i < g.m) (v b : Int) (hv : B64 v) (h0 : 0 ≤ b) (hb : b ≤ 15) (hp : Vp (g.P i) v) :
    Calls Tryz.prog 64 #[.pointer (some ⟨p.Bf i, 0, none⟩), .int .i64 v, .int .u8 b] w fun e w' => IsI e ∧ ∃ F', Gm p w' F' B (g.setF i (markP (g.P i) v b) (g.Q i)) K ∧ Step F F' w w' := by
  obtain ⟨Fi, Gi, fi, h1, h2, h3, h5, h4⟩ := h.forest hi
  refine (fomark_any h1 v b hv h2 hK).mono ?_
  rintro e w' ⟨Fi', rfl, k1, k2⟩
  obtain ⟨F', q1, q2⟩ := h4 w' Fi' _ _ K _ _ k1 k2 rfl (by omega) (h2.mark v b) (h3.mark h1.tb h0 hb hp)
  exact ⟨⟨_, rfl⟩, F', q1, q2⟩
theorem gemark_any (h : Gm p w F B g K) (hK : K ≤ 30000) {i : Nat} (hi : i < g.m) (n b : Int) (hn : B64 n) (h0 : 0 ≤ b) (hb : b ≤ 15) (hp : Ep (g.Q i) n) :
    Calls Tryz.prog 76 #[.pointer (some ⟨p.Bf i, 0, none⟩), .int .i64 n, .int .u8 b] w fun e w' => IsI e ∧ ∃ F', Gm p w' F' B (g.setF i (g.P i) (emarkQ (g.Q i) n b)) K ∧ Step F F' w w' := by
  obtain ⟨Fi, Gi, fi, h1, h2, h3, h5, h4⟩ := h.forest hi
  refine (foemark_any h1 n b hn h2 hK).mono ?_
  rintro e w' ⟨Fi', rfl, k1, k2⟩
  obtain ⟨F', q1, q2⟩ := h4 w' Fi' _ _ K _ _ k1 k2 rfl (by omega) (h2.emark n b) (h3.emark h1.tb h0 hb hp)
  exact ⟨⟨_, rfl⟩, F', q1, q2⟩
theorem gdrop_any (h : Gm p w F B g K) (hK : K ≤ 30000) {i : Nat} (hi : i < g.m) (v : Int) (hb : B64 v) :
    Calls Tryz.prog 27 #[.pointer (some ⟨p.Bf i, 0, none⟩), .int .i64 v] w fun e w' => (∃ r, e = .returned (.int .i64 r) ∧ (¬ Vp (g.P i) v → r = 4) ∧ (Vp (g.P i) v → Hase (g.Q i) v → r = 13) ∧ (Vp (g.P i) v → ¬ Hase (g.Q i) v → r = 0)) ∧ ∃ F', Gm p w' F' B (g.setF i (dropP (g.P i) (g.Q i) v) (g.Q i)) (K + 1) ∧ Step F F' w w' := by
  obtain ⟨Fi, Gi, fi, h1, h2, h3, h5, h4⟩ := h.forest hi
  obtain ⟨d1, d2⟩ := h3.drop h1.tb (v := v)
  refine (fodrop_any h1 v hb h2 hK).mono ?_
  rintro e w' ⟨Fi', rfl, k1, k2⟩
  obtain ⟨F', q1, q2⟩ := h4 w' Fi' _ _ (K + 1) _ _ k1 k2 (Fo.dr_drop _ _) (by omega) (h2.drop v) d1
  exact ⟨⟨_, rfl, d2⟩, F', q1, q2⟩
theorem ghas_any (h : Gm p w F B g K) {i : Nat} (hi : i < g.m) (v : Int) (hb : B64 v) :
    Calls Tryz.prog 34 #[.pointer (some ⟨p.Bf i, 0, none⟩), .int .i64 v] w fun e w' => IsBn e (Vp (g.P i) v) ∧ w' = w := by
  obtain ⟨Fi, Gi, fi, h1, h2, h3, h5, h4⟩ := h.forest hi
  refine (fohas_any h1 v hb).mono ?_
  rintro e w' ⟨rfl, rfl⟩
  exact ⟨⟨_, rfl, h3.has⟩, rfl⟩
theorem gsame_any (h : Gm p w F B g K) (hK : K ≤ 30000) {i : Nat} (hi : i < g.m) (a b : Int) (ha : B64 a) (hb : B64 b) :
    Calls Tryz.prog 35 #[.pointer (some ⟨p.Bf i, 0, none⟩), .int .i64 a, .int .i64 b] w fun e w' => IsBn e (Vp (g.P i) a ∧ Vp (g.P i) b ∧ Jq (g.Q i) a b) ∧ Below w.heap.size w w' := by
  obtain ⟨Fi, Gi, fi, h1, h2, h3, h5, h4⟩ := h.forest hi
  refine (fosame_any h1 a b ha hb h2 hK).mono ?_
  rintro e w' ⟨rfl, hb⟩
  exact ⟨⟨_, rfl, h3.same h1.tb⟩, hb⟩
def SizeIs (P : Vx → Prop) (Q : Ex → Prop) (v n : Int) : Prop := (¬ Vp P v → n = 0) ∧ (Vp P v → ∃ T, Tree P Q v T ∧ n = T.length)
theorem gsize_any (h : Gm p w F B g K) (hK : K ≤ 30000) {i : Nat} (hi : i < g.m) (v : Int) (hb : B64 v) :
    Calls Tryz.prog 36 #[.pointer (some ⟨p.Bf i, 0, none⟩), .int .i64 v] w fun e w' => (∃ n, e = .returned (.int .i64 n) ∧ SizeIs (g.P i) (g.Q i) v n ∧ 0 ≤ n ∧ n ≤ K) ∧ Below w.heap.size w w' := by
  obtain ⟨Fi, Gi, fi, h1, h2, h3, h5, h4⟩ := h.forest hi
  refine (fosize_any h1 v hb h2 hK).mono ?_
  rintro e w' ⟨rfl, hb⟩
  refine ⟨⟨_, rfl, ?_⟩, hb⟩
  by_cases hv : Vp (g.P i) v
  · obtain ⟨T, t1, t2⟩ := h3.tree h2 v
    obtain ⟨vs, es, k1, k2, k3⟩ := h3
    obtain ⟨e1, _⟩ := k1.total h1.tb ((vp_mem k2 v).2 hv) (t1.trv k2 k3)
    rw [sumL_one, wr_id (by omega) (by omega)] at e1
    rw [e1]
    exact ⟨⟨fun k => absurd hv k, fun _ => ⟨T, t1, rfl⟩⟩, by omega, by omega⟩
  · rw [(h3.none hv).1]
    exact ⟨⟨fun _ => rfl, fun k => absurd k hv⟩, Int.le_refl _, by show (0 : Int) ≤ K; omega⟩
def SumIs (P : Vx → Prop) (Q : Ex → Prop) (sv : Int → Int) (v n : Int) : Prop := (¬ Vp P v → n = 0) ∧ (Vp P v → ∃ T, Tree P Q v T ∧ n = wr (sumL sv T))
def LeastIs (P : Vx → Prop) (Q : Ex → Prop) (lv : Int → Int) (v n : Int) : Prop := (¬ Vp P v → n = -1) ∧ (Vp P v → ∃ T, Tree P Q v T ∧ n = minL lv T)
theorem gsum_any (h : Gm p w F B g K) (hK : K ≤ 30000) {i : Nat} (hi : i < g.m) (v : Int) (hb : B64 v) {sv lv : Int → Int} (hs : ∀ x, g.P i x → x.s = sv x.v ∧ x.l = lv x.v) :
    Calls Tryz.prog 37 #[.pointer (some ⟨p.Bf i, 0, none⟩), .int .i64 v] w fun e w' => (∃ n, e = .returned (.int .i64 n) ∧ SumIs (g.P i) (g.Q i) sv v n) ∧ Below w.heap.size w w' := by
  obtain ⟨Fi, Gi, fi, h1, h2, h3, h5, h4⟩ := h.forest hi
  refine (fosum_any h1 v hb h2 hK).mono ?_
  rintro e w' ⟨rfl, hb⟩
  refine ⟨⟨_, rfl, ?_⟩, hb⟩
  by_cases hv : Vp (g.P i) v
  · obtain ⟨T, t1, t2⟩ := h3.tree h2 v
    obtain ⟨_, e2, _⟩ := h3.total h1.tb hv t1 hs
    exact ⟨fun k => absurd hv k, fun _ => ⟨T, t1, e2⟩⟩
  · rw [(h3.none hv).1]
    exact ⟨fun _ => rfl, fun k => absurd k hv⟩
theorem gleast_any (h : Gm p w F B g K) (hK : K ≤ 30000) {i : Nat} (hi : i < g.m) (v : Int) (hb : B64 v) {sv lv : Int → Int} (hs : ∀ x, g.P i x → x.s = sv x.v ∧ x.l = lv x.v) :
    Calls Tryz.prog 38 #[.pointer (some ⟨p.Bf i, 0, none⟩), .int .i64 v] w fun e w' => (∃ n, e = .returned (.int .i64 n) ∧ LeastIs (g.P i) (g.Q i) lv v n) ∧ Below w.heap.size w w' := by
  obtain ⟨Fi, Gi, fi, h1, h2, h3, h5, h4⟩ := h.forest hi
  refine (foleast_any h1 v hb h2 hK).mono ?_
  rintro e w' ⟨rfl, hb⟩
  refine ⟨⟨_, rfl, ?_⟩, hb⟩
  by_cases hv : Vp (g.P i) v
  · obtain ⟨T, t1, t2⟩ := h3.tree h2 v
    obtain ⟨_, _, e2⟩ := h3.total h1.tb hv t1 hs
    exact ⟨fun k => absurd hv k, fun _ => ⟨T, t1, by rw [h3.leastYes hv]; exact e2⟩⟩
  · rw [(h3.none hv).2]
    exact ⟨fun _ => rfl, fun k => absurd k hv⟩
def FoundV (P : Vx → Prop) (Q : Ex → Prop) (v u : Int) (ok : Bool) : Prop := (ok = true → ∃ x, P x ∧ Jq Q v x.v ∧ x.m = 1 ∧ u = x.v) ∧ (ok = false → ∀ x, P x → Jq Q v x.v → x.m = 0)
def FoundE (Q : Ex → Prop) (v n : Int) (ok : Bool) : Prop := (ok = true → ∃ y, Q y ∧ Jq Q v y.a ∧ y.m = 1 ∧ n = y.e) ∧ (ok = false → ∀ y, Q y → Jq Q v y.a → y.m = 0)
theorem gfindE_any (h : Gm p w F B g K) (hK : K ≤ 30000) {i : Nat} (hi : i < g.m) (v : Int) (hb : B64 v) (hv : Vp (g.P i) v) (hm : ∀ y, g.Q i y → y.m = 0 ∨ y.m = 1) :
    Calls Tryz.prog 83 #[.pointer (some ⟨p.Bf i, 0, none⟩), .int .i64 v, .int .u8 1] w fun e w' => (∃ n ok, e = .returned (.tuple #[.int .i64 n, .bool ok]) ∧ FoundE (g.Q i) v n ok) ∧ Below w.heap.size w w' := by
  obtain ⟨Fi, Gi, fi, h1, h2, h3, h5, h4⟩ := h.forest hi
  refine (fofindE_any h1 v 1 hb h2 hK).mono ?_
  rintro e w' ⟨rfl, hb⟩
  refine ⟨⟨_, _, rfl, ?_⟩, hb⟩
  rcases h3.findE h1.tb hv hm with ⟨e1, x, q1, q2, q3, q4⟩ | ⟨e1, q⟩
  · exact ⟨fun _ => ⟨x, q1, q2, q3, q4⟩, fun k => absurd e1 (of_decide_eq_false k)⟩
  · exact ⟨fun k => absurd e1 (of_decide_eq_true k), fun _ => q⟩
theorem gsize_val (h : Gm p w F B g K) (hK : K ≤ 30000) {i : Nat} (hi : i < g.m) (v : Int) (hb : B64 v) :
    ∃ n, SizeIs (g.P i) (g.Q i) v n ∧ (0 ≤ n ∧ n ≤ K) ∧ ∀ g' : Grow w, Calls Tryz.prog 36 #[.pointer (some ⟨p.Bf i, 0, none⟩), .int .i64 v] g'.w fun e w' => e = .returned (.int .i64 n) ∧ Below g'.w.heap.size g'.w w' := by
  obtain ⟨Fi, Gi, fi, h1, h2, h3, h5, h4⟩ := h.forest hi
  have key : SizeIs (g.P i) (g.Q i) v (fi.total v).c ∧ 0 ≤ (fi.total v).c ∧ (fi.total v).c ≤ K := by
    by_cases hv : Vp (g.P i) v
    · obtain ⟨T, t1, t2⟩ := h3.tree h2 v
      obtain ⟨vs, es, k1, k2, k3⟩ := h3
      obtain ⟨e1, _⟩ := k1.total h1.tb ((vp_mem k2 v).2 hv) (t1.trv k2 k3)
      rw [sumL_one, wr_id (by omega) (by omega)] at e1
      rw [e1]
      exact ⟨⟨fun k => absurd hv k, fun _ => ⟨T, t1, rfl⟩⟩, by omega, by omega⟩
    · rw [(h3.none hv).1]
      exact ⟨⟨fun _ => rfl, fun k => absurd k hv⟩, Int.le_refl _, by show (0 : Int) ≤ K; omega⟩
  exact ⟨_, key.1, key.2, fun g' => fosize_any (h1.below g'.h) v hb h2 hK⟩
theorem gsize_fun (h : Gm p w F B g K) (hK : K ≤ 30000) {i : Nat} (hi : i < g.m) :
    ∃ sz : Int → Int, ∀ v, B64 v → SizeIs (g.P i) (g.Q i) v (sz v) ∧ ∀ g' : Grow w, Calls Tryz.prog 36 #[.pointer (some ⟨p.Bf i, 0, none⟩), .int .i64 v] g'.w fun e w' => e = .returned (.int .i64 (sz v)) ∧ Below g'.w.heap.size g'.w w' := by
  classical
  refine ⟨fun v => if hb : B64 v then (gsize_val h hK hi v hb).choose else 0, fun v hb => ?_⟩
  simp only [dif_pos hb]
  exact ⟨(gsize_val h hK hi v hb).choose_spec.1, (gsize_val h hK hi v hb).choose_spec.2.2⟩
theorem gsame_val (h : Gm p w F B g K) (hK : K ≤ 30000) {i : Nat} (hi : i < g.m) (a b : Int) (ha : B64 a) (hb : B64 b) :
    ∃ t : Bool, (t = true ↔ Vp (g.P i) a ∧ Vp (g.P i) b ∧ Jq (g.Q i) a b) ∧ ∀ g' : Grow w, Calls Tryz.prog 35 #[.pointer (some ⟨p.Bf i, 0, none⟩), .int .i64 a, .int .i64 b] g'.w fun e w' => e = .returned (.bool t) ∧ Below g'.w.heap.size g'.w w' := by
  obtain ⟨Fi, Gi, fi, h1, h2, h3, h5, h4⟩ := h.forest hi
  exact ⟨_, h3.same h1.tb, fun g' => fosame_any (h1.below g'.h) a b ha hb h2 hK⟩
theorem gfindV_val (h : Gm p w F B g K) (hK : K ≤ 30000) {i : Nat} (hi : i < g.m) (v : Int) (hb : B64 v) (hv : Vp (g.P i) v) (hm : ∀ x, g.P i x → x.m = 0 ∨ x.m = 1) :
    ∃ u ok, FoundV (g.P i) (g.Q i) v u ok ∧ ∀ g' : Grow w, Calls Tryz.prog 56 #[.pointer (some ⟨p.Bf i, 0, none⟩), .int .i64 v, .int .u8 1] g'.w fun e w' => e = .returned (.tuple #[.int .i64 u, .bool ok]) ∧ Below g'.w.heap.size g'.w w' := by
  obtain ⟨Fi, Gi, fi, h1, h2, h3, h5, h4⟩ := h.forest hi
  refine ⟨_, _, ?_, fun g' => fofindV_any (h1.below g'.h) v 1 hb h2 hK⟩
  rcases h3.findV h1.tb hv hm with ⟨e1, x, q1, q2, q3, q4⟩ | ⟨e1, q⟩
  · exact ⟨fun _ => ⟨x, q1, q2, q3, q4⟩, fun k => absurd e1 (of_decide_eq_false k)⟩
  · exact ⟨fun k => absurd e1 (of_decide_eq_true k), fun _ => q⟩
/-! The bag's. -/
theorem gput_any (h : Gm p w F B g K) (hK : K ≤ 30000) {v l n : Int} (ha : okT (v, l, n)) (h0 : 0 ≤ l) (h1 : l ≤ 63) (h2 : 1 ≤ n) (hm : n ∉ g.s.L (v, l)) :
    Calls Tryz.prog 77 #[.pointer (some ⟨p.bB, 0, none⟩), .int .i64 v, .int .i64 l, .int .i64 n] w fun e w' => IsI e ∧ ∃ F', Gm p w' F' B (g.setS (g.s.put (v, l) n)) (K + 1) ∧ Step F F' w w' := by
  obtain ⟨Fb, b1, b2, b3⟩ := h.bagL
  refine (bput_ok b1 (by omega) ha h0 h1 h2 hm).mono ?_
  rintro e w' ⟨rfl, Fb', k1, k2⟩
  obtain ⟨F', q1, q2⟩ := b3 w' Fb' _ (K + 1) k1 k2 (by omega)
  exact ⟨⟨_, rfl⟩, F', q1, q2⟩
theorem gtake_any (h : Gm p w F B g K) (hK : K ≤ 30000) {v l n : Int} (ha : okT (v, l, n)) (hm : n ∈ g.s.L (v, l)) :
    Calls Tryz.prog 62 #[.pointer (some ⟨p.bB, 0, none⟩), .int .i64 v, .int .i64 l, .int .i64 n] w fun e w' => e = .returned (.bool true) ∧ ∃ F', Gm p w' F' B (g.setS (g.s.take (v, l) n)) K ∧ Step F F' w w' := by
  obtain ⟨Fb, b1, b2, b3⟩ := h.bagL
  refine (btake_yes b1 (by omega) ha hm).mono ?_
  rintro e w' ⟨rfl, k1, k2⟩
  obtain ⟨F', q1, q2⟩ := b3 w' Fb _ K k1 k2 (Nat.le_refl _)
  exact ⟨rfl, F', q1, q2⟩
theorem gmany_any (h : Gm p w F B g K) {v l : Int} (ha : okP (v, l)) : Calls Tryz.prog 63 #[.pointer (some ⟨p.bB, 0, none⟩), .int .i64 v, .int .i64 l] w fun e w' => e = .returned (.int .i64 (g.s.L (v, l)).length) ∧ w' = w := by
  obtain ⟨Fb, b1, b2, b3⟩ := h.bagL
  exact bmany_any b1 ha
end
def ends2 (x : Eg) : Value := .agg #[.int .i64 x.a, .int .i64 x.b]
theorem ends_any (x : Eg) (w : World) : Calls Tryz.prog 61 #[egv x] w fun e w' => e = .returned (ends2 x) ∧ Below w.heap.size w w' := by
  obtain ⟨a, b, l, t⟩ := x
  have h2 : Hid (Blk ((w.alloc (.cells #[.int .i64 a, .int .i64 b, .int .i64 l, .bool t] 63)).alloc (.cells #[.int .i64 a, .int .i64 b] 109)) (w.heap.size + 1) 109 #[.int .i64 a, .int .i64 b]) := by
    have := Blk.new (w.alloc (.cells #[.int .i64 a, .int .i64 b, .int .i64 l, .bool t] 63)) 109 #[.int .i64 a, .int .i64 b]
    rw [World.size_alloc] at this; exact this
  unfold egv ends2
  go_enter Tryz.func61, Tryz.ntmps61
  go_wp2
  refine bodyPost_ret (results_cell_row rfl _ _ (w.heap.size + 1) 109 _ (0, 0) _ rfl h2.out Tryz.underlying109 rfl (by kernel_rfl)) rfl ?_
  exact ⟨rfl, below_new ((Below.refl _ _).alloc (Nat.le_refl _) _) (Nat.le_refl _) _⟩
def linkM (Q : Ex → Prop) (n a b m : Int) : Ex → Prop := fun y => Q y ∨ y = ⟨n, a, b, m⟩
def linkG (g : Gs) (n : Int) (x : Eg) (i : Nat) : Gs := g.setF i (addP (addP (g.P i) x.a 0 0) x.b 0 0) (linkM (g.Q i) n x.a x.b (if x.l = i then 1 else 0))
theorem linkM_mark {Q : Ex → Prop} {n a b : Int} (h : ¬ Ep Q n) : emarkQ (linkQ Q n a b) n 1 = linkM Q n a b 1 := by
  funext y
  apply propext
  constructor
  · rintro (⟨h1 | h1, h2⟩ | ⟨y0, h1 | h1, h2, rfl⟩)
    · exact .inl h1
    · rw [h1] at h2; exact absurd rfl h2
    · exact absurd ⟨y0, h1, h2⟩ h
    · rw [h1]; exact .inr rfl
  · rintro (h1 | rfl)
    · exact .inl ⟨.inl h1, fun e => h ⟨y, h1, e⟩⟩
    · exact .inr ⟨⟨n, a, b, 0⟩, .inr rfl, rfl, rfl⟩
theorem addP_vp (P : Vx → Prop) (v s l : Int) : Vp (addP P v s l) v := by
  by_cases h : Vp P v
  · obtain ⟨x, h1, h2⟩ := h; exact ⟨x, .inl h1, h2⟩
  · exact ⟨⟨v, s, l, 0⟩, .inr ⟨h, rfl⟩, rfl⟩
theorem Vp.add {P : Vx → Prop} {u : Int} (h : Vp P u) (v s l : Int) : Vp (addP P v s l) u := by obtain ⟨x, h1, h2⟩ := h; exact ⟨x, .inl h1, h2⟩
structure Bx (w : World) (F : Nat → Prop) (M : Nat) (T : TypeId) (cs : Array Value) : Prop where
  blk : Blk w M T cs
  out : ¬ F M
theorem Bx.step {w w' : World} {F F' : Nat → Prop} {M : Nat} {T : TypeId} {cs : Array Value} (h : Bx w F M T cs) (hs : Step F F' w w') : Bx w' F' M T cs :=
  ⟨(hs.only.block M h.blk.lt h.out).trans h.blk, fun k => (hs.ext M k).elim h.out (fun e => by have := h.blk.lt; omega)⟩
theorem Bx.below {w w' : World} {F : Nat → Prop} {M : Nat} {T : TypeId} {cs : Array Value} (h : Bx w F M T cs) (hb : Below w.heap.size w w') : Bx w' F M T cs := ⟨h.blk.below hb, h.out⟩
theorem idx0 (a b : Int) (w : World) : Sem.run Tryz.prog (Instr.index 109 (.agg #[.int .i64 a, .int .i64 b]) (.int .i64 0)) w = .ok (.int .i64 a) w := by kernel_rfl
theorem idx1 (a b : Int) (w : World) : Sem.run Tryz.prog (Instr.index 109 (.agg #[.int .i64 a, .int .i64 b]) (.int .i64 1)) w = .ok (.int .i64 b) w := by kernel_rfl
section
variable {p : Gp} {w : World} {F : Nat → Prop} {B : Nat} {g : Gs} {K : Nat}
theorem link_any (h : Gm p w F B g K) (hK : K + 3 ≤ 30000) {i : Nat} (hi : i < g.m) {n : Int} {x : Eg} (hn : B64 n) (h1 : 1 ≤ n) (ha : B64 x.a) (hb : B64 x.b) (he : ¬ Ep (g.Q i) n) (hj : ¬ Jq (g.Q i) x.a x.b) :
    Calls Tryz.prog 48 #[.pointer (some ⟨B, 0, none⟩), .int .i64 n, egv x, .int .i64 i] w fun e w' => e = .returned (.tuple #[]) ∧ ∃ F', Gm p w' F' B (linkG g n x i) (K + 3) ∧ Step F F' w w' := by
  obtain ⟨xa, xb, xl, xt⟩ := x
  have hbw : Below w.heap.size w (w.alloc (.cells #[.int .i64 xa, .int .i64 xb, .int .i64 xl, .bool xt] 63)) := (Below.refl _ _).alloc (Nat.le_refl _) _
  have hX : Bx (w.alloc (.cells #[.int .i64 xa, .int .i64 xb, .int .i64 xl, .bool xt] 63)) F w.heap.size 63 #[.int .i64 xa, .int .i64 xb, .int .i64 xl, .bool xt] := ⟨Blk.new w _ _, fun k => by have := h.lt _ k; omega⟩
  have h' := h.below hbw
  obtain ⟨vv, ev, hc⟩ := h'.cells
  have c1 := hc.at (j := 1) rfl
  obtain ⟨q, cap, e1, cq, hq, hcap1, hcap2⟩ := h'.ptr hi
  have x0 := hX.blk.at (j := 0) rfl
  have x1 := hX.blk.at (j := 1) rfl
  have x2 := hX.blk.at (j := 2) rfl
  have x3 := hX.blk.at (j := 3) rfl
  simp only [List.getElem_toArray, List.getElem_cons_zero, List.getElem_cons_succ] at c1
  rw [e1] at c1
  have HE := mkH (ends_any ⟨xa, xb, xl, xt⟩ (w.alloc (.cells #[.int .i64 xa, .int .i64 xb, .int .i64 xl, .bool xt] 63)))
  have hi' : (i : Int) < (g.m : Int) := by omega
  have hm' : (g.m : Int) ≤ 9223372036854775807 := by unfold maxLen at hcap2; omega
  have HG := mkH h'
  have HX := mkH hX
  have HS : Hid (Step F F w (w.alloc (.cells #[.int .i64 xa, .int .i64 xb, .int .i64 xl, .bool xt] 63))) := Step.of_below hbw
  have HJ := mkH hj
  have HN := mkH he
  have HI := mkH hi
  unfold egv
  unfold egv ends2 at HE
  clear h h' hc e1 hj he hX hbw
  go_enter Tryz.func48, Tryz.ntmps48
  go_wp2_with fail
  refine HE.out.mono ?_
  rintro e w2 ⟨rfl, hb2⟩
  have HG2 := mkH (HG.out.below hb2)
  have HX2 := mkH (HX.out.below hb2)
  have HS2 := mkH (HS.out.trans (Step.of_below hb2))
  have HA := mkH (gadd_any HG2.out (by omega) HI.out xa 0 0 ha (by decide))
  have i0 := idx0 xa xb
  have i1 := idx1 xa xb
  clear hb2 HG HX HS HE x0 x1 x2 x3 c1 cq
  go_wp2_with fail
  refine wp_loop_rounds 3 ?_
  rw [rounds_succ]
  go_wp2_with fail
  refine HA.out.mono ?_
  rintro e w3 ⟨⟨r3, rfl⟩, F3, hG3, hS3⟩
  have HG3 := mkH hG3
  have HX3 := mkH (HX2.out.step hS3)
  have HS3 := mkH (HS2.out.trans hS3)
  have HA3 := mkH (gadd_any HG3.out (by omega) HI.out xb 0 0 hb (by decide))
  clear hG3 hS3 HG2 HX2 HS2 HA
  go_wp2_with fail
  rw [rounds_succ]
  go_wp2_with fail
  refine HA3.out.mono ?_
  rintro e w4 ⟨⟨r4, rfl⟩, F4, hG4, hS4⟩
  have hX4 := HX3.out.step hS4
  simp only [setF_setF, setF_P, setF_Q] at hG4
  have HG4 := mkH hG4
  have HS4 := mkH (HS3.out.trans hS4)
  have x0 := hX4.blk.at (j := 0) rfl
  have x1 := hX4.blk.at (j := 1) rfl
  have x2 := hX4.blk.at (j := 2) rfl
  simp only [List.getElem_toArray, List.getElem_cons_zero, List.getElem_cons_succ] at x0 x1 x2
  have HX4 := mkH hX4
  have HL := mkH (glink_any HG4.out (by omega) HI.out n xa xb hn ha hb h1 (by rw [setF_Q]; exact HN.out) (by rw [setF_P]; exact (addP_vp _ _ _ _).add _ _ _) (by rw [setF_P]; exact addP_vp _ _ _ _) (by rw [setF_Q]; exact HJ.out))
  have HN4 : Hid (¬ Ep (g.Q i) n) := HN.out
  clear hG4 hS4 hX4 HG3 HX3 HS3 HA3
  go_wp2_with fail
  rw [rounds_succ]
  go_wp2_with fail
  refine HL.out.mono ?_
  rintro e w5 ⟨⟨r5, rfl⟩, F5, hG5, hS5⟩
  simp only [setF_setF, setF_P, setF_Q] at hG5
  have hX5 := HX4.out.step hS5
  have x2 := hX5.blk.at (j := 2) rfl
  simp only [List.getElem_toArray, List.getElem_cons_zero, List.getElem_cons_succ] at x2
  have HS5 := mkH (HS4.out.trans hS5)
  have HG5 := mkH hG5
  clear hG5 hS5 hX5 HL HG4 HS4 HX4
  by_cases hl : xl = i
  · have hl' : ((i : Int) == xl) = true := by simp [hl]
    have HM := mkH (gemark_any HG5.out (by omega) HI.out n 1 hn (by omega) (by omega) (by rw [setF_Q]; exact ⟨_, .inr rfl, rfl⟩))
    have HL5 := mkH hl
    clear hl HG5
    go_wp2_with fail
    refine HM.out.mono ?_
    rintro e w6 ⟨⟨r6, rfl⟩, F6, hG6, hS6⟩
    simp only [setF_setF, setF_P, setF_Q] at hG6
    rw [linkM_mark HN4.out] at hG6
    have HF : Hid (∃ F', Gm p w6 F' B (linkG g n ⟨xa, xb, xl, xt⟩ i) (K + 3) ∧ Step F F' w w6) := ⟨F6, by unfold linkG; rw [if_pos HL5.out]; exact hG6, HS5.out.trans hS6⟩
    clear hG6 hS6 HM HS5 x2
    go_wp2
    go_returns
    exact ⟨rfl, HF.out⟩
  · have hl' : ((i : Int) == xl) = false := by simp; omega
    have HF : Hid (∃ F', Gm p w5 F' B (linkG g n ⟨xa, xb, xl, xt⟩ i) (K + 3) ∧ Step F F' w w5) := ⟨F5, by unfold linkG; rw [if_neg hl]; exact HG5.out, HS5.out⟩
    clear hl HG5 HS5
    go_wp2
    go_returns
    exact ⟨rfl, HF.out⟩
end
def putG1 (g : Gs) (n v : Int) (i : Nat) : Gs := (g.setS (g.s.put (v, i) n)).setF i (if ((g.s.put (v, i) n).L (v, i)).length = 1 then markP (g.P i) v 1 else g.P i) (g.Q i)
def putG (g : Gs) (n : Int) (x : Eg) (i : Nat) : Gs := putG1 (putG1 g n x.a i) n x.b i
def takeG1 (g : Gs) (n v : Int) (i : Nat) : Gs := (g.setS (g.s.take (v, i) n)).setF i (if ((g.s.take (v, i) n).L (v, i)).length = 0 then markP (g.P i) v 0 else g.P i) (g.Q i)
def takeG (g : Gs) (n : Int) (x : Eg) (i : Nat) : Gs := takeG1 (takeG1 g n x.a i) n x.b i
theorem markP_vp {P : Vx → Prop} {u : Int} (h : Vp P u) (v b : Int) : Vp (markP P v b) u := by
  obtain ⟨x, h1, h2⟩ := h
  by_cases e : x.v = v
  · exact ⟨⟨v, x.s, x.l, b⟩, .inr ⟨x, h1, e, rfl⟩, by rw [← h2, e]⟩
  · exact ⟨x, .inl ⟨h1, e⟩, h2⟩
theorem ifP_vp {P : Vx → Prop} {u : Int} (h : Vp P u) (v b : Int) (c : Prop) [Decidable c] : Vp (if c then markP P v b else P) u := by split; exact markP_vp h v b; exact h
theorem put_other (s : Bg) {a a' : Int × Int} (h : a' ≠ a) (n : Int) : (s.put a n).L a' = s.L a' := by show updQ s.L a _ a' = _; exact updQ_ne h
theorem put_same (s : Bg) (a : Int × Int) (n : Int) : (s.put a n).L a = s.L a ++ [n] := by show updQ s.L a _ a = _; exact updQ_at _ _ _
theorem take_other (s : Bg) {a a' : Int × Int} (h : a' ≠ a) (n : Int) : (s.take a n).L a' = s.L a' := by show updQ s.L a _ a' = _; exact updQ_ne h
theorem take_same (s : Bg) (a : Int × Int) (n : Int) : (s.take a n).L a = delL (s.L a) n := by show updQ s.L a _ a = _; exact updQ_at _ _ _
theorem okT_mk {v n : Int} {i : Nat} (hv : B64 v) (hi : i ≤ 63) (hn : B64 n) : okT (v, (i : Int), n) := ⟨hv, ⟨by show -9223372036854775808 ≤ (i : Int); omega, by show (i : Int) ≤ 9223372036854775807; omega⟩, hn⟩
theorem okP_mk {v : Int} {i : Nat} (hv : B64 v) (hi : i ≤ 63) : okP (v, (i : Int)) := ⟨hv, ⟨by show -9223372036854775808 ≤ (i : Int); omega, by show (i : Int) ≤ 9223372036854775807; omega⟩⟩
theorem putG1_yes {g : Gs} {n v : Int} {i : Nat} (h : ((g.s.put (v, (i : Int)) n).L (v, (i : Int))).length = 1) : putG1 g n v i = (g.setS (g.s.put (v, (i : Int)) n)).setF i (markP (g.P i) v 1) (g.Q i) := by unfold putG1; rw [if_pos h]
theorem putG1_no {g : Gs} {n v : Int} {i : Nat} (h : ¬ ((g.s.put (v, (i : Int)) n).L (v, (i : Int))).length = 1) : putG1 g n v i = g.setS (g.s.put (v, (i : Int)) n) := by unfold putG1; rw [if_neg h]; exact setF_self (g.setS (g.s.put (v, (i : Int)) n)) i
theorem takeG1_yes {g : Gs} {n v : Int} {i : Nat} (h : ((g.s.take (v, (i : Int)) n).L (v, (i : Int))).length = 0) : takeG1 g n v i = (g.setS (g.s.take (v, (i : Int)) n)).setF i (markP (g.P i) v 0) (g.Q i) := by unfold takeG1; rw [if_pos h]
theorem takeG1_no {g : Gs} {n v : Int} {i : Nat} (h : ¬ ((g.s.take (v, (i : Int)) n).L (v, (i : Int))).length = 0) : takeG1 g n v i = g.setS (g.s.take (v, (i : Int)) n) := by unfold takeG1; rw [if_neg h]; exact setF_self (g.setS (g.s.take (v, (i : Int)) n)) i
section
variable {p : Gp} {w : World} {F : Nat → Prop} {B : Nat} {g : Gs} {K : Nat}
theorem putLoose_any (h : Gm p w F B g K) (hK : K + 2 ≤ 30000) {i : Nat} (hi : i < g.m) (hi63 : i ≤ 63) {n : Int} {x : Eg} (hx : x.l = i) (hn : B64 n) (h1 : 1 ≤ n) (ha : B64 x.a) (hb : B64 x.b) (hab : x.a ≠ x.b) (hma : n ∉ g.s.L (x.a, (i : Int))) (hmb : n ∉ g.s.L (x.b, (i : Int))) (hva : Vp (g.P i) x.a) (hvb : Vp (g.P i) x.b) :
    Calls Tryz.prog 49 #[.pointer (some ⟨B, 0, none⟩), .int .i64 n, egv x] w fun e w' => e = .returned (.tuple #[]) ∧ ∃ F', Gm p w' F' B (putG g n x i) (K + 2) ∧ Step F F' w w' := by
  obtain ⟨xa, xb, xl, xt⟩ := x
  obtain rfl : xl = i := hx
  have hbw : Below w.heap.size w (w.alloc (.cells #[.int .i64 xa, .int .i64 xb, .int .i64 i, .bool xt] 63)) := (Below.refl _ _).alloc (Nat.le_refl _) _
  have hX : Bx (w.alloc (.cells #[.int .i64 xa, .int .i64 xb, .int .i64 i, .bool xt] 63)) F w.heap.size 63 #[.int .i64 xa, .int .i64 xb, .int .i64 i, .bool xt] := ⟨Blk.new w _ _, fun k => by have := h.lt _ k; omega⟩
  have h' := h.below hbw
  have HRV0 : Hid (∀ W F K' P Q s, Gm p W F B ((g.setS s).setF i P Q) K' → True) := fun _ _ _ _ _ _ _ => trivial
  have x0 := hX.blk.at (j := 0) rfl
  have x1 := hX.blk.at (j := 1) rfl
  have x2 := hX.blk.at (j := 2) rfl
  have x3 := hX.blk.at (j := 3) rfl
  have HE := mkH (ends_any ⟨xa, xb, i, xt⟩ (w.alloc (.cells #[.int .i64 xa, .int .i64 xb, .int .i64 i, .bool xt] 63)))
  have HG := mkH h'
  have HX := mkH hX
  have HS : Hid (Step F F w (w.alloc (.cells #[.int .i64 xa, .int .i64 xb, .int .i64 i, .bool xt] 63))) := Step.of_below hbw
  have HI := mkH hi
  have HAB := mkH hab
  have HMA := mkH hma
  have HMB := mkH hmb
  have HVA := mkH hva
  have HVB := mkH hvb
  have HAn := mkH ha
  have HBn := mkH hb
  have HNn := mkH hn
  have HN1 := mkH h1
  unfold egv
  unfold egv ends2 at HE
  clear h h' hX hbw hab hma hmb hva hvb ha hb hn h1 hi HRV0
  go_enter Tryz.func49, Tryz.ntmps49
  go_wp2_with fail
  refine HE.out.mono ?_
  rintro e w2 ⟨rfl, hb2⟩
  have HG2 := mkH (HG.out.below hb2)
  have HX2 := mkH (HX.out.below hb2)
  have HS2 := mkH (HS.out.trans (Step.of_below hb2))
  have i0 := idx0 xa xb
  have i1 := idx1 xa xb
  obtain ⟨M, hM⟩ : ∃ M, M = w.heap.size := ⟨_, rfl⟩
  rw [← hM] at HX2
  clear hb2 HG HX HS HE x0 x1 x2 x3
  go_wp2_with fail
  rw [← hM]
  clear hM
  go_loopw [10] (fun vk wr => ∃ k : Nat, k ≤ 2 ∧ vk = .int .i64 k ∧ Hid (∃ F', Gm p wr F' B (if k = 0 then g else if k = 1 then putG1 g n xa i else putG1 (putG1 g n xa i) n xb i) (K + 1 * k) ∧ Step F F' w wr ∧ Bx wr F' M 63 #[.int .i64 xa, .int .i64 xb, .int .i64 i, .bool xt])) (fun vk _ => 2 - (intOf vk).toNat)
  case atStart => exact ⟨0, by omega, rfl, F, by simpa using HG2.out, HS2.out, HX2.out⟩
  case round =>
    obtain ⟨k, hk, rfl, HR⟩ := hrel
    rcases (by omega : k = 0 ∨ k = 1 ∨ k = 2) with rfl | rfl | rfl
    · obtain ⟨F1, hG, hS, hX⟩ := HR.out
      simp only [if_true, Nat.mul_zero, Nat.add_zero] at hG
      have hd := (Below.refl wr.heap.size wr).drew
      obtain ⟨vv, ev, hc⟩ := hG.cells
      have c3 := hc.at (j := 3) rfl
      have x2 := hX.blk.at (j := 2) rfl
      simp only [List.getElem_toArray, List.getElem_cons_zero, List.getElem_cons_succ] at c3 x2
      have hGd := hG.below hd
      have HC := mkH (gput_any hGd (by omega) (v := xa) (l := (i : Int)) (n := n) (okT_mk HAn.out hi63 HNn.out) (by omega) (by omega) HN1.out HMA.out)
      have HSk := mkH (hS.trans (Step.of_below (F := F1) hd))
      have HXk := mkH (hX.below hd)
      have HV : Hid (Vp (Gs.P g i) xa) := HVA.out
      clear hG hS hX hc HR hd hGd
      go_wp2_with fail
      go_region_held3 (fun w' => w'.cell? ⟨B, 3, none⟩ = some (.pointer (some ⟨p.bB, 0, none⟩)) ∧ w'.cell? ⟨M, 2, none⟩ = some (.int .i64 (i : Int)))
        (first | go_keep | (go_split_ands; refine ⟨?_, ?_⟩ <;> assumption))
        (first
          | (go_at_call 77; refine (HC.out).mono ?_; rintro e w4 ⟨⟨r4, rfl⟩, F4, hG4, hS4⟩; have c3' : w4.cell? ⟨B, 3, none⟩ = some (.pointer (some ⟨p.bB, 0, none⟩)) := (by obtain ⟨vv, ev, hc⟩ := hG4.cells; exact hc.at (j := 3) rfl); have x2' : w4.cell? ⟨M, 2, none⟩ = some (.int .i64 (i : Int)) := (HXk.out.step hS4).blk.at (j := 2) rfl)
          | fail)
      have hX4 := HXk.out.step hS4
      have hd4 := (Below.refl w4.heap.size w4).drew
      have HS4 := mkH ((HSk.out.trans hS4).trans (Step.of_below (F := F4) hd4))
      have HM := mkH (gmany_any (hG4.below hd4) (v := xa) (l := (i : Int)) (okP_mk HAn.out hi63))
      have HG4 := mkH (hG4.below hd4)
      have HX4 := mkH (hX4.below hd4)
      obtain ⟨ln, hln⟩ : ∃ ln, ln = ((Bg.put (Gs.s g) (xa, (i : Int)) n).L (xa, (i : Int))).length := ⟨_, rfl⟩
      have HLN := mkH hln
      have HM2 : Hid (Calls Tryz.prog 63 #[.pointer (some ⟨p.bB, 0, none⟩), .int .i64 xa, .int .i64 (i : Int)] w4.drew fun e w' => e = .returned (.int .i64 (ln : Int)) ∧ w' = w4.drew) := by
        have := HM.out
        rw [show ((Gs.setS g (Bg.put (Gs.s g) (xa, (i : Int)) n)).s.L (xa, (i : Int))).length = ln from hln.symm] at this
        exact this
      rename_i hHeld
      clear hHeld hln HC HSk HXk hG4 hS4 hX4 hd4 c3 x2 HM
      go_wp2_with fail
      go_region_held3 (fun w' => w'.cell? ⟨B, 3, none⟩ = some (.pointer (some ⟨p.bB, 0, none⟩)) ∧ w'.cell? ⟨M, 2, none⟩ = some (.int .i64 (i : Int)))
        (first | go_keep | (go_split_ands; refine ⟨?_, ?_⟩ <;> assumption))
        (first
          | (go_at_call 63; refine (HM2.out).mono ?_; rintro e w5 ⟨rfl, rfl⟩)
          | fail)
      rename_i hHeld5
      clear hHeld5 HM2
      by_cases hq : ln = 1
      · subst hq
        have HG5 := HG4.out
        have hd5 := (Below.refl w4.drew.heap.size w4.drew).drew
        obtain ⟨vv, ev, hc⟩ := HG5.cells
        have c1 := hc.at (j := 1) rfl
        simp only [List.getElem_toArray, List.getElem_cons_zero, List.getElem_cons_succ] at c1
        obtain ⟨q, cap, e1, cq, hql, hcap1, hcap2⟩ := HG5.ptr (i := i) HI.out
        rw [e1] at c1
        have HRV := mkH e1
        have hi' : (i : Int) < (g.m : Int) := by have := HI.out; omega
        have hm' : (g.m : Int) ≤ 9223372036854775807 := by unfold maxLen at hcap2; have : g.m ≤ cap := hcap1; omega
        have c1d : w4.drew.cell? ⟨B, 1, none⟩ = some (.slice (some ⟨q, 0, none⟩) g.m cap) := c1
        have HMk := mkH (gmark_any (HG5.below hd5) (by omega) (i := i) HI.out xa 1 HAn.out (by omega) (by omega) HV.out)
        have HX5 := mkH (HX4.out.below hd5)
        have HS5 := mkH (HS4.out.trans (Step.of_below (F := F4) hd5))
        clear HG5 hc hd5 e1 c3' HG4 HS4 c1
        go_wp2_with fail
        go_region_held3 (fun w' => w'.cell? ⟨B, 1, none⟩ = some (.slice (some ⟨q, 0, none⟩) g.m cap) ∧ w'.cell? ⟨M, 2, none⟩ = some (.int .i64 (i : Int)) ∧ w'.cell? ⟨q, i, none⟩ = some (.pointer (some ⟨p.Bf i, 0, none⟩)))
          (first | go_keep | (go_split_ands; refine ⟨?_, ?_, ?_⟩ <;> assumption))
          (first
            | (go_at_call 64; refine (HMk.out).mono ?_; rintro e w6 ⟨⟨r6, rfl⟩, F6, hG6, hS6⟩; have k1 : w6.cell? ⟨B, 1, none⟩ = some (.slice (some ⟨q, 0, none⟩) g.m cap) := (by obtain ⟨vv, ev, hc⟩ := hG6.cells; have := hc.at (j := 1) rfl; simp only [List.getElem_toArray, List.getElem_cons_zero, List.getElem_cons_succ] at this; rw [HRV.out] at this; exact this); have k3 : w6.cell? ⟨q, i, none⟩ = some (.pointer (some ⟨p.Bf i, 0, none⟩)) := (by obtain ⟨q', cap', e', cq', _⟩ := hG6.ptr (i := i) HI.out; rw [HRV.out] at e'; cases e'; exact cq'); have k2 : w6.cell? ⟨M, 2, none⟩ = some (.int .i64 (i : Int)) := (HX5.out.step hS6).blk.at (j := 2) rfl)
            | fail)
        have hx6 := HX5.out.step hS6
        have HR6 : Hid (∃ F', Gm p w6 F' B (putG1 g n xa i) (K + 1 * 1) ∧ Step F F' w w6 ∧ Bx w6 F' M 63 #[.int .i64 xa, .int .i64 xb, .int .i64 i, .bool xt]) := ⟨F6, by
          have e : (putG1 g n xa i) = (Gs.setS g (Bg.put (Gs.s g) (xa, (i : Int)) n)).setF i (markP ((Gs.setS g (Bg.put (Gs.s g) (xa, (i : Int)) n)).P i) xa 1) ((Gs.setS g (Bg.put (Gs.s g) (xa, (i : Int)) n)).Q i) := by
            exact putG1_yes (g := g) HLN.out.symm
          rw [e]; exact hG6, HS5.out.trans hS6, hx6⟩
        rename_i hHeld6
        clear hHeld6 hG6 hS6 hx6 HMk HX5 HS5 k1 k2 k3 c1d cq
        go_wp2
        go_roundw
        case rel => exact ⟨1, by omega, by go_num, HR6.out⟩
        case measure => simp [intOf]
      · have hq' : ((ln : Int) == 1) = false := by simp; omega
        have HR6 : Hid (∃ F', Gm p w4.drew F' B (putG1 g n xa i) (K + 1 * 1) ∧ Step F F' w w4.drew ∧ Bx w4.drew F' M 63 #[.int .i64 xa, .int .i64 xb, .int .i64 i, .bool xt]) := ⟨F4, by
          have e : (putG1 g n xa i) = Gs.setS g (Bg.put (Gs.s g) (xa, (i : Int)) n) := by
            exact putG1_no (g := g) (fun e => hq (HLN.out.trans e))
          rw [e]; exact HG4.out, HS4.out, HX4.out⟩
        clear hq HG4 HS4 HX4
        go_wp2
        go_roundw
        case rel => exact ⟨1, by omega, by go_num, HR6.out⟩
        case measure => simp [intOf]
    · obtain ⟨F1, hG, hS, hX⟩ := HR.out
      simp only [if_true, if_false, Nat.one_ne_zero, Nat.mul_one] at hG
      have hd := (Below.refl wr.heap.size wr).drew
      obtain ⟨vv, ev, hc⟩ := hG.cells
      have c3 := hc.at (j := 3) rfl
      have x2 := hX.blk.at (j := 2) rfl
      simp only [List.getElem_toArray, List.getElem_cons_zero, List.getElem_cons_succ] at c3 x2
      have hGd := hG.below hd
      have HC := mkH (gput_any hGd (by omega) (v := xb) (l := (i : Int)) (n := n) (okT_mk HBn.out hi63 HNn.out) (by omega) (by omega) HN1.out (by show n ∉ ((g.s.put (xa, (i : Int)) n)).L (xb, (i : Int)); rw [put_other _ (by simp; exact fun e => HAB.out e.symm)]; exact HMB.out))
      have HSk := mkH (hS.trans (Step.of_below (F := F1) hd))
      have HXk := mkH (hX.below hd)
      have HV : Hid (Vp (Gs.P (putG1 g n xa i) i) xb) := (by show Vp ((putG1 g n xa i).P i) xb; unfold putG1; rw [setF_P]; exact ifP_vp HVB.out _ _ _)
      clear hG hS hX hc HR hd hGd
      go_wp2_with fail
      go_region_held3 (fun w' => w'.cell? ⟨B, 3, none⟩ = some (.pointer (some ⟨p.bB, 0, none⟩)) ∧ w'.cell? ⟨M, 2, none⟩ = some (.int .i64 (i : Int)))
        (first | go_keep | (go_split_ands; refine ⟨?_, ?_⟩ <;> assumption))
        (first
          | (go_at_call 77; refine (HC.out).mono ?_; rintro e w4 ⟨⟨r4, rfl⟩, F4, hG4, hS4⟩; have c3' : w4.cell? ⟨B, 3, none⟩ = some (.pointer (some ⟨p.bB, 0, none⟩)) := (by obtain ⟨vv, ev, hc⟩ := hG4.cells; exact hc.at (j := 3) rfl); have x2' : w4.cell? ⟨M, 2, none⟩ = some (.int .i64 (i : Int)) := (HXk.out.step hS4).blk.at (j := 2) rfl)
          | fail)
      have hX4 := HXk.out.step hS4
      have hd4 := (Below.refl w4.heap.size w4).drew
      have HS4 := mkH ((HSk.out.trans hS4).trans (Step.of_below (F := F4) hd4))
      have HM := mkH (gmany_any (hG4.below hd4) (v := xb) (l := (i : Int)) (okP_mk HBn.out hi63))
      have HG4 := mkH (hG4.below hd4)
      have HX4 := mkH (hX4.below hd4)
      obtain ⟨ln, hln⟩ : ∃ ln, ln = ((Bg.put (Gs.s (putG1 g n xa i)) (xb, (i : Int)) n).L (xb, (i : Int))).length := ⟨_, rfl⟩
      have HLN := mkH hln
      have HM2 : Hid (Calls Tryz.prog 63 #[.pointer (some ⟨p.bB, 0, none⟩), .int .i64 xb, .int .i64 (i : Int)] w4.drew fun e w' => e = .returned (.int .i64 (ln : Int)) ∧ w' = w4.drew) := by
        have := HM.out
        rw [show ((Gs.setS (putG1 g n xa i) (Bg.put (Gs.s (putG1 g n xa i)) (xb, (i : Int)) n)).s.L (xb, (i : Int))).length = ln from hln.symm] at this
        exact this
      rename_i hHeld
      clear hHeld hln HC HSk HXk hG4 hS4 hX4 hd4 c3 x2 HM
      go_wp2_with fail
      go_region_held3 (fun w' => w'.cell? ⟨B, 3, none⟩ = some (.pointer (some ⟨p.bB, 0, none⟩)) ∧ w'.cell? ⟨M, 2, none⟩ = some (.int .i64 (i : Int)))
        (first | go_keep | (go_split_ands; refine ⟨?_, ?_⟩ <;> assumption))
        (first
          | (go_at_call 63; refine (HM2.out).mono ?_; rintro e w5 ⟨rfl, rfl⟩)
          | fail)
      rename_i hHeld5
      clear hHeld5 HM2
      by_cases hq : ln = 1
      · subst hq
        have HG5 := HG4.out
        have hd5 := (Below.refl w4.drew.heap.size w4.drew).drew
        obtain ⟨vv, ev, hc⟩ := HG5.cells
        have c1 := hc.at (j := 1) rfl
        simp only [List.getElem_toArray, List.getElem_cons_zero, List.getElem_cons_succ] at c1
        obtain ⟨q, cap, e1, cq, hql, hcap1, hcap2⟩ := HG5.ptr (i := i) HI.out
        rw [e1] at c1
        have HRV := mkH e1
        have hi' : (i : Int) < (g.m : Int) := by have := HI.out; omega
        have hm' : (g.m : Int) ≤ 9223372036854775807 := by unfold maxLen at hcap2; have : g.m ≤ cap := hcap1; omega
        have c1d : w4.drew.cell? ⟨B, 1, none⟩ = some (.slice (some ⟨q, 0, none⟩) g.m cap) := c1
        have HMk := mkH (gmark_any (HG5.below hd5) (by omega) (i := i) HI.out xb 1 HBn.out (by omega) (by omega) HV.out)
        have HX5 := mkH (HX4.out.below hd5)
        have HS5 := mkH (HS4.out.trans (Step.of_below (F := F4) hd5))
        clear HG5 hc hd5 e1 c3' HG4 HS4 c1
        go_wp2_with fail
        go_region_held3 (fun w' => w'.cell? ⟨B, 1, none⟩ = some (.slice (some ⟨q, 0, none⟩) g.m cap) ∧ w'.cell? ⟨M, 2, none⟩ = some (.int .i64 (i : Int)) ∧ w'.cell? ⟨q, i, none⟩ = some (.pointer (some ⟨p.Bf i, 0, none⟩)))
          (first | go_keep | (go_split_ands; refine ⟨?_, ?_, ?_⟩ <;> assumption))
          (first
            | (go_at_call 64; refine (HMk.out).mono ?_; rintro e w6 ⟨⟨r6, rfl⟩, F6, hG6, hS6⟩; have k1 : w6.cell? ⟨B, 1, none⟩ = some (.slice (some ⟨q, 0, none⟩) g.m cap) := (by obtain ⟨vv, ev, hc⟩ := hG6.cells; have := hc.at (j := 1) rfl; simp only [List.getElem_toArray, List.getElem_cons_zero, List.getElem_cons_succ] at this; rw [HRV.out] at this; exact this); have k3 : w6.cell? ⟨q, i, none⟩ = some (.pointer (some ⟨p.Bf i, 0, none⟩)) := (by obtain ⟨q', cap', e', cq', _⟩ := hG6.ptr (i := i) HI.out; rw [HRV.out] at e'; cases e'; exact cq'); have k2 : w6.cell? ⟨M, 2, none⟩ = some (.int .i64 (i : Int)) := (HX5.out.step hS6).blk.at (j := 2) rfl)
            | fail)
        have hx6 := HX5.out.step hS6
        have HR6 : Hid (∃ F', Gm p w6 F' B (putG1 (putG1 g n xa i) n xb i) (K + 1 * 2) ∧ Step F F' w w6 ∧ Bx w6 F' M 63 #[.int .i64 xa, .int .i64 xb, .int .i64 i, .bool xt]) := ⟨F6, by
          have e : (putG1 (putG1 g n xa i) n xb i) = (Gs.setS (putG1 g n xa i) (Bg.put (Gs.s (putG1 g n xa i)) (xb, (i : Int)) n)).setF i (markP ((Gs.setS (putG1 g n xa i) (Bg.put (Gs.s (putG1 g n xa i)) (xb, (i : Int)) n)).P i) xb 1) ((Gs.setS (putG1 g n xa i) (Bg.put (Gs.s (putG1 g n xa i)) (xb, (i : Int)) n)).Q i) := by
            exact putG1_yes (g := (putG1 g n xa i)) HLN.out.symm
          rw [e]; exact hG6, HS5.out.trans hS6, hx6⟩
        rename_i hHeld6
        clear hHeld6 hG6 hS6 hx6 HMk HX5 HS5 k1 k2 k3 c1d cq
        go_wp2
        go_roundw
        case rel => exact ⟨2, by omega, by go_num, HR6.out⟩
        case measure => simp [intOf]
      · have hq' : ((ln : Int) == 1) = false := by simp; omega
        have HR6 : Hid (∃ F', Gm p w4.drew F' B (putG1 (putG1 g n xa i) n xb i) (K + 1 * 2) ∧ Step F F' w w4.drew ∧ Bx w4.drew F' M 63 #[.int .i64 xa, .int .i64 xb, .int .i64 i, .bool xt]) := ⟨F4, by
          have e : (putG1 (putG1 g n xa i) n xb i) = Gs.setS (putG1 g n xa i) (Bg.put (Gs.s (putG1 g n xa i)) (xb, (i : Int)) n) := by
            exact putG1_no (g := (putG1 g n xa i)) (fun e => hq (HLN.out.trans e))
          rw [e]; exact HG4.out, HS4.out, HX4.out⟩
        clear hq HG4 HS4 HX4
        go_wp2
        go_roundw
        case rel => exact ⟨2, by omega, by go_num, HR6.out⟩
        case measure => simp [intOf]
    · obtain ⟨F1, hG, hS, hX⟩ := HR.out
      have HF : Hid (∃ F', Gm p wr F' B (putG g n ⟨xa, xb, i, xt⟩ i) (K + 2) ∧ Step F F' w wr) := ⟨F1, hG, hS⟩
      clear hG hS hX HR
      go_wp2
      go_returns
      exact ⟨rfl, HF.out⟩
theorem takeLoose_any (h : Gm p w F B g K) (hK : K + 2 ≤ 30000) {i : Nat} (hi : i < g.m) (hi63 : i ≤ 63) {n : Int} {x : Eg} (hx : x.l = i) (hn : B64 n) (h1 : 1 ≤ n) (ha : B64 x.a) (hb : B64 x.b) (hab : x.a ≠ x.b) (hma : n ∈ g.s.L (x.a, (i : Int))) (hmb : n ∈ g.s.L (x.b, (i : Int))) (hva : Vp (g.P i) x.a) (hvb : Vp (g.P i) x.b) :
    Calls Tryz.prog 32 #[.pointer (some ⟨B, 0, none⟩), .int .i64 n, egv x] w fun e w' => e = .returned (.tuple #[]) ∧ ∃ F', Gm p w' F' B (takeG g n x i) (K + 0) ∧ Step F F' w w' := by
  obtain ⟨xa, xb, xl, xt⟩ := x
  obtain rfl : xl = i := hx
  have hbw : Below w.heap.size w (w.alloc (.cells #[.int .i64 xa, .int .i64 xb, .int .i64 i, .bool xt] 63)) := (Below.refl _ _).alloc (Nat.le_refl _) _
  have hX : Bx (w.alloc (.cells #[.int .i64 xa, .int .i64 xb, .int .i64 i, .bool xt] 63)) F w.heap.size 63 #[.int .i64 xa, .int .i64 xb, .int .i64 i, .bool xt] := ⟨Blk.new w _ _, fun k => by have := h.lt _ k; omega⟩
  have h' := h.below hbw
  have HRV0 : Hid (∀ W F K' P Q s, Gm p W F B ((g.setS s).setF i P Q) K' → True) := fun _ _ _ _ _ _ _ => trivial
  have x0 := hX.blk.at (j := 0) rfl
  have x1 := hX.blk.at (j := 1) rfl
  have x2 := hX.blk.at (j := 2) rfl
  have x3 := hX.blk.at (j := 3) rfl
  have HE := mkH (ends_any ⟨xa, xb, i, xt⟩ (w.alloc (.cells #[.int .i64 xa, .int .i64 xb, .int .i64 i, .bool xt] 63)))
  have HG := mkH h'
  have HX := mkH hX
  have HS : Hid (Step F F w (w.alloc (.cells #[.int .i64 xa, .int .i64 xb, .int .i64 i, .bool xt] 63))) := Step.of_below hbw
  have HI := mkH hi
  have HAB := mkH hab
  have HMA := mkH hma
  have HMB := mkH hmb
  have HVA := mkH hva
  have HVB := mkH hvb
  have HAn := mkH ha
  have HBn := mkH hb
  have HNn := mkH hn
  have HN1 := mkH h1
  unfold egv
  unfold egv ends2 at HE
  clear h h' hX hbw hab hma hmb hva hvb ha hb hn h1 hi HRV0
  go_enter Tryz.func32, Tryz.ntmps32
  go_wp2_with fail
  refine HE.out.mono ?_
  rintro e w2 ⟨rfl, hb2⟩
  have HG2 := mkH (HG.out.below hb2)
  have HX2 := mkH (HX.out.below hb2)
  have HS2 := mkH (HS.out.trans (Step.of_below hb2))
  have i0 := idx0 xa xb
  have i1 := idx1 xa xb
  obtain ⟨M, hM⟩ : ∃ M, M = w.heap.size := ⟨_, rfl⟩
  rw [← hM] at HX2
  clear hb2 HG HX HS HE x0 x1 x2 x3
  go_wp2_with fail
  rw [← hM]
  clear hM
  go_loopw [10] (fun vk wr => ∃ k : Nat, k ≤ 2 ∧ vk = .int .i64 k ∧ Hid (∃ F', Gm p wr F' B (if k = 0 then g else if k = 1 then takeG1 g n xa i else takeG1 (takeG1 g n xa i) n xb i) (K + 0 * k) ∧ Step F F' w wr ∧ Bx wr F' M 63 #[.int .i64 xa, .int .i64 xb, .int .i64 i, .bool xt])) (fun vk _ => 2 - (intOf vk).toNat)
  case atStart => exact ⟨0, by omega, rfl, F, by simpa using HG2.out, HS2.out, HX2.out⟩
  case round =>
    obtain ⟨k, hk, rfl, HR⟩ := hrel
    rcases (by omega : k = 0 ∨ k = 1 ∨ k = 2) with rfl | rfl | rfl
    · obtain ⟨F1, hG, hS, hX⟩ := HR.out
      simp only [if_true, Nat.mul_zero, Nat.add_zero] at hG
      have hd := (Below.refl wr.heap.size wr).drew
      obtain ⟨vv, ev, hc⟩ := hG.cells
      have c3 := hc.at (j := 3) rfl
      have x2 := hX.blk.at (j := 2) rfl
      simp only [List.getElem_toArray, List.getElem_cons_zero, List.getElem_cons_succ] at c3 x2
      have hGd := hG.below hd
      have HC := mkH (gtake_any hGd (by omega) (v := xa) (l := (i : Int)) (n := n) (okT_mk HAn.out hi63 HNn.out) HMA.out)
      have HSk := mkH (hS.trans (Step.of_below (F := F1) hd))
      have HXk := mkH (hX.below hd)
      have HV : Hid (Vp (Gs.P g i) xa) := HVA.out
      clear hG hS hX hc HR hd hGd
      go_wp2_with fail
      go_region_held3 (fun w' => w'.cell? ⟨B, 3, none⟩ = some (.pointer (some ⟨p.bB, 0, none⟩)) ∧ w'.cell? ⟨M, 2, none⟩ = some (.int .i64 (i : Int)))
        (first | go_keep | (go_split_ands; refine ⟨?_, ?_⟩ <;> assumption))
        (first
          | (go_at_call 62; refine (HC.out).mono ?_; rintro e w4 ⟨rfl, F4, hG4, hS4⟩; have c3' : w4.cell? ⟨B, 3, none⟩ = some (.pointer (some ⟨p.bB, 0, none⟩)) := (by obtain ⟨vv, ev, hc⟩ := hG4.cells; exact hc.at (j := 3) rfl); have x2' : w4.cell? ⟨M, 2, none⟩ = some (.int .i64 (i : Int)) := (HXk.out.step hS4).blk.at (j := 2) rfl)
          | fail)
      have hX4 := HXk.out.step hS4
      have hd4 := (Below.refl w4.heap.size w4).drew
      have HS4 := mkH ((HSk.out.trans hS4).trans (Step.of_below (F := F4) hd4))
      have HM := mkH (gmany_any (hG4.below hd4) (v := xa) (l := (i : Int)) (okP_mk HAn.out hi63))
      have HG4 := mkH (hG4.below hd4)
      have HX4 := mkH (hX4.below hd4)
      obtain ⟨ln, hln⟩ : ∃ ln, ln = ((Bg.take (Gs.s g) (xa, (i : Int)) n).L (xa, (i : Int))).length := ⟨_, rfl⟩
      have HLN := mkH hln
      have HM2 : Hid (Calls Tryz.prog 63 #[.pointer (some ⟨p.bB, 0, none⟩), .int .i64 xa, .int .i64 (i : Int)] w4.drew fun e w' => e = .returned (.int .i64 (ln : Int)) ∧ w' = w4.drew) := by
        have := HM.out
        rw [show ((Gs.setS g (Bg.take (Gs.s g) (xa, (i : Int)) n)).s.L (xa, (i : Int))).length = ln from hln.symm] at this
        exact this
      rename_i hHeld
      clear hHeld hln HC HSk HXk hG4 hS4 hX4 hd4 c3 x2 HM
      go_wp2_with fail
      go_region_held3 (fun w' => w'.cell? ⟨B, 3, none⟩ = some (.pointer (some ⟨p.bB, 0, none⟩)) ∧ w'.cell? ⟨M, 2, none⟩ = some (.int .i64 (i : Int)))
        (first | go_keep | (go_split_ands; refine ⟨?_, ?_⟩ <;> assumption))
        (first
          | (go_at_call 63; refine (HM2.out).mono ?_; rintro e w5 ⟨rfl, rfl⟩)
          | fail)
      rename_i hHeld5
      clear hHeld5 HM2
      by_cases hq : ln = 0
      · subst hq
        have HG5 := HG4.out
        have hd5 := (Below.refl w4.drew.heap.size w4.drew).drew
        obtain ⟨vv, ev, hc⟩ := HG5.cells
        have c1 := hc.at (j := 1) rfl
        simp only [List.getElem_toArray, List.getElem_cons_zero, List.getElem_cons_succ] at c1
        obtain ⟨q, cap, e1, cq, hql, hcap1, hcap2⟩ := HG5.ptr (i := i) HI.out
        rw [e1] at c1
        have HRV := mkH e1
        have hi' : (i : Int) < (g.m : Int) := by have := HI.out; omega
        have hm' : (g.m : Int) ≤ 9223372036854775807 := by unfold maxLen at hcap2; have : g.m ≤ cap := hcap1; omega
        have c1d : w4.drew.cell? ⟨B, 1, none⟩ = some (.slice (some ⟨q, 0, none⟩) g.m cap) := c1
        have HMk := mkH (gmark_any (HG5.below hd5) (by omega) (i := i) HI.out xa 0 HAn.out (by omega) (by omega) HV.out)
        have HX5 := mkH (HX4.out.below hd5)
        have HS5 := mkH (HS4.out.trans (Step.of_below (F := F4) hd5))
        clear HG5 hc hd5 e1 c3' HG4 HS4 c1
        go_wp2_with fail
        go_region_held3 (fun w' => w'.cell? ⟨B, 1, none⟩ = some (.slice (some ⟨q, 0, none⟩) g.m cap) ∧ w'.cell? ⟨M, 2, none⟩ = some (.int .i64 (i : Int)) ∧ w'.cell? ⟨q, i, none⟩ = some (.pointer (some ⟨p.Bf i, 0, none⟩)))
          (first | go_keep | (go_split_ands; refine ⟨?_, ?_, ?_⟩ <;> assumption))
          (first
            | (go_at_call 64; refine (HMk.out).mono ?_; rintro e w6 ⟨⟨r6, rfl⟩, F6, hG6, hS6⟩; have k1 : w6.cell? ⟨B, 1, none⟩ = some (.slice (some ⟨q, 0, none⟩) g.m cap) := (by obtain ⟨vv, ev, hc⟩ := hG6.cells; have := hc.at (j := 1) rfl; simp only [List.getElem_toArray, List.getElem_cons_zero, List.getElem_cons_succ] at this; rw [HRV.out] at this; exact this); have k3 : w6.cell? ⟨q, i, none⟩ = some (.pointer (some ⟨p.Bf i, 0, none⟩)) := (by obtain ⟨q', cap', e', cq', _⟩ := hG6.ptr (i := i) HI.out; rw [HRV.out] at e'; cases e'; exact cq'); have k2 : w6.cell? ⟨M, 2, none⟩ = some (.int .i64 (i : Int)) := (HX5.out.step hS6).blk.at (j := 2) rfl)
            | fail)
        have hx6 := HX5.out.step hS6
        have HR6 : Hid (∃ F', Gm p w6 F' B (takeG1 g n xa i) (K + 0 * 1) ∧ Step F F' w w6 ∧ Bx w6 F' M 63 #[.int .i64 xa, .int .i64 xb, .int .i64 i, .bool xt]) := ⟨F6, by
          have e : (takeG1 g n xa i) = (Gs.setS g (Bg.take (Gs.s g) (xa, (i : Int)) n)).setF i (markP ((Gs.setS g (Bg.take (Gs.s g) (xa, (i : Int)) n)).P i) xa 0) ((Gs.setS g (Bg.take (Gs.s g) (xa, (i : Int)) n)).Q i) := by
            exact takeG1_yes (g := g) HLN.out.symm
          rw [e]; exact hG6, HS5.out.trans hS6, hx6⟩
        rename_i hHeld6
        clear hHeld6 hG6 hS6 hx6 HMk HX5 HS5 k1 k2 k3 c1d cq
        go_wp2
        go_roundw
        case rel => exact ⟨1, by omega, by go_num, HR6.out⟩
        case measure => simp [intOf]
      · have hq' : ((ln : Int) == 0) = false := by simp; omega
        have HR6 : Hid (∃ F', Gm p w4.drew F' B (takeG1 g n xa i) (K + 0 * 1) ∧ Step F F' w w4.drew ∧ Bx w4.drew F' M 63 #[.int .i64 xa, .int .i64 xb, .int .i64 i, .bool xt]) := ⟨F4, by
          have e : (takeG1 g n xa i) = Gs.setS g (Bg.take (Gs.s g) (xa, (i : Int)) n) := by
            exact takeG1_no (g := g) (fun e => hq (HLN.out.trans e))
          rw [e]; exact HG4.out, HS4.out, HX4.out⟩
        clear hq HG4 HS4 HX4
        go_wp2
        go_roundw
        case rel => exact ⟨1, by omega, by go_num, HR6.out⟩
        case measure => simp [intOf]
    · obtain ⟨F1, hG, hS, hX⟩ := HR.out
      simp only [if_true, if_false, Nat.one_ne_zero, Nat.zero_mul, Nat.add_zero] at hG
      have hd := (Below.refl wr.heap.size wr).drew
      obtain ⟨vv, ev, hc⟩ := hG.cells
      have c3 := hc.at (j := 3) rfl
      have x2 := hX.blk.at (j := 2) rfl
      simp only [List.getElem_toArray, List.getElem_cons_zero, List.getElem_cons_succ] at c3 x2
      have hGd := hG.below hd
      have HC := mkH (gtake_any hGd (by omega) (v := xb) (l := (i : Int)) (n := n) (okT_mk HBn.out hi63 HNn.out) (by show n ∈ ((g.s.take (xa, (i : Int)) n)).L (xb, (i : Int)); rw [take_other _ (by simp; exact fun e => HAB.out e.symm)]; exact HMB.out))
      have HSk := mkH (hS.trans (Step.of_below (F := F1) hd))
      have HXk := mkH (hX.below hd)
      have HV : Hid (Vp (Gs.P (takeG1 g n xa i) i) xb) := (by show Vp ((takeG1 g n xa i).P i) xb; unfold takeG1; rw [setF_P]; exact ifP_vp HVB.out _ _ _)
      clear hG hS hX hc HR hd hGd
      go_wp2_with fail
      go_region_held3 (fun w' => w'.cell? ⟨B, 3, none⟩ = some (.pointer (some ⟨p.bB, 0, none⟩)) ∧ w'.cell? ⟨M, 2, none⟩ = some (.int .i64 (i : Int)))
        (first | go_keep | (go_split_ands; refine ⟨?_, ?_⟩ <;> assumption))
        (first
          | (go_at_call 62; refine (HC.out).mono ?_; rintro e w4 ⟨rfl, F4, hG4, hS4⟩; have c3' : w4.cell? ⟨B, 3, none⟩ = some (.pointer (some ⟨p.bB, 0, none⟩)) := (by obtain ⟨vv, ev, hc⟩ := hG4.cells; exact hc.at (j := 3) rfl); have x2' : w4.cell? ⟨M, 2, none⟩ = some (.int .i64 (i : Int)) := (HXk.out.step hS4).blk.at (j := 2) rfl)
          | fail)
      have hX4 := HXk.out.step hS4
      have hd4 := (Below.refl w4.heap.size w4).drew
      have HS4 := mkH ((HSk.out.trans hS4).trans (Step.of_below (F := F4) hd4))
      have HM := mkH (gmany_any (hG4.below hd4) (v := xb) (l := (i : Int)) (okP_mk HBn.out hi63))
      have HG4 := mkH (hG4.below hd4)
      have HX4 := mkH (hX4.below hd4)
      obtain ⟨ln, hln⟩ : ∃ ln, ln = ((Bg.take (Gs.s (takeG1 g n xa i)) (xb, (i : Int)) n).L (xb, (i : Int))).length := ⟨_, rfl⟩
      have HLN := mkH hln
      have HM2 : Hid (Calls Tryz.prog 63 #[.pointer (some ⟨p.bB, 0, none⟩), .int .i64 xb, .int .i64 (i : Int)] w4.drew fun e w' => e = .returned (.int .i64 (ln : Int)) ∧ w' = w4.drew) := by
        have := HM.out
        rw [show ((Gs.setS (takeG1 g n xa i) (Bg.take (Gs.s (takeG1 g n xa i)) (xb, (i : Int)) n)).s.L (xb, (i : Int))).length = ln from hln.symm] at this
        exact this
      rename_i hHeld
      clear hHeld hln HC HSk HXk hG4 hS4 hX4 hd4 c3 x2 HM
      go_wp2_with fail
      go_region_held3 (fun w' => w'.cell? ⟨B, 3, none⟩ = some (.pointer (some ⟨p.bB, 0, none⟩)) ∧ w'.cell? ⟨M, 2, none⟩ = some (.int .i64 (i : Int)))
        (first | go_keep | (go_split_ands; refine ⟨?_, ?_⟩ <;> assumption))
        (first
          | (go_at_call 63; refine (HM2.out).mono ?_; rintro e w5 ⟨rfl, rfl⟩)
          | fail)
      rename_i hHeld5
      clear hHeld5 HM2
      by_cases hq : ln = 0
      · subst hq
        have HG5 := HG4.out
        have hd5 := (Below.refl w4.drew.heap.size w4.drew).drew
        obtain ⟨vv, ev, hc⟩ := HG5.cells
        have c1 := hc.at (j := 1) rfl
        simp only [List.getElem_toArray, List.getElem_cons_zero, List.getElem_cons_succ] at c1
        obtain ⟨q, cap, e1, cq, hql, hcap1, hcap2⟩ := HG5.ptr (i := i) HI.out
        rw [e1] at c1
        have HRV := mkH e1
        have hi' : (i : Int) < (g.m : Int) := by have := HI.out; omega
        have hm' : (g.m : Int) ≤ 9223372036854775807 := by unfold maxLen at hcap2; have : g.m ≤ cap := hcap1; omega
        have c1d : w4.drew.cell? ⟨B, 1, none⟩ = some (.slice (some ⟨q, 0, none⟩) g.m cap) := c1
        have HMk := mkH (gmark_any (HG5.below hd5) (by omega) (i := i) HI.out xb 0 HBn.out (by omega) (by omega) HV.out)
        have HX5 := mkH (HX4.out.below hd5)
        have HS5 := mkH (HS4.out.trans (Step.of_below (F := F4) hd5))
        clear HG5 hc hd5 e1 c3' HG4 HS4 c1
        go_wp2_with fail
        go_region_held3 (fun w' => w'.cell? ⟨B, 1, none⟩ = some (.slice (some ⟨q, 0, none⟩) g.m cap) ∧ w'.cell? ⟨M, 2, none⟩ = some (.int .i64 (i : Int)) ∧ w'.cell? ⟨q, i, none⟩ = some (.pointer (some ⟨p.Bf i, 0, none⟩)))
          (first | go_keep | (go_split_ands; refine ⟨?_, ?_, ?_⟩ <;> assumption))
          (first
            | (go_at_call 64; refine (HMk.out).mono ?_; rintro e w6 ⟨⟨r6, rfl⟩, F6, hG6, hS6⟩; have k1 : w6.cell? ⟨B, 1, none⟩ = some (.slice (some ⟨q, 0, none⟩) g.m cap) := (by obtain ⟨vv, ev, hc⟩ := hG6.cells; have := hc.at (j := 1) rfl; simp only [List.getElem_toArray, List.getElem_cons_zero, List.getElem_cons_succ] at this; rw [HRV.out] at this; exact this); have k3 : w6.cell? ⟨q, i, none⟩ = some (.pointer (some ⟨p.Bf i, 0, none⟩)) := (by obtain ⟨q', cap', e', cq', _⟩ := hG6.ptr (i := i) HI.out; rw [HRV.out] at e'; cases e'; exact cq'); have k2 : w6.cell? ⟨M, 2, none⟩ = some (.int .i64 (i : Int)) := (HX5.out.step hS6).blk.at (j := 2) rfl)
            | fail)
        have hx6 := HX5.out.step hS6
        have HR6 : Hid (∃ F', Gm p w6 F' B (takeG1 (takeG1 g n xa i) n xb i) (K + 0 * 2) ∧ Step F F' w w6 ∧ Bx w6 F' M 63 #[.int .i64 xa, .int .i64 xb, .int .i64 i, .bool xt]) := ⟨F6, by
          have e : (takeG1 (takeG1 g n xa i) n xb i) = (Gs.setS (takeG1 g n xa i) (Bg.take (Gs.s (takeG1 g n xa i)) (xb, (i : Int)) n)).setF i (markP ((Gs.setS (takeG1 g n xa i) (Bg.take (Gs.s (takeG1 g n xa i)) (xb, (i : Int)) n)).P i) xb 0) ((Gs.setS (takeG1 g n xa i) (Bg.take (Gs.s (takeG1 g n xa i)) (xb, (i : Int)) n)).Q i) := by
            exact takeG1_yes (g := (takeG1 g n xa i)) HLN.out.symm
          rw [e]; exact hG6, HS5.out.trans hS6, hx6⟩
        rename_i hHeld6
        clear hHeld6 hG6 hS6 hx6 HMk HX5 HS5 k1 k2 k3 c1d cq
        go_wp2
        go_roundw
        case rel => exact ⟨2, by omega, by go_num, HR6.out⟩
        case measure => simp [intOf]
      · have hq' : ((ln : Int) == 0) = false := by simp; omega
        have HR6 : Hid (∃ F', Gm p w4.drew F' B (takeG1 (takeG1 g n xa i) n xb i) (K + 0 * 2) ∧ Step F F' w w4.drew ∧ Bx w4.drew F' M 63 #[.int .i64 xa, .int .i64 xb, .int .i64 i, .bool xt]) := ⟨F4, by
          have e : (takeG1 (takeG1 g n xa i) n xb i) = Gs.setS (takeG1 g n xa i) (Bg.take (Gs.s (takeG1 g n xa i)) (xb, (i : Int)) n) := by
            exact takeG1_no (g := (takeG1 g n xa i)) (fun e => hq (HLN.out.trans e))
          rw [e]; exact HG4.out, HS4.out, HX4.out⟩
        clear hq HG4 HS4 HX4
        go_wp2
        go_roundw
        case rel => exact ⟨2, by omega, by go_num, HR6.out⟩
        case measure => simp [intOf]
    · obtain ⟨F1, hG, hS, hX⟩ := HR.out
      have HF : Hid (∃ F', Gm p wr F' B (takeG g n ⟨xa, xb, i, xt⟩ i) (K + 0) ∧ Step F F' w wr) := ⟨F1, hG, hS⟩
      clear hG hS hX HR
      go_wp2
      go_returns
      exact ⟨rfl, HF.out⟩
end
def Eg.up (x : Eg) : Eg := ⟨x.a, x.b, x.l + 1, x.t⟩
def riseG (g : Gs) (e : Int) (x : Eg) : Gs := g.setE (updQ g.E e (some x.up)) g.ne
theorem map_upd (E : Int → Option Eg) (e : Int) (x : Eg) : updQ (fun i => (E i).map egv) e (some (egv x)) = fun i => (updQ E e (some x) i).map egv := by
  funext i
  unfold updQ
  split <;> rfl
theorem below_set4 (w : World) (M : Nat) (a b c d : Value) : Below M w ((((w.setCell ⟨M, 0, none⟩ a).setCell ⟨M, 1, none⟩ b).setCell ⟨M, 2, none⟩ c).setCell ⟨M, 3, none⟩ d) := by
  have h1 : Below M w (w.setCell ⟨M, 0, none⟩ a) := Below.setCell (p := ⟨M, 0, none⟩) (Below.refl M w) (Nat.le_refl M) a
  have h2 : Below M w ((w.setCell ⟨M, 0, none⟩ a).setCell ⟨M, 1, none⟩ b) := Below.setCell (p := ⟨M, 1, none⟩) h1 (Nat.le_refl M) b
  have h3 : Below M w (((w.setCell ⟨M, 0, none⟩ a).setCell ⟨M, 1, none⟩ b).setCell ⟨M, 2, none⟩ c) := Below.setCell (p := ⟨M, 2, none⟩) h2 (Nat.le_refl M) c
  exact Below.setCell (p := ⟨M, 3, none⟩) h3 (Nat.le_refl M) d
section
variable {p : Gp} {w : World} {F : Nat → Prop} {B : Nat} {g : Gs} {K : Nat}
theorem Gm.edgeS (h : Gm p w F B g K) {w1 w2 w3 : World} {E' : Int → Option Eg} {ne' : Nat} (h1 : Below w.heap.size w w1) (hM : MapV Tryz.prog 3 eg0 (fun i : Int => Value.int .i64 i) B64 w2 p.bM (fun e => (E' e).map egv) ne') (h2 : w1.grownBy w2 (some p.bM)) (h3 : Below w.heap.size w2 w3) : Gm p w3 F B (g.setE E' ne') K ∧ Step F F w w3 := by
  obtain ⟨k1, k2⟩ := (h.below h1).edgeL.2.2 w2 E' ne' hM h2
  have hl : ∀ k, F k → k < w.heap.size := h.lt
  have hs1 := h1.size
  have hs2 := h2.size
  have hF := h.edgeL.2.1
  refine ⟨k1.kept (fun k hk => h3.block k (hl k hk)) h3.size, ⟨⟨(h3.os.trans h2.os).trans h1.os, (h3.tape.trans h2.tape).trans h1.tape, (h3.output.trans h2.output).trans h1.output, Nat.le_trans (Nat.le_trans hs1 hs2) h3.size, fun k hk hn => ?_⟩, fun k hk => .inl hk⟩⟩
  exact (h3.block k hk).trans ((h2.block k (Nat.lt_of_lt_of_le hk hs1) (fun e => hn (by cases e; exact hF))).trans (h1.block k hk))
theorem Gm.mB (h : Gm p w F B g K) : p.bM ≠ B := by
  obtain ⟨c, vv, ev, Ff, Fb, h⟩ := h
  intro e
  have h1 := h.c2.2
  rw [e, h.c0.2] at h1; omega
theorem rise_any (h : Gm p w F B g K) {e : Int} (he : B64 e) {x : Eg} (hx : g.E e = some x) (hl : 0 ≤ x.l ∧ x.l ≤ 1000) (hne : g.ne ≤ 1000000) :
    Calls Tryz.prog 84 #[.pointer (some ⟨B, 0, none⟩), .int .i64 e] w fun r w' => r = .returned (egv x.up) ∧ Gm p w' F B (riseG g e x) K ∧ Step F F w w' := by
  obtain ⟨xa, xb, xl, xt⟩ := x
  simp only at hl
  obtain ⟨vv, ev, hc⟩ := h.cells
  have hBl := hc.lt
  obtain ⟨hMap, hbM, _⟩ := h.edgeL
  have hbl := hMap.lt
  obtain ⟨w1, hw1⟩ : ∃ w1, w1 = w.alloc (.cells #[.int .i64 0, .int .i64 0, .int .i64 0, .bool false] 63) := ⟨_, rfl⟩
  have hb1 : Below w.heap.size w w1 := by rw [hw1]; exact (Below.refl _ _).alloc (Nat.le_refl _) _
  have hs1 : w1.heap.size = w.heap.size + 1 := by rw [hw1]; simp
  have hM1 := hMap.kept (hb1.block p.bM hbl)
  have c1 : w1.cell? ⟨B, 2, none⟩ = some (.map (some p.bM)) := (hc.below hb1).at (j := 2) rfl
  have hlk := hM1.look KE he
  simp only [hx, Option.map_some, Option.getD_some] at hlk
  obtain ⟨w3, hw3⟩ : ∃ w3, w3 = w1.alloc (.cells #[.int .i64 xa, .int .i64 xb, .int .i64 (xl + 1), .bool xt] 63) := ⟨_, rfl⟩
  have hb3 : Below w.heap.size w w3 := by rw [hw3]; exact hb1.trans (((Below.refl _ w1).alloc (Nat.le_refl _) _).mono (by omega))
  have hs3 : w3.heap.size = w.heap.size + 2 := by rw [hw3]; simp [hs1]
  have k3 : Blk w3 (w.heap.size + 1) 63 #[.int .i64 xa, .int .i64 xb, .int .i64 (xl + 1), .bool xt] := by rw [hw3, ← hs1]; exact Blk.new w1 _ _
  have k3' : Blk w3 w.heap.size 63 #[.int .i64 0, .int .i64 0, .int .i64 0, .bool false] := by rw [hw3, hw1]; exact (Blk.new w _ _).alloc _
  have e0 := k3.at (j := 0) rfl
  have e1 := k3.at (j := 1) rfl
  have e2 := k3.at (j := 2) rfl
  have e3 := k3.at (j := 3) rfl
  have c3 : w3.cell? ⟨B, 2, none⟩ = some (.map (some p.bM)) := (hc.below hb3).at (j := 2) rfl
  simp only [List.getElem_toArray, List.getElem_cons_zero, List.getElem_cons_succ] at e0 e1 e2 e3
  obtain ⟨w4, hrun4, hM4, hg4⟩ := (hMap.kept (W' := w3.drew) (hb3.block p.bM hbl)).store KE (by unfold maxLen; omega) he (.agg #[.int .i64 xa, .int .i64 xb, .int .i64 (xl + 1), .bool xt])
  have hmB := h.mB
  have HXX := mkH hx
  have kk4 : ∀ k, k < w.heap.size + 2 → k ≠ p.bM → w4.heap[k]? = w3.heap[k]? := fun k hk hne => hg4.block k (by show k < w3.heap.size; omega) (fun e => hne (Option.some.inj e))
  have k4 : Blk w4 (w.heap.size + 1) 63 #[.int .i64 xa, .int .i64 xb, .int .i64 (xl + 1), .bool xt] := (kk4 _ (by omega) (by omega)).trans k3
  have k4' : Blk w4 w.heap.size 63 #[.int .i64 0, .int .i64 0, .int .i64 0, .bool false] := (kk4 _ (by omega) (by omega)).trans k3'
  have g0 := k4.at (j := 0) rfl
  have g1 := k4.at (j := 1) rfl
  have g2 := k4.at (j := 2) rfl
  have g3 := k4.at (j := 3) rfl
  have g4 : w4.cell? ⟨B, 2, none⟩ = some (.map (some p.bM)) := (World.cell?_of_block (w := w3) (kk4 B (by omega) hmB.symm)).trans c3
  simp only [List.getElem_toArray, List.getElem_cons_zero, List.getElem_cons_succ] at g0 g1 g2 g3
  have q0 := k4'.frozen 0
  have q1 := k4'.frozen 1
  have q2 := k4'.frozen 2
  have q3 := k4'.frozen 3
  have r0 := k4'.at (j := 0) rfl
  have r1 := k4'.at (j := 1) rfl
  have r2 := k4'.at (j := 2) rfl
  have r3 := k4'.at (j := 3) rfl
  simp only [List.getElem_toArray, List.getElem_cons_zero, List.getElem_cons_succ] at r0 r1 r2 r3
  have HK4 := mkH k4'
  have hs4 := hg4.size
  have HS3 := mkH hs3
  have HLT : Hid (w.heap.size < w4.heap.size) := k4'.lt
  have hwr : IntKind.i64.wrap (xl + 1) = xl + 1 := by simp [IntKind.wrap, IntKind.bits, IntKind.signed]; omega
  have HG := mkH h
  have HK3 := mkH k3
  have HK3' := mkH k3'
  have HB3 := mkH hb3
  have HM4 := mkH hM4
  have HG4 := mkH hg4
  subst hw3 hw1
  unfold egv at hlk
  clear h hMap hx hM1 k3 k3' k4 k4' kk4 hmB hs4 hs3 hs1 hb1 hb3 hM4 hg4 hc
  go_enter Tryz.func84, Tryz.ntmps84
  go_wp2_with fail
  go_region_held3 (fun w' => w'.cell? ⟨B, 2, none⟩ = some (.map (some p.bM)) ∧ w'.cell? ⟨w.heap.size + 1, 0, none⟩ = some (.int .i64 xa) ∧ w'.cell? ⟨w.heap.size + 1, 1, none⟩ = some (.int .i64 xb) ∧ w'.cell? ⟨w.heap.size + 1, 2, none⟩ = some (.int .i64 (xl + 1)) ∧ w'.cell? ⟨w.heap.size + 1, 3, none⟩ = some (.bool xt))
    (first | go_keep | (go_split_ands; refine ⟨?_, ?_, ?_, ?_, ?_⟩ <;> assumption))
    (fail)
  rename_i hHeld
  clear hHeld
  go_wp2
  refine bodyPost_ret (results_cell_row rfl _ _ w.heap.size 63 _ (0, 0) _ rfl (Blk.store4 HK4.out _ _ _ _) Tryz.underlying63 rfl (by kernel_rfl)) rfl ?_
  refine ⟨rfl, ?_⟩
  have hM := HM4.out
  rw [show (Value.agg #[Value.int .i64 xa, .int .i64 xb, .int .i64 (xl + 1), .bool xt]) = egv ⟨xa, xb, xl + 1, xt⟩ from rfl, map_upd] at hM
  rw [HXX.out] at hM
  simp only [Option.map_some, Option.isSome_some, if_true] at hM
  exact HG.out.edgeS (HB3.out.drew) hM HG4.out (below_set4 w4 w.heap.size (.int .i64 xa) (.int .i64 xb) (.int .i64 (xl + 1)) (.bool xt))
def LesserV (P : Vx → Prop) (Q : Ex → Prop) (x : Eg) (v : Int) : Prop := ∃ na nb : Int, SizeIs P Q x.a na ∧ SizeIs P Q x.b nb ∧ v = if nb < na then x.b else x.a
theorem lesser_any (h : Gm p w F B g K) (hK : K ≤ 30000) {i : Nat} (hi : i < g.m) {x : Eg} (ha : B64 x.a) (hb : B64 x.b) :
    Calls Tryz.prog 54 #[.pointer (some ⟨B, 0, none⟩), egv x, .int .i64 i] w fun r w' => (∃ v, r = .returned (.int .i64 v) ∧ LesserV (g.P i) (g.Q i) x v) ∧ Below w.heap.size w w' := by
  obtain ⟨xa, xb, xl, xt⟩ := x
  obtain ⟨w1, hw1⟩ : ∃ w1, w1 = w.alloc (.cells #[.int .i64 xa, .int .i64 xb, .int .i64 xl, .bool xt] 63) := ⟨_, rfl⟩
  have hb1 : Below w.heap.size w w1 := by rw [hw1]; exact (Below.refl _ _).alloc (Nat.le_refl _) _
  have hX : Blk w1 w.heap.size 63 #[.int .i64 xa, .int .i64 xb, .int .i64 xl, .bool xt] := by rw [hw1]; exact Blk.new w _ _
  have h' := h.below hb1
  obtain ⟨vv, ev, hc⟩ := h'.cells
  have c1 := hc.at (j := 1) rfl
  simp only [List.getElem_toArray, List.getElem_cons_zero, List.getElem_cons_succ] at c1
  obtain ⟨q, cap, e1, cq, hql, hcap1, hcap2⟩ := h'.ptr hi
  rw [e1] at c1
  have hi' : (i : Int) < (g.m : Int) := by omega
  have hm' : (g.m : Int) ≤ 9223372036854775807 := by unfold maxLen at hcap2; omega
  have g0 : ∀ g' : Grow w1, g'.w.cell? ⟨w.heap.size, 0, none⟩ = some (.int .i64 xa) := fun g' => Grow.cell hX.lt (hX.at (j := 0) rfl) g'
  have g1 : ∀ g' : Grow w1, g'.w.cell? ⟨w.heap.size, 1, none⟩ = some (.int .i64 xb) := fun g' => Grow.cell hX.lt (hX.at (j := 1) rfl) g'
  obtain ⟨sz, hsz⟩ := gsize_fun h' hK hi
  have HA : Hid (∀ (g' : Grow w1) (v : Int), v = xa ∨ v = xb → Calls Tryz.prog 36 #[.pointer (some ⟨p.Bf i, 0, none⟩), .int .i64 v] g'.w fun e w' => e = .returned (.int .i64 (sz v)) ∧ Below g'.w.heap.size g'.w w') := fun g' v hv => (hsz v (by rcases hv with rfl | rfl; exact ha; exact hb)).2 g'
  have HYes : Hid (sz xb < sz xa → LesserV (g.P i) (g.Q i) ⟨xa, xb, xl, xt⟩ xb) := fun k => ⟨sz xa, sz xb, (hsz xa ha).1, (hsz xb hb).1, by rw [if_pos k]⟩
  have HNo : Hid (¬ sz xb < sz xa → LesserV (g.P i) (g.Q i) ⟨xa, xb, xl, xt⟩ xa) := fun k => ⟨sz xa, sz xb, (hsz xa ha).1, (hsz xb hb).1, by rw [if_neg k]⟩
  have HB1 := mkH hb1
  have hs1 : w1.heap.size = w.heap.size + 1 := by rw [hw1]; simp
  have HS1 := mkH hs1
  have hxl := hX.lt
  have k0 : ∀ W', Below w1.heap.size w1 W' → W'.cell? ⟨w.heap.size, 0, none⟩ = some (.int .i64 xa) ∧ W'.cell? ⟨w.heap.size, 1, none⟩ = some (.int .i64 xb) := fun W' hb' => ⟨(hX.below hb').at (j := 0) rfl, (hX.below hb').at (j := 1) rfl⟩
  have HK0 := mkH k0
  unfold egv
  clear h h' hc e1 hX hb1 hsz ha hb k0 hs1
  subst hw1
  by_cases hlt : sz xb < sz xa
  · have hl' : decide (sz xb < sz xa) = true := decide_eq_true hlt
    go_enter Tryz.func54, Tryz.ntmps54
    go_wp2_with fail
    have hne := Grow.ne (w.alloc (.cells #[.int .i64 xa, .int .i64 xb, .int .i64 xl, .bool xt] 63))
    refine wp_region_grow (by kernel_rfl) (by kernel_rfl) ?_
    repeat (go_big_quiet_step ((go_at_call 36; exact grow_call (HA.out _ _ (by first | exact .inl rfl | exact .inr rfl)))))
    refine wpQuiet_nil ?_
    rintro w7 ⟨⟨_, hb7⟩, rfl⟩
    obtain ⟨y0, y1⟩ := HK0.out w7 hb7
    have HB7 : Hid (Below w.heap.size w w7) := HB1.out.trans (hb7.mono (by have := HS1.out; omega))
    clear hb7 g0 g1 hne HA HK0
    go_wp2
    go_ret
    exact ⟨⟨_, rfl, HYes.out hlt⟩, HB7.out⟩
  · have hl' : decide (sz xb < sz xa) = false := decide_eq_false hlt
    go_enter Tryz.func54, Tryz.ntmps54
    go_wp2_with fail
    have hne := Grow.ne (w.alloc (.cells #[.int .i64 xa, .int .i64 xb, .int .i64 xl, .bool xt] 63))
    refine wp_region_grow (by kernel_rfl) (by kernel_rfl) ?_
    repeat (go_big_quiet_step ((go_at_call 36; exact grow_call (HA.out _ _ (by first | exact .inl rfl | exact .inr rfl)))))
    refine wpQuiet_nil ?_
    rintro w7 ⟨⟨_, hb7⟩, rfl⟩
    obtain ⟨y0, y1⟩ := HK0.out w7 hb7
    have HB7 : Hid (Below w.heap.size w w7) := HB1.out.trans (hb7.mono (by have := HS1.out; omega))
    clear hb7 g0 g1 hne HA HK0
    go_wp2
    go_ret
    exact ⟨⟨_, rfl, HNo.out hlt⟩, HB7.out⟩
theorem leads_any (h : Gm p w F B g K) (hK : K ≤ 30000) {i : Nat} (hi : i < g.m) {n : Int} (hn : B64 n) {x : Eg} (hx : g.E n = some x) (ha : B64 x.a) (hb : B64 x.b) :
    Calls Tryz.prog 58 #[.pointer (some ⟨B, 0, none⟩), .int .i64 n, .int .i64 i] w fun r w' => (∃ t : Bool, r = .returned (.bool t) ∧ (t = false ↔ Vp (g.P i) x.a ∧ Vp (g.P i) x.b ∧ Jq (g.Q i) x.a x.b)) ∧ Below w.heap.size w w' := by
  obtain ⟨xa, xb, xl, xt⟩ := x
  obtain ⟨vv0, ev0, hc0⟩ := h.cells
  have c2 := hc0.at (j := 2) rfl
  simp only [List.getElem_toArray, List.getElem_cons_zero, List.getElem_cons_succ] at c2
  have hlk := h.edgeL.1.look KE hn
  simp only [hx, Option.map_some, Option.getD_some] at hlk
  obtain ⟨w1, hw1⟩ : ∃ w1, w1 = w.alloc (.cells #[.int .i64 xa, .int .i64 xb, .int .i64 xl, .bool xt] 63) := ⟨_, rfl⟩
  have hb1 : Below w.heap.size w w1 := by rw [hw1]; exact (Below.refl _ _).alloc (Nat.le_refl _) _
  have hX : Blk w1 w.heap.size 63 #[.int .i64 xa, .int .i64 xb, .int .i64 xl, .bool xt] := by rw [hw1]; exact Blk.new w _ _
  have h' := h.below hb1
  obtain ⟨vv, ev, hc⟩ := h'.cells
  obtain ⟨q, cap, e1, cq, hql, hcap1, hcap2⟩ := h'.ptr hi
  have gc1 : ∀ g' : Grow w1, g'.w.cell? ⟨B, 1, none⟩ = some (.slice (some ⟨q, 0, none⟩) g.m cap) := fun g' => by rw [← e1]; exact Grow.cell hc.lt (hc.at (j := 1) rfl) g'
  have gq : ∀ g' : Grow w1, g'.w.cell? ⟨q, i, none⟩ = some (.pointer (some ⟨p.Bf i, 0, none⟩)) := fun g' => Grow.cell hql cq g'
  have hi' : (i : Int) < (g.m : Int) := by omega
  have hm' : (g.m : Int) ≤ 9223372036854775807 := by unfold maxLen at hcap2; omega
  have g0 : ∀ g' : Grow w1, g'.w.cell? ⟨w.heap.size, 0, none⟩ = some (.int .i64 xa) := fun g' => Grow.cell hX.lt (hX.at (j := 0) rfl) g'
  have g1 : ∀ g' : Grow w1, g'.w.cell? ⟨w.heap.size, 1, none⟩ = some (.int .i64 xb) := fun g' => Grow.cell hX.lt (hX.at (j := 1) rfl) g'
  obtain ⟨t, t1, t2⟩ := gsame_val h' hK hi xa xb ha hb
  have HA := mkH t2
  have HT : Hid ((!t) = false ↔ Vp (g.P i) xa ∧ Vp (g.P i) xb ∧ Jq (g.Q i) xa xb) := by show _ ↔ _; rw [← t1]; cases t <;> simp
  have HB1 := mkH hb1
  have hs1 : w1.heap.size = w.heap.size + 1 := by rw [hw1]; simp
  have HS1 := mkH hs1
  unfold egv at hlk
  clear h h' hc hc0 hX hb1 t1 t2 ha hb hs1 e1 hx cq
  subst hw1
  go_enter Tryz.func58, Tryz.ntmps58
  go_wp2_with fail
  have hne := Grow.ne (w.alloc (.cells #[.int .i64 xa, .int .i64 xb, .int .i64 xl, .bool xt] 63))
  refine wp_region_grow (by kernel_rfl) (by kernel_rfl) ?_
  repeat (go_big_quiet_step ((go_at_call 35; exact grow_call (HA.out _))))
  refine wpQuiet_nil ?_
  rintro w7 ⟨⟨_, hb7⟩, rfl⟩
  have HB7 : Hid (Below w.heap.size w w7) := HB1.out.trans (hb7.mono (by have := HS1.out; omega))
  clear hb7 g0 g1 gc1 gq hne HA
  go_wp2
  go_ret
  exact ⟨⟨_, rfl, HT.out⟩, HB7.out⟩
end
def cutGk (g : Gs) (e : Int) (k : Nat) : Gs := ⟨g.n, g.m, g.P, fun i => if i < k then cutQ (g.Q i) e else g.Q i, g.E, g.ne, g.s, g.vl, g.vb, g.el, g.eb⟩
theorem cutGk_zero (g : Gs) (e : Int) : cutGk g e 0 = g := by cases g; simp [cutGk]
theorem cutGk_succ (g : Gs) (e : Int) (k : Nat) : (cutGk g e k).setF k ((cutGk g e k).P k) (cutQ ((cutGk g e k).Q k) e) = cutGk g e (k + 1) := by
  show Gs.mk g.n g.m (updF g.P k (g.P k)) (updF (fun i => if i < k then cutQ (g.Q i) e else g.Q i) k (cutQ (if k < k then cutQ (g.Q k) e else g.Q k) e)) g.E g.ne g.s g.vl g.vb g.el g.eb = Gs.mk g.n g.m g.P (fun i => if i < k + 1 then cutQ (g.Q i) e else g.Q i) g.E g.ne g.s g.vl g.vb g.el g.eb
  congr 1
  · funext j
    by_cases h : j = k
    · subst h; rw [updF_at]
    · rw [updF_ne h]
  · funext j
    by_cases h : j = k
    · subst h; rw [updF_at, if_neg (by omega), if_pos (by omega)]
    · rw [updF_ne h]
      by_cases h2 : j < k
      · rw [if_pos h2, if_pos (by omega)]
      · rw [if_neg h2, if_neg (by omega)]
def leaveGk (g : Gs) (a b : Int) (k : Nat) : Gs := ⟨g.n, g.m, fun i => if 1 ≤ i ∧ i < k + 1 then dropP (dropP (g.P i) (g.Q i) a) (g.Q i) b else g.P i, g.Q, g.E, g.ne, g.s, g.vl, g.vb, g.el, g.eb⟩
theorem leaveGk_zero (g : Gs) (a b : Int) : leaveGk g a b 0 = g := by
  cases g
  unfold leaveGk
  congr 1
  funext i
  exact if_neg (by omega)
theorem leaveGk_succ (g : Gs) (a b : Int) (k : Nat) : (leaveGk g a b k).setF (1 + k) (dropP (dropP ((leaveGk g a b k).P (1 + k)) ((leaveGk g a b k).Q (1 + k)) a) ((leaveGk g a b k).Q (1 + k)) b) ((leaveGk g a b k).Q (1 + k)) = leaveGk g a b (k + 1) := by
  have e1 : (leaveGk g a b k).P (1 + k) = g.P (1 + k) := if_neg (by omega)
  have e2 : (leaveGk g a b k).Q = g.Q := rfl
  rw [e1, e2]
  show Gs.mk g.n g.m (updF (leaveGk g a b k).P (1 + k) _) (updF g.Q (1 + k) (g.Q (1 + k))) g.E g.ne g.s g.vl g.vb g.el g.eb = Gs.mk g.n g.m (leaveGk g a b (k + 1)).P g.Q g.E g.ne g.s g.vl g.vb g.el g.eb
  congr 1
  · funext j
    by_cases h : j = 1 + k
    · subst h; rw [updF_at]; exact (if_pos (by omega)).symm
    · rw [updF_ne h]
      show (if 1 ≤ j ∧ j < k + 1 then _ else _) = (if 1 ≤ j ∧ j < k + 1 + 1 then _ else _)
      by_cases h2 : 1 ≤ j ∧ j < k + 1
      · rw [if_pos h2, if_pos (by omega)]
      · rw [if_neg h2, if_neg (by omega)]
  · funext j
    by_cases h : j = 1 + k
    · subst h; rw [updF_at]
    · rw [updF_ne h]
section
variable {p : Gp} {w : World} {F : Nat → Prop} {B : Nat} {g : Gs} {K : Nat}
theorem cut_any (h : Gm p w F B g K) {L : Nat} (hL : L < g.m) (hK : K + (L + 1) ≤ 30000) {n : Int} (hn : B64 n) {x : Eg} (hx : x.l = L) :
    Calls Tryz.prog 29 #[.pointer (some ⟨B, 0, none⟩), .int .i64 n, egv x] w fun e w' => e = .returned (.tuple #[]) ∧ ∃ F', Gm p w' F' B (cutGk g n (L + 1)) (K + (L + 1)) ∧ Step F F' w w' := by
  obtain ⟨xa, xb, xl, xt⟩ := x
  obtain rfl : xl = L := hx
  have hbw : Below w.heap.size w (w.alloc (.cells #[.int .i64 xa, .int .i64 xb, .int .i64 (L : Int), .bool xt] 63)) := (Below.refl _ _).alloc (Nat.le_refl _) _
  have hX := Blk.new w 63 #[.int .i64 xa, .int .i64 xb, .int .i64 (L : Int), .bool xt]
  have h' := h.below hbw
  obtain ⟨vv, ev, hc⟩ := h'.cells
  have c1 := hc.at (j := 1) rfl
  simp only [List.getElem_toArray, List.getElem_cons_zero, List.getElem_cons_succ] at c1
  obtain ⟨q, cap, e1, cq, hql, hcap1, hcap2⟩ := h'.ptr hL
  rw [e1] at c1
  have x2 := hX.at (j := 2) rfl
  simp only [List.getElem_toArray, List.getElem_cons_zero, List.getElem_cons_succ] at x2
  have hcm : (cap : Int) ≤ 9223372036854775807 := by unfold maxLen at hcap2; omega
  have hwr : IntKind.i64.wrap ((L : Int) + 1) = (L : Int) + 1 := by simp [IntKind.wrap, IntKind.bits, IntKind.signed]; omega
  have HG := mkH h'
  have HS : Hid (Step F F w (w.alloc (.cells #[.int .i64 xa, .int .i64 xb, .int .i64 (L : Int), .bool xt] 63))) := Step.of_below hbw
  have HRV := mkH e1
  unfold egv
  clear h h' hc e1 hX hbw cq
  go_enter Tryz.func29, Tryz.ntmps29
  go_wp2_with fail
  go_quiet (fail)
  go_wp2_with fail
  go_loopw [17] (fun vk wr => ∃ k : Nat, k ≤ L + 1 ∧ vk = .int .i64 k ∧ Hid (∃ F', Gm p wr F' B (cutGk g n k) (K + k) ∧ Step F F' w wr)) (fun vk _ => L + 1 - (intOf vk).toNat)
  case atStart =>
    have hd : ∀ (W : World) (q : Nat), Below W.heap.size W (W.drewN q) := fun W q => ⟨rfl, rfl, rfl, Nat.le_refl _, fun _ _ => rfl⟩
    exact ⟨0, by omega, rfl, F, by rw [cutGk_zero]; exact HG.out.below (hd _ _), HS.out.trans (Step.of_below (hd _ _))⟩
  case round =>
    obtain ⟨k, hk, rfl, HR⟩ := hrel
    by_cases hlt : k < L + 1
    · obtain ⟨F1, hG, hS⟩ := HR.out
      have hkm : k < (cutGk g n k).m := by show k < g.m; omega
      obtain ⟨q', cap', e', cq', hql', _⟩ := hG.ptr hkm
      rw [HRV.out] at e'
      cases e'
      have HC := mkH (gcut_any hG (by omega) hkm n hn)
      have HS1 := mkH hS
      have hlt' : (k : Int) < (L : Int) + 1 := by omega
      clear hG hS HR
      go_wp2_with fail
      refine HC.out.mono ?_
      rintro e w2 ⟨⟨r, rfl⟩, F2, hG2, hS2⟩
      rw [cutGk_succ] at hG2
      have HR2 : Hid (∃ F', Gm p w2 F' B (cutGk g n (k + 1)) (K + (k + 1)) ∧ Step F F' w w2) := ⟨F2, hG2, HS1.out.trans hS2⟩
      clear hG2 hS2 HC HS1 cq'
      go_wp2
      go_roundw
      case rel => exact ⟨k + 1, by omega, by go_num, HR2.out⟩
      case measure => simp [intOf]; omega
    · obtain rfl : k = L + 1 := by omega
      have HF : Hid (∃ F', Gm p wr F' B (cutGk g n (L + 1)) (K + (L + 1)) ∧ Step F F' w wr) := HR.out
      clear HR
      go_wp2
      go_returns
      exact ⟨rfl, HF.out⟩
theorem leave_any (h : Gm p w F B g K) {L : Nat} (hL : L < g.m) (hK : K + 2 * L + 2 ≤ 30000) {x : Eg} (hx : x.l = L) (ha : B64 x.a) (hb : B64 x.b) :
    Calls Tryz.prog 31 #[.pointer (some ⟨B, 0, none⟩), egv x] w fun e w' => e = .returned (.tuple #[]) ∧ ∃ F', Gm p w' F' B (leaveGk g x.a x.b L) (K + 2 * L) ∧ Step F F' w w' := by
  obtain ⟨xa, xb, xl, xt⟩ := x
  obtain rfl : xl = L := hx
  have hbw : Below w.heap.size w (w.alloc (.cells #[.int .i64 xa, .int .i64 xb, .int .i64 (L : Int), .bool xt] 63)) := (Below.refl _ _).alloc (Nat.le_refl _) _
  have hX : Bx (w.alloc (.cells #[.int .i64 xa, .int .i64 xb, .int .i64 (L : Int), .bool xt] 63)) F w.heap.size 63 #[.int .i64 xa, .int .i64 xb, .int .i64 (L : Int), .bool xt] := ⟨Blk.new w _ _, fun k => by have := h.lt _ k; omega⟩
  have h' := h.below hbw
  obtain ⟨vv, ev, hc⟩ := h'.cells
  have c1 := hc.at (j := 1) rfl
  simp only [List.getElem_toArray, List.getElem_cons_zero, List.getElem_cons_succ] at c1
  obtain ⟨q, cap, e1, cq, hql, hcap1, hcap2⟩ := h'.ptr hL
  rw [e1] at c1
  have x2 := hX.blk.at (j := 2) rfl
  simp only [List.getElem_toArray, List.getElem_cons_zero, List.getElem_cons_succ] at x2
  have hcm : (cap : Int) ≤ 9223372036854775807 := by unfold maxLen at hcap2; omega
  have hwr : IntKind.i64.wrap ((L : Int) + 1) = (L : Int) + 1 := by simp [IntKind.wrap, IntKind.bits, IntKind.signed]; omega
  have HG := mkH h'
  have HX := mkH hX
  have HS : Hid (Step F F w (w.alloc (.cells #[.int .i64 xa, .int .i64 xb, .int .i64 (L : Int), .bool xt] 63))) := Step.of_below hbw
  have HRV := mkH e1
  obtain ⟨M, hM⟩ : ∃ M, M = w.heap.size := ⟨_, rfl⟩
  rw [← hM] at HX
  unfold egv
  clear h h' hc e1 hX hbw cq
  have hd : ∀ (W : World) (q : Nat), Below W.heap.size W (W.drewN q) := fun W q => ⟨rfl, rfl, rfl, Nat.le_refl _, fun _ _ => rfl⟩
  by_cases hcap3 : cap = 1
  · subst hcap3
    have hL0 : Hid (L = 0) := (by omega : L = 0)
    have hb1 : (L : Int) + 1 ≤ 1 := by omega
    have hb2 : ¬ (0 : Int) < (L : Int) := by omega
    have HF : Hid (∀ nq, ∃ F', Gm p (World.drewN (w.alloc (.cells #[.int .i64 xa, .int .i64 xb, .int .i64 (L : Int), .bool xt] 63)) nq) F' B (leaveGk g xa xb L) (K + 2 * L) ∧ Step F F' w (World.drewN (w.alloc (.cells #[.int .i64 xa, .int .i64 xb, .int .i64 (L : Int), .bool xt] 63)) nq)) := fun nq => ⟨F, by rw [show leaveGk g xa xb L = g by rw [hL0.out, leaveGk_zero]]; exact (HG.out.below (hd _ _)).mono (by omega), HS.out.trans (Step.of_below (hd _ _))⟩
    clear HX hM hd HG HS
    go_enter Tryz.func31, Tryz.ntmps31
    go_wp2_with fail
    go_quiet (fail)
    go_wp2_with fail
    refine wp_loop_rounds 1 ?_
    rw [rounds_succ]
    go_wp2
    go_returns
    exact ⟨rfl, HF.out _⟩
  have HD := mkH hd
  clear hd
  go_enter Tryz.func31, Tryz.ntmps31
  go_wp2_with fail
  go_quiet (fail)
  go_wp2_with fail
  rw [← hM]
  go_loopw [15] (fun vk wr => ∃ k : Nat, k ≤ L ∧ vk = .int .i64 k ∧ Hid (∃ F', Gm p wr F' B (leaveGk g xa xb k) (K + 2 * k) ∧ Step F F' w wr ∧ Bx wr F' M 63 #[.int .i64 xa, .int .i64 xb, .int .i64 (L : Int), .bool xt])) (fun vk _ => L - (intOf vk).toNat)
  case atStart =>
    exact ⟨0, by omega, rfl, F, by rw [leaveGk_zero]; exact HG.out.below (HD.out _ _), HS.out.trans (Step.of_below (HD.out _ _)), HX.out.below (HD.out _ _)⟩
  case round =>
    clear x2 hM
    obtain ⟨k, hk, rfl, HR⟩ := hrel
    by_cases hlt : k < L
    · obtain ⟨F1, hG, hS, hX⟩ := HR.out
      have hkm : 1 + k < (leaveGk g xa xb k).m := by show 1 + k < g.m; omega
      obtain ⟨q', cap', e', cq', hql', _⟩ := hG.ptr hkm
      rw [HRV.out] at e'
      cases e'
      have x0 := hX.blk.at (j := 0) rfl
      simp only [List.getElem_toArray, List.getElem_cons_zero] at x0
      have HC := mkH (gdrop_any hG (by omega) hkm xa ha)
      have HS1 := mkH hS
      have HX1 := mkH hX
      have hlt' : (k : Int) < (L : Int) := by omega
      clear hG hS HR hX
      go_wp2_with fail
      refine HC.out.mono ?_
      rintro e w2 ⟨⟨r, rfl, _⟩, F2, hG2, hS2⟩
      have hX2 := HX1.out.step hS2
      have x1 := hX2.blk.at (j := 1) rfl
      simp only [List.getElem_toArray, List.getElem_cons_zero, List.getElem_cons_succ] at x1
      have HC2 := mkH (gdrop_any hG2 (by omega) (i := 1 + k) hkm xb hb)
      have HS2 := mkH (HS1.out.trans hS2)
      have HX2 := mkH hX2
      clear hG2 hS2 HC HS1 HX1 cq' x0 hX2
      go_wp2_with fail
      refine HC2.out.mono ?_
      rintro e w3 ⟨⟨r3, rfl, _⟩, F3, hG3, hS3⟩
      simp only [setF_setF, setF_P, setF_Q] at hG3
      rw [leaveGk_succ] at hG3
      have HR2 : Hid (∃ F', Gm p w3 F' B (leaveGk g xa xb (k + 1)) (K + 2 * (k + 1)) ∧ Step F F' w w3 ∧ Bx w3 F' M 63 #[.int .i64 xa, .int .i64 xb, .int .i64 (L : Int), .bool xt]) := ⟨F3, hG3.mono (by omega), HS2.out.trans hS3, HX2.out.step hS3⟩
      clear hG3 hS3 HC2 HS2 HX2 x1
      go_wp2
      go_roundw
      case rel => exact ⟨k + 1, by omega, by go_num, HR2.out⟩
      case measure => simp [intOf]; omega
    · obtain rfl : k = L := by omega
      obtain ⟨F1, hG, hS, hX⟩ := HR.out
      have HF : Hid (∃ F', Gm p wr F' B (leaveGk g xa xb k) (K + 2 * k) ∧ Step F F' w wr) := ⟨F1, hG, hS⟩
      clear HR hG hS hX
      go_wp2
      go_returns
      exact ⟨rfl, HF.out⟩
end
end Go.Proofs.YtlmdjghcmofdlaaGreat
