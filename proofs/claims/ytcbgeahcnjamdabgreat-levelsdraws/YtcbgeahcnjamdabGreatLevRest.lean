/- Layer 10: a graph between two calls: what each call makes of it. -/
import Derived.Test.YtcbgeahcnjamdabGreatLevNew
namespace Go.Proofs.YtcbgeahcnjamdabGreat
open Go.RowKit
set_option linter.unusedVariables false

structure Lv (p : Gp) (W : World) (F : Nat → Prop) (B : Nat) (g : Gs) (K : Nat) (V : List Int) (sv lv : Int → Int) (D : List Int) (T : Nat) : Prop where
  gm : Gm p W F B g K
  gi : Gi g (fun v => v ∈ V) sv lv (fun _ => False) eg00 0
  rest : Rest g.E V g.n g.m
  n : (1 ≤ g.n ∧ g.n ≤ 4194304) ∧ g.n < 2 ^ g.m
  vnd : V.Nodup
  vlen : (V.length : Int) ≤ g.n
  vt : ∀ t, Tk g.vl g.vb t ↔ t ∈ V
  vc : g.vl - g.vb.length = V.length
  et : ∀ t, Tk g.el g.eb t ↔ ∃ x, g.E t = some x
  ec : g.el - g.eb.length = g.ne
  bd : g.vl ≤ T ∧ g.vb.length ≤ T ∧ g.el ≤ T ∧ g.eb.length ≤ T
  tb : T ≤ 200
  ok : ∀ v ∈ V, okSL (sv v) (lv v) = true
  dn : D.Nodup
  dd : ∀ e x, g.E e = some x → e ∈ D
  pk : K + 3 * potL g.E g.m D ≤ 140 * T + 10
/-- A graph at rest, behind at most T calls. -/
def Ls (p : Gp) (W : World) (F : Nat → Prop) (B : Nat) (g : Gs) (V : List Int) (sv lv : Int → Int) (T : Nat) : Prop := ∃ K D, Lv p W F B g K V sv lv D T
section
variable {p : Gp} {w w' : World} {F : Nat → Prop} {B : Nat} {g : Gs} {K : Nat} {V : List Int} {sv lv : Int → Int} {D : List Int} {T : Nat}
theorem Lv.with (h : Lv p w F B g K V sv lv D T) {w' : World} {F' : Nat → Prop} (hg : Gm p w' F' B g K) : Lv p w' F' B g K V sv lv D T := { h with gm := hg }
theorem Ls.below (h : Ls p w F B g V sv lv T) (hb : Below w.heap.size w w') : Ls p w' F B g V sv lv T := by
  obtain ⟨K, D, h⟩ := h
  exact ⟨K, D, h.with (h.gm.below hb)⟩
theorem Ls.step {F' F1 : Nat → Prop} (h : Ls p w F B g V sv lv T) (hb : Step F' F1 w w') (hd : ∀ k, F k → ¬ F' k) : Ls p w' F B g V sv lv T := by
  obtain ⟨K, D, h⟩ := h
  exact ⟨K, D, h.with (h.gm.step hb hd)⟩
theorem Lv.later (h : Lv p w F B g K V sv lv D T) {K' : Nat} (hg : Gm p w' F B g K') (hK : K' ≤ K + 100) (hT : T + 1 ≤ 200) : Lv p w' F B g K' V sv lv D (T + 1) :=
  { h with gm := hg, bd := ⟨by have := h.bd; omega, by have := h.bd; omega, by have := h.bd; omega, by have := h.bd; omega⟩, tb := hT, pk := by have := h.pk; omega }
theorem Lv.kb (h : Lv p w F B g K V sv lv D T) : K ≤ 28010 := by have := h.pk; have := h.tb; omega
theorem Lv.vp (h : Lv p w F B g K V sv lv D T) (v : Int) : Vp (g.P 0) v ↔ v ∈ V := by
  rw [h.gi.p 0 h.gi.m.1, pf_vp]
  unfold VS
  rw [if_pos rfl]
theorem Lv.jq (h : Lv p w F B g K V sv lv D T) (a b : Int) : Jq (g.Q 0) a b ↔ Jn (Ae g.E) a b := by
  rw [h.gi.q 0 h.gi.m.1, qd_jq, h.rest.joins]; rfl
theorem Lv.b64 (h : Lv p w F B g K V sv lv D T) {v : Int} (hv : v ∈ V) : B64 v := h.gi.b64 hv
/-- v has an edge. -/
def HasE (E : EM) (v : Int) : Prop := ∃ e x, E e = some x ∧ (x.a = v ∨ x.b = v)
theorem Lv.hase (h : Lv p w F B g K V sv lv D T) (v : Int) : Hase (g.Q 0) v ↔ HasE g.E v := by
  constructor
  · intro k
    rw [h.gi.q 0 h.gi.m.1, qd_hase] at k
    obtain ⟨e, x, _, k2, _, _, k5⟩ := k
    exact ⟨e, x, k2, k5⟩
  · rintro ⟨e, x, k2, k5⟩
    exact h.gi.hase h.rest k2 k5
theorem Lv.fb (h : Lv p w F B g K V sv lv D T) : g.vl ≤ 100000 ∧ g.vb.length ≤ 100000 ∧ g.el ≤ 100000 ∧ g.eb.length ≤ 100000 ∧ g.ne ≤ 1000000 := by
  have := h.bd; have := h.tb; have := h.ec; omega
theorem tk_ext {a b : Int → Prop} (h : ∀ t, a t ↔ b t) {r : Int} (hr : Least a r) : Least b r := ⟨hr.1, fun k => hr.2.1 ((h r).2 k), fun t h1 h2 => (h t).1 (hr.2.2 t h1 h2)⟩
theorem Lv.vbd (h : Lv p w F B g K V sv lv D T) {r : Int} (hr : Least (Tk g.vl g.vb) r) : 1 ≤ r ∧ r ≤ 1000 := by
  have h1 := hr.1
  have hb := h.bd
  have ht := h.tb
  by_cases k : g.vl + 1 < r
  · have := (hr.2.2 (g.vl + 1) (by obtain ⟨c, vv, ev, Ff, Fb, hX⟩ := h.gm; have := hX.vn.p.l0; omega) k).2.1
    omega
  · omega
theorem Lv.ebd (h : Lv p w F B g K V sv lv D T) {r : Int} (hr : Least (Tk g.el g.eb) r) : 1 ≤ r ∧ r ≤ 1000 := by
  have h1 := hr.1
  have hb := h.bd
  have ht := h.tb
  by_cases k : g.el + 1 < r
  · have := (hr.2.2 (g.el + 1) (by obtain ⟨c, vv, ev, Ff, Fb, hX⟩ := h.gm; have := hX.en.p.l0; omega) k).2.1
    omega
  · omega
theorem updI_nin {f : Int → Int} {r s v : Int} (h : v ≠ r) : updI f r s v = f v := updI_ne h
theorem ls_vertex (h : Ls p w F B g V sv lv T) (hT : T + 1 ≤ 200) (s l : Int) :
    Calls Tryz.prog 8 #[.pointer (some ⟨B, 0, none⟩), .int .i64 s, .int .i64 l] w fun e w' =>
      (g.n ≤ V.length ∧ e = .returned (.tuple #[.int .i64 0, .int .i64 6]) ∧ Below w.heap.size w w') ∨
      ((V.length : Int) < g.n ∧ okSL s l = false ∧ e = .returned (.tuple #[.int .i64 0, .int .i64 1]) ∧ Below w.heap.size w w') ∨
      ((V.length : Int) < g.n ∧ okSL s l = true ∧ ∃ r, e = .returned (.tuple #[.int .i64 r, .int .i64 0]) ∧ Least (fun t => t ∈ V) r ∧ ∃ F' g', Ls p w' F' B g' (V ++ [r]) (updI sv r s) (updI lv r l) (T + 1) ∧ Step F F' w w' ∧ g'.E = g.E ∧ g'.n = g.n ∧ g'.m = g.m) := by
  obtain ⟨K, D, h⟩ := h
  have hf := h.fb
  refine (vertex_any h.gm (by have := h.kb; omega) h.gi.m.1 s l hf.1 hf.2.1 ⟨h.n.1.2, h.n.1.1⟩).mono fun e w' H => ?_
  rw [h.vc] at H
  rcases H with ⟨a, b, c⟩ | ⟨a, b, c, d⟩ | ⟨a, b, r, c, d, F', vl', vb', q1, q2, q3, q4, q5, q6, q7⟩
  · exact .inl ⟨a, b, c⟩
  · exact .inr (.inl ⟨a, b, c, d⟩)
  · have hr := tk_ext h.vt d
    have hrb := h.vbd d
    refine .inr (.inr ⟨a, b, r, c, hr, F', _, ⟨_, D, ⟨q1, ?_, ?_, h.n, ?_, ?_, fun t => ?_, ?_, h.et, h.ec, ⟨?_, ?_, ?_, ?_⟩, hT, fun v hv => ?_, h.dn, h.dd, ?_⟩⟩, q2, rfl, rfl, rfl⟩)
    · exact (h.gi.vertG hr.2.1 ⟨hrb.1, by omega⟩ s l vl' vb').vals (fun v => by simp) (fun v _ => ⟨rfl, rfl⟩)
    · exact h.rest.verts fun e x he => by have := h.rest.v e x he; exact ⟨List.mem_append_left _ this.2.1, List.mem_append_left _ this.2.2⟩
    · exact List.nodup_append.2 ⟨h.vnd, by simp, fun x hx y hy e => by simp at hy; subst hy; subst e; exact hr.2.1 hx⟩
    · show ((V ++ [r]).length : Int) ≤ g.n
      simp; omega
    · show Tk vl' vb' t ↔ _
      rw [q3, h.vt]; simp
    · show vl' - (vb'.length : Int) = _
      simp; omega
    · show vl' ≤ _; have := h.bd; omega
    · show vb'.length ≤ _; have := h.bd; omega
    · show g.el ≤ _; have := h.bd; omega
    · show g.eb.length ≤ _; have := h.bd; omega
    · by_cases e : v = r
      · subst e; rw [updI_at, updI_at]; exact b
      · rw [updI_ne e, updI_ne e]
        rcases List.mem_append.1 hv with k | k
        · exact h.ok v k
        · simp at k; exact absurd k e
    · show K + 1 + 3 * potL g.E g.m D ≤ _
      have := h.pk; omega
theorem ls_drop (h : Ls p w F B g V sv lv T) (hT : T + 1 ≤ 200) (v : Int) (hb : B64 v) :
    Calls Tryz.prog 9 #[.pointer (some ⟨B, 0, none⟩), .int .i64 v] w fun e w' =>
      (v ∉ V ∧ e = .returned (.int .i64 4) ∧ Below w.heap.size w w') ∨
      (v ∈ V ∧ HasE g.E v ∧ e = .returned (.int .i64 13) ∧ ∃ F', Ls p w' F' B g V sv lv (T + 1) ∧ Step F F' w w') ∨
      (v ∈ V ∧ ¬ HasE g.E v ∧ e = .returned (.int .i64 0) ∧ ∃ F' g', Ls p w' F' B g' (V.filter fun u => decide (u ≠ v)) sv lv (T + 1) ∧ Step F F' w w' ∧ g'.E = g.E ∧ g'.n = g.n ∧ g'.m = g.m) := by
  obtain ⟨K, D, h⟩ := h
  have hf := h.fb
  refine (drop_any h.gm (by have := h.kb; omega) h.gi.m.1 v hb hf.2.1 (fun k => (h.vt v).2 ((h.vp v).1 k))).mono fun e w' H => ?_
  rw [h.vp, h.hase] at H
  rcases H with ⟨a, b, c⟩ | ⟨a, b, c, F', d1, d2⟩ | ⟨a, b, c, F', vb', q1, q2, q3, q4⟩
  · exact .inl ⟨a, b, c⟩
  · refine .inr (.inl ⟨a, b, c, F', ⟨K + 1, D, ?_⟩, d2⟩)
    exact { h with gm := d1, bd := ⟨by have := h.bd; omega, by have := h.bd; omega, by have := h.bd; omega, by have := h.bd; omega⟩, tb := hT, pk := by have := h.pk; omega }
  · have hne : ∀ e x, g.E e = some x → x.a ≠ v ∧ x.b ≠ v := fun e x he => ⟨fun k => b ⟨e, x, he, .inl k⟩, fun k => b ⟨e, x, he, .inr k⟩⟩
    have hfl : (V.filter fun u => decide (u ≠ v)).length + 1 = V.length := by
      have h1 := h.vnd.erase_eq_filter v
      have h2 := List.length_erase_of_mem a
      have h3 : V.erase v = V.filter fun u => decide (u ≠ v) := by
        rw [h1]; congr 1; funext u; by_cases e : u = v <;> simp [e]
      rw [h3] at h2
      have : 0 < V.length := List.length_pos_of_mem a
      omega
    have hmf : ∀ u, u ∈ (V.filter fun u => decide (u ≠ v)) ↔ u ∈ V ∧ u ≠ v := fun u => by simp [List.mem_filter]
    refine .inr (.inr ⟨a, b, c, F', _, ⟨_, D, ⟨q1, ?_, ?_, h.n, h.vnd.sublist List.filter_sublist, ?_, fun t => ?_, ?_, h.et, h.ec, ⟨?_, ?_, ?_, ?_⟩, hT, fun u hu => h.ok u ((hmf u).1 hu).1, h.dn, h.dd, ?_⟩⟩, q2, rfl, rfl, rfl⟩)
    · exact (h.gi.dropG (by rw [h.hase]; exact b) hne g.vl vb').vals (fun u => (hmf u).symm) (fun u _ => ⟨rfl, rfl⟩)
    · exact h.rest.verts fun e x he => by
        have := h.rest.v e x he
        have k := hne e x he
        exact ⟨(hmf _).2 ⟨this.2.1, k.1⟩, (hmf _).2 ⟨this.2.2, k.2⟩⟩
    · show (_ : Int) ≤ g.n
      have := h.vlen; omega
    · show Tk g.vl vb' t ↔ _
      rw [q3, h.vt, hmf]
    · show g.vl - (vb'.length : Int) = _
      have := h.vc; omega
    · show g.vl ≤ _; have := h.bd; omega
    · show vb'.length ≤ _; have := h.bd; omega
    · show g.el ≤ _; have := h.bd; omega
    · show g.eb.length ≤ _; have := h.bd; omega
    · show K + 1 + 3 * potL g.E g.m D ≤ _
      have := h.pk; omega
end
end Go.Proofs.YtcbgeahcnjamdabGreat
