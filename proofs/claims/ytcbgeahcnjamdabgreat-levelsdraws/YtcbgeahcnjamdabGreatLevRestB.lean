/- Layer 10: a graph between two calls: an edge more, an edge less, what is told, a new one. -/
import Derived.Test.YtcbgeahcnjamdabGreatLevRest
namespace Go.Proofs.YtcbgeahcnjamdabGreat
open Go.RowKit
set_option linter.unusedVariables false

section
variable {p : Gp} {w w' : World} {F : Nat → Prop} {B : Nat} {g : Gs} {K : Nat} {V : List Int} {sv lv : Int → Int} {D : List Int} {T : Nat}
theorem ls_insert_no (h : Ls p w F B g V sv lv T) {a b : Int} (ha : B64 a) (hb : B64 b) (hno : a ∉ V ∨ b ∉ V ∨ a = b) :
    Calls Tryz.prog 10 #[.pointer (some ⟨B, 0, none⟩), .int .i64 a, .int .i64 b] w fun e w' => ((a ∈ V ∧ b ∈ V → e = .returned (.tuple #[.int .i64 0, .int .i64 1])) ∧ (¬ (a ∈ V ∧ b ∈ V) → e = .returned (.tuple #[.int .i64 0, .int .i64 4]))) ∧ Below w.heap.size w w' := by
  obtain ⟨K, D, h⟩ := h
  refine (insert_no h.gm h.gi.m.1 ha hb (by rw [h.vp, h.vp]; exact hno)).mono fun e w' H => ?_
  rw [h.vp, h.vp] at H
  exact H
theorem ls_insert (h : Ls p w F B g V sv lv T) (hT : T + 1 ≤ 200) {a b : Int} (ha : a ∈ V) (hb : b ∈ V) (hab : a ≠ b) :
    Calls Tryz.prog 10 #[.pointer (some ⟨B, 0, none⟩), .int .i64 a, .int .i64 b] w fun e w' => ∃ r, e = .returned (.tuple #[.int .i64 r, .int .i64 0]) ∧ Least (fun t => ∃ x, g.E t = some x) r ∧ ∃ F' g' t, Ls p w' F' B g' V sv lv (T + 1) ∧ Step F F' w w' ∧ g'.E = updQ g.E r (some ⟨a, b, 0, t⟩) ∧ g'.n = g.n ∧ g'.m = g.m ∧ (t = true ↔ ¬ Jn (Ae g.E) a b) := by
  obtain ⟨K, D, h⟩ := h
  have hf := h.fb
  have hkb := h.kb
  have hm := h.gi.m
  have hlo : ∀ v i e, e ∈ g.s.L (v, i) → ∃ x, g.E e = some x := fun v i e k => by obtain ⟨x, _, k2, _⟩ := (h.gi.lo v i e).1 k; exact ⟨x, k2⟩
  refine (insert_yes h.gm (by omega) hm.1 (h.b64 ha) (h.b64 hb) hab ((h.vp a).2 ha) ((h.vp b).2 hb) hf.2.2.2.2 (by omega) hf.2.2.2.1 (fun r hr => ?_)).mono ?_
  · have hrb := h.ebd hr
    have hno : ¬ ∃ x, g.E r = some x := fun k => hr.2.1 ((h.et r).2 k)
    have hE : g.E r = none := by
      cases k : g.E r with
      | none => rfl
      | some x => exact absurd ⟨x, k⟩ hno
    refine ⟨by unfold B64; omega, hE, fun k => ?_, fun k => hno (hlo _ _ _ k), fun k => hno (hlo _ _ _ k)⟩
    rw [h.gi.q 0 hm.1] at k
    obtain ⟨x, _, k2, _⟩ := qd_ep.1 k
    exact hno ⟨x, k2⟩
  · rintro e w' ⟨r, el', eb', he, hr, ⟨q1, q2, q3, q4, q5⟩, F', hS, H⟩
    have hrb := h.ebd hr
    have hr' := tk_ext h.et hr
    have hno : ¬ ∃ x, g.E r = some x := hr'.2.1
    have hE : g.E r = none := by
      cases k : g.E r with
      | none => rfl
      | some x => exact absurd ⟨x, k⟩ hno
    have hpot : ∀ x : Eg, potL (updQ g.E r (some x)) g.m (r :: D.erase r) ≤ potL g.E g.m D + 23 := fun x => by have := potL_ins (m := g.m) (x := x) h.dn hE; omega
    have hdn : (r :: D.erase r).Nodup := List.nodup_cons.2 ⟨h.dn.not_mem_erase, h.dn.erase r⟩
    have hdd : ∀ (x : Eg) f y, updQ g.E r (some x) f = some y → f ∈ r :: D.erase r := fun x f y hy => by
      by_cases ef : f = r
      · subst ef; exact List.mem_cons_self ..
      · rw [updQ_ne ef] at hy
        exact List.mem_cons_of_mem _ ((List.mem_erase_of_ne ef).2 (h.dd f y hy))
    have het : ∀ (x : Eg) t, Tk el' eb' t ↔ ∃ y, updQ g.E r (some x) t = some y := fun x t => by
      rw [q1, h.et]
      by_cases et : t = r
      · subst et; rw [updQ_at]; exact ⟨fun _ => ⟨x, rfl⟩, fun _ => .inr rfl⟩
      · rw [updQ_ne et]; exact ⟨fun k => k.elim id (fun k => absurd k et), .inl⟩
    have wd := (h.gi.wide hE)
    have ea := (h.gi.ob a ha)
    have hpk := h.pk
    have hbd := h.bd
    refine ⟨r, he, hr', F', ?_⟩
    rcases H with ⟨hj, hG⟩ | ⟨hj, hG⟩
    · refine ⟨_, true, ⟨_, r :: D.erase r, ⟨hG, ?_, ?_, h.n, h.vnd, h.vlen, h.vt, h.vc, het _, ?_, ⟨?_, ?_, ?_, ?_⟩, hT, h.ok, hdn, hdd _, ?_⟩⟩, hS, rfl, rfl, rfl, ⟨fun _ => fun k => hj ((h.jq a b).2 k), fun _ => rfl⟩⟩
      · have s1 := wd.skipE (e := r) (x := ⟨a, b, 0, true⟩) (.inr rfl) ⟨⟨hrb.1, by omega⟩, hab, ha, hb, Int.le_refl _, by show (0 : Int) < g.m; omega⟩ (g.ne + 1)
        have s2 := s1.bindG (S := fun _ => False) (fun k => k) (x := ⟨a, b, 0, true⟩) (updQ_at _ _ _) rfl (i := 0) hm.1 rfl (fun j hj => by
          obtain rfl : j = 0 := by omega
          unfold VS; rw [if_pos rfl, if_pos rfl]; exact ⟨ha, hb⟩)
        rw [← bindGk_succ, bindGk_zero] at s2
        exact ⟨s2.q, s2.p, s2.lo, s2.eb, s2.ob, s2.nd, s2.m⟩
      · refine h.rest.insTree h.vlen h.n.1.1 hm.1 hE ha hb hab (fun k => hj ?_)
        rw [h.gi.q 0 hm.1, qd_jq]; exact k
      · show el' - (eb'.length : Int) = ((g.ne + 1 : Nat) : Int)
        have := h.ec; omega
      · show g.vl ≤ _; omega
      · show g.vb.length ≤ _; omega
      · show el' ≤ _; omega
      · show eb'.length ≤ _; omega
      · show K + 3 + 3 * potL (updQ g.E r (some ⟨a, b, 0, true⟩)) g.m (r :: D.erase r) ≤ _
        have := hpot ⟨a, b, 0, true⟩; omega
    · refine ⟨_, false, ⟨_, r :: D.erase r, ⟨hG, ?_, ?_, h.n, h.vnd, h.vlen, h.vt, h.vc, het _, ?_, ⟨?_, ?_, ?_, ?_⟩, hT, h.ok, hdn, hdd _, ?_⟩⟩, hS, rfl, rfl, rfl, ⟨fun k => (by cases k), fun k => absurd ((h.jq a b).1 hj) k⟩⟩
      · have s1 := wd.skipE (e := r) (x := ⟨a, b, 0, false⟩) (.inr rfl) ⟨⟨hrb.1, by omega⟩, hab, ha, hb, Int.le_refl _, by show (0 : Int) < g.m; omega⟩ (g.ne + 1)
        have s2 := (s1.putL (S := fun _ => False) (fun k => k) (x := ⟨a, b, 0, false⟩) (updQ_at _ _ _) rfl (i := 0) hm.1 rfl (by unfold VS; rw [if_pos rfl]; exact ha) (by unfold VS; rw [if_pos rfl]; exact hb)).1
        exact ⟨s2.q, s2.p, s2.lo, s2.eb, s2.ob, s2.nd, s2.m⟩
      · refine h.rest.insLoose hm.1 hE ha hb hab ?_
        rw [h.gi.q 0 hm.1, qd_jq] at hj; exact hj
      · show el' - (eb'.length : Int) = ((g.ne + 1 : Nat) : Int)
        have := h.ec; omega
      · show g.vl ≤ _; omega
      · show g.vb.length ≤ _; omega
      · show el' ≤ _; omega
      · show eb'.length ≤ _; omega
      · show K + 2 + 3 * potL (updQ g.E r (some ⟨a, b, 0, false⟩)) g.m (r :: D.erase r) ≤ _
        have := hpot ⟨a, b, 0, false⟩; omega
/-- An edge is gone; all others are there with their ends, no lower. -/
def Evx (E E' : EM) (e : Int) : Prop := E' e = none ∧ ∀ f, f ≠ e → (E f = none ∧ E' f = none) ∨ ∃ x0 x, E f = some x0 ∧ E' f = some x ∧ x.a = x0.a ∧ x.b = x0.b ∧ x0.l ≤ x.l
theorem ls_delete_no (h : Ls p w F B g V sv lv T) {e : Int} (he : B64 e) (hx : g.E e = none) : Calls Tryz.prog 11 #[.pointer (some ⟨B, 0, none⟩), .int .i64 e] w fun r w' => r = .returned (.int .i64 4) ∧ Below w.heap.size w w' := by
  obtain ⟨K, D, h⟩ := h
  exact delete_none h.gm he hx
theorem ls_delete (h : Ls p w F B g V sv lv T) (hT : T + 1 ≤ 200) {e : Int} {x : Eg} (hx : g.E e = some x) :
    Calls Tryz.prog 11 #[.pointer (some ⟨B, 0, none⟩), .int .i64 e] w fun r w' => r = .returned (.int .i64 0) ∧ ∃ F' g', Ls p w' F' B g' V sv lv (T + 1) ∧ Step F F' w w' ∧ Evx g.E g'.E e ∧ g'.n = g.n ∧ g'.m = g.m := by
  obtain ⟨K, D, h⟩ := h
  have hf := h.fb
  have hkb := h.kb
  have hm := h.gi.m
  have hpk := h.pk
  have hbd := h.bd
  have htb := h.tb
  have htk : Tk g.el g.eb e := (h.et e).2 ⟨x, hx⟩
  obtain ⟨a1, a2, a3, a4, a5, a6⟩ := h.gi.eb e x hx
  obtain ⟨L, hl⟩ : ∃ L : Nat, x.l = (L : Int) := ⟨x.l.toNat, by omega⟩
  have hL : L < g.m := by omega
  have hne1 : 1 ≤ g.ne := by
    have h1 := h.ec
    have : 0 < g.ne := by
      rcases Nat.eq_zero_or_pos g.ne with k | k
      · obtain ⟨c, vv, ev, Ff, Fb, hX⟩ := h.gm
        exfalso
        -- all numbers up to the last one came back, this one did not
        have hN := hX.en.p
        have hsub : (List.map (fun i : Nat => (i : Int) + 1) (List.range g.el.toNat)).length ≤ (g.eb.erase e).length := by
          rw [k] at h1
          simp
          have : g.eb.length = g.el.toNat := by have := hN.l0; omega
          rw [List.erase_of_not_mem htk.2.2]
          omega
        have hnd : (e :: g.eb).Nodup := List.nodup_cons.2 ⟨htk.2.2, hN.nd⟩
        have := hnd.length_le_of_subset (l₂ := List.map (fun i : Nat => (i : Int) + 1) (List.range g.el.toNat)) (fun y hy => by
          have hy' : 1 ≤ y ∧ y ≤ g.el := by
            rcases List.mem_cons.1 hy with rfl | hy
            · exact ⟨htk.1, htk.2.1⟩
            · exact hN.rg y hy
          exact List.mem_map.2 ⟨(y - 1).toNat, List.mem_range.2 (by omega), by omega⟩)
        simp at this
        have := hN.l0
        rw [k] at h1
        omega
      · exact k
    omega
  have key : ∀ (E' : EM) (el : Int) (eb' : List Int), (∀ f, (∃ y, E' f = some y) ↔ (∃ y, g.E f = some y)) → (∀ t, Tk el eb' t ↔ Tk g.el g.eb t ∧ t ≠ e) → ∀ t, Tk el eb' t ↔ ∃ y, updQ E' e none t = some y := fun E' el eb' hE q t => by
    rw [q, h.et]
    by_cases et : t = e
    · subst et; rw [updQ_at]; simp
    · rw [updQ_ne et, hE]; simp [et]
  have ddo : ∀ (E' : EM), (∀ f y, E' f = some y → f ∈ D) → ∀ f y, updQ E' e none f = some y → f ∈ D := fun E' hE f y hy => by
    by_cases ef : f = e
    · subst ef; rw [updQ_at] at hy; cases hy
    · rw [updQ_ne ef] at hy; exact hE f y hy
  have he64 := h.gi.e64 hx
  cases ht : x.t with
  | false =>
    have hj := h.rest.b e x (fun k => k) hx ht
    rw [hl] at hj
    obtain ⟨v1, v2⟩ := h.gi.vp_of_jn hL hj a2
    obtain ⟨t1, t2, t3⟩ := h.gi.takeL (fun k => k) hx ht hL hl ((h.gi.vs hL).1 v1) ((h.gi.vs hL).1 v2)
    refine (delete_loose h.gm (by omega) he64 a1.1 hx ht hL (by omega) hl (h.gi.b64 a3) (h.gi.b64 a4) a2 t2 t3 v1 v2 hf.2.2.2.1 htk).mono ?_
    rintro r w' ⟨hr, F', eb', hG, hS, hT', hl'⟩
    have hck := takeG_ck g e x L
    have s1 : Gi (takeG g e x L) (fun v => v ∈ V) sv lv (fun k => k = e) eg00 0 := by
      have : (fun k => False ∨ k = e) = (fun k => k = e) := funext fun k => propext ⟨fun q => q.elim False.elim id, .inr⟩
      rw [this] at t1; exact t1
    have s2 := s1.goneE (g.ne - 1)
    refine ⟨hr, F', _, ⟨_, D, ⟨hG, ?_, ?_, ?_, h.vnd, ?_, ?_, ?_, ?_, ?_, ⟨?_, ?_, ?_, ?_⟩, hT, h.ok, h.dn, ?_, ?_⟩⟩, hS, ?_, hck.1.n, hck.1.m⟩
    · rw [hck.2] at s2
      exact ⟨s2.q, s2.p, s2.lo, s2.eb, s2.ob, s2.nd, s2.m⟩
    · show Rest (updQ g.E e none) V (takeG g e x L).n (takeG g e x L).m
      rw [hck.1.n, hck.1.m]
      exact h.rest.outLoose hx ht
    · show (1 ≤ (takeG g e x L).n ∧ (takeG g e x L).n ≤ 4194304) ∧ (takeG g e x L).n < 2 ^ (takeG g e x L).m
      rw [hck.1.n, hck.1.m]; exact h.n
    · show (V.length : Int) ≤ (takeG g e x L).n
      rw [hck.1.n]; exact h.vlen
    · show ∀ t, Tk (takeG g e x L).vl (takeG g e x L).vb t ↔ t ∈ V
      rw [hck.1.vl, hck.1.vb]; exact h.vt
    · show (takeG g e x L).vl - ((takeG g e x L).vb.length : Int) = V.length
      rw [hck.1.vl, hck.1.vb]; exact h.vc
    · exact key g.E _ eb' (fun f => Iff.rfl) hT'
    · show g.el - (eb'.length : Int) = ((g.ne - 1 : Nat) : Int)
      have := h.ec; omega
    · show (takeG g e x L).vl ≤ _
      rw [hck.1.vl]; omega
    · show (takeG g e x L).vb.length ≤ _
      rw [hck.1.vb]; omega
    · show g.el ≤ _; omega
    · show eb'.length ≤ _; omega
    · exact ddo g.E h.dd
    · show K + 0 + 3 * potL (updQ g.E e none) (takeG g e x L).m D ≤ _
      rw [hck.1.m]
      have := potL_out (E := g.E) (m := g.m) e D
      omega
    · refine ⟨updQ_at _ _ _, fun f hf => ?_⟩
      show (_ ∧ updQ g.E e none f = none) ∨ ∃ x0 x, _ ∧ updQ g.E e none f = some x ∧ _
      rw [updQ_ne hf]
      cases k : g.E f with
      | none => exact .inl ⟨rfl, rfl⟩
      | some y => exact .inr ⟨y, y, rfl, rfl, rfl, rfl, Int.le_refl _⟩
  | true =>
    refine (delete_tree (C := 140 * T + 10) h.gm h.gi (Int.le_refl _) h.rest.acy h.rest.sz h.rest.b h.dn h.dd (by omega) (by omega) h.n.2 hx ht hl hf.2.2.2.2 hf.2.2.2.1 htk).mono ?_
    rintro r w' ⟨hr, F', g2, K2, eb', sf, hG, hS, hT', hl'⟩
    have c1 : g2.n = g.n := sf.ck.n
    have c2 : g2.m = g.m := sf.ck.m
    have c3 : g2.ne = g.ne := sf.ck.ne
    have c4 : g2.vl = g.vl := sf.ck.vl
    have c5 : g2.vb = g.vb := sf.ck.vb
    have c6 : g2.el = g.el := sf.ck.el
    have c7 : g2.eb = g.eb := sf.ck.eb
    have ev : Ev g.E g2.E := sf.ev
    have s1 := ((sf.gi.leaveG (by omega)).goneE (g2.ne - 1)).rest (Int.le_refl _) eg00
    have hsome : ∀ f, (∃ y, g2.E f = some y) ↔ (∃ y, g.E f = some y) := fun f => by
      rcases ev f with ⟨k1, k2⟩ | ⟨x0, x1, k1, k2, _⟩
      · rw [k1, k2]
      · rw [k1, k2]; exact ⟨fun _ => ⟨_, rfl⟩, fun _ => ⟨_, rfl⟩⟩
    rw [c6, c7] at hT'
    rw [c7] at hl'
    have hpk2 := sf.pk
    refine ⟨hr, F', _, ⟨_, D, ⟨hG, ?_, ?_, ?_, h.vnd, ?_, ?_, ?_, ?_, ?_, ⟨?_, ?_, ?_, ?_⟩, hT, h.ok, h.dn, ?_, ?_⟩⟩, hS, ?_, c1, c2⟩
    · exact ⟨s1.q, s1.p, s1.lo, s1.eb, s1.ob, s1.nd, s1.m⟩
    · show Rest (updQ g2.E e none) V g2.n g2.m
      rw [c1]
      exact Rest.outTree sf.acy sf.sz sf.b (fun f y hy => by have := sf.gi.eb f y hy; exact ⟨this.2.2.2.2.1, this.2.2.2.2.2⟩) (fun f y hy => by have := sf.gi.eb f y hy; exact ⟨this.2.1, this.2.2.1, this.2.2.2.1⟩)
    · show (1 ≤ g2.n ∧ g2.n ≤ 4194304) ∧ g2.n < 2 ^ g2.m
      rw [c1, c2]; exact h.n
    · show (V.length : Int) ≤ g2.n
      rw [c1]; exact h.vlen
    · show ∀ t, Tk g2.vl g2.vb t ↔ t ∈ V
      rw [c4, c5]; exact h.vt
    · show g2.vl - (g2.vb.length : Int) = V.length
      rw [c4, c5]; exact h.vc
    · show ∀ t, Tk g2.el eb' t ↔ ∃ y, updQ g2.E e none t = some y
      rw [c6]
      exact key g2.E _ eb' hsome hT'
    · show g2.el - (eb'.length : Int) = ((g2.ne - 1 : Nat) : Int)
      rw [c6, c3]
      have := h.ec; omega
    · show g2.vl ≤ _; rw [c4]; omega
    · show g2.vb.length ≤ _; rw [c5]; omega
    · show g2.el ≤ _; rw [c6]; omega
    · show eb'.length ≤ _; omega
    · exact ddo g2.E (fun f y hy => by
        obtain ⟨y', hy'⟩ := (hsome f).1 ⟨y, hy⟩
        exact h.dd f y' hy')
    · show K2 + 2 * L + 3 * potL (updQ g2.E e none) g2.m D ≤ _
      have := potL_out (E := g2.E) (m := g2.m) e D
      omega
    · refine ⟨updQ_at _ _ _, fun f hf => ?_⟩
      show (_ ∧ updQ g2.E e none f = none) ∨ ∃ x0 x, _ ∧ updQ g2.E e none f = some x ∧ _
      rw [updQ_ne hf]
      rcases ev f with ⟨k1, k2⟩ | ⟨x0, x1, k1, k2, k3, k4, k5, _⟩
      · exact .inl ⟨k1, k2⟩
      · exact .inr ⟨x0, x1, k1, k2, k3, k4, k5⟩
/-- A new graph. -/
theorem ls_new {d : Option Addr} {dr : Option (Nat × Nat × List Int)} {n : Nat} {B M bB : Nat} {rv : Value} {Bl : List Nat} (h0 : 1 ≤ n) (h1 : n ≤ 4194304) (h : Nw w w' d n B M bB rv Bl) (hb : Bl.length = bitLen n) (hd : Dw w d dr) :
    Ls ⟨rv, fun i => Bl.getD i 0, M, bB, dr⟩ w' (fun k => k = B ∨ k = M ∨ k = bB ∨ rv.ownBlock = some k ∨ k ∈ Bl ∨ Shd dr k) B (g00 n Bl.length) [] n0 n0 0 := by
  obtain ⟨⟨b1, b2⟩, b3, b4⟩ := bitLen_lev h0 h1
  have hq : ∀ i : Int, Qd (fun _ => none) (fun _ => False) i = fun _ => False := fun i => funext fun y => propext ⟨fun ⟨x, _, k, _⟩ => (by cases k), False.elim⟩
  refine ⟨0, [], ⟨h.gm hd, ⟨fun i _ => ?_, fun i _ => ?_, fun v i e => ?_, fun e x k => (by cases k), fun v k => (by cases k), fun a => List.nodup_nil, ?_⟩, ?_, ⟨⟨by show (1 : Int) ≤ n; omega, by show (n : Int) ≤ _; omega⟩, by rw [hb]; exact b3⟩, List.nodup_nil, by show ((0 : Nat) : Int) ≤ n; omega, fun t => ?_, rfl, fun t => ?_, rfl, ⟨Int.le_refl _, Nat.le_refl _, Int.le_refl _, Nat.le_refl _⟩, by omega, fun v k => (by cases k), List.nodup_nil, fun e x k => (by cases k), ?_⟩⟩
  · exact (hq i).symm
  · funext x
    refine propext ⟨False.elim, fun k => ?_⟩
    have k1 := k.1
    unfold VS at k1
    split at k1
    · cases k1
    · rcases k1 with k1 | ⟨k1, k2⟩
      · rw [show (g00 n Bl.length).E = fun _ => none from rfl, hq] at k1
        obtain ⟨y, hy, _⟩ := k1
        exact hy
      · omega
  · exact ⟨fun k => (by cases k), fun ⟨x, _, k, _⟩ => (by cases k)⟩
  · show 1 ≤ Bl.length ∧ Bl.length ≤ 23
    omega
  · show Rest (fun _ => none) [] (n : Int) Bl.length
    rw [hb]
    exact Rest.bare [] b4
  · show Tk 0 [] t ↔ _
    exact ⟨fun k => by have := k.1; have := k.2.1; omega, fun k => by cases k⟩
  · show Tk 0 [] t ↔ _
    exact ⟨fun k => by have := k.1; have := k.2.1; omega, fun ⟨x, k⟩ => by cases k⟩
  · show 0 + 3 * potL _ _ [] ≤ _
    unfold potL; omega
/-- What a graph tells. -/
theorem ls_has (h : Ls p w F B g V sv lv T) (v : Int) (hb : B64 v) : Calls Tryz.prog 18 #[.pointer (some ⟨B, 0, none⟩), .int .i64 v] w fun e w' => e = .returned (.bool (decide (v ∈ V))) ∧ Below w.heap.size w w' := by
  obtain ⟨K, D, h⟩ := h
  refine (rhas_any h.gm h.gi.m.1 v hb).mono ?_
  rintro e w' ⟨⟨t, rfl, ht⟩, hb⟩
  rw [h.vp] at ht
  exact ⟨by congr 2; cases t with | true => exact (decide_eq_true (ht.1 rfl)).symm | false => exact (decide_eq_false fun k => by have := ht.2 k; cases this).symm, hb⟩
noncomputable def conN (E : EM) (V : List Int) (a b : Int) : Bool := @decide (a ∈ V ∧ b ∈ V ∧ Jn (Ae E) a b) (Classical.propDecidable _)
theorem conN_iff {E : EM} {V : List Int} {a b : Int} : conN E V a b = true ↔ a ∈ V ∧ b ∈ V ∧ Jn (Ae E) a b := by
  unfold conN
  exact @decide_eq_true_iff _ (Classical.propDecidable _)
theorem ls_conn (h : Ls p w F B g V sv lv T) (a b : Int) (ha : B64 a) (hb : B64 b) : Calls Tryz.prog 12 #[.pointer (some ⟨B, 0, none⟩), .int .i64 a, .int .i64 b] w fun e w' => e = .returned (.bool (conN g.E V a b)) ∧ Below w.heap.size w w' := by
  obtain ⟨K, D, h⟩ := h
  refine (rsame_any h.gm (by have := h.kb; omega) h.gi.m.1 a b ha hb).mono ?_
  rintro e w' ⟨⟨t, rfl, ht⟩, hb⟩
  rw [h.vp, h.vp, h.jq] at ht
  refine ⟨by congr 2; exact Bool.eq_iff_iff.2 (ht.trans conN_iff.symm), hb⟩
/-- Who is joined to v, in the order of V; none, if v is not there. -/
noncomputable def joinN (E : EM) (V : List Int) (v : Int) : List Int := if v ∈ V then V.filter fun u => @decide (Jn (Ae E) v u) (Classical.propDecidable _) else []
theorem joinN_mem {E : EM} {V : List Int} {v u : Int} : u ∈ joinN E V v ↔ v ∈ V ∧ u ∈ V ∧ Jn (Ae E) v u := by
  unfold joinN
  by_cases hv : v ∈ V
  · rw [if_pos hv, List.mem_filter]
    have := @decide_eq_true_iff (Jn (Ae E) v u) (Classical.propDecidable _)
    rw [this]
    exact ⟨fun k => ⟨hv, k⟩, fun k => k.2⟩
  · rw [if_neg hv]
    exact ⟨fun k => (by cases k), fun k => absurd k.1 hv⟩
theorem joinN_nd {E : EM} {V : List Int} {v : Int} (h : V.Nodup) : (joinN E V v).Nodup := by
  unfold joinN
  split
  · exact h.sublist List.filter_sublist
  · exact List.nodup_nil
theorem Lv.tree (h : Lv p w F B g K V sv lv D T) {v : Int} (hv : v ∈ V) {L : List Int} (ht : Tree (g.P 0) (g.Q 0) v L) : L.Perm (joinN g.E V v) := by
  refine (List.perm_ext_iff_of_nodup ht.nd (joinN_nd h.vnd)).2 fun u => ?_
  rw [ht.mem, h.vp, h.jq, joinN_mem]
  exact ⟨fun k => ⟨hv, k⟩, fun k => k.2⟩
theorem sumL_perm {f : Int → Int} {a b : List Int} (h : a.Perm b) : sumL f a = sumL f b := by
  induction h with
  | nil => rfl
  | cons x _ ih => show f x + sumL f _ = f x + sumL f _; rw [ih]
  | swap x y l => show f y + (f x + sumL f l) = f x + (f y + sumL f l); omega
  | trans _ _ ih1 ih2 => exact ih1.trans ih2
theorem minL_perm {f : Int → Int} {a b : List Int} (h : a.Perm b) : minL f a = minL f b := by
  induction h with
  | nil => rfl
  | cons x _ ih => show min (f x) (minL f _) = min (f x) (minL f _); rw [ih]
  | swap x y l => show min (f y) (min (f x) (minL f l)) = min (f x) (min (f y) (minL f l)); omega
  | trans _ _ ih1 ih2 => exact ih1.trans ih2
theorem ls_size (h : Ls p w F B g V sv lv T) (v : Int) (hb : B64 v) : Calls Tryz.prog 13 #[.pointer (some ⟨B, 0, none⟩), .int .i64 v] w fun e w' => e = .returned (.int .i64 (joinN g.E V v).length) ∧ Below w.heap.size w w' := by
  obtain ⟨K, D, h⟩ := h
  refine (rsize_any h.gm (by have := h.kb; omega) h.gi.m.1 v hb).mono ?_
  rintro e w' ⟨⟨n, rfl, ⟨h1, h2⟩, _⟩, hb⟩
  rw [h.vp] at h1 h2
  refine ⟨?_, hb⟩
  by_cases hv : v ∈ V
  · obtain ⟨L, k1, rfl⟩ := h2 hv
    rw [(h.tree hv k1).length_eq]
  · rw [h1 hv]; unfold joinN; rw [if_neg hv]; rfl
theorem Lv.vals (h : Lv p w F B g K V sv lv D T) : ∀ x, g.P 0 x → x.s = sv x.v ∧ x.l = lv x.v := fun x hx => by
  rw [h.gi.p 0 h.gi.m.1] at hx
  have := hx.2
  unfold sv0 at this
  rw [if_pos rfl, if_pos rfl] at this
  exact ⟨this.1, this.2.1⟩
def sumN' (sv : Int → Int) (L : List Int) : Int := if L = [] then 0 else wr (sumL sv L)
def minN' (lv : Int → Int) (L : List Int) : Int := if L = [] then -1 else minL lv L
theorem joinN_self {E : EM} {V : List Int} {v : Int} (hv : v ∈ V) : joinN E V v ≠ [] := fun k => by
  have : v ∈ joinN E V v := joinN_mem.2 ⟨hv, hv, Jn.refl v⟩
  rw [k] at this; cases this
theorem ls_sum (h : Ls p w F B g V sv lv T) (v : Int) (hb : B64 v) : Calls Tryz.prog 14 #[.pointer (some ⟨B, 0, none⟩), .int .i64 v] w fun e w' => e = .returned (.int .i64 (sumN' sv (joinN g.E V v))) ∧ Below w.heap.size w w' := by
  obtain ⟨K, D, h⟩ := h
  refine (rsum_any h.gm (by have := h.kb; omega) h.gi.m.1 v hb h.vals).mono ?_
  rintro e w' ⟨⟨n, rfl, h1, h2⟩, hb⟩
  rw [h.vp] at h1 h2
  refine ⟨?_, hb⟩
  by_cases hv : v ∈ V
  · obtain ⟨L, k1, rfl⟩ := h2 hv
    unfold sumN'
    rw [if_neg (joinN_self hv), sumL_perm (h.tree hv k1)]
  · rw [h1 hv]; unfold joinN sumN'; rw [if_neg hv, if_pos rfl]
theorem ls_least (h : Ls p w F B g V sv lv T) (v : Int) (hb : B64 v) : Calls Tryz.prog 15 #[.pointer (some ⟨B, 0, none⟩), .int .i64 v] w fun e w' => e = .returned (.int .i64 (minN' lv (joinN g.E V v))) ∧ Below w.heap.size w w' := by
  obtain ⟨K, D, h⟩ := h
  refine (rleast_any h.gm (by have := h.kb; omega) h.gi.m.1 v hb h.vals).mono ?_
  rintro e w' ⟨⟨n, rfl, h1, h2⟩, hb⟩
  rw [h.vp] at h1 h2
  refine ⟨?_, hb⟩
  by_cases hv : v ∈ V
  · obtain ⟨L, k1, rfl⟩ := h2 hv
    unfold minN'
    rw [if_neg (joinN_self hv), minL_perm (h.tree hv k1)]
  · rw [h1 hv]; unfold joinN minN'; rw [if_neg hv, if_pos rfl]
end
end Go.Proofs.YtcbgeahcnjamdabGreat
