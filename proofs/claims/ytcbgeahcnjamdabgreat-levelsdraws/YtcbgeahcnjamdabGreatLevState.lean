/- Layer 10, plain: a graph between two calls, and what a vertex more, an edge more, a vertex less make of what it knows. -/
import Derived.Test.YtcbgeahcnjamdabGreatLevIns
namespace Go.Proofs.YtcbgeahcnjamdabGreat
open Go.RowKit
set_option linter.unusedVariables false

def eg00 : Eg := ⟨0, 0, 0, false⟩
def noS : Int → Prop := fun _ => False
section
variable {g : Gs} {on : Int → Prop} {sv lv : Int → Int} {S : Int → Prop} {go : Eg} {gl : Int}
/-- Whoever has no edge may be passed over. -/
theorem Gi.wide (h : Gi g on sv lv S go gl) {e : Int} (he : g.E e = none) : Gi g on sv lv (fun k => S k ∨ k = e) go gl := by
  have key : ∀ f (y : Eg), (¬ S f ∧ g.E f = some y) ↔ (¬ (S f ∨ f = e) ∧ g.E f = some y) := fun f y =>
    ⟨fun ⟨k1, k2⟩ => ⟨fun k => k.elim k1 (fun k => by subst k; rw [he] at k2; cases k2), k2⟩, fun ⟨k1, k2⟩ => ⟨fun k => k1 (.inl k), k2⟩⟩
  have hQ : ∀ j : Int, Qd g.E S j = Qd g.E (fun k => S k ∨ k = e) j := fun j => qd_ext fun f y _ _ => key f y
  refine ⟨fun j hj => (h.q j hj).trans (hQ j), fun j hj => ?_, fun v j f => ?_, h.eb, h.ob, h.nd, h.m⟩
  · refine (h.p j hj).trans ?_
    rw [vs_ext (fun j _ => hQ j) j]
  · rw [h.lo]
    exact ⟨fun ⟨y, k1, k2, k3⟩ => ⟨y, ((key f y).1 ⟨k1, k2⟩).1, k2, k3⟩, fun ⟨y, k1, k2, k3⟩ => ⟨y, ((key f y).2 ⟨k1, k2⟩).1, k2, k3⟩⟩
/-- Of the vertices that are there alone the sums and ranks count. -/
theorem Gi.vals (h : Gi g on sv lv S go gl) {on' : Int → Prop} {sv' lv' : Int → Int} (ho : ∀ v, on v ↔ on' v) (hv : ∀ v, on v → sv v = sv' v ∧ lv v = lv' v) : Gi g on' sv' lv' S go gl := by
  obtain rfl : on = on' := funext fun v => propext (ho v)
  refine ⟨h.q, fun j hj => ?_, h.lo, h.eb, h.ob, h.nd, h.m⟩
  rw [h.p j hj]
  refine pf_ext (fun _ => Iff.rfl) (fun v hV => ?_) (fun _ _ => rfl)
  unfold sv0
  by_cases h0 : j = 0
  · rw [if_pos h0, if_pos h0, if_pos h0, if_pos h0]
    unfold VS at hV
    rw [if_pos h0] at hV
    exact hv v hV
  · rw [if_neg h0, if_neg h0, if_neg h0, if_neg h0]; exact ⟨rfl, rfl⟩
/-- No loose edge stands where there is no vertex. -/
theorem Gi.bare (h : Gi g on sv lv S go gl) {v : Int} (hv : ¬ on v) (i : Int) : g.s.L (v, i) = [] := by
  refine List.eq_nil_iff_forall_not_mem.2 fun f hf => ?_
  obtain ⟨y, _, k2, _, _, k5⟩ := (h.lo v i f).1 hf
  have := h.eb f y k2
  rcases k5 with k5 | k5
  · exact hv (k5 ▸ this.2.2.1)
  · exact hv (k5 ▸ this.2.2.2.1)
def vertG (g : Gs) (vl : Int) (vb : List Int) (r s l : Int) : Gs := (g.setV vl vb).setF 0 (addP (g.P 0) r s l) (g.Q 0)
/-- A vertex more. -/
theorem Gi.vertG (h : Gi g on sv lv S go gl) {r : Int} (hr : ¬ on r) (hb : 1 ≤ r ∧ r ≤ 1000000) (s l : Int) (vl : Int) (vb : List Int) : Gi (vertG g vl vb r s l) (fun v => on v ∨ v = r) (updI sv r s) (updI lv r l) S go gl := by
  have e0 : mkS g.s ((0 : Nat) : Int) r = 0 := by unfold mkS; rw [if_pos (h.bare hr _)]
  have p0 := h.p 0 h.m.1
  refine ⟨fun j hj => ?_, fun j hj => ?_, h.lo, fun e x he => ?_, fun v hv => hv.elim (h.ob v) (fun k => k ▸ hb), h.nd, h.m⟩
  · show updF g.Q 0 (g.Q 0) j = _
    by_cases e : j = 0
    · subst e; rw [updF_at]; exact h.q 0 hj
    · rw [updF_ne e]; exact h.q j hj
  · show updF g.P 0 (addP (g.P 0) r s l) j = _
    by_cases e : j = 0
    · subst e
      rw [updF_at, p0, addP_pf_new (show ¬ VS on g.E S go gl 0 r by unfold VS; rw [if_pos rfl]; exact hr) e0]
      refine pf_ext (fun v => ?_) (fun v _ => ⟨?_, ?_⟩) (fun _ _ => rfl)
      · unfold VS; rw [if_pos rfl, if_pos rfl]
      · unfold sv0; rw [if_pos rfl, if_pos rfl]
      · unfold sv0; rw [if_pos rfl, if_pos rfl]
    · rw [updF_ne e, h.p j hj]
      refine pf_ext (fun v => ?_) (fun v _ => ⟨?_, ?_⟩) (fun _ _ => rfl)
      · unfold VS; rw [if_neg e, if_neg e]; exact Iff.rfl
      · unfold sv0; rw [if_neg e, if_neg e]
      · unfold sv0; rw [if_neg e, if_neg e]
  · obtain ⟨a, b, c, d, f⟩ := h.eb e x he
    exact ⟨a, b, .inl c, .inl d, f⟩
def dropG (g : Gs) (vl : Int) (vb : List Int) (r : Int) : Gs := (g.setF 0 (dropP (g.P 0) (g.Q 0) r) (g.Q 0)).setV vl vb
/-- A vertex less, that has no edges. -/
theorem Gi.dropG (h : Gi g on sv lv S go gl) {r : Int} (hq : ¬ Hase (g.Q 0) r) (hne : ∀ e x, g.E e = some x → x.a ≠ r ∧ x.b ≠ r) (vl : Int) (vb : List Int) : Gi (dropG g vl vb r) (fun v => on v ∧ v ≠ r) sv lv S go gl := by
  have p0 := h.p 0 h.m.1
  refine ⟨fun j hj => ?_, fun j hj => ?_, h.lo, fun e x he => ?_, fun v hv => h.ob v hv.1, h.nd, h.m⟩
  · show updF g.Q 0 (g.Q 0) j = _
    by_cases e : j = 0
    · subst e; rw [updF_at]; exact h.q 0 hj
    · rw [updF_ne e]; exact h.q j hj
  · show updF g.P 0 (dropP (g.P 0) (g.Q 0) r) j = _
    by_cases e : j = 0
    · subst e
      rw [updF_at, p0, dropP_pf]
      refine pf_ext (fun v => ?_) (fun v _ => ⟨rfl, rfl⟩) (fun _ _ => rfl)
      unfold VS; rw [if_pos rfl, if_pos rfl]
      exact ⟨fun k => ⟨k.1, k.2.elim id (fun k => absurd k hq)⟩, fun k => ⟨k.1, .inl k.2⟩⟩
    · rw [updF_ne e, h.p j hj]
      refine pf_ext (fun v => ?_) (fun v _ => ⟨rfl, rfl⟩) (fun _ _ => rfl)
      unfold VS; rw [if_neg e, if_neg e]; exact Iff.rfl
  · obtain ⟨a, b, c, d, f⟩ := h.eb e x he
    exact ⟨a, b, ⟨c, (hne e x he).1⟩, ⟨d, (hne e x he).2⟩, f⟩
/-- Whoever has an edge has a tree edge. -/
theorem Gi.hase (h : Gi g on sv lv noS go gl) {V : List Int} {n : Int} {m : Nat} (hr : Rest g.E V n m) {v e : Int} {x : Eg} (he : g.E e = some x) (hv : x.a = v ∨ x.b = v) : Hase (g.Q 0) v := by
  rw [h.q 0 h.m.1, qd_hase]
  have hl := (hr.l0 e x he).1
  cases ht : x.t with
  | true => exact ⟨e, x, fun k => k, he, ht, hl, hv⟩
  | false =>
    have hj := (hr.b e x (fun k => k) he ht).low hl
    have hne := (hr.v e x he).1
    have key : ∀ {a b : Int}, Jn (Te g.E noS 0) a b → a ≠ b → (∃ e x, ¬ noS e ∧ g.E e = some x ∧ x.t = true ∧ ((0 : Nat) : Int) ≤ x.l ∧ (x.a = b ∨ x.b = b)) := fun {a b} k hn => by
      cases k with
      | refl => exact absurd rfl hn
      | step k e =>
        rcases e with ⟨f, y, q1, q2, q3, q4, q5, q6⟩ | ⟨f, y, q1, q2, q3, q4, q5, q6⟩
        · exact ⟨f, y, q1, q2, q3, q4, .inr q6⟩
        · exact ⟨f, y, q1, q2, q3, q4, .inl q5⟩
    rcases hv with rfl | rfl
    · exact key hj.symm (Ne.symm hne)
    · exact key hj hne
end
section
variable {E : EM} {V : List Int} {n : Int} {m : Nat}
theorem Rest.verts (h : Rest E V n m) {V' : List Int} (hv : ∀ e x, E e = some x → x.a ∈ V' ∧ x.b ∈ V') : Rest E V' n m := ⟨h.acy, h.sz, h.b, h.l0, fun e x he => ⟨(h.v e x he).1, hv e x he⟩⟩
/-- A graph without edges. -/
theorem Rest.bare (V : List Int) (hn : ∀ i : Nat, i < m → (2 : Int) ^ i ≤ n) : Rest (fun _ => Option.none) V n m := by
  refine ⟨fun e x _ h => (by cases h), fun i hi v T d1 d2 => ?_, fun e x _ h => (by cases h), fun e x h => (by cases h), fun e x h => (by cases h)⟩
  have : T.length ≤ 1 := by
    have := d1.length_le_of_subset (l₂ := [v]) (fun u hu => by
      have k := d2 u hu
      have hz : ∀ {a b : Int}, Jn (Te (fun _ => Option.none) (fun _ => False) (i : Int)) a b → b = a := fun {a b} k => by
        induction k with
        | refl => rfl
        | step _ e _ => rcases e with ⟨f, y, _, q2, _⟩ | ⟨f, y, _, q2, _⟩ <;> cases q2
      simp [hz k])
    simpa using this
  have h2 := hn i hi
  have h3 := two_pow_pos i
  rcases Nat.lt_or_ge T.length 1 with h | h
  · have : T.length = 0 := by omega
    rw [this]; simp; omega
  · have : T.length = 1 := by omega
    rw [this]; simpa using h2
/-- A loose edge is put in. -/
theorem Rest.insLoose (h : Rest E V n m) (hm : 1 ≤ m) {e a b : Int} (he : E e = .none) (ha : a ∈ V) (hb : b ∈ V) (hab : a ≠ b) (hj : Jn (Te E (fun _ => False) 0) a b) : Rest (updQ E e (some ⟨a, b, 0, false⟩)) V n m := by
  have old : ∀ f y, updQ E e (some (⟨a, b, 0, false⟩ : Eg)) f = some y → (f = e ∧ y = ⟨a, b, 0, false⟩) ∨ (f ≠ e ∧ E f = some y) := fun f y hy => by
    by_cases ef : f = e
    · subst ef; rw [updQ_at] at hy; cases hy; exact .inl ⟨rfl, rfl⟩
    · rw [updQ_ne ef] at hy; exact .inr ⟨ef, hy⟩
  refine Rest.loose h.acy h.sz (fun f y ht => ?_) (fun f y hy ht => ?_) (fun f y hy => ?_) (fun f y hy => ?_)
  · constructor
    · rintro ⟨_, k⟩
      by_cases ef : f = e
      · subst ef; rw [he] at k; cases k
      · rw [updQ_ne ef]; exact k
    · intro k
      rcases old f y k with ⟨rfl, rfl⟩ | ⟨_, k⟩
      · cases ht
      · exact ⟨fun k => k, k⟩
  · rcases old f y hy with ⟨rfl, rfl⟩ | ⟨_, k⟩
    · exact hj
    · exact h.b f y (fun k => k) k ht
  · rcases old f y hy with ⟨rfl, rfl⟩ | ⟨_, k⟩
    · exact ⟨Int.le_refl _, by show (0 : Int) < m; omega⟩
    · exact h.l0 f y k
  · rcases old f y hy with ⟨rfl, rfl⟩ | ⟨_, k⟩
    · exact ⟨hab, ha, hb⟩
    · exact h.v f y k
/-- A loose edge goes. -/
theorem Rest.outLoose (h : Rest E V n m) {e : Int} {x : Eg} (he : E e = some x) (ht : x.t = false) : Rest (updQ E e Option.none) V n m := by
  have old : ∀ f y, updQ E e Option.none f = some y → f ≠ e ∧ E f = some y := fun f y hy => by
    by_cases ef : f = e
    · subst ef; rw [updQ_at] at hy; cases hy
    · rw [updQ_ne ef] at hy; exact ⟨ef, hy⟩
  refine Rest.loose h.acy h.sz (fun f y hf => ?_) (fun f y hy hf => h.b f y (fun k => k) (old f y hy).2 hf) (fun f y hy => h.l0 f y (old f y hy).2) (fun f y hy => h.v f y (old f y hy).2)
  constructor
  · rintro ⟨_, k⟩
    by_cases ef : f = e
    · subst ef; rw [he] at k; cases k; rw [ht] at hf; cases hf
    · rw [updQ_ne ef]; exact k
  · intro k; exact ⟨fun k => k, (old f y k).2⟩
/-- A tree edge goes, behind a search. -/
theorem Rest.outTree {e : Int} (ha : Acy E (fun k => k = e)) (hs : Sz E (fun k => k = e) n m) (hb : Bb E (fun k => k = e)) (hl : ∀ e x, E e = some x → 0 ≤ x.l ∧ x.l < m) (hv : ∀ e x, E e = some x → x.a ≠ x.b ∧ x.a ∈ V ∧ x.b ∈ V) : Rest (updQ E e Option.none) V n m := by
  have old : ∀ f y, updQ E e Option.none f = some y ↔ f ≠ e ∧ E f = some y := fun f y => by
    by_cases ef : f = e
    · subst ef; rw [updQ_at]; simp
    · rw [updQ_ne ef]; simp [ef]
  refine Rest.loose ha hs (fun f y hf => ((old f y)).symm) (fun f y hy hf => ?_) (fun f y hy => hl f y ((old f y).1 hy).2) (fun f y hy => hv f y ((old f y).1 hy).2)
  have := (old f y).1 hy
  exact hb f y this.1 this.2 hf
end
theorem potL_none {E : EM} {m : Nat} {e : Int} : ∀ {D : List Int}, E e = none → potL E m (D.erase e) = potL E m D := by
  intro D he
  induction D with
  | nil => rfl
  | cons f D ih =>
    by_cases h : f = e
    · subst h
      rw [List.erase_cons_head]
      show _ = (match E f with | some x => m - x.l.toNat | none => 0) + potL E m D
      rw [he]; simp
    · rw [List.erase_cons_tail (by simpa using h)]
      show _ + potL E m (D.erase e) = _ + potL E m D
      rw [ih]
theorem potL_out {E : EM} {m : Nat} (e : Int) (D : List Int) : potL (updQ E e none) m D ≤ potL E m D := by
  induction D with
  | nil => exact Nat.le_refl _
  | cons f D ih =>
    have : (match updQ E e none f with | some x => m - x.l.toNat | none => 0) ≤ (match E f with | some x => m - x.l.toNat | none => 0) := by
      by_cases h : f = e
      · subst h; rw [updQ_at]; exact Nat.zero_le _
      · rw [updQ_ne h]; exact Nat.le_refl _
    exact Nat.add_le_add this ih
theorem potL_ins {E : EM} {m : Nat} {e : Int} {x : Eg} {D : List Int} (hD : D.Nodup) (he : E e = none) : potL (updQ E e (some x)) m (e :: D.erase e) ≤ potL E m D + m := by
  have h1 : potL (updQ E e (some x)) m (D.erase e) = potL E m (D.erase e) := potL_congr fun f hf => by
    have : f ≠ e := fun k => by subst k; exact (List.Nodup.not_mem_erase hD) hf
    rw [updQ_ne this]
  show (match updQ E e (some x) e with | some x => m - x.l.toNat | none => 0) + potL (updQ E e (some x)) m (D.erase e) ≤ _
  rw [h1, potL_none he, updQ_at]
  show m - x.l.toNat + _ ≤ _
  omega
end Go.Proofs.YtcbgeahcnjamdabGreat
