/- Layer 7 (tour), plain: who is in one tree, told by its edges; what a tree has, told by its vertices. -/
import Derived.Test.YtcbgeahcnjamdabGreatTourOrderPlain
namespace Go.Proofs.YtcbgeahcnjamdabGreat
open Go.RowKit
set_option linter.unusedVariables false

/-- An edge leads from x to y. -/
def Ed (t : To) (x y : Int) : Prop := ∃ n, isA t.e n = true ∧ (t.edge n).a = x ∧ (t.edge n).b = y
theorem Conn.jn {t : To} {a b : Int} (h : Conn (tE t) a b) : Jn (Ed t) a b := by
  induction h with
  | refl => exact Jn.refl _
  | step _ he ih =>
    obtain ⟨n, hn, hc⟩ := he
    rcases hc with ⟨h1, h2, _, _⟩ | ⟨h1, h2, _, _⟩
    · exact .step ih (.inl ⟨n, hn, h1, h2⟩)
    · exact .step ih (.inr ⟨n, hn, h2, h1⟩)
/-- Both ends of an edge, and its items, are of one tree. -/
theorem Eu.ends {t : To} (hB : Tb t) (h : Eu t) {n : Int} (hn : isA t.e n = true) : isA t.v (t.edge n).a = true ∧ isA t.v (t.edge n).b = true ∧ t.item (t.edge n).a ∈ t.s.S (t.edge n).x ∧ t.item (t.edge n).b ∈ t.s.S (t.edge n).x ∧ (t.edge n).y ∈ t.s.S (t.edge n).x := by
  obtain ⟨hSx, hSy, px, py, hxy, _, _⟩ := h.ev n hn
  obtain ⟨r, hr⟩ := h.tq _ hSx
  have hx := hB.fam.mem _ hSx
  have hroot : ∃ i, i ∈ t.s.S (t.edge n).x ∧ tI t r i := by
    obtain ⟨i, P, Q, hi, _, _, e⟩ := hr.opened
    exact ⟨i, by rw [e]; simp, hi⟩
  rcases hr.items _ hx with ⟨u, hu⟩ | ⟨a, c, x, y, hE, hz, mx, my, ha, hc⟩
  · exact absurd hu (h.apart (v := u) ⟨n, hn, .inl ⟨rfl, rfl, rfl, rfl⟩⟩).1
  · have ha' : ∃ i, i ∈ t.s.S (t.edge n).x ∧ tI t a i := by
      rcases ha with rfl | ⟨i, hi, hI⟩
      · exact hroot
      · exact ⟨i, hi, hI⟩
    obtain ⟨i, mi, hi⟩ := ha'
    obtain ⟨j, mj, hj⟩ := hc
    obtain ⟨m, hm, hcm⟩ := hE
    obtain ⟨_, _, qx, qy, _⟩ := h.ev m hm
    have hmn : m = n := by
      have key : t.p (t.edge n).x = (0, m) := by
        rcases hcm with ⟨_, _, e3, e4⟩ | ⟨_, _, e3, e4⟩ <;> rcases hz with e | e
        · rw [e, ← e3]; exact qx
        · rw [e, ← e4]; exact qy
        · rw [e, ← e3]; exact qy
        · rw [e, ← e4]; exact qx
      rw [px] at key
      exact (congrArg Prod.snd key).symm
    subst hmn
    rcases hcm with ⟨e1, e2, e3, e4⟩ | ⟨e1, e2, e3, e4⟩
    · rw [e1, e2, e4]
      exact ⟨hi.1, hj.1, by rw [hi.2]; exact mi, by rw [hj.2]; exact mj, my⟩
    · rw [e1, e2, e3]
      exact ⟨hj.1, hi.1, by rw [hj.2]; exact mj, by rw [hi.2]; exact mi, mx⟩
/-- Two vertices are in one tree if edges join them. -/
theorem Eu.joined {t : To} (hB : Tb t) (h : Eu t) {v u : Int} (hv : isA t.v v = true) (hu : isA t.v u = true) : t.same v u = true ↔ Jn (Ed t) v u := by
  constructor
  · intro hs
    rw [To.same_iff] at hs
    obtain ⟨r, hr⟩ := h.tq _ (h.iv v hv).1
    have c := hr.conn (fun v u i a b => h.one a b) (fun v a c x y hE => h.apart hE)
    have c1 := c v _ (hB.fam.mem _ (h.iv v hv).1) ⟨hv, rfl⟩
    have c2 := c u _ hs ⟨hu, rfl⟩
    exact ((c1.symm (tE_symm t)).trans c2).jn
  · intro hj
    have key : ∀ a b, Jn (Ed t) a b → isA t.v a = true → t.s.S (t.item a) = t.s.S (t.item b) ∧ isA t.v b = true := fun a b hj => by
      induction hj with
      | refl => exact fun ha => ⟨rfl, ha⟩
      | step _ e ih =>
        intro ha
        obtain ⟨i1, i2⟩ := ih ha
        rcases e with ⟨n, hn, rfl, rfl⟩ | ⟨n, hn, rfl, rfl⟩
        · obtain ⟨h1, h2, h3, h4, _⟩ := h.ends hB hn
          exact ⟨i1.trans ((hB.fam.same _ _ h3).trans (hB.fam.same _ _ h4).symm), h2⟩
        · obtain ⟨h1, h2, h3, h4, _⟩ := h.ends hB hn
          exact ⟨i1.trans ((hB.fam.same _ _ h4).trans (hB.fam.same _ _ h3).symm), h1⟩
    exact (same_cl hB h hu).2 (key v u hj hv).1
/-- A link's edges, a cut's edges. -/
theorem Ed.link {t : To} (h : Eu t) {a b x y : Int} : Ed (t.link a b) x y ↔ Ed t x y ∨ (x = a ∧ y = b) := by
  have hf := h.ek.rng
  have e1 : ∀ n, isA (t.link a b).e n = if n = t.newE then true else isA t.e n := fun n => isA_tkL hf _ n
  have e2 : ∀ n, 1 ≤ n → (t.link a b).edge n = if n = t.newE then ⟨a, b, t.newX, t.newY⟩ else t.edge n := fun n hn => atA_tkL hf zeE _ hn
  have hnb := tkI_bd hf
  constructor
  · rintro ⟨n, hn, rfl, rfl⟩
    rw [e1] at hn
    by_cases e : n = t.newE
    · rw [e2 n (by rw [e]; exact hnb.1), if_pos e]; exact .inr ⟨rfl, rfl⟩
    · rw [if_neg e] at hn
      rw [e2 n (isA_bd hn).1, if_neg e]
      exact .inl ⟨n, hn, rfl, rfl⟩
  · rintro (⟨n, hn, rfl, rfl⟩ | ⟨rfl, rfl⟩)
    · have hne : n ≠ t.newE := fun e => by have := h.ek.new; rw [e] at hn; rw [show isA t.e t.newE = false from this] at hn; cases hn
      exact ⟨n, by rw [e1, if_neg hne]; exact hn, by rw [e2 n (isA_bd hn).1, if_neg hne], by rw [e2 n (isA_bd hn).1, if_neg hne]⟩
    · exact ⟨t.newE, by rw [e1, if_pos rfl], by rw [e2 t.newE hnb.1, if_pos rfl], by rw [e2 t.newE hnb.1, if_pos rfl]⟩
theorem Ed.cut {t : To} {n x y : Int} (hn : isA t.e n = true) : Ed (t.cutE n) x y ↔ ∃ m, m ≠ n ∧ isA t.e m = true ∧ (t.edge m).a = x ∧ (t.edge m).b = y := by
  have e0 : (t.cutE n).e = frL zeE t.e n := by rw [To.cutE_eq]
  have e1 : ∀ m, isA (t.cutE n).e m = if m = n then false else isA t.e m := fun m => by rw [e0]; exact isA_frL zeE hn m
  have e2 : ∀ m, 1 ≤ m → (t.cutE n).edge m = if m = n then zeE else t.edge m := fun m hm => by unfold To.edge; rw [e0]; exact atA_frL zeE hn hm
  constructor
  · rintro ⟨m, hm, rfl, rfl⟩
    rw [e1] at hm
    by_cases e : m = n
    · rw [if_pos e] at hm; cases hm
    · rw [if_neg e] at hm
      rw [e2 m (isA_bd hm).1, if_neg e]
      exact ⟨m, e, hm, rfl, rfl⟩
  · rintro ⟨m, hne, hm, rfl, rfl⟩
    exact ⟨m, by rw [e1, if_neg hne]; exact hm, by rw [e2 m (isA_bd hm).1, if_neg hne], by rw [e2 m (isA_bd hm).1, if_neg hne]⟩

theorem sumN_nil (n : Nat) : sumN (fun _ => 0) n = 0 := by
  induction n with
  | zero => rfl
  | succ n ih => show sumN (fun _ => 0) n + 0 = 0; rw [ih]; rfl
theorem minN_nil (n : Nat) : minN (fun _ => 4611686018427387904) n = 4611686018427387904 := by
  induction n with
  | zero => rfl
  | succ n ih => show min (minN (fun _ => 4611686018427387904) n) 4611686018427387904 = _; rw [ih]; omega
theorem minN_top (f : Int → Int) (n : Nat) : minN f n ≤ 4611686018427387904 := by
  induction n with
  | zero => exact Int.le_refl _
  | succ n ih => show min (minN f n) _ ≤ _; omega
theorem minN_pick {n : Nat} {m c : Int} (hc : c ≤ 4611686018427387904) (hm : 1 ≤ m ∧ m ≤ (n : Int)) : minN (fun v => if v = m then c else 4611686018427387904) n = c := by
  induction n with
  | zero => omega
  | succ n ih =>
    show min (minN (fun v => if v = m then c else 4611686018427387904) n) (if ((n : Int) + 1) = m then c else 4611686018427387904) = c
    by_cases e : (n : Int) + 1 = m
    · rw [if_pos e]
      have : minN (fun v => if v = m then c else 4611686018427387904) n = 4611686018427387904 := (minN_congr fun u hu => if_neg (by omega)).trans (minN_nil n)
      omega
    · rw [if_neg e, ih (by omega)]; omega
section
variable {g : Int → Int} {it : Int → Int} {n : Nat}
/-- A sum over a list, item by item, is one over the vertices whose items are in it. -/
theorem over_sum {h : List Int → Int} (h0 : h [] = 0) (h1 : ∀ a l, h (a :: l) = g a + h l) (inj : ∀ u v, 1 ≤ u ∧ u ≤ (n : Int) → 1 ≤ v ∧ v ≤ (n : Int) → it u = it v → u = v) {L : List Int} (hL : L.Nodup)
    (hz : ∀ z ∈ L, (∃ u, (1 ≤ u ∧ u ≤ (n : Int)) ∧ it u = z) ∨ ((∀ u, 1 ≤ u ∧ u ≤ (n : Int) → it u ≠ z) ∧ g z = 0)) : h L = sumN (fun u => if it u ∈ L then g (it u) else 0) n := by
  induction L with
  | nil =>
    exact h0.trans ((sumN_nil n).symm.trans (sumN_congr fun u _ => by simp))
  | cons a L ih =>
    obtain ⟨haL, hL'⟩ := List.nodup_cons.1 hL
    rw [h1, ih hL' (fun z hz' => hz z (by simp [hz']))]
    rcases hz a (by simp) with ⟨m, hm, rfl⟩ | ⟨hn, h0⟩
    · rw [← sumN_pick (n := n) (m := m) (c := g (it m)) hm, sumN_add]
      refine sumN_congr fun u hu => ?_
      by_cases e : u = m
      · subst e; rw [if_pos rfl, if_neg haL, if_pos (by simp)]; omega
      · have hm2 : it u ∈ it m :: L ↔ it u ∈ L := by
          rw [List.mem_cons]; exact ⟨fun h => h.elim (fun h => absurd (inj u m hu hm h) e) id, .inr⟩
        rw [if_neg e]
        by_cases h2 : it u ∈ L
        · rw [if_pos h2, if_pos (hm2.2 h2)]; omega
        · rw [if_neg h2, if_neg (fun h => h2 (hm2.1 h))]; omega
    · rw [h0, Int.zero_add]
      refine sumN_congr fun u hu => ?_
      have hm2 : it u ∈ a :: L ↔ it u ∈ L := by
        rw [List.mem_cons]; exact ⟨fun h => h.elim (fun h => absurd h (hn u hu)) id, .inr⟩
      by_cases h2 : it u ∈ L
      · rw [if_pos h2, if_pos (hm2.2 h2)]
      · rw [if_neg h2, if_neg (fun h => h2 (hm2.1 h))]
theorem over_min {h : List Int → Int} (h0 : h [] = 4611686018427387904) (h1 : ∀ a l, h (a :: l) = min (g a) (h l)) (inj : ∀ u v, 1 ≤ u ∧ u ≤ (n : Int) → 1 ≤ v ∧ v ≤ (n : Int) → it u = it v → u = v) {L : List Int} (hL : L.Nodup) (hg : ∀ z ∈ L, g z ≤ 4611686018427387904)
    (hz : ∀ z ∈ L, (∃ u, (1 ≤ u ∧ u ≤ (n : Int)) ∧ it u = z) ∨ ((∀ u, 1 ≤ u ∧ u ≤ (n : Int) → it u ≠ z) ∧ g z = 4611686018427387904)) : h L = minN (fun u => if it u ∈ L then g (it u) else 4611686018427387904) n := by
  induction L with
  | nil =>
    exact h0.trans ((minN_nil n).symm.trans (minN_congr fun u _ => by simp))
  | cons a L ih =>
    obtain ⟨haL, hL'⟩ := List.nodup_cons.1 hL
    have hga := hg a (by simp)
    rw [h1, ih hL' (fun z hz' => hg z (by simp [hz'])) (fun z hz' => hz z (by simp [hz']))]
    rcases hz a (by simp) with ⟨m, hm, rfl⟩ | ⟨hn, h0⟩
    · rw [← minN_pick (n := n) (m := m) (c := g (it m)) hga hm, minN_min]
      refine minN_congr fun u hu => ?_
      by_cases e : u = m
      · subst e; rw [if_pos rfl, if_neg haL, if_pos (by simp)]; omega
      · have hm2 : it u ∈ it m :: L ↔ it u ∈ L := by
          rw [List.mem_cons]; exact ⟨fun h => h.elim (fun h => absurd (inj u m hu hm h) e) id, .inr⟩
        rw [if_neg e]
        by_cases h2 : it u ∈ L
        · have := hg (it u) (by simp [h2]); rw [if_pos h2, if_pos (hm2.2 h2)]; omega
        · rw [if_neg h2, if_neg (fun h => h2 (hm2.1 h))]; omega
    · rw [h0]
      have hT := minN_top (fun u => if it u ∈ L then g (it u) else 4611686018427387904) n
      rw [Int.min_eq_right hT]
      refine minN_congr fun u hu => ?_
      have hm2 : it u ∈ a :: L ↔ it u ∈ L := by
        rw [List.mem_cons]; exact ⟨fun h => h.elim (fun h => absurd h (hn u hu)) id, .inr⟩
      by_cases h2 : it u ∈ L
      · rw [if_pos h2, if_pos (hm2.2 h2)]
      · rw [if_neg h2, if_neg (fun h => h2 (hm2.1 h))]
end
/-- A forest of the vertices 1 to n that count p, of rank q. -/
structure Vn (n : Nat) (p q : Int → Int) (t : To) : Prop where
  eu : Eu t
  va : ∀ v, isA t.v v = true ↔ 1 ≤ v ∧ v ≤ (n : Int)
  vs : ∀ v, 1 ≤ v ∧ v ≤ (n : Int) → (t.s.V (t.item v)).s = p v ∧ (t.s.V (t.item v)).l = q v
/-- What a tree has is what its vertices have. -/
theorem Vn.has {n : Nat} {p q : Int → Int} {t : To} (hB : Tb t) (h : Vn n p q t) (hq : ∀ v, 1 ≤ v ∧ v ≤ (n : Int) → q v ≤ 4611686018427387904) {v : Int} (hv : 1 ≤ v ∧ v ≤ (n : Int)) :
    cS t.s.V (t.s.S (t.item v)) = sumN (fun u => if t.same v u = true then 1 else 0) n ∧ sS t.s.V (t.s.S (t.item v)) = sumN (fun u => if t.same v u = true then p u else 0) n ∧ lS t.s.V (t.s.S (t.item v)) = minN (fun u => if t.same v u = true then q u else 4611686018427387904) n := by
  have vA := (h.va v).2 hv
  have inj : ∀ u v, 1 ≤ u ∧ u ≤ (n : Int) → 1 ≤ v ∧ v ≤ (n : Int) → t.item u = t.item v → u = v := fun u v hu hv e => h.eu.one (i := t.item v) ⟨(h.va u).2 hu, e⟩ ⟨(h.va v).2 hv, rfl⟩
  have hnd := hB.fam.nodup (t.item v)
  obtain ⟨r, hr⟩ := h.eu.tq _ (h.eu.iv v vA).1
  have hz : ∀ z ∈ t.s.S (t.item v), (∃ u, (1 ≤ u ∧ u ≤ (n : Int)) ∧ t.item u = z) ∨ ((∀ u, 1 ≤ u ∧ u ≤ (n : Int) → t.item u ≠ z) ∧ (t.s.V z).c = 0 ∧ (t.s.V z).s = 0 ∧ (t.s.V z).l = 4611686018427387904) := fun z hz => by
    rcases hr.items z hz with ⟨u, hu⟩ | ⟨a, c, x, y, hE, hxy, _⟩
    · exact .inl ⟨u, (h.va u).1 hu.1, hu.2⟩
    · refine .inr ⟨fun u hu e => ?_, ?_⟩
      · have := h.eu.apart (v := u) hE
        rcases hxy with rfl | rfl
        · exact this.1 ⟨(h.va u).2 hu, e⟩
        · exact this.2 ⟨(h.va u).2 hu, e⟩
      · obtain ⟨m, hm, hc⟩ := hE
        obtain ⟨_, _, _, _, _, k1, k2⟩ := h.eu.ev m hm
        rcases hc with ⟨_, _, e3, e4⟩ | ⟨_, _, e3, e4⟩ <;> rcases hxy with e | e
        · rw [e, ← e3]; exact k1
        · rw [e, ← e4]; exact k2
        · rw [e, ← e3]; exact k2
        · rw [e, ← e4]; exact k1
  refine ⟨?_, ?_, ?_⟩
  · rw [over_sum (g := fun z => (t.s.V z).c) (it := t.item) (n := n) (h := cS t.s.V) rfl (fun _ _ => rfl) inj hnd (fun z hz' => (hz z hz').imp id (fun k => ⟨k.1, k.2.1⟩))]
    refine sumN_congr fun u hu => ?_
    by_cases e : t.item u ∈ t.s.S (t.item v)
    · rw [if_pos e, if_pos (To.same_iff.2 e)]; exact (h.eu.iv u ((h.va u).2 hu)).2.2
    · rw [if_neg e, if_neg (fun k => e (To.same_iff.1 k))]
  · rw [over_sum (g := fun z => (t.s.V z).s) (it := t.item) (n := n) (h := sS t.s.V) rfl (fun _ _ => rfl) inj hnd (fun z hz' => (hz z hz').imp id (fun k => ⟨k.1, k.2.2.1⟩))]
    refine sumN_congr fun u hu => ?_
    by_cases e : t.item u ∈ t.s.S (t.item v)
    · rw [if_pos e, if_pos (To.same_iff.2 e)]; exact (h.vs u hu).1
    · rw [if_neg e, if_neg (fun k => e (To.same_iff.1 k))]
  · rw [over_min (g := fun z => (t.s.V z).l) (it := t.item) (n := n) (h := lS t.s.V) rfl (fun _ _ => rfl) inj hnd (fun z hz' => ?_) (fun z hz' => (hz z hz').imp id (fun k => ⟨k.1, k.2.2.2⟩))]
    · refine minN_congr fun u hu => ?_
      by_cases e : t.item u ∈ t.s.S (t.item v)
      · rw [if_pos e, if_pos (To.same_iff.2 e)]; exact (h.vs u hu).2
      · rw [if_neg e, if_neg (fun k => e (To.same_iff.1 k))]
    · rcases hz z hz' with ⟨u, hu, rfl⟩ | ⟨_, _, _, e⟩
      · show (t.s.V (t.item u)).l ≤ _; rw [(h.vs u hu).2]; exact hq u hu
      · show (t.s.V z).l ≤ _; omega
end Go.Proofs.YtcbgeahcnjamdabGreat
