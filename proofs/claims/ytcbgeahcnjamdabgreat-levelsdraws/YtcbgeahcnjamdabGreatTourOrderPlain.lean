/- Layer 7 (tour), plain: for the statement TourOrder: what a link leaves as it is. -/
import Derived.Test.YtcbgeahcnjamdabGreatTourTree
namespace Go.Proofs.YtcbgeahcnjamdabGreat
open Go.RowKit
set_option linter.unusedVariables false
theorem Tb.empty {t : To} (hB : Tb t) {k : Int} (hk : isK t.s.K k = false) : t.s.S k = [] := by
  cases hS : t.s.S k with
  | nil => rfl
  | cons c l => have h2 := (hB.kS k).2 (by rw [hS]; simp); rw [hk] at h2; cases h2
theorem Tb.newXY {t : To} (hB : Tb t) : t.s.S t.newX = [] ∧ t.s.S t.newY = [] := by
  have hFk : Fk t.s.K t.s.fr := hB.fk
  have hxK : isK t.s.K t.newX = false := (newI_bd hFk).2.2
  have hFk1 : Fk (t.s.make noneV).K (t.s.make noneV).fr := hFk.new
  have hyK1 : isK (newK t.s.K t.s.fr) t.newY = false := (newI_bd hFk1).2.2
  have hyK : isK t.s.K t.newY = false := by
    rw [isK_new hFk] at hyK1
    split at hyK1
    · cases hyK1
    · exact hyK1
  exact ⟨hB.empty hxK, hB.empty hyK⟩
/-- A tree apart from the two that are linked is as it was. -/
theorem link_out {t : To} (hB : Tb t) (h : Eu t) {a b : Int} (ha : isA t.v a = true) (hb : isA t.v b = true) (hn : t.same a b = false) {k : Int} (hk : t.s.S k ≠ []) (ka : k ∉ t.s.S (t.item a)) (kb : k ∉ t.s.S (t.item b)) :
    (t.link a b).s.S k = t.s.S k ∧ cS (t.link a b).s.V (t.s.S k) = cS t.s.V (t.s.S k) ∧ sS (t.link a b).s.V (t.s.S k) = sS t.s.V (t.s.S k) ∧ lS (t.link a b).s.V (t.s.S k) = lS t.s.V (t.s.S k) := by
  obtain ⟨hE, R, R', hne, mA, mB, inL, outL⟩ := h.link hB ha hb hn
  obtain ⟨eX, eY⟩ := hB.newXY
  have no : ∀ q, t.s.S q = [] → q ∉ t.s.S k := fun q hq hm => by
    have := hB.fam.same k q hm
    rw [hq] at this
    exact hk this.symm
  have kX : k ≠ t.newX := fun e => hk (e ▸ eX)
  have kY : k ≠ t.newY := fun e => hk (e ▸ eY)
  refine ⟨outL k (fun hm => ?_), S_congr fun j hj => ?_⟩
  · rcases List.mem_append.1 hm with h1 | h1
    · exact ka ((mA k).1 h1)
    · rcases List.mem_cons.1 h1 with h1 | h1
      · exact kX h1
      · rcases List.mem_append.1 h1 with h1 | h1
        · exact kb ((mB k).1 h1)
        · simp at h1; exact kY h1
  · rw [To.link_V]
    unfold updV
    rw [if_neg (fun (e : j = t.newY) => no _ eY (e ▸ hj)), if_neg (fun (e : j = t.newX) => no _ eX (e ▸ hj))]
/-- Who is in one tree, behind a link. -/
theorem link_same {t : To} (hB : Tb t) (h : Eu t) {a b : Int} (ha : isA t.v a = true) (hb : isA t.v b = true) (hn : t.same a b = false) (hB2 : Tb (t.link a b)) {v u : Int} (hv : isA t.v v = true) (hu : isA t.v u = true) :
    (t.link a b).same v u = true ↔ t.same v u = true ∨ (t.same v a = true ∧ t.same b u = true) ∨ (t.same v b = true ∧ t.same a u = true) := by
  obtain ⟨hE, L, inL, sL, _⟩ := link_S hB h ha hb hn hB2
  have eit : ∀ v, (t.link a b).item v = t.item v := fun v => rfl
  obtain ⟨hv0, _, _⟩ := h.iv v hv
  obtain ⟨hu0, _, _⟩ := h.iv u hu
  obtain ⟨ha0, _, _⟩ := h.iv a ha
  obtain ⟨hb0, _, _⟩ := h.iv b hb
  have vv := hB.fam.mem _ hv0
  have uu := hB.fam.mem _ hu0
  have aa := hB.fam.mem _ ha0
  have bb := hB.fam.mem _ hb0
  have sym : ∀ {x y : Int}, t.s.S x ≠ [] → y ∈ t.s.S x → x ∈ t.s.S y := fun {x y} h1 h2 => by rw [hB.fam.same x y h2]; exact hB.fam.mem x h1
  have mem : ∀ {k : Int}, k ∈ L → t.s.S k ≠ [] → k ∈ t.s.S (t.item a) ∨ k ∈ t.s.S (t.item b) := fun {k} hkL hk => by
    by_cases ka : k ∈ t.s.S (t.item a)
    · exact .inl ka
    · by_cases kb : k ∈ t.s.S (t.item b)
      · exact .inr kb
      · have h1 := (link_out hB h ha hb hn hk ka kb).1
        rw [sL k hkL] at h1
        have : t.item a ∈ t.s.S k := by rw [← h1]; exact inL _ (.inl aa)
        exact absurd (sym hk this) ka
  unfold To.same
  rw [eit, eit]
  simp only [decide_eq_true_eq]
  by_cases hvL : t.item v ∈ L
  · rw [sL _ hvL]
    constructor
    · intro huL
      rcases mem hvL hv0 with h1 | h1 <;> rcases mem huL hu0 with h2 | h2
      · exact .inl (by rw [hB.fam.same _ _ h1]; exact h2)
      · exact .inr (.inl ⟨sym ha0 h1, h2⟩)
      · exact .inr (.inr ⟨sym hb0 h1, h2⟩)
      · exact .inl (by rw [hB.fam.same _ _ h1]; exact h2)
    · rintro (h1 | ⟨_, h1⟩ | ⟨_, h1⟩)
      · rcases mem hvL hv0 with h2 | h2
        · exact inL _ (.inl (by rw [← hB.fam.same _ _ h2]; exact h1))
        · exact inL _ (.inr (by rw [← hB.fam.same _ _ h2]; exact h1))
      · exact inL _ (.inr h1)
      · exact inL _ (.inl h1)
  · have ka : t.item v ∉ t.s.S (t.item a) := fun h1 => hvL (inL _ (.inl h1))
    have kb : t.item v ∉ t.s.S (t.item b) := fun h1 => hvL (inL _ (.inr h1))
    rw [(link_out hB h ha hb hn hv0 ka kb).1]
    constructor
    · exact fun h1 => .inl h1
    · rintro (h1 | ⟨h1, _⟩ | ⟨h1, _⟩)
      · exact h1
      · exact absurd (sym hv0 h1) ka
      · exact absurd (sym hv0 h1) kb
/-- Joined by pairs, whichever way about. -/
inductive Jn (R : Int → Int → Prop) : Int → Int → Prop
  | refl (v : Int) : Jn R v v
  | step {v u w : Int} (h : Jn R v u) (e : R u w ∨ R w u) : Jn R v w
section
variable {R R' : Int → Int → Prop}
theorem Jn.trans {a b c : Int} (h : Jn R a b) (k : Jn R b c) : Jn R a c := by
  induction k with
  | refl => exact h
  | step _ e ih => exact .step ih e
theorem Jn.symm {a b : Int} (h : Jn R a b) : Jn R b a := by
  induction h with
  | refl => exact .refl _
  | step _ e ih => exact (Jn.step (.refl _) e.symm).trans ih
theorem Jn.mono {a b : Int} (h : Jn R a b) (hR : ∀ x y, R x y → R' x y ∨ R' y x) : Jn R' a b := by
  induction h with
  | refl => exact .refl _
  | step _ e ih => exact .step ih (e.elim (fun k => hR _ _ k) (fun k => (hR _ _ k).symm))
theorem Jn.more {a b v u : Int} : Jn (fun x y => R x y ∨ (x = a ∧ y = b)) v u ↔ Jn R v u ∨ (Jn R v a ∧ Jn R b u) ∨ (Jn R v b ∧ Jn R a u) := by
  constructor
  · intro h
    induction h with
    | refl => exact .inl (.refl _)
    | @step u w _ e ih =>
      have key : (R u w ∨ R w u) ∨ (u = a ∧ w = b) ∨ (w = a ∧ u = b) := by
        rcases e with (e | e) | (e | e)
        · exact .inl (.inl e)
        · exact .inr (.inl e)
        · exact .inl (.inr e)
        · exact .inr (.inr e)
      rcases key with e | ⟨rfl, rfl⟩ | ⟨rfl, rfl⟩
      · rcases ih with h1 | ⟨h1, h2⟩ | ⟨h1, h2⟩
        · exact .inl (.step h1 e)
        · exact .inr (.inl ⟨h1, .step h2 e⟩)
        · exact .inr (.inr ⟨h1, .step h2 e⟩)
      · rcases ih with h1 | ⟨h1, h2⟩ | ⟨h1, h2⟩
        · exact .inr (.inl ⟨h1, .refl _⟩)
        · exact .inr (.inl ⟨h1, .refl _⟩)
        · exact .inl h1
      · rcases ih with h1 | ⟨h1, h2⟩ | ⟨h1, h2⟩
        · exact .inr (.inr ⟨h1, .refl _⟩)
        · exact .inl h1
        · exact .inr (.inr ⟨h1, .refl _⟩)
  · have up : ∀ {x y : Int}, Jn R x y → Jn (fun x y => R x y ∨ (x = a ∧ y = b)) x y := fun h => h.mono fun _ _ k => .inl (.inl k)
    rintro (h1 | ⟨h1, h2⟩ | ⟨h1, h2⟩)
    · exact up h1
    · exact (Jn.step (up h1) (.inl (.inr ⟨rfl, rfl⟩))).trans (up h2)
    · exact (Jn.step (up h1) (.inr (.inr ⟨rfl, rfl⟩))).trans (up h2)
end
/-- Who is in one tree: whom the pairs that were tried join. -/
def Jo (n : Nat) (t : To) (R : Int → Int → Prop) : Prop := ∀ v u, (1 ≤ v ∧ v ≤ (n : Int)) → (1 ≤ u ∧ u ≤ (n : Int)) → (t.same v u = true ↔ Jn R v u)
theorem Jo.tried {n : Nat} {t : To} {R : Int → Int → Prop} (hB : Tb t) (h : Eu t) (hva : ∀ v, isA t.v v = true ↔ 1 ≤ v ∧ v ≤ (n : Int)) (hJ : Jo n t R) {a b : Int} (ha : 1 ≤ a ∧ a ≤ (n : Int)) (hb : 1 ≤ b ∧ b ≤ (n : Int)) (hB2 : Tb (t.linked a b)) : Jo n (t.linked a b) (fun x y => R x y ∨ (x = a ∧ y = b)) := by
  intro v u hv hu
  have a1 := (hva a).2 ha
  have b1 := (hva b).2 hb
  rw [Jn.more, ← hJ v u hv hu, ← hJ v a hv ha, ← hJ b u hb hu, ← hJ v b hv hb, ← hJ a u ha hu]
  cases hs : t.same a b with
  | true =>
    have hR : t.linkR a b = 5 := by unfold To.linkR; rw [if_pos ⟨a1, b1⟩, if_pos hs]
    have hL : t.linked a b = t := by unfold To.linked; rw [hR, if_neg (by omega)]
    rw [hL]
    constructor
    · exact fun h1 => .inl h1
    · have jab := (hJ a b ha hb).1 hs
      rintro (h1 | ⟨h1, h2⟩ | ⟨h1, h2⟩)
      · exact h1
      · exact (hJ v u hv hu).2 ((((hJ v a hv ha).1 h1).trans jab).trans ((hJ b u hb hu).1 h2))
      · exact (hJ v u hv hu).2 ((((hJ v b hv hb).1 h1).trans jab.symm).trans ((hJ a u ha hu).1 h2))
  | false =>
    have hR : t.linkR a b = 0 := by unfold To.linkR; rw [if_pos ⟨a1, b1⟩, if_neg (by rw [hs]; simp)]
    have hL : t.linked a b = t.link a b := by unfold To.linked; rw [if_pos hR]
    rw [hL] at hB2 ⊢
    exact link_same hB h a1 b1 hs hB2 ((hva v).2 hv) ((hva u).2 hu)
/-- Sums and least over 1 to n. -/
def sumN (f : Int → Int) : Nat → Int
  | 0 => 0
  | n + 1 => sumN f n + f ((n : Int) + 1)
def minN (f : Int → Int) : Nat → Int
  | 0 => 4611686018427387904
  | n + 1 => min (minN f n) (f ((n : Int) + 1))
theorem sumN_congr {f g : Int → Int} {n : Nat} (h : ∀ u, 1 ≤ u ∧ u ≤ (n : Int) → f u = g u) : sumN f n = sumN g n := by
  induction n with
  | zero => rfl
  | succ n ih =>
    show sumN f n + f _ = sumN g n + g _
    rw [ih (fun u hu => h u (by omega)), h _ (by omega)]
theorem minN_congr {f g : Int → Int} {n : Nat} (h : ∀ u, 1 ≤ u ∧ u ≤ (n : Int) → f u = g u) : minN f n = minN g n := by
  induction n with
  | zero => rfl
  | succ n ih =>
    show min (minN f n) (f _) = min (minN g n) (g _)
    rw [ih (fun u hu => h u (by omega)), h _ (by omega)]
theorem sumN_add (f g : Int → Int) (n : Nat) : sumN f n + sumN g n = sumN (fun u => f u + g u) n := by
  induction n with
  | zero => rfl
  | succ n ih =>
    show (sumN f n + f _) + (sumN g n + g _) = sumN (fun u => f u + g u) n + (f _ + g _)
    rw [← ih]; omega
theorem minN_min (f g : Int → Int) (n : Nat) : min (minN f n) (minN g n) = minN (fun u => min (f u) (g u)) n := by
  induction n with
  | zero => rfl
  | succ n ih =>
    show min (min (minN f n) (f _)) (min (minN g n) (g _)) = min (minN (fun u => min (f u) (g u)) n) (min (f _) (g _))
    rw [← ih]; omega
def cU (t : To) (v u : Int) : Int := if t.same v u = true then 1 else 0
def sU (t : To) (v u : Int) : Int := if t.same v u = true then u else 0
def lU (n : Nat) (t : To) (v u : Int) : Int := if t.same v u = true then (n : Int) - u else 4611686018427387904
/-- What a tree has is what its vertices have. -/
def Su (n : Nat) (t : To) : Prop := ∀ v, 1 ≤ v ∧ v ≤ (n : Int) → cS t.s.V (t.s.S (t.item v)) = sumN (cU t v) n ∧ sS t.s.V (t.s.S (t.item v)) = sumN (sU t v) n ∧ lS t.s.V (t.s.S (t.item v)) = minN (lU n t v) n
theorem To.same_iff {t : To} {v u : Int} : t.same v u = true ↔ t.item u ∈ t.s.S (t.item v) := by unfold To.same; simp
theorem Su.link {n : Nat} {t : To} (hn60 : n ≤ 60) (hB : Tb t) (h : Eu t) (hva : ∀ v, isA t.v v = true ↔ 1 ≤ v ∧ v ≤ (n : Int)) (hS : Su n t) {a b : Int} (ha : 1 ≤ a ∧ a ≤ (n : Int)) (hb : 1 ≤ b ∧ b ≤ (n : Int)) (hn : t.same a b = false) (hB2 : Tb (t.link a b)) : Su n (t.link a b) := by
  intro v hv
  have a1 := (hva a).2 ha
  have b1 := (hva b).2 hb
  have v1 := (hva v).2 hv
  obtain ⟨hE, L, inL, sL, l1, l2, l3⟩ := link_S hB h a1 b1 hn hB2
  have hsm : ∀ u, 1 ≤ u ∧ u ≤ (n : Int) → ((t.link a b).same v u = true ↔ t.same v u = true ∨ (t.same v a = true ∧ t.same b u = true) ∨ (t.same v b = true ∧ t.same a u = true)) := fun u hu => link_same hB h a1 b1 hn hB2 v1 ((hva u).2 hu)
  have eit : (t.link a b).item v = t.item v := rfl
  have sym : ∀ {x y : Int}, t.s.S x ≠ [] → y ∈ t.s.S x → x ∈ t.s.S y := fun {x y} h1 h2 => by rw [hB.fam.same x y h2]; exact hB.fam.mem x h1
  have v0 := (h.iv v v1).1
  have a0 := (h.iv a a1).1
  have b0 := (h.iv b b1).1
  rw [eit]
  by_cases hL : t.same v a = true ∨ t.same v b = true
  · have eS : (∀ u, t.same v u = t.same a u) ∨ (∀ u, t.same v u = t.same b u) := by
      rcases hL with h1 | h1
      · exact .inl fun u => by unfold To.same; rw [hB.fam.same _ _ (To.same_iff.1 h1)]
      · exact .inr fun u => by unfold To.same; rw [hB.fam.same _ _ (To.same_iff.1 h1)]
    have hvL : t.item v ∈ L := by
      rcases hL with h1 | h1
      · exact inL _ (.inl (sym v0 (To.same_iff.1 h1)))
      · exact inL _ (.inr (sym v0 (To.same_iff.1 h1)))
    have two : ∀ u, 1 ≤ u ∧ u ≤ (n : Int) → ((t.link a b).same v u = true ↔ t.same a u = true ∨ t.same b u = true) := fun u hu => by
      rw [hsm u hu]
      have aa : t.same a a = true := To.same_iff.2 (hB.fam.mem _ a0)
      have bb : t.same b b = true := To.same_iff.2 (hB.fam.mem _ b0)
      rcases eS with e | e
      · rw [e u, e a, e b, hn, aa]; simp
      · rw [e u, e a, e b, bb]
        have hba : t.same b a = false := by
          cases hq : t.same b a with
          | false => rfl
          | true => have := To.same_iff.2 (sym b0 (To.same_iff.1 hq)); rw [hn] at this; cases this
        rw [hba]; simp [or_comm]
    have apart : ∀ u, ¬ (t.same a u = true ∧ t.same b u = true) := fun u ⟨h1, h2⟩ => by
      have e1 := hB.fam.same _ _ (To.same_iff.1 h1)
      have e2 := sym b0 (To.same_iff.1 h2)
      rw [e1] at e2
      have := To.same_iff.2 e2
      rw [hn] at this; cases this
    obtain ⟨A1, A2, A3⟩ := hS a ha
    obtain ⟨B1, B2, B3⟩ := hS b hb
    rw [sL _ hvL, l1, l2, l3, A1, A2, A3, B1, B2, B3, sumN_add, sumN_add, minN_min]
    refine ⟨sumN_congr fun u hu => ?_, sumN_congr fun u hu => ?_, minN_congr fun u hu => ?_⟩
    · have t1 := two u hu
      have t2 := apart u
      unfold cU
      by_cases h1 : t.same a u = true <;> by_cases h2 : t.same b u = true
      · exact absurd ⟨h1, h2⟩ t2
      · rw [if_pos h1, if_neg h2, if_pos (t1.2 (.inl h1))]; rfl
      · rw [if_neg h1, if_pos h2, if_pos (t1.2 (.inr h2))]; rfl
      · rw [if_neg h1, if_neg h2, if_neg (fun h => (t1.1 h).elim h1 h2)]; rfl
    · have t1 := two u hu
      have t2 := apart u
      unfold sU
      by_cases h1 : t.same a u = true <;> by_cases h2 : t.same b u = true
      · exact absurd ⟨h1, h2⟩ t2
      · rw [if_pos h1, if_neg h2, if_pos (t1.2 (.inl h1))]; omega
      · rw [if_neg h1, if_pos h2, if_pos (t1.2 (.inr h2))]; omega
      · rw [if_neg h1, if_neg h2, if_neg (fun h => (t1.1 h).elim h1 h2)]; rfl
    · have t1 := two u hu
      have t2 := apart u
      unfold lU
      by_cases h1 : t.same a u = true <;> by_cases h2 : t.same b u = true
      · exact absurd ⟨h1, h2⟩ t2
      · rw [if_pos h1, if_neg h2, if_pos (t1.2 (.inl h1))]; omega
      · rw [if_neg h1, if_pos h2, if_pos (t1.2 (.inr h2))]; omega
      · rw [if_neg h1, if_neg h2, if_neg (fun h => (t1.1 h).elim h1 h2)]; rfl
  · have ka : t.item v ∉ t.s.S (t.item a) := fun h1 => hL (.inl (To.same_iff.2 (sym a0 h1)))
    have kb : t.item v ∉ t.s.S (t.item b) := fun h1 => hL (.inr (To.same_iff.2 (sym b0 h1)))
    obtain ⟨o1, o2, o3, o4⟩ := link_out hB h a1 b1 hn v0 ka kb
    obtain ⟨A1, A2, A3⟩ := hS v hv
    have one : ∀ u, 1 ≤ u ∧ u ≤ (n : Int) → (t.link a b).same v u = t.same v u := fun u hu => by unfold To.same; rw [eit, o1]; rfl
    rw [o1, o2, o3, o4, A1, A2, A3]
    exact ⟨sumN_congr fun u hu => by unfold cU; rw [one u hu], sumN_congr fun u hu => by unfold sU; rw [one u hu], minN_congr fun u hu => by unfold lU; rw [one u hu]⟩
theorem minN_le {f : Int → Int} {n : Nat} {u : Int} (hu : 1 ≤ u ∧ u ≤ (n : Int)) : minN f n ≤ f u := by
  induction n with
  | zero => omega
  | succ n ih =>
    show min (minN f n) (f ((n : Int) + 1)) ≤ f u
    by_cases e : u = (n : Int) + 1
    · rw [← e]; omega
    · have := ih (by omega); omega
theorem minN_at (f : Int → Int) (n : Nat) : minN f n = 4611686018427387904 ∨ ∃ u, (1 ≤ u ∧ u ≤ (n : Int)) ∧ minN f n = f u := by
  induction n with
  | zero => exact .inl rfl
  | succ n ih =>
    by_cases e : f ((n : Int) + 1) ≤ minN f n
    · exact .inr ⟨(n : Int) + 1, by omega, by show min (minN f n) (f ((n : Int) + 1)) = _; omega⟩
    · have e1 : minN f (n + 1) = minN f n := by show min (minN f n) (f ((n : Int) + 1)) = _; omega
      rcases ih with h | ⟨u, hu, h⟩
      · exact .inl (e1.trans h)
      · exact .inr ⟨u, by omega, e1.trans h⟩
theorem sumN_none {n : Nat} {m : Int} (hm : (n : Int) < m) : sumN (fun v => if v = m then 1 else 0) n = 0 := by
  induction n with
  | zero => rfl
  | succ n ih =>
    show sumN _ n + (if ((n : Int) + 1) = m then 1 else 0) = 0
    rw [ih (by omega), if_neg (by omega)]; rfl
theorem sumN_one {n : Nat} {m : Int} (hm : 1 ≤ m ∧ m ≤ (n : Int)) : sumN (fun v => if v = m then 1 else 0) n = 1 := by
  induction n with
  | zero => omega
  | succ n ih =>
    show sumN _ n + (if ((n : Int) + 1) = m then 1 else 0) = 1
    by_cases e : (n : Int) + 1 = m
    · rw [sumN_none (by omega), if_pos e]; rfl
    · rw [ih (by omega), if_neg e]; rfl
theorem same_cl {t : To} (hB : Tb t) (h : Eu t) {v u : Int} (hu : isA t.v u = true) : t.same v u = true ↔ t.s.S (t.item v) = t.s.S (t.item u) := by
  rw [To.same_iff]
  constructor
  · exact fun h1 => (hB.fam.same _ _ h1).symm
  · intro h1; rw [h1]; exact hB.fam.mem _ (h.iv u hu).1
/-- The greatest vertex of a tree. -/
theorem top {n : Nat} {t : To} (hn : n ≤ 60) (hB : Tb t) (h : Eu t) (hva : ∀ v, isA t.v v = true ↔ 1 ≤ v ∧ v ≤ (n : Int)) {v : Int} (hv : 1 ≤ v ∧ v ≤ (n : Int)) : ∃ A, (1 ≤ A ∧ A ≤ (n : Int)) ∧ t.same v A = true ∧ minN (lU n t v) n = (n : Int) - A ∧ ∀ u, 1 ≤ u ∧ u ≤ (n : Int) → t.same v u = true → u ≤ A := by
  have vv : t.same v v = true := To.same_iff.2 (hB.fam.mem _ (h.iv v ((hva v).2 hv)).1)
  have h1 : minN (lU n t v) n ≤ (n : Int) - v := by
    have := minN_le (f := lU n t v) hv
    unfold lU at this ⊢
    rw [if_pos vv] at this; exact this
  rcases minN_at (lU n t v) n with h2 | ⟨A, hA, h2⟩
  · omega
  · have hs : t.same v A = true := by
      cases hq : t.same v A with
      | true => rfl
      | false =>
        have e3 : lU n t v A = 4611686018427387904 := by unfold lU; rw [hq]; exact if_neg (by simp)
        omega
    have e3 : lU n t v A = (n : Int) - A := by unfold lU; exact if_pos hs
    refine ⟨A, hA, hs, h2.trans e3, fun u hu hu' => ?_⟩
    have h4 := minN_le (f := lU n t v) hu
    have e4 : lU n t v u = (n : Int) - u := by unfold lU; exact if_pos hu'
    omega
def leadN (n : Nat) (t : To) (v : Int) : Int := if minN (lU n t v) n = (n : Int) - v then 1 else 0
/-- A link: a leader less. -/
theorem lead_link {n : Nat} {t : To} (hn : n ≤ 60) (hB : Tb t) (h : Eu t) (hva : ∀ v, isA t.v v = true ↔ 1 ≤ v ∧ v ≤ (n : Int)) {a b : Int} (ha : 1 ≤ a ∧ a ≤ (n : Int)) (hb : 1 ≤ b ∧ b ≤ (n : Int)) (hnn : t.same a b = false) (hB2 : Tb (t.link a b)) : sumN (leadN n (t.link a b)) n + 1 = sumN (leadN n t) n := by
  have a1 := (hva a).2 ha
  have b1 := (hva b).2 hb
  obtain ⟨hE, _⟩ := link_S hB h a1 b1 hnn hB2
  have hva2 : ∀ v, isA (t.link a b).v v = true ↔ 1 ≤ v ∧ v ≤ (n : Int) := hva
  have cl : ∀ {v u : Int}, 1 ≤ u ∧ u ≤ (n : Int) → (t.same v u = true ↔ t.s.S (t.item v) = t.s.S (t.item u)) := fun {v u} hu => same_cl hB h ((hva u).2 hu)
  have sm : ∀ {v u : Int}, 1 ≤ v ∧ v ≤ (n : Int) → 1 ≤ u ∧ u ≤ (n : Int) → ((t.link a b).same v u = true ↔ t.s.S (t.item v) = t.s.S (t.item u) ∨ (t.s.S (t.item v) = t.s.S (t.item a) ∧ t.s.S (t.item b) = t.s.S (t.item u)) ∨ (t.s.S (t.item v) = t.s.S (t.item b) ∧ t.s.S (t.item a) = t.s.S (t.item u))) := fun {v u} hv hu => by
    rw [link_same hB h a1 b1 hnn hB2 ((hva v).2 hv) ((hva u).2 hu), cl hu, cl ha, cl hu, cl hb, cl hu]
  have hab : t.s.S (t.item a) ≠ t.s.S (t.item b) := fun e => by have := (cl hb).2 e; rw [hnn] at this; cases this
  obtain ⟨A, hA, sA, mA, gA⟩ := top hn hB h hva ha
  obtain ⟨B, hB', sB, mB, gB⟩ := top hn hB h hva hb
  have cA := (cl hA).1 sA
  have cB := (cl hB').1 sB
  have hAB : A ≠ B := fun e => hab (by rw [cA, cB, e])
  rw [← sumN_one (n := n) (m := min A B) (by omega), sumN_add]
  refine sumN_congr fun v hv => ?_
  obtain ⟨T, hT, sT, mT, gT⟩ := top hn hB h hva hv
  obtain ⟨U, hU, sU, mU, gU⟩ := top hn hB2 hE hva2 hv
  have cT := (cl hT).1 sT
  unfold leadN
  rw [mT, mU]
  by_cases k1 : t.s.S (t.item v) = t.s.S (t.item a)
  · have e1 : T = A := by
      have h1 := gA T hT ((cl hT).2 (by rw [← k1]; exact cT))
      have h2 := gT A hA ((cl hA).2 (by rw [k1]; exact cA))
      omega
    have e2 : U = max A B := by
      have h1 := gU A hA ((sm hv hA).2 (.inl (by rw [k1]; exact cA)))
      have h2 := gU B hB' ((sm hv hB').2 (.inr (.inl ⟨k1, cB⟩)))
      have h3 : U ≤ A ∨ U ≤ B := by
        rcases (sm hv hU).1 sU with h4 | ⟨_, h4⟩ | ⟨h4, _⟩
        · exact .inl (gA U hU ((cl hU).2 (by rw [← k1]; exact h4)))
        · exact .inr (gB U hU ((cl hU).2 h4))
        · exact absurd (k1.symm.trans h4) hab
      omega
    have hvB : v ≠ B := fun e => hab (by rw [cB, ← e, k1])
    rw [e1, e2]
    by_cases k2 : v = A
    · subst k2
      by_cases k3 : v < B
      · rw [if_neg (by omega), if_pos (by omega), if_pos rfl]; rfl
      · rw [if_pos (by omega), if_neg (by omega), if_pos rfl]; rfl
    · rw [if_neg (by omega), if_neg (by omega), if_neg (by omega)]; rfl
  · by_cases k2 : t.s.S (t.item v) = t.s.S (t.item b)
    · have e1 : T = B := by
        have h1 := gB T hT ((cl hT).2 (by rw [← k2]; exact cT))
        have h2 := gT B hB' ((cl hB').2 (by rw [k2]; exact cB))
        omega
      have e2 : U = max A B := by
        have h1 := gU A hA ((sm hv hA).2 (.inr (.inr ⟨k2, cA⟩)))
        have h2 := gU B hB' ((sm hv hB').2 (.inl (by rw [k2]; exact cB)))
        have h3 : U ≤ A ∨ U ≤ B := by
          rcases (sm hv hU).1 sU with h4 | ⟨h4, _⟩ | ⟨_, h4⟩
          · exact .inr (gB U hU ((cl hU).2 (by rw [← k2]; exact h4)))
          · exact absurd h4 k1
          · exact .inl (gA U hU ((cl hU).2 h4))
        omega
      have hvA : v ≠ A := fun e => hab (by rw [cA, ← e, k2])
      rw [e1, e2]
      by_cases k3 : v = B
      · subst k3
        by_cases k4 : v < A
        · rw [if_neg (by omega), if_pos (by omega), if_pos rfl]; rfl
        · rw [if_pos (by omega), if_neg (by omega), if_pos rfl]; rfl
      · rw [if_neg (by omega), if_neg (by omega), if_neg (by omega)]; rfl
    · have e1 : U = T := by
        have h1 := gU T hT ((sm hv hT).2 (.inl cT))
        have h2 := gT U hU ((cl hU).2 (by
          rcases (sm hv hU).1 sU with h4 | ⟨h4, _⟩ | ⟨h4, _⟩
          · exact h4
          · exact absurd h4 k1
          · exact absurd h4 k2))
        omega
      have hvA : v ≠ A := fun e => k1 (by rw [cA, ← e])
      have hvB : v ≠ B := fun e => k2 (by rw [cB, ← e])
      rw [e1, if_neg (show ¬ v = min A B by omega)]; omega
/-- k vertices, no edge. -/
structure Ov (n k : Nat) (t : To) : Prop where
  eu : Eu t
  va : ∀ v, isA t.v v = true ↔ 1 ≤ v ∧ v ≤ (k : Int)
  vl : t.v.length = k ∧ t.fv = []
  own : ∀ v, 1 ≤ v ∧ v ≤ (k : Int) → t.s.S (t.item v) = [t.item v] ∧ t.s.V (t.item v) = ⟨1, v, (n : Int) - v, 0⟩
theorem ov0 (n : Nat) : Ov n 0 to0 := ⟨to0_eu, fun v => ⟨fun h => (by simp [isA, to0] at h), fun h => by omega⟩, ⟨rfl, rfl⟩, fun v h => by omega⟩
theorem Ov.add {n k : Nat} {t : To} (hB : Tb t) (h : Ov n k t) : tkI t.v t.fv = (k : Int) + 1 ∧ Ov n (k + 1) (t.addV ((k : Int) + 1) ((n : Int) - ((k : Int) + 1))) := by
  have e1 : tkI t.v t.fv = (k : Int) + 1 := by rw [h.vl.2, tkI_nil, h.vl.1]
  have hE := h.eu.addV hB ((k : Int) + 1) ((n : Int) - ((k : Int) + 1))
  obtain ⟨i, f1, f2, f3, f4, f5, f6, f7, f8⟩ := addV_facts hB h.eu ((k : Int) + 1) ((n : Int) - ((k : Int) + 1))
  rw [e1] at f6 f7
  have lv : (t.addV ((k : Int) + 1) ((n : Int) - ((k : Int) + 1))).v.length = k + 1 ∧ (t.addV ((k : Int) + 1) ((n : Int) - ((k : Int) + 1))).fv = [] := by
    constructor
    · show (tkL t.v t.fv _).length = _
      rw [h.vl.2, tkL_nil]; simp [h.vl.1]
    · show t.fv.dropLast = []
      rw [h.vl.2]; rfl
  generalize t.addV ((k : Int) + 1) ((n : Int) - ((k : Int) + 1)) = t1 at *
  refine ⟨e1, hE, fun v => ?_, lv, fun v hv => ?_⟩
  · rw [f6]
    split
    · rename_i e; subst e; simp only [true_iff]; omega
    · rename_i e
      rw [h.va]
      push_cast
      omega
  · by_cases e : v = (k : Int) + 1
    · rw [e, f7]; exact ⟨f2, f4⟩
    · have hv' : 1 ≤ v ∧ v ≤ (k : Int) := by omega
      have hvA := (h.va v).2 hv'
      have hni : t.item v ≠ i := fun e => (h.eu.iv v hvA).1 (e ▸ f1)
      rw [f8 v hvA, f3 _ hni, f5 _ hni]
      exact h.own v hv'
theorem Ov.same {n : Nat} {t : To} (h : Ov n n t) {v u : Int} (hv : 1 ≤ v ∧ v ≤ (n : Int)) (hu : 1 ≤ u ∧ u ≤ (n : Int)) : t.same v u = true ↔ u = v := by
  rw [To.same_iff, (h.own v hv).1]
  simp only [List.mem_singleton]
  exact ⟨fun e => h.eu.one ⟨(h.va u).2 hu, rfl⟩ ⟨(h.va v).2 hv, e.symm⟩, fun e => by rw [e]⟩
theorem sumN_zero {n : Nat} {m c : Int} (hm : (n : Int) < m) : sumN (fun v => if v = m then c else 0) n = 0 := by
  induction n with
  | zero => rfl
  | succ n ih =>
    show sumN _ n + (if ((n : Int) + 1) = m then c else 0) = 0
    rw [ih (by omega), if_neg (by omega)]; rfl
theorem sumN_pick {n : Nat} {m c : Int} (hm : 1 ≤ m ∧ m ≤ (n : Int)) : sumN (fun v => if v = m then c else 0) n = c := by
  induction n with
  | zero => omega
  | succ n ih =>
    show sumN _ n + (if ((n : Int) + 1) = m then c else 0) = c
    by_cases e : (n : Int) + 1 = m
    · rw [sumN_zero (by omega), if_pos e]; omega
    · rw [ih (by omega), if_neg e]; omega
theorem sumN_ones (n : Nat) : sumN (fun _ => 1) n = n := by
  induction n with
  | zero => rfl
  | succ n ih => show sumN _ n + 1 = _; rw [ih]; push_cast; rfl
theorem Ov.jo {n : Nat} {t : To} (h : Ov n n t) : Jo n t (fun _ _ => False) := by
  intro v u hv hu
  rw [h.same hv hu]
  constructor
  · rintro rfl; exact .refl _
  · intro hj
    clear hv hu
    induction hj with
    | refl => rfl
    | step _ e _ => exact absurd e (by simp)
theorem Ov.least {n : Nat} {t : To} (hn : n ≤ 60) (h : Ov n n t) {v : Int} (hv : 1 ≤ v ∧ v ≤ (n : Int)) : minN (lU n t v) n = (n : Int) - v := by
  have e1 : lU n t v v = (n : Int) - v := by unfold lU; exact if_pos ((h.same hv hv).2 rfl)
  have h1 := minN_le (f := lU n t v) hv
  rcases minN_at (lU n t v) n with h2 | ⟨u, hu, h2⟩
  · omega
  · by_cases e : u = v
    · rw [h2, e, e1]
    · have : lU n t v u = 4611686018427387904 := by unfold lU; exact if_neg (fun k => e ((h.same hv hu).1 k))
      omega
theorem Ov.su {n : Nat} {t : To} (hn : n ≤ 60) (h : Ov n n t) : Su n t := by
  intro v hv
  obtain ⟨o1, o2⟩ := h.own v hv
  rw [o1, h.least hn hv]
  refine ⟨?_, ?_, ?_⟩
  · show (t.s.V (t.item v)).c + 0 = _
    rw [o2, sumN_congr (g := fun u => if u = v then 1 else 0) (fun u hu => by
      unfold cU
      by_cases e : u = v
      · rw [if_pos ((h.same hv hu).2 e), if_pos e]
      · rw [if_neg (fun k => e ((h.same hv hu).1 k)), if_neg e]), sumN_pick hv]
    rfl
  · show (t.s.V (t.item v)).s + 0 = _
    rw [o2, sumN_congr (g := fun u => if u = v then v else 0) (fun u hu => by
      unfold sU
      by_cases e : u = v
      · rw [if_pos ((h.same hv hu).2 e), if_pos e, e]
      · rw [if_neg (fun k => e ((h.same hv hu).1 k)), if_neg e]), sumN_pick hv]
    show v + 0 = v; omega
  · show min (t.s.V (t.item v)).l 4611686018427387904 = _
    rw [o2]
    show min ((n : Int) - v) _ = _
    omega
theorem Ov.leads {n : Nat} {t : To} (hn : n ≤ 60) (h : Ov n n t) : sumN (leadN n t) n = n := by
  rw [sumN_congr (g := fun _ => 1) (fun v hv => by unfold leadN; rw [h.least hn hv, if_pos rfl]), sumN_ones]
end Go.Proofs.YtcbgeahcnjamdabGreat

namespace Go.Proofs.YtcbgeahcnjamdabGreat
open Go.RowKit
set_option linter.unusedVariables false
/-- A forest of the vertices 1 to n, some edges of R made (so many), the others within trees. -/
structure Od (n : Nat) (t : To) (R : Int → Int → Prop) (made : Nat) : Prop where
  eu : Eu t
  va : ∀ v, isA t.v v = true ↔ 1 ≤ v ∧ v ≤ (n : Int)
  jo : Jo n t R
  su : Su n t
  ld : sumN (leadN n t) n + made = n
theorem Ov.od {n : Nat} {t : To} (hn : n ≤ 60) (h : Ov n n t) : Od n t (fun _ _ => False) 0 := ⟨h.eu, h.va, h.jo, h.su hn, by have := h.leads hn; simpa using this⟩
theorem Od.step {n : Nat} {t : To} {R : Int → Int → Prop} {made : Nat} (hn : n ≤ 60) (hB : Tb t) (h : Od n t R made) {a b : Int} (ha : 1 ≤ a ∧ a ≤ (n : Int)) (hb : 1 ≤ b ∧ b ≤ (n : Int)) (hB2 : Tb (t.linked a b)) :
    (t.linkR a b = 0 ∧ Od n (t.linked a b) (fun x y => R x y ∨ (x = a ∧ y = b)) (made + 1)) ∨ (t.linkR a b = 5 ∧ Od n (t.linked a b) (fun x y => R x y ∨ (x = a ∧ y = b)) made) := by
  have hJ := h.jo.tried hB h.eu h.va ha hb hB2
  have va := (h.va a).2 ha
  have vb := (h.va b).2 hb
  cases hs : t.same a b with
  | true =>
    have hR : t.linkR a b = 5 := by unfold To.linkR; rw [if_pos ⟨va, vb⟩, if_pos hs]
    have hL : t.linked a b = t := by unfold To.linked; rw [if_neg (by rw [hR]; omega)]
    rw [hL] at hJ ⊢
    exact .inr ⟨hR, h.eu, h.va, hJ, h.su, h.ld⟩
  | false =>
    have hR : t.linkR a b = 0 := by unfold To.linkR; rw [if_pos ⟨va, vb⟩, if_neg (by rw [hs]; simp)]
    have hL : t.linked a b = t.link a b := by unfold To.linked; rw [if_pos hR]
    rw [hL] at hJ hB2 ⊢
    refine .inl ⟨hR, (h.eu.link hB va vb hs).1, h.va, hJ, h.su.link hn hB h.eu h.va ha hb hs hB2, ?_⟩
    have := lead_link hn hB h.eu h.va ha hb hs hB2
    have := h.ld
    omega
theorem sumN_bd {f : Int → Int} {n : Nat} {c : Int} (hc : 0 ≤ c) (h : ∀ u, 1 ≤ u ∧ u ≤ (n : Int) → 0 ≤ f u ∧ f u ≤ c) : 0 ≤ sumN f n ∧ sumN f n ≤ n * c := by
  induction n with
  | zero => exact ⟨Int.le_refl _, by simp [sumN]⟩
  | succ n ih =>
    have h1 := ih (fun u hu => h u ⟨hu.1, by omega⟩)
    have h2 := h ((n : Int) + 1) ⟨by omega, by omega⟩
    have h3 : ((n + 1 : Nat) : Int) * c = n * c + c := by rw [show ((n + 1 : Nat) : Int) = (n : Int) + 1 by omega, Int.add_mul]; omega
    rw [h3]
    show 0 ≤ sumN f n + f ((n : Int) + 1) ∧ sumN f n + f ((n : Int) + 1) ≤ _
    omega
theorem Od.reads {n : Nat} {t : To} {R : Int → Int → Prop} {made : Nat} (hn : n ≤ 60) (hB : Tb t) (h : Od n t R made) {v : Int} (hv : 1 ≤ v ∧ v ≤ (n : Int)) :
    (t.total v).c = sumN (cU t v) n ∧ (t.total v).s = sumN (sU t v) n ∧ (t.total v).l = minN (lU n t v) n := by
  obtain ⟨h1, h2, h3⟩ := h.su v hv
  obtain ⟨e1, e2, e3⟩ := To.total_S (h.eu.ne0 hB ((h.va v).2 hv))
  rw [h1] at e1; rw [h2] at e2; rw [h3] at e3
  have b1 := sumN_bd (f := cU t v) (n := n) (c := 1) (by omega) (fun u hu => by unfold cU; split <;> omega)
  have b2 := sumN_bd (f := sU t v) (n := n) (c := 60) (by omega) (fun u hu => by unfold sU; split <;> omega)
  refine ⟨?_, ?_, e3⟩
  · rw [e1]; unfold wr wrap64; omega
  · rw [e2]; unfold wr wrap64; omega
theorem Od.self {n : Nat} {t : To} {R : Int → Int → Prop} {made : Nat} (h : Od n t R made) {v : Int} (hv : 1 ≤ v ∧ v ≤ (n : Int)) : t.same v v = true := (h.jo v v hv hv).2 (Jn.refl _)
theorem Od.low {n : Nat} {t : To} {R : Int → Int → Prop} {made : Nat} (h : Od n t R made) {v : Int} (hv : 1 ≤ v ∧ v ≤ (n : Int)) : minN (lU n t v) n ≤ (n : Int) - v := by
  have := minN_le (f := lU n t v) hv
  unfold lU at this
  rw [if_pos (h.self hv)] at this
  exact this
/-- Two of the same pairs answer the same. -/
theorem Od.alike {n : Nat} {s t : To} {R R' : Int → Int → Prop} {m m' : Nat} (h : Od n s R m) (k : Od n t R' m') (hR : ∀ v u, Jn R v u ↔ Jn R' v u) : m = m' ∧ ∀ v, 1 ≤ v ∧ v ≤ (n : Int) → sumN (cU s v) n = sumN (cU t v) n ∧ sumN (sU s v) n = sumN (sU t v) n ∧ minN (lU n s v) n = minN (lU n t v) n ∧ ∀ u, 1 ≤ u ∧ u ≤ (n : Int) → s.same v u = t.same v u := by
  have hs : ∀ v u, 1 ≤ v ∧ v ≤ (n : Int) → 1 ≤ u ∧ u ≤ (n : Int) → s.same v u = t.same v u := fun v u hv hu => by
    have h1 := h.jo v u hv hu
    have h2 := k.jo v u hv hu
    have h3 := hR v u
    cases e1 : s.same v u <;> cases e2 : t.same v u
    · rfl
    · rw [e1] at h1; rw [e2] at h2; exact absurd (h1.2 (h3.2 (h2.1 rfl))) (by simp)
    · rw [e1] at h1; rw [e2] at h2; exact absurd (h2.2 (h3.1 (h1.1 rfl))) (by simp)
    · rfl
  have hl : ∀ v, 1 ≤ v ∧ v ≤ (n : Int) → minN (lU n s v) n = minN (lU n t v) n := fun v hv => minN_congr fun u hu => by unfold lU; rw [hs v u hv hu]
  refine ⟨?_, fun v hv => ⟨sumN_congr fun u hu => by unfold cU; rw [hs v u hv hu], sumN_congr fun u hu => by unfold sU; rw [hs v u hv hu], hl v hv, fun u hu => hs v u hv hu⟩⟩
  have e : sumN (leadN n s) n = sumN (leadN n t) n := sumN_congr fun v hv => by unfold leadN; rw [hl v hv]
  have h1 := h.ld
  have h2 := k.ld
  omega
/-- The pairs that the first forest was tried with by round i, and the second one (the others' order, the other way about). -/
def RF (L : List (Int × Int)) (i : Nat) (x y : Int) : Prop := ∃ j, j < i ∧ L[j]? = some (x, y)
def RG (L : List (Int × Int)) (i : Nat) (x y : Int) : Prop := ∃ j, j < i ∧ L[L.length - 1 - j]? = some (y, x)
theorem RF_all {L : List (Int × Int)} (v u : Int) : Jn (RF L L.length) v u ↔ Jn (RG L L.length) v u := by
  constructor
  · intro h
    refine h.mono fun x y ⟨j, hj, e⟩ => .inr ⟨L.length - 1 - j, by omega, ?_⟩
    rw [show L.length - 1 - (L.length - 1 - j) = j by omega]; exact e
  · intro h
    exact h.mono fun x y ⟨j, hj, e⟩ => .inr ⟨L.length - 1 - j, by omega, e⟩
theorem Od.wider {n : Nat} {t : To} {R R' : Int → Int → Prop} {m : Nat} (h : Od n t R m) (hR : ∀ x y, R x y ↔ R' x y) : Od n t R' m :=
  ⟨h.eu, h.va, fun v u hv hu => (h.jo v u hv hu).trans ⟨fun k => k.mono fun x y r => .inl ((hR x y).1 r), fun k => k.mono fun x y r => .inl ((hR x y).2 r)⟩, h.su, h.ld⟩
theorem RF_step {L : List (Int × Int)} {i : Nat} {a b : Int} (hi : L[i]? = some (a, b)) (x y : Int) : (RF L i x y ∨ (x = a ∧ y = b)) ↔ RF L (i + 1) x y := by
  constructor
  · rintro (⟨j, hj, e⟩ | ⟨rfl, rfl⟩)
    · exact ⟨j, by omega, e⟩
    · exact ⟨i, by omega, hi⟩
  · rintro ⟨j, hj, e⟩
    rcases Nat.lt_or_ge j i with h | h
    · exact .inl ⟨j, h, e⟩
    · obtain rfl : j = i := by omega
      rw [hi] at e; cases e; exact .inr ⟨rfl, rfl⟩
theorem RG_step {L : List (Int × Int)} {i : Nat} {a b : Int} (hi : L[L.length - 1 - i]? = some (b, a)) (x y : Int) : (RG L i x y ∨ (x = a ∧ y = b)) ↔ RG L (i + 1) x y := by
  constructor
  · rintro (⟨j, hj, e⟩ | ⟨rfl, rfl⟩)
    · exact ⟨j, by omega, e⟩
    · exact ⟨i, by omega, hi⟩
  · rintro ⟨j, hj, e⟩
    rcases Nat.lt_or_ge j i with h | h
    · exact .inl ⟨j, h, e⟩
    · obtain rfl : j = i := by omega
      rw [hi] at e; cases e; exact .inr ⟨rfl, rfl⟩
end Go.Proofs.YtcbgeahcnjamdabGreat
