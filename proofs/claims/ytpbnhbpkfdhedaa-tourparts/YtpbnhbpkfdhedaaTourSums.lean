/- Layer 7 (tour), plain: what the vertices of a tree have together. -/
import Derived.Test.YtpbnhbpkfdhedaaTourEu
namespace Go.Proofs.Ytpbnhbpkfdhedaa
open Go.RowKit
set_option linter.unusedVariables false
def cS (V : Int → Vl) : List Int → Int
  | [] => 0
  | j :: l => (V j).c + cS V l
def sS (V : Int → Vl) : List Int → Int
  | [] => 0
  | j :: l => (V j).s + sS V l
def lS (V : Int → Vl) : List Int → Int
  | [] => 4611686018427387904
  | j :: l => min (V j).l (lS V l)
theorem lS_le (V : Int → Vl) (l : List Int) : lS V l ≤ 4611686018427387904 := by
  induction l with
  | nil => exact Int.le_refl _
  | cons j l ih => show min _ _ ≤ _; omega
theorem cS_app (V : Int → Vl) (a b : List Int) : cS V (a ++ b) = cS V a + cS V b := by
  induction a with
  | nil => show cS V b = 0 + _; omega
  | cons j a ih => show (V j).c + cS V (a ++ b) = (V j).c + cS V a + _; rw [ih]; omega
theorem sS_app (V : Int → Vl) (a b : List Int) : sS V (a ++ b) = sS V a + sS V b := by
  induction a with
  | nil => show sS V b = 0 + _; omega
  | cons j a ih => show (V j).s + sS V (a ++ b) = (V j).s + sS V a + _; rw [ih]; omega
theorem lS_app (V : Int → Vl) (a b : List Int) : lS V (a ++ b) = min (lS V a) (lS V b) := by
  induction a with
  | nil => show lS V b = min 4611686018427387904 _; have := lS_le V b; omega
  | cons j a ih => show min (V j).l (lS V (a ++ b)) = min (min (V j).l (lS V a)) _; rw [ih]; omega
theorem S_perm (V : Int → Vl) {a b : List Int} (h : a.Perm b) : cS V a = cS V b ∧ sS V a = sS V b ∧ lS V a = lS V b := by
  induction h with
  | nil => exact ⟨rfl, rfl, rfl⟩
  | cons x _ ih => exact ⟨by show _ + _ = _ + _; rw [ih.1], by show _ + _ = _ + _; rw [ih.2.1], by show min _ _ = min _ _; rw [ih.2.2]⟩
  | swap x y l => exact ⟨by show _ + (_ + _) = _ + (_ + _); omega, by show _ + (_ + _) = _ + (_ + _); omega, by show min _ (min _ _) = min _ (min _ _); omega⟩
  | trans _ _ ih1 ih2 => exact ⟨ih1.1.trans ih2.1, ih1.2.1.trans ih2.2.1, ih1.2.2.trans ih2.2.2⟩
theorem S_congr {V V' : Int → Vl} {l : List Int} (h : ∀ j ∈ l, V' j = V j) : cS V' l = cS V l ∧ sS V' l = sS V l ∧ lS V' l = lS V l := by
  induction l with
  | nil => exact ⟨rfl, rfl, rfl⟩
  | cons j l ih =>
    obtain ⟨h1, h2, h3⟩ := ih (fun k hk => h k (by simp [hk]))
    have e := h j (by simp)
    exact ⟨by show _ + _ = _ + _; rw [e, h1], by show _ + _ = _ + _; rw [e, h2], by show min _ _ = min _ _; rw [e, h3]⟩
theorem sumV_S (V : Int → Vl) (l : List Int) : (sumV (l.map V)).c = wr (cS V l) ∧ (sumV (l.map V)).s = wr (sS V l) ∧ (sumV (l.map V)).l = lS V l := by
  induction l with
  | nil => exact ⟨(wr_id (x := 0) (by decide) (by decide)).symm, (wr_id (x := 0) (by decide) (by decide)).symm, rfl⟩
  | cons j l ih =>
    have e : sumV ((j :: l).map V) = tog (tog noV (V j)) (sumV (l.map V)) := by
      show sumV ([V j] ++ l.map V) = _
      rw [sumV_append]; rfl
    rw [e]
    obtain ⟨h1, h2, h3⟩ := ih
    have hl := lS_le V l
    refine ⟨?_, ?_, ?_⟩
    · show wr (wr (0 + (V j).c) + (sumV (l.map V)).c) = wr ((V j).c + cS V l)
      rw [h1, wr_l, wr_r, Int.zero_add]
    · show wr (wr (0 + (V j).s) + (sumV (l.map V)).s) = wr ((V j).s + sS V l)
      rw [h2, wr_l, wr_r, Int.zero_add]
    · show min (min 4611686018427387904 (V j).l) (sumV (l.map V)).l = min (V j).l (lS V l)
      rw [h3]; omega
/-- An edge's items count for nothing. -/
theorem S_edge {V : Int → Vl} {L N M : List Int} {x y : Int} (h : L.Perm (x :: (N ++ y :: M))) (hx : (V x).c = 0 ∧ (V x).s = 0 ∧ (V x).l = 4611686018427387904) (hy : (V y).c = 0 ∧ (V y).s = 0 ∧ (V y).l = 4611686018427387904) : cS V L = cS V N + cS V M ∧ sS V L = sS V N + sS V M ∧ lS V L = min (lS V N) (lS V M) := by
  obtain ⟨h1, h2, h3⟩ := S_perm V h
  rw [h1, h2, h3]
  refine ⟨?_, ?_, ?_⟩
  · show (V x).c + cS V (N ++ y :: M) = _
    rw [cS_app, show cS V (y :: M) = (V y).c + cS V M from rfl]; omega
  · show (V x).s + sS V (N ++ y :: M) = _
    rw [sS_app, show sS V (y :: M) = (V y).s + sS V M from rfl]; omega
  · show min (V x).l (lS V (N ++ y :: M)) = _
    rw [lS_app, show lS V (y :: M) = min (V y).l (lS V M) from rfl]
    have := lS_le V N
    have := lS_le V M
    omega
theorem To.total_S {t : To} {v : Int} (hv : t.item v ≠ 0) : (t.total v).c = wr (cS t.s.V (t.s.S (t.item v))) ∧ (t.total v).s = wr (sS t.s.V (t.s.S (t.item v))) ∧ (t.total v).l = lS t.s.V (t.s.S (t.item v)) := by
  unfold To.total
  rw [if_neg hv]
  exact sumV_S _ _
/-- The state behind k vertices, each of which was linked to one ahead of it. -/
structure Pt (n k : Nat) (t : To) : Prop where
  eu : Eu t
  va : ∀ v, isA t.v v = true ↔ 1 ≤ v ∧ v ≤ (k : Int)
  vl : t.v.length = k ∧ t.fv = []
  ea : ∀ m, isA t.e m = true ↔ 1 ≤ m ∧ m < (k : Int)
  el : t.e.length = k - 1 ∧ t.fe = []
  one : ∀ v u, 1 ≤ v ∧ v ≤ (k : Int) → 1 ≤ u ∧ u ≤ (k : Int) → t.item u ∈ t.s.S (t.item v)
  cs : ∀ v, 1 ≤ v ∧ v ≤ (k : Int) → cS t.s.V (t.s.S (t.item v)) = k ∧ lS t.s.V (t.s.S (t.item v)) = (n : Int) - k
theorem pt0 (n : Nat) : Pt n 0 to0 := ⟨to0_eu, fun v => ⟨fun h => (by simp [isA, to0] at h), fun h => by omega⟩, ⟨rfl, rfl⟩, fun m => ⟨fun h => (by simp [isA, to0] at h), fun h => by omega⟩, ⟨rfl, rfl⟩, fun v u h => by omega, fun v h => by omega⟩
/-- Facts of a vertex more. -/
theorem addV_facts {t : To} (hB : Tb t) (h : Eu t) (a b : Int) : ∃ i, t.s.S i = [] ∧ (t.addV a b).s.S i = [i] ∧ (∀ j, j ≠ i → (t.addV a b).s.S j = t.s.S j) ∧ (t.addV a b).s.V i = ⟨1, a, b, 0⟩ ∧ (∀ j, j ≠ i → (t.addV a b).s.V j = t.s.V j) ∧ (∀ u, isA (t.addV a b).v u = if u = tkI t.v t.fv then true else isA t.v u) ∧ (t.addV a b).item (tkI t.v t.fv) = i ∧ (∀ u, isA t.v u = true → (t.addV a b).item u = t.item u) := by
  have hfree : t.s.S (newI t.s.K t.s.fr) = [] := by
    have := newI_free hB.fk
    cases hS : t.s.S (newI t.s.K t.s.fr) with
    | nil => rfl
    | cons c l => have h2 := (hB.kS _).2 (by rw [hS]; simp); rw [this] at h2; cases h2
  have isa : ∀ u, isA (t.addV a b).v u = if u = tkI t.v t.fv then true else isA t.v u := fun u => isA_tkL h.vk.rng _ u
  have hvf : isA t.v (tkI t.v t.fv) = false := h.vk.new
  have it : ∀ u, isA (t.addV a b).v u = true → (t.addV a b).item u = if u = tkI t.v t.fv then newI t.s.K t.s.fr else t.item u := fun u hu => by
    have hub := isA_bd hu
    rw [To.item_yes hu, show (t.addV a b).v = tkL t.v t.fv (newI t.s.K t.s.fr) from rfl, atA_tkL h.vk.rng 0 _ hub.1]
    split
    · rfl
    · rename_i hne
      rw [isa, if_neg hne] at hu
      rw [To.item_yes hu]
  refine ⟨newI t.s.K t.s.fr, hfree, if_pos rfl, fun j hj => if_neg hj, if_pos rfl, fun j hj => if_neg hj, isa, ?_, fun u hu => ?_⟩
  · rw [it _ (by rw [isa, if_pos rfl]), if_pos rfl]
  · have hne : u ≠ tkI t.v t.fv := fun e => by rw [e, hvf] at hu; cases hu
    rw [it u (by rw [isa, if_neg hne]; exact hu), if_neg hne]
theorem Eu.item_ne {t : To} (hB : Tb t) (h : Eu t) (hb : t.Bd) {v : Int} (hv : isA t.v v = true) : t.item v ≠ 0 ∧ t.item v ∈ t.s.S (t.item v) := by
  refine ⟨?_, hB.fam.mem _ (h.iv v hv).1⟩
  have := hb.v v hv
  rw [To.item_yes hv]
  unfold Bd at this
  omega
end Go.Proofs.Ytpbnhbpkfdhedaa
