/- Layer 6 (treap), plain: trees, and what nodes tell of them. -/
import Derived.Test.YtpbnhbpkfdhedaaTreapVal
namespace Go.Proofs.Ytpbnhbpkfdhedaa
open Go.RowKit
set_option linter.unusedVariables false

def upd (g : Int → Nd) (i : Int) (n : Nd) : Int → Nd := fun j => if j = i then n else g j
theorem upd_at (g : Int → Nd) (i : Int) (n : Nd) : upd g i n i = n := by simp [upd]
theorem upd_ne (g : Int → Nd) {i j : Int} (n : Nd) (h : j ≠ i) : upd g i n j = g j := by simp [upd, h]

inductive Tr where
  | nil : Tr
  | node : Tr → Int → Tr → Tr
def Tr.seq : Tr → List Int
  | .nil => []
  | .node l i r => l.seq ++ i :: r.seq
def Tr.top : Tr → Int
  | .nil => 0
  | .node _ i _ => i
theorem Tr.top_mem {t : Tr} (h : t ≠ .nil) : t.top ∈ t.seq := by cases t with | nil => exact absurd rfl h | node l i r => simp [Tr.seq, Tr.top]
theorem Tr.seq_nil {t : Tr} : t.seq = [] ↔ t = .nil := by cases t <;> simp [Tr.seq]
/-- What the items of a list have. -/
def own (g : Int → Nd) (xs : List Int) : List Vl := xs.map fun i => (g i).own
theorem own_append (g : Int → Nd) (a b : List Int) : own g (a ++ b) = own g a ++ own g b := by simp [own]
theorem own_cons (g : Int → Nd) (a : Int) (b : List Int) : own g (a :: b) = (g a).own :: own g b := by simp [own]
theorem own_congr {g g' : Int → Nd} {xs : List Int} (h : ∀ i ∈ xs, (g' i).own = (g i).own) : own g' xs = own g xs := by
  unfold own; exact List.map_congr_left h
/-- The tree t hangs below p, as the nodes tell. -/
def Hang (g : Int → Nd) : Int → Tr → Prop
  | _, .nil => True
  | p, .node l i r => (g i).u = p ∧ (g i).l = l.top ∧ (g i).r = r.top ∧ (g i).size = ((Tr.node l i r).seq.length : Int) ∧ (g i).sum = sumV (own g (Tr.node l i r).seq) ∧ Hang g i l ∧ Hang g i r
theorem Hang.congr {g g' : Int → Nd} {p : Int} {t : Tr} (h : Hang g p t) (hg : ∀ i ∈ t.seq, g' i = g i) : Hang g' p t := by
  induction t generalizing p with
  | nil => trivial
  | node l i r ihl ihr =>
    obtain ⟨h1, h2, h3, h4, h5, h6, h7⟩ := h
    have hi := hg i (by simp [Tr.seq])
    refine ⟨by rw [hi]; exact h1, by rw [hi]; exact h2, by rw [hi]; exact h3, by rw [hi]; exact h4, ?_, ihl h6 (fun j hj => hg j (by simp [Tr.seq, hj])), ihr h7 (fun j hj => hg j (by simp [Tr.seq, hj]))⟩
    rw [hi, h5, own_congr (g' := g') (g := g) (fun j hj => by rw [hg j hj])]
theorem Hang.rehang {g g' : Int → Nd} {p q : Int} {t : Tr} (h : Hang g p t) (hn : t.seq.Nodup) (hg : ∀ i ∈ t.seq, i ≠ t.top → g' i = g i) (ht : t ≠ .nil → g' t.top = (g t.top).wu q) : Hang g' q t := by
  cases t with
  | nil => trivial
  | node l i r =>
    obtain ⟨h1, h2, h3, h4, h5, h6, h7⟩ := h
    have hi : g' i = (g i).wu q := ht (by simp)
    simp only [Tr.seq] at hn
    have hn' := List.nodup_append.1 hn
    have hnr := List.nodup_cons.1 hn'.2.1
    have hl : ∀ j ∈ l.seq, j ≠ i := fun j hj e => hn'.2.2 j hj i (by simp) e
    have hr : ∀ j ∈ r.seq, j ≠ i := fun j hj e => hnr.1 (e ▸ hj)
    refine ⟨by rw [hi]; rfl, by rw [hi]; exact h2, by rw [hi]; exact h3, by rw [hi]; exact h4, ?_, h6.congr (fun j hj => hg j (by simp [Tr.seq, hj]) (hl j hj)), h7.congr (fun j hj => hg j (by simp [Tr.seq, hj]) (hr j hj))⟩
    rw [hi]
    show (g i).sum = _
    rw [h5, own_congr (g' := g') (g := g) (fun j hj => ?_)]
    by_cases e : j = i
    · rw [e, hi]; rfl
    · rw [hg j hj e]

/-- A step of a way up: from the left or not, to whom, and what stands on its other side. -/
structure Fm where
  d : Bool
  k : Int
  s : Tr
def plug : List Fm → Tr → Tr
  | [], t => t
  | ⟨true, k, s⟩ :: fs, t => plug fs (.node t k s)
  | ⟨false, k, s⟩ :: fs, t => plug fs (.node s k t)
def pre : List Fm → List Int
  | [] => []
  | ⟨true, _, _⟩ :: fs => pre fs
  | ⟨false, k, s⟩ :: fs => pre fs ++ s.seq ++ [k]
def post : List Fm → List Int
  | [] => []
  | ⟨true, k, s⟩ :: fs => k :: s.seq ++ post fs
  | ⟨false, _, _⟩ :: fs => post fs
def upOf : List Fm → Int
  | [] => 0
  | f :: _ => f.k
theorem plug_seq (fs : List Fm) (t : Tr) : (plug fs t).seq = pre fs ++ t.seq ++ post fs := by
  induction fs generalizing t with
  | nil => simp [plug, pre, post]
  | cons f fs ih =>
    obtain ⟨d, k, s⟩ := f
    cases d <;> simp [plug, pre, post, ih, Tr.seq]
theorem plug_ne {fs : List Fm} {t : Tr} (h : t ≠ .nil) : plug fs t ≠ .nil := by
  intro e
  have := plug_seq fs t
  rw [e] at this
  simp [Tr.seq] at this
  exact h (Tr.seq_nil.1 this.2.1)
/-- The way up, as the nodes tell: c stands where it comes from. -/
def Path (g : Int → Nd) : List Fm → Int → Prop
  | [], _ => True
  | f :: fs, c => (cond f.d (g f.k).l (g f.k).r = c) ∧ (cond f.d (g f.k).r (g f.k).l = f.s.top) ∧ Hang g f.k f.s ∧ (g f.k).u = upOf fs ∧ Path g fs f.k
theorem Hang.path {g : Int → Nd} {fs : List Fm} {t : Tr} (h : Hang g 0 (plug fs t)) : Path g fs t.top ∧ Hang g (upOf fs) t := by
  induction fs generalizing t with
  | nil => exact ⟨trivial, h⟩
  | cons f fs ih =>
    obtain ⟨d, k, s⟩ := f
    cases d with
    | true =>
      obtain ⟨h1, h2, h3, h4, h5, h6, h7, h8⟩ := ih h
      exact ⟨⟨h3, h4, h8, h2, h1⟩, h7⟩
    | false =>
      obtain ⟨h1, h2, h3, h4, h5, h6, h7, h8⟩ := ih h
      exact ⟨⟨h4, h3, h7, h2, h1⟩, h8⟩
theorem plug_append (fs gs : List Fm) (t : Tr) : plug (fs ++ gs) t = plug gs (plug fs t) := by
  induction fs generalizing t with
  | nil => rfl
  | cons f fs ih => obtain ⟨d, k, s⟩ := f; cases d <;> simp [plug, ih]
/-- An item of a tree, and the way up from it. -/
theorem Tr.find {t : Tr} {i : Int} (h : i ∈ t.seq) : ∃ fs l r, t = plug fs (.node l i r) := by
  induction t with
  | nil => simp [Tr.seq] at h
  | node l k r ihl ihr =>
    simp only [Tr.seq, List.mem_append, List.mem_cons] at h
    rcases h with h | rfl | h
    · obtain ⟨fs, a, b, e⟩ := ihl h
      exact ⟨fs ++ [⟨true, k, r⟩], a, b, by rw [plug_append, ← e]; rfl⟩
    · exact ⟨[], l, r, rfl⟩
    · obtain ⟨fs, a, b, e⟩ := ihr h
      exact ⟨fs ++ [⟨false, k, l⟩], a, b, by rw [plug_append, ← e]; rfl⟩
/-- All from the right; all from the left. -/
theorem Tr.last (t : Tr) : ∃ fs, t = plug fs .nil ∧ (∀ f ∈ fs, f.d = false) ∧ post fs = [] := by
  induction t with
  | nil => exact ⟨[], rfl, by simp, rfl⟩
  | node l k r ihl ihr =>
    obtain ⟨fs, e, h1, h2⟩ := ihr
    refine ⟨fs ++ [⟨false, k, l⟩], by rw [plug_append, ← e]; rfl, fun f hf => ?_, ?_⟩
    · rcases List.mem_append.1 hf with h | h
      · exact h1 f h
      · simp at h; rw [h]
    · clear e ihl
      induction fs with
      | nil => rfl
      | cons f fs ih => obtain ⟨d, q, s⟩ := f; have := h1 _ (List.mem_cons_self); simp at this; subst this; exact ih (fun f hf => h1 f (by simp [hf])) h2
theorem Tr.first (t : Tr) : ∃ fs, t = plug fs .nil ∧ (∀ f ∈ fs, f.d = true) ∧ pre fs = [] := by
  induction t with
  | nil => exact ⟨[], rfl, by simp, rfl⟩
  | node l k r ihl ihr =>
    obtain ⟨fs, e, h1, h2⟩ := ihl
    refine ⟨fs ++ [⟨true, k, r⟩], by rw [plug_append, ← e]; rfl, fun f hf => ?_, ?_⟩
    · rcases List.mem_append.1 hf with h | h
      · exact h1 f h
      · simp at h; rw [h]
    · clear e ihr
      induction fs with
      | nil => rfl
      | cons f fs ih => obtain ⟨d, q, s⟩ := f; have := h1 _ (List.mem_cons_self); simp at this; subst this; exact ih (fun f hf => h1 f (by simp [hf])) h2
end Go.Proofs.Ytpbnhbpkfdhedaa
