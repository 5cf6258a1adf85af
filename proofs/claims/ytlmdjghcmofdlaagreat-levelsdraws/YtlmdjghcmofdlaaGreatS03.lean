/- Lemmas. -/
import Derived.Test.YtlmdjghcmofdlaaGreatS02
import Derived.OpenShut
import Derived.RowKit
set_option maxRecDepth 100000
set_option maxHeartbeats 64000000
namespace Go.Proofs.YtlmdjghcmofdlaaGreat
open Go.RowKit
set_option linter.unusedVariables false
structure Hx where
  T : TypeId
  ex : List Value
  /-- The draws that it shares with others: where they lie, and their list. -/
  dr : Option (Nat × Nat × List Int)
def wr (x : Int) : Int := wrap64 x
theorem wr_mod (x : Int) : ∃ k : Int, wr x = x + k * 18446744073709551616 ∧ -9223372036854775808 ≤ wr x ∧ wr x ≤ 9223372036854775807 := by
  unfold wr wrap64
  exact ⟨-((x + 9223372036854775808) / 18446744073709551616), by omega, by omega, by omega⟩
theorem wr_id {x : Int} (h : -9223372036854775808 ≤ x) (h' : x ≤ 9223372036854775807) : wr x = x := by
  obtain ⟨k, h1, h2, h3⟩ := wr_mod x
  omega
theorem wr_eq {x y : Int} (k : Int) (h : x = y + k * 18446744073709551616) : wr x = wr y := by
  obtain ⟨a, h1, h2, h3⟩ := wr_mod x
  obtain ⟨b, h4, h5, h6⟩ := wr_mod y
  omega
theorem wr_l (a b : Int) : wr (wr a + b) = wr (a + b) := by
  obtain ⟨k, h1, _⟩ := wr_mod a
  exact wr_eq k (by omega)
theorem wr_r (a b : Int) : wr (a + wr b) = wr (a + b) := by
  obtain ⟨k, h1, _⟩ := wr_mod b
  exact wr_eq k (by omega)
theorem wr_wr (a : Int) : wr (wr a) = wr a := by have := wr_l a 0; simpa using this
def orB (a b : Int) : Int := bits BinOp.or IntKind.u8 a b
def byt (a : Int) : BitVec 8 := BitVec.ofInt 8 a
theorem bits8 (x : BitVec 8) : IntKind.u8.wrap (x.toNat : Int) = x.toNat := by
  have := x.isLt
  simp only [IntKind.wrap, IntKind.bits, IntKind.signed]
  simp
  omega
theorem orB_eq (a b : Int) : orB a b = ((byt a ||| byt b).toNat : Int) := bits8 _
theorem byt_nat (x : BitVec 8) : byt (x.toNat : Int) = x := by
  unfold byt; apply BitVec.eq_of_toNat_eq; simp
theorem byt_or (a b : Int) : byt (orB a b) = byt a ||| byt b := by rw [orB_eq, byt_nat]
theorem orB_assoc (a b c : Int) : orB (orB a b) c = orB a (orB b c) := by
  rw [orB_eq (orB a b), orB_eq a (orB b c), byt_or, byt_or, BitVec.or_assoc]
theorem orB_zero {a : Int} (h : 0 ≤ a) (h' : a < 256) : orB a 0 = a := by
  rw [orB_eq, show byt 0 = 0#8 from rfl, BitVec.or_zero]
  unfold byt
  rw [BitVec.toNat_ofInt]
  simp; omega
theorem orB_bd (a b : Int) : 0 ≤ orB a b ∧ orB a b < 256 := by
  rw [orB_eq]; have := (byt a ||| byt b).isLt; omega
def hasB (a mask : Int) : Bool := bits BinOp.and IntKind.u8 a mask != 0
theorem hasB_eq (a mask : Int) : hasB a mask = (byt a &&& byt mask != 0#8) := by
  unfold hasB
  rw [show bits BinOp.and IntKind.u8 a mask = ((byt a &&& byt mask).toNat : Int) from bits8 _]
  generalize byt a &&& byt mask = x
  rw [Bool.eq_iff_iff]
  simp only [bne_iff_ne, ne_eq]
  rw [← BitVec.toNat_inj]
  simp
theorem hasB_or (a b mask : Int) : hasB (orB a b) mask = (hasB a mask || hasB b mask) := by
  rw [hasB_eq, hasB_eq, hasB_eq, byt_or]
  generalize byt a = x
  generalize byt b = y
  generalize byt mask = z
  revert x y z
  intro x y z
  rw [show (x ||| y) &&& z = (x &&& z) ||| (y &&& z) by ext i; simp; cases x[i] <;> cases y[i] <;> simp]
  generalize x &&& z = p
  generalize y &&& z = q
  rw [Bool.eq_iff_iff]
  simp only [Bool.or_eq_true, bne_iff_ne, ne_eq]
  rw [BitVec.or_eq_zero_iff, Decidable.not_and_iff_or_not]
theorem hasB_zero (mask : Int) : hasB 0 mask = false := by
  rw [hasB_eq, show byt 0 = 0#8 from rfl]; simp
structure Vl where
  c : Int
  s : Int
  l : Int
  m : Int
def tog (a b : Vl) : Vl := ⟨wr (a.c + b.c), wr (a.s + b.s), min a.l b.l, orB a.m b.m⟩
def noV : Vl := ⟨0, 0, 4611686018427387904, 0⟩
def sumV (xs : List Vl) : Vl := xs.foldl tog noV
theorem tog_assoc (a b c : Vl) : tog (tog a b) c = tog a (tog b c) := by
  simp only [tog, wr_l, wr_r, orB_assoc, Int.min_assoc, Int.add_assoc]
theorem sumV_snoc (xs : List Vl) (x : Vl) : sumV (xs ++ [x]) = tog (sumV xs) x := by simp [sumV]
theorem sumV_tame (xs : List Vl) : wr (sumV xs).c = (sumV xs).c ∧ wr (sumV xs).s = (sumV xs).s ∧ (sumV xs).l ≤ 4611686018427387904 ∧ 0 ≤ (sumV xs).m ∧ (sumV xs).m < 256 := by
  rcases List.eq_nil_or_concat xs with rfl | ⟨ys, y, rfl⟩
  · refine ⟨wr_id (by decide) (by decide), wr_id (by decide) (by decide), Int.le_refl _, by decide, by decide⟩
  · rw [List.concat_eq_append]
    have h : ∀ (zs : List Vl), (sumV zs).l ≤ 4611686018427387904 := by
      intro zs
      unfold sumV
      have : ∀ (v : Vl), v.l ≤ 4611686018427387904 → (zs.foldl tog v).l ≤ 4611686018427387904 := by
        induction zs with
        | nil => intro v h; exact h
        | cons z zs ih => intro v h; exact ih _ (by simp only [tog]; omega)
      exact this noV (Int.le_refl _)
    refine ⟨?_, ?_, h _, ?_, ?_⟩
    · rw [sumV_snoc]; exact wr_wr _
    · rw [sumV_snoc]; exact wr_wr _
    · rw [sumV_snoc]; exact (orB_bd _ _).1
    · rw [sumV_snoc]; exact (orB_bd _ _).2
theorem tog_noV {v : Vl} (h1 : wr v.c = v.c) (h2 : wr v.s = v.s) (h3 : v.l ≤ 4611686018427387904) (h4 : 0 ≤ v.m) (h5 : v.m < 256) : tog v noV = v := by
  cases v
  simp only [tog, noV, Int.add_zero, Vl.mk.injEq]
  exact ⟨h1, h2, by simp at h3; omega, orB_zero h4 h5⟩
theorem snoc_ind {α : Type} {P : List α → Prop} (h0 : P []) (h1 : ∀ xs x, P xs → P (xs ++ [x])) (xs : List α) : P xs := by
  rw [← List.reverse_reverse xs]
  induction xs.reverse with
  | nil => exact h0
  | cons a l ih => rw [List.reverse_cons]; exact h1 _ _ ih
theorem sumV_append (xs ys : List Vl) : sumV (xs ++ ys) = tog (sumV xs) (sumV ys) := by
  refine snoc_ind (P := fun ys => sumV (xs ++ ys) = tog (sumV xs) (sumV ys)) ?_ (fun ys y ih => ?_) ys
  · obtain ⟨h1, h2, h3, h4, h5⟩ := sumV_tame xs; rw [List.append_nil]; exact (tog_noV h1 h2 h3 h4 h5).symm
  · rw [← List.append_assoc, sumV_snoc, ih, sumV_snoc, tog_assoc]
theorem sumV_node (xs : List Vl) (x : Vl) (ys : List Vl) : tog (tog (sumV xs) x) (sumV ys) = sumV (xs ++ x :: ys) := by
  rw [← sumV_snoc, ← sumV_append]; simp
theorem sumV_mark (xs : List Vl) (mask : Int) : hasB (sumV xs).m mask = xs.any fun x => hasB x.m mask := by
  refine snoc_ind (P := fun xs => hasB (sumV xs).m mask = xs.any fun x => hasB x.m mask) (hasB_zero mask) (fun ys y ih => ?_) xs
  rw [sumV_snoc]; show hasB (orB _ _) _ = _; rw [hasB_or, ih]; simp
structure Nd where
  own : Vl
  sum : Vl
  size : Int
  pr : Int
  l : Int
  r : Int
  u : Int
def Nd.wu (n : Nd) (q : Int) : Nd := ⟨n.own, n.sum, n.size, n.pr, n.l, n.r, q⟩
def Nd.wl (n : Nd) (q : Int) : Nd := ⟨n.own, n.sum, n.size, n.pr, q, n.r, n.u⟩
def Nd.wr (n : Nd) (q : Int) : Nd := ⟨n.own, n.sum, n.size, n.pr, n.l, q, n.u⟩
def Nd.wo (n : Nd) (v : Vl) : Nd := ⟨v, n.sum, n.size, n.pr, n.l, n.r, n.u⟩
def Nd.ws (n : Nd) (z : Int) (v : Vl) : Nd := ⟨n.own, v, z, n.pr, n.l, n.r, n.u⟩
end Go.Proofs.YtlmdjghcmofdlaaGreat
/- Layer 6 (treap), plain: trees, and what nodes tell of them. -/
namespace Go.Proofs.YtlmdjghcmofdlaaGreat
open Go.RowKit
set_option linter.unusedVariables false
def upd (g : Int → Nd) (i : Int) (n : Nd) : Int → Nd := fun j => if j = i then n else g j
theorem upd_at (g : Int → Nd) (i : Int) (n : Nd) : upd g i n i = n := by simp [upd]
theorem upd_ne (g : Int → Nd) {i j : Int} (n : Nd) (h : j ≠ i) : upd g i n j = g j := by simp [upd, h]
inductive Tr where
  | nil : Tr
  | node : Tr → Int → Tr → Tr
def Tr.seq : Tr → List Int
  | .nil => []
  | .node l i r => l.seq ++ i :: r.seq
def Tr.top : Tr → Int
  | .nil => 0
  | .node _ i _ => i
theorem Tr.top_mem {t : Tr} (h : t ≠ .nil) : t.top ∈ t.seq := by cases t with | nil => exact absurd rfl h | node l i r => simp [Tr.seq, Tr.top]
def own (g : Int → Nd) (xs : List Int) : List Vl := xs.map fun i => (g i).own
theorem own_congr {g g' : Int → Nd} {xs : List Int} (h : ∀ i ∈ xs, (g' i).own = (g i).own) : own g' xs = own g xs := by
  unfold own; exact List.map_congr_left h
def Hang (g : Int → Nd) : Int → Tr → Prop
  | _, .nil => True
  | p, .node l i r => (g i).u = p ∧ (g i).l = l.top ∧ (g i).r = r.top ∧ (g i).size = ((Tr.node l i r).seq.length : Int) ∧ (g i).sum = sumV (own g (Tr.node l i r).seq) ∧ Hang g i l ∧ Hang g i r
theorem Hang.congr {g g' : Int → Nd} {p : Int} {t : Tr} (h : Hang g p t) (hg : ∀ i ∈ t.seq, g' i = g i) : Hang g' p t := by
  induction t generalizing p with
  | nil => trivial
  | node l i r ihl ihr =>
    obtain ⟨h1, h2, h3, h4, h5, h6, h7⟩ := h
    have hi := hg i (by simp [Tr.seq])
    refine ⟨by rw [hi]; exact h1, by rw [hi]; exact h2, by rw [hi]; exact h3, by rw [hi]; exact h4, ?_, ihl h6 (fun j hj => hg j (by simp [Tr.seq, hj])), ihr h7 (fun j hj => hg j (by simp [Tr.seq, hj]))⟩
    rw [hi, h5, own_congr (g' := g') (g := g) (fun j hj => by rw [hg j hj])]
theorem Hang.rehang {g g' : Int → Nd} {p q : Int} {t : Tr} (h : Hang g p t) (hn : t.seq.Nodup) (hg : ∀ i ∈ t.seq, i ≠ t.top → g' i = g i) (ht : t ≠ .nil → g' t.top = (g t.top).wu q) : Hang g' q t := by
  cases t with
  | nil => trivial
  | node l i r =>
    obtain ⟨h1, h2, h3, h4, h5, h6, h7⟩ := h
    have hi : g' i = (g i).wu q := ht (by simp)
    simp only [Tr.seq] at hn
    have hn' := List.nodup_append.1 hn
    have hnr := List.nodup_cons.1 hn'.2.1
    have hl : ∀ j ∈ l.seq, j ≠ i := fun j hj e => hn'.2.2 j hj i (by simp) e
    have hr : ∀ j ∈ r.seq, j ≠ i := fun j hj e => hnr.1 (e ▸ hj)
    refine ⟨by rw [hi]; rfl, by rw [hi]; exact h2, by rw [hi]; exact h3, by rw [hi]; exact h4, ?_, h6.congr (fun j hj => hg j (by simp [Tr.seq, hj]) (hl j hj)), h7.congr (fun j hj => hg j (by simp [Tr.seq, hj]) (hr j hj))⟩
    rw [hi]
    show (g i).sum = _
    rw [h5, own_congr (g' := g') (g := g) (fun j hj => ?_)]
    by_cases e : j = i
    · rw [e, hi]; rfl
    · rw [hg j hj e]
structure Fm where
  d : Bool
  k : Int
  s : Tr
def plug : List Fm → Tr → Tr
  | [], t => t
  | ⟨true, k, s⟩ :: fs, t => plug fs (.node t k s)
  | ⟨false, k, s⟩ :: fs, t => plug fs (.node s k t)
def pre : List Fm → List Int
  | [] => []
  | ⟨true, _, _⟩ :: fs => pre fs
  | ⟨false, k, s⟩ :: fs => pre fs ++ s.seq ++ [k]
def post : List Fm → List Int
  | [] => []
  | ⟨true, k, s⟩ :: fs => k :: s.seq ++ post fs
  | ⟨false, _, _⟩ :: fs => post fs
def upOf : List Fm → Int
  | [] => 0
  | f :: _ => f.k
theorem plug_seq (fs : List Fm) (t : Tr) : (plug fs t).seq = pre fs ++ t.seq ++ post fs := by
  induction fs generalizing t with
  | nil => simp [plug, pre, post]
  | cons f fs ih =>
    obtain ⟨d, k, s⟩ := f
    cases d <;> simp [plug, pre, post, ih, Tr.seq]
def Path (g : Int → Nd) : List Fm → Int → Prop
  | [], _ => True
  | f :: fs, c => (cond f.d (g f.k).l (g f.k).r = c) ∧ (cond f.d (g f.k).r (g f.k).l = f.s.top) ∧ Hang g f.k f.s ∧ (g f.k).u = upOf fs ∧ Path g fs f.k
theorem Hang.path {g : Int → Nd} {fs : List Fm} {t : Tr} (h : Hang g 0 (plug fs t)) : Path g fs t.top ∧ Hang g (upOf fs) t := by
  induction fs generalizing t with
  | nil => exact ⟨trivial, h⟩
  | cons f fs ih =>
    obtain ⟨d, k, s⟩ := f
    cases d with
    | true =>
      obtain ⟨h1, h2, h3, h4, h5, h6, h7, h8⟩ := ih h
      exact ⟨⟨h3, h4, h8, h2, h1⟩, h7⟩
    | false =>
      obtain ⟨h1, h2, h3, h4, h5, h6, h7, h8⟩ := ih h
      exact ⟨⟨h4, h3, h7, h2, h1⟩, h8⟩
theorem plug_append (fs gs : List Fm) (t : Tr) : plug (fs ++ gs) t = plug gs (plug fs t) := by
  induction fs generalizing t with
  | nil => rfl
  | cons f fs ih => obtain ⟨d, k, s⟩ := f; cases d <;> simp [plug, ih]
theorem Tr.find {t : Tr} {i : Int} (h : i ∈ t.seq) : ∃ fs l r, t = plug fs (.node l i r) := by
  induction t with
  | nil => simp [Tr.seq] at h
  | node l k r ihl ihr =>
    simp only [Tr.seq, List.mem_append, List.mem_cons] at h
    rcases h with h | rfl | h
    · obtain ⟨fs, a, b, e⟩ := ihl h
      exact ⟨fs ++ [⟨true, k, r⟩], a, b, by rw [plug_append, ← e]; rfl⟩
    · exact ⟨[], l, r, rfl⟩
    · obtain ⟨fs, a, b, e⟩ := ihr h
      exact ⟨fs ++ [⟨false, k, l⟩], a, b, by rw [plug_append, ← e]; rfl⟩
theorem Tr.last (t : Tr) : ∃ fs, t = plug fs .nil ∧ (∀ f ∈ fs, f.d = false) ∧ post fs = [] := by
  induction t with
  | nil => exact ⟨[], rfl, by simp, rfl⟩
  | node l k r ihl ihr =>
    obtain ⟨fs, e, h1, h2⟩ := ihr
    refine ⟨fs ++ [⟨false, k, l⟩], by rw [plug_append, ← e]; rfl, fun f hf => ?_, ?_⟩
    · rcases List.mem_append.1 hf with h | h
      · exact h1 f h
      · simp at h; rw [h]
    · clear e ihl
      induction fs with
      | nil => rfl
      | cons f fs ih => obtain ⟨d, q, s⟩ := f; have := h1 _ (List.mem_cons_self); simp at this; subst this; exact ih (fun f hf => h1 f (by simp [hf])) h2
theorem Tr.first (t : Tr) : ∃ fs, t = plug fs .nil ∧ (∀ f ∈ fs, f.d = true) ∧ pre fs = [] := by
  induction t with
  | nil => exact ⟨[], rfl, by simp, rfl⟩
  | node l k r ihl ihr =>
    obtain ⟨fs, e, h1, h2⟩ := ihl
    refine ⟨fs ++ [⟨true, k, r⟩], by rw [plug_append, ← e]; rfl, fun f hf => ?_, ?_⟩
    · rcases List.mem_append.1 hf with h | h
      · exact h1 f h
      · simp at h; rw [h]
    · clear e ihr
      induction fs with
      | nil => rfl
      | cons f fs ih => obtain ⟨d, q, s⟩ := f; have := h1 _ (List.mem_cons_self); simp at this; subst this; exact ih (fun f hf => h1 f (by simp [hf])) h2
end Go.Proofs.YtlmdjghcmofdlaaGreat
