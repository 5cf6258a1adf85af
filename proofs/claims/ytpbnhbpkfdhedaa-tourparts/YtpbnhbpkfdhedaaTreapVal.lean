/- Layer 6 (treap), plain: values and nodes. -/
import Derived.Test.YtpbnhbpkfdhedaaKit
import Derived.OpenShut
import Derived.RowKit
namespace Go.Proofs.Ytpbnhbpkfdhedaa
open Go.RowKit
set_option linter.unusedVariables false

/-- Where a forest stands: the type of its block, and the cells behind it. -/
structure Hx where
  T : TypeId
  ex : List Value

def wr (x : Int) : Int := wrap64 x
theorem wr_mod (x : Int) : ∃ k : Int, wr x = x + k * 18446744073709551616 ∧ -9223372036854775808 ≤ wr x ∧ wr x ≤ 9223372036854775807 := by
  unfold wr wrap64
  exact ⟨-((x + 9223372036854775808) / 18446744073709551616), by omega, by omega, by omega⟩
theorem wr_id {x : Int} (h : -9223372036854775808 ≤ x) (h' : x ≤ 9223372036854775807) : wr x = x := by
  obtain ⟨k, h1, h2, h3⟩ := wr_mod x
  omega
theorem wr_eq {x y : Int} (k : Int) (h : x = y + k * 18446744073709551616) : wr x = wr y := by
  obtain ⟨a, h1, h2, h3⟩ := wr_mod x
  obtain ⟨b, h4, h5, h6⟩ := wr_mod y
  omega
theorem wr_l (a b : Int) : wr (wr a + b) = wr (a + b) := by
  obtain ⟨k, h1, _⟩ := wr_mod a
  exact wr_eq k (by omega)
theorem wr_r (a b : Int) : wr (a + wr b) = wr (a + b) := by
  obtain ⟨k, h1, _⟩ := wr_mod b
  exact wr_eq k (by omega)
theorem wr_wr (a : Int) : wr (wr a) = wr a := by have := wr_l a 0; simpa using this

/-- Bits of one or the other. -/
def orB (a b : Int) : Int := bits BinOp.or IntKind.u8 a b
def byt (a : Int) : BitVec 8 := BitVec.ofInt 8 a
theorem bits8 (x : BitVec 8) : IntKind.u8.wrap (x.toNat : Int) = x.toNat := by
  have := x.isLt
  simp only [IntKind.wrap, IntKind.bits, IntKind.signed]
  simp
  omega
theorem orB_eq (a b : Int) : orB a b = ((byt a ||| byt b).toNat : Int) := bits8 _
theorem byt_nat (x : BitVec 8) : byt (x.toNat : Int) = x := by
  unfold byt; apply BitVec.eq_of_toNat_eq; simp
theorem byt_or (a b : Int) : byt (orB a b) = byt a ||| byt b := by rw [orB_eq, byt_nat]
theorem orB_assoc (a b c : Int) : orB (orB a b) c = orB a (orB b c) := by
  rw [orB_eq (orB a b), orB_eq a (orB b c), byt_or, byt_or, BitVec.or_assoc]
theorem orB_zero {a : Int} (h : 0 ≤ a) (h' : a < 256) : orB a 0 = a := by
  rw [orB_eq, show byt 0 = 0#8 from rfl, BitVec.or_zero]
  unfold byt
  rw [BitVec.toNat_ofInt]
  simp; omega
theorem zero_orB {a : Int} (h : 0 ≤ a) (h' : a < 256) : orB 0 a = a := by
  rw [orB_eq, show byt 0 = 0#8 from rfl, BitVec.zero_or]
  unfold byt
  rw [BitVec.toNat_ofInt]
  simp; omega
theorem orB_bd (a b : Int) : 0 ≤ orB a b ∧ orB a b < 256 := by
  rw [orB_eq]; have := (byt a ||| byt b).isLt; omega
/-- Has a mark a bit of a mask? -/
def hasB (a mask : Int) : Bool := bits BinOp.and IntKind.u8 a mask != 0
theorem hasB_eq (a mask : Int) : hasB a mask = (byt a &&& byt mask != 0#8) := by
  unfold hasB
  rw [show bits BinOp.and IntKind.u8 a mask = ((byt a &&& byt mask).toNat : Int) from bits8 _]
  generalize byt a &&& byt mask = x
  rw [Bool.eq_iff_iff]
  simp only [bne_iff_ne, ne_eq]
  rw [← BitVec.toNat_inj]
  simp
theorem hasB_or (a b mask : Int) : hasB (orB a b) mask = (hasB a mask || hasB b mask) := by
  rw [hasB_eq, hasB_eq, hasB_eq, byt_or]
  generalize byt a = x
  generalize byt b = y
  generalize byt mask = z
  revert x y z
  intro x y z
  rw [show (x ||| y) &&& z = (x &&& z) ||| (y &&& z) by ext i; simp; cases x[i] <;> cases y[i] <;> simp]
  generalize x &&& z = p
  generalize y &&& z = q
  rw [Bool.eq_iff_iff]
  simp only [Bool.or_eq_true, bne_iff_ne, ne_eq]
  rw [BitVec.or_eq_zero_iff, Decidable.not_and_iff_or_not]
theorem hasB_zero (mask : Int) : hasB 0 mask = false := by
  rw [hasB_eq, show byt 0 = 0#8 from rfl]; simp

/-- What an item has, or some have together: count, sum, least, mark. -/
structure Vl where
  c : Int
  s : Int
  l : Int
  m : Int
def tog (a b : Vl) : Vl := ⟨wr (a.c + b.c), wr (a.s + b.s), min a.l b.l, orB a.m b.m⟩
def noV : Vl := ⟨0, 0, 4611686018427387904, 0⟩
def sumV (xs : List Vl) : Vl := xs.foldl tog noV
/-- Values that 64 bits, and 8, have. -/
def Wv (v : Vl) : Prop := (-9223372036854775808 ≤ v.c ∧ v.c ≤ 9223372036854775807) ∧ (-9223372036854775808 ≤ v.s ∧ v.s ≤ 9223372036854775807) ∧ (-9223372036854775808 ≤ v.l ∧ v.l ≤ 9223372036854775807) ∧ 0 ≤ v.m ∧ v.m < 256
theorem tog_assoc (a b c : Vl) : tog (tog a b) c = tog a (tog b c) := by
  simp only [tog, wr_l, wr_r, orB_assoc, Int.min_assoc, Int.add_assoc]
theorem sumV_snoc (xs : List Vl) (x : Vl) : sumV (xs ++ [x]) = tog (sumV xs) x := by simp [sumV]
theorem sumV_tame (xs : List Vl) : wr (sumV xs).c = (sumV xs).c ∧ wr (sumV xs).s = (sumV xs).s ∧ (sumV xs).l ≤ 4611686018427387904 ∧ 0 ≤ (sumV xs).m ∧ (sumV xs).m < 256 := by
  rcases List.eq_nil_or_concat xs with rfl | ⟨ys, y, rfl⟩
  · refine ⟨wr_id (by decide) (by decide), wr_id (by decide) (by decide), Int.le_refl _, by decide, by decide⟩
  · rw [List.concat_eq_append]
    have h : ∀ (zs : List Vl), (sumV zs).l ≤ 4611686018427387904 := by
      intro zs
      unfold sumV
      have : ∀ (v : Vl), v.l ≤ 4611686018427387904 → (zs.foldl tog v).l ≤ 4611686018427387904 := by
        induction zs with
        | nil => intro v h; exact h
        | cons z zs ih => intro v h; exact ih _ (by simp only [tog]; omega)
      exact this noV (Int.le_refl _)
    refine ⟨?_, ?_, h _, ?_, ?_⟩
    · rw [sumV_snoc]; exact wr_wr _
    · rw [sumV_snoc]; exact wr_wr _
    · rw [sumV_snoc]; exact (orB_bd _ _).1
    · rw [sumV_snoc]; exact (orB_bd _ _).2
theorem tog_noV {v : Vl} (h1 : wr v.c = v.c) (h2 : wr v.s = v.s) (h3 : v.l ≤ 4611686018427387904) (h4 : 0 ≤ v.m) (h5 : v.m < 256) : tog v noV = v := by
  cases v
  simp only [tog, noV, Int.add_zero, Vl.mk.injEq]
  exact ⟨h1, h2, by simp at h3; omega, orB_zero h4 h5⟩
theorem snoc_ind {α : Type} {P : List α → Prop} (h0 : P []) (h1 : ∀ xs x, P xs → P (xs ++ [x])) (xs : List α) : P xs := by
  rw [← List.reverse_reverse xs]
  induction xs.reverse with
  | nil => exact h0
  | cons a l ih => rw [List.reverse_cons]; exact h1 _ _ ih
theorem sumV_append (xs ys : List Vl) : sumV (xs ++ ys) = tog (sumV xs) (sumV ys) := by
  refine snoc_ind (P := fun ys => sumV (xs ++ ys) = tog (sumV xs) (sumV ys)) ?_ (fun ys y ih => ?_) ys
  · obtain ⟨h1, h2, h3, h4, h5⟩ := sumV_tame xs; rw [List.append_nil]; exact (tog_noV h1 h2 h3 h4 h5).symm
  · rw [← List.append_assoc, sumV_snoc, ih, sumV_snoc, tog_assoc]
theorem sumV_node (xs : List Vl) (x : Vl) (ys : List Vl) : tog (tog (sumV xs) x) (sumV ys) = sumV (xs ++ x :: ys) := by
  rw [← sumV_snoc, ← sumV_append]; simp
theorem sumV_wv (xs : List Vl) (hx : ∀ x ∈ xs, Wv x) : Wv (sumV xs) := by
  obtain ⟨h1, h2, h3, h4, h5⟩ := sumV_tame xs
  obtain ⟨_, e1, a1, a2⟩ := wr_mod (sumV xs).c
  obtain ⟨_, e2, b1, b2⟩ := wr_mod (sumV xs).s
  clear e1 e2
  rw [h1] at a1 a2
  rw [h2] at b1 b2
  refine ⟨⟨a1, a2⟩, ⟨b1, b2⟩, ⟨?_, by omega⟩, h4, h5⟩
  have : ∀ (v : Vl), -9223372036854775808 ≤ v.l → -9223372036854775808 ≤ (xs.foldl tog v).l := by
    clear h1 h2 h3 h4 h5 a1 a2 b1 b2
    induction xs with
    | nil => intro v h; exact h
    | cons z zs ih => intro v h; exact ih (fun x hm => hx x (List.mem_cons_of_mem _ hm)) (tog v z) (by have := (hx z (List.mem_cons_self)).2.2.1.1; simp only [tog]; omega)
  exact this noV (by decide)
theorem sumV_mark (xs : List Vl) (mask : Int) : hasB (sumV xs).m mask = xs.any fun x => hasB x.m mask := by
  refine snoc_ind (P := fun xs => hasB (sumV xs).m mask = xs.any fun x => hasB x.m mask) (hasB_zero mask) (fun ys y ih => ?_) xs
  rw [sumV_snoc]; show hasB (orB _ _) _ = _; rw [hasB_or, ih]; simp

/-- A node: its own value, the sum and the size of the tree below it, its priority, what stands left and right of it, and above. -/
structure Nd where
  own : Vl
  sum : Vl
  size : Int
  pr : Int
  l : Int
  r : Int
  u : Int
def Nd.wu (n : Nd) (q : Int) : Nd := ⟨n.own, n.sum, n.size, n.pr, n.l, n.r, q⟩
def Nd.wl (n : Nd) (q : Int) : Nd := ⟨n.own, n.sum, n.size, n.pr, q, n.r, n.u⟩
def Nd.wr (n : Nd) (q : Int) : Nd := ⟨n.own, n.sum, n.size, n.pr, n.l, q, n.u⟩
def Nd.wo (n : Nd) (v : Vl) : Nd := ⟨v, n.sum, n.size, n.pr, n.l, n.r, n.u⟩
def Nd.ws (n : Nd) (z : Int) (v : Vl) : Nd := ⟨n.own, v, z, n.pr, n.l, n.r, n.u⟩
end Go.Proofs.Ytpbnhbpkfdhedaa
