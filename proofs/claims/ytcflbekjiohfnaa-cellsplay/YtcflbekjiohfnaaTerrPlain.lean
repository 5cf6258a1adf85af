/- Layer 2 (terrain) in plain mathematics: kinds are pairs (cost, mask); what a table of kinds answers. -/
namespace Go.Proofs.Ytcflbekjiohfnaa

abbrev Kd := Int × Int
def kAt (ks : List Kd) (i : Nat) : Kd := ks.getD i (0, 0)
def bitB (m k : Int) : Bool := m / 2 ^ k.toNat % 2 == 1
def okK (cl : Int) (x : Kd) : Bool := decide (1 ≤ x.1) && (decide (x.1 ≤ 255) && (x.2 / 2 ^ cl.toNat == 0))
def okT (ks : List Kd) (cl : Int) : Bool := (decide (1 ≤ ks.length) && decide (ks.length ≤ 16) && decide (1 ≤ cl) && decide (cl ≤ 8)) && ks.all (okK cl)
def pickN (c n : Int) (x : Kd) : Int := if bitB x.2 c && (n == 0 || decide (x.1 < n)) then x.1 else n
def leastL (ks : List Kd) (c : Int) : Int := ks.foldl (pickN c) 0
def hasN (n x : Int) : Bool := decide (0 ≤ x) && decide (x < n)
def mayB (ks : List Kd) (cl c k : Int) : Bool := hasN cl c && (hasN ks.length k && bitB (kAt ks k.toNat).2 c)
def costN (ks : List Kd) (k : Int) : Int := if hasN ks.length k then (kAt ks k.toNat).1 else 0
def leastN (ks : List Kd) (cl c : Int) : Int := if hasN cl c then leastL ks c else 0
/-- All masks are bytes. -/
def Wk (ks : List Kd) : Prop := ∀ x ∈ ks, 0 ≤ x.2 ∧ x.2 < 256

theorem kAt_eq {ks : List Kd} {i : Nat} (h : i < ks.length) : kAt ks i = ks[i] := by
  unfold kAt; rw [List.getD_eq_getElem?_getD, List.getElem?_eq_getElem h]; rfl
theorem kAt_mem {ks : List Kd} {i : Nat} (h : i < ks.length) : kAt ks i ∈ ks := by
  rw [kAt_eq h]; exact List.getElem_mem h
theorem Wk.at {ks : List Kd} (h : Wk ks) {i : Nat} (hi : i < ks.length) : 0 ≤ (kAt ks i).2 ∧ (kAt ks i).2 < 256 := h _ (kAt_mem hi)
theorem take_snoc {ks : List Kd} {i : Nat} (h : i < ks.length) : ks.take (i + 1) = ks.take i ++ [kAt ks i] := by
  rw [kAt_eq h, List.take_add_one, List.getElem?_eq_getElem h]; rfl
theorem leastL_snoc {ks : List Kd} {i : Nat} (c : Int) (h : i < ks.length) : leastL (ks.take (i + 1)) c = pickN c (leastL (ks.take i) c) (kAt ks i) := by
  rw [take_snoc h]; simp [leastL]
theorem hasN_iff {n x : Int} : hasN n x = true ↔ 0 ≤ x ∧ x < n := by simp [hasN]
theorem okT_iff {ks : List Kd} {cl : Int} : okT ks cl = true ↔ 1 ≤ ks.length ∧ ks.length ≤ 16 ∧ 1 ≤ cl ∧ cl ≤ 8 ∧ ks.all (okK cl) = true := by
  unfold okT; simp only [Bool.and_eq_true, decide_eq_true_eq]; exact ⟨fun ⟨⟨⟨⟨a, b⟩, c⟩, d⟩, e⟩ => ⟨a, b, c, d, e⟩, fun ⟨a, b, c, d, e⟩ => ⟨⟨⟨⟨a, b⟩, c⟩, d⟩, e⟩⟩
theorem all_snoc {ks : List Kd} {i : Nat} (cl : Int) (h : i < ks.length) : (ks.take (i + 1)).all (okK cl) = ((ks.take i).all (okK cl) && okK cl (kAt ks i)) := by
  rw [take_snoc h]; simp
end Go.Proofs.Ytcflbekjiohfnaa
