/- The arena beside the document's machine. -/
import Derived.Test.YtklkbjfdejpdpaaArenaRef
import Derived.Test.YtklkbjfdejpdpaaArenaGreat
namespace Go.Proofs.Ytklkbjfdejpdpaa
open Go.RowKit
set_option linter.unusedVariables false

def takeG {α : Type} (l : List α) (fr : List Int) (s : α) : List α := match fr.getLast? with | none => l ++ [s] | some f => l.set (f - 1).toNat s
theorem takeG_nil {α : Type} (l : List α) (s : α) : takeG l [] s = l ++ [s] := rfl
theorem takeG_snoc {α : Type} (l : List α) (fr : List Int) (f : Int) (s : α) : takeG l (fr ++ [f]) s = l.set (f - 1).toNat s := by unfold takeG; rw [List.getLast?_concat]
theorem rtake_any (x : ByteArray) {w : World} {F : Nat → Prop} {R : Nat} {xs : List ByteArray} {ts : List Bool} {fs : List Int} {L : List Slt} (h : Rf w F R xs ts fs) (hx : xs.length = L.length) (hl : fs.length ≤ 2147483647) (hL : xs.length < 2147483647) :
    Calls Try.prog 17 #[.pointer (some ⟨R, 0, none⟩), .string x] w fun e w' => ∃ F', e = .returned (.int .i64 (takeI L fs)) ∧ Rf w' F' R (takeG xs fs x) (takeG ts fs true) fs.dropLast ∧ Step F F' w w' := by
  rcases List.eq_nil_or_concat fs with rfl | ⟨fs', f, rfl⟩
  · rw [takeI_nil, ← hx, takeG_nil, takeG_nil]
    exact rtake_new x h hL
  · rw [List.concat_eq_append] at h hl ⊢
    rw [takeI_snoc, takeG_snoc, takeG_snoc, List.dropLast_concat]
    exact (rtake_old x h (by simp at hl; omega) (by omega)).mono fun e w' ⟨h1, h2, h3⟩ => ⟨_, h1, h2, h3⟩

/-- What the arena has, as the document's machine has it. -/
structure Sim (L : List Slt) (xs : List ByteArray) (ts : List Bool) : Prop where
  len : xs.length = L.length
  tk : ts = L.map (·.2)
  th : ∀ (k : Nat) cs, L[k]? = some (cs, true) → ∃ x, xs[k]? = some x ∧ cs = [.string x]
theorem Sim.is {L : List Slt} {xs : List ByteArray} {ts : List Bool} (h : Sim L xs ts) (i : Int) : isR ts i = isT L i := by
  unfold isR isT
  rw [h.tk, List.getD_eq_getElem?_getD, List.getElem?_map]
  cases L[(i - 1).toNat]? <;> rfl
theorem Sim.put {L : List Slt} {xs : List ByteArray} {ts : List Bool} (h : Sim L xs ts) (k : Nat) (x : ByteArray) : Sim (L.set k ([.string x], true)) (xs.set k x) (ts.set k true) := by
  refine ⟨by simp [h.len], by rw [h.tk, List.map_set], fun j cs hj => ?_⟩
  rcases set_get hj with ⟨rfl, e, hlt⟩ | ⟨hne, hj⟩
  · cases e
    exact ⟨x, by rw [List.getElem?_set_self (by rw [h.len]; exact hlt)], rfl⟩
  · rw [List.getElem?_set_ne hne]
    exact h.th j cs hj
theorem Sim.write {L : List Slt} {xs : List ByteArray} {ts : List Bool} (h : Sim L xs ts) {k : Nat} (x : ByteArray) {cs : List Value} (hk : L[k]? = some (cs, true)) : Sim (L.set k ([.string x], true)) (xs.set k x) ts := by
  have h1 := h.put k x
  have e : ts.set k true = ts := by
    have h2 : ts[k]? = some true := by rw [h.tk, List.getElem?_map, hk]; rfl
    obtain ⟨h3, h4⟩ := List.getElem?_eq_some_iff.1 h2
    rw [← h4]; exact List.set_getElem_self h3
  rwa [e] at h1
theorem Sim.drop {L : List Slt} {xs : List ByteArray} {ts : List Bool} (h : Sim L xs ts) (k : Nat) (z : List Value) : Sim (L.set k (z, false)) xs (ts.set k false) := by
  refine ⟨by simp [h.len], by rw [h.tk, List.map_set], fun j cs hj => ?_⟩
  rcases set_get hj with ⟨rfl, e, hlt⟩ | ⟨hne, hj⟩
  · cases e
  · exact h.th j cs hj
theorem Sim.more {L : List Slt} {xs : List ByteArray} {ts : List Bool} (h : Sim L xs ts) (x : ByteArray) : Sim (L ++ [([.string x], true)]) (xs ++ [x]) (ts ++ [true]) := by
  refine ⟨by simp [h.len], by rw [h.tk]; simp, fun j cs hj => ?_⟩
  rw [List.getElem?_append] at hj ⊢
  rw [h.len]
  split at hj
  · rename_i hlt
    rw [if_pos hlt]
    exact h.th j cs hj
  · rename_i hlt
    rw [if_neg hlt]
    obtain ⟨h1, h2⟩ := List.getElem?_eq_some_iff.1 hj
    simp at h1
    rw [h1] at hj ⊢
    simp at hj
    exact ⟨x, rfl, hj.symm⟩
theorem Sim.take {L : List Slt} {xs : List ByteArray} {ts : List Bool} (h : Sim L xs ts) (fr : List Int) (x : ByteArray) : Sim (takeL L fr ([.string x], true)) (takeG xs fr x) (takeG ts fr true) := by
  rcases List.eq_nil_or_concat fr with rfl | ⟨fr', f, rfl⟩
  · exact h.more x
  · rw [List.concat_eq_append, takeL_snoc, takeG_snoc, takeG_snoc]
    exact h.put _ x
theorem takeI_bd {L : List Slt} {fr : List Int} (h : ∀ f ∈ fr, 1 ≤ f ∧ f ≤ L.length) : 1 ≤ takeI L fr ∧ takeI L fr ≤ (L.length : Int) + 1 := by
  rcases List.eq_nil_or_concat fr with rfl | ⟨fr', f, rfl⟩
  · rw [takeI_nil]; omega
  · rw [List.concat_eq_append] at h ⊢
    rw [takeI_snoc]
    have := h f (by simp)
    omega

/-- Both, behind a start w. -/
structure TwoR (w wr : World) (Fa : Nat → Prop) (Ba Ga : Nat) (L : List Slt) (fr : List Int) (Fb : Nat → Prop) (R : Nat) (xs : List ByteArray) (ts : List Bool) : Prop where
  a : AS.Ar wr Fa Ba Ga L fr
  b : Rf wr Fb R xs ts fr
  dis : ∀ k, Fa k → ¬ Fb k
  fa : ∀ k, Fa k → w.heap.size ≤ k
  fb : ∀ k, Fb k → w.heap.size ≤ k
  below : Below w.heap.size w wr
  sim : Sim L xs ts
section
variable {w wr w1 w2 : World} {Fa Fa' : Nat → Prop} {Ba Ga Ga' : Nat} {L L' : List Slt} {fr fr' : List Int} {Fb Fb' : Nat → Prop} {R : Nat} {xs xs' : List ByteArray} {ts ts' : List Bool}
/-- A step of the arena, then one of the machine. -/
theorem TwoR.both (h : TwoR w wr Fa Ba Ga L fr Fb R xs ts) (hA : AS.Ar w1 Fa' Ba Ga' L' fr') (hS : Step Fa Fa' wr w1) (hB : Rf w2 Fb' R xs' ts' fr') (hS2 : Step Fb Fb' w1 w2) (hm : Sim L' xs' ts') : TwoR w w2 Fa' Ba Ga' L' fr' Fb' R xs' ts' := by
  have d1 : ∀ k, Fb k → ¬ Fa' k := hS.apart (fun k h1 h2 => h.dis k h2 h1) h.b.lt
  have b1 : Below w.heap.size w w1 := hS.start h.below (Nat.le_refl _) h.fa
  exact ⟨hA.step hS2 (fun k h1 h2 => d1 k h2 h1), hB, hS2.apart (fun k h1 h2 => d1 k h2 h1) hA.lt, hS.from h.below.size h.fa, hS2.from b1.size h.fb, hS2.start b1 (Nat.le_refl _) h.fb, hm⟩
/-- The machine first, then the arena. -/
theorem TwoR.turned (h : TwoR w wr Fa Ba Ga L fr Fb R xs ts) (hB : Rf w1 Fb' R xs' ts' fr') (hS : Step Fb Fb' wr w1) (hA : AS.Ar w2 Fa' Ba Ga' L' fr') (hS2 : Step Fa Fa' w1 w2) (hm : Sim L' xs' ts') : TwoR w w2 Fa' Ba Ga' L' fr' Fb' R xs' ts' := by
  have d1 : ∀ k, Fa k → ¬ Fb' k := hS.apart h.dis h.a.lt
  have b1 : Below w.heap.size w w1 := hS.start h.below (Nat.le_refl _) h.fb
  exact ⟨hA, hB.step hS2 (fun k h1 h2 => d1 k h2 h1), fun k h1 h2 => hS2.apart (fun k h1 h2 => d1 k h2 h1) hB.lt k h2 h1, hS2.from b1.size h.fa, hS.from h.below.size h.fb, hS2.start b1 (Nat.le_refl _) h.fa, hm⟩
theorem TwoR.drewN (h : TwoR w wr Fa Ba Ga L fr Fb R xs ts) (n : Nat) : TwoR w (wr.drewN n) Fa Ba Ga L fr Fb R xs ts :=
  ⟨h.a.drewN n, h.b.drewN n, h.dis, h.fa, h.fb, h.below.trans ⟨rfl, rfl, rfl, Nat.le_refl _, fun _ _ => rfl⟩, h.sim⟩
theorem TwoR.rAfter (h : TwoR w wr Fa Ba Ga L fr Fb R xs ts) (hS : Step Fa Fa' wr w1) : Rf w1 Fb R xs ts fr := h.b.step hS (fun k h1 h2 => h.dis k h2 h1)
theorem TwoR.aAfter (h : TwoR w wr Fa Ba Ga L fr Fb R xs ts) (hS : Step Fb Fb' wr w1) : AS.Ar w1 Fa Ba Ga L fr := h.a.step hS h.dis
end
end Go.Proofs.Ytklkbjfdejpdpaa
