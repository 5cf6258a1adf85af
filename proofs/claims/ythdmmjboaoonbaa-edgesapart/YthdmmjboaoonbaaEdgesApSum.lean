/- Layer 9's statements: EdgesApart: the sum over the map, entry by entry. -/
import Derived.Test.YthdmmjboaoonbaaEdgesApPlain
namespace Go.Proofs.Ythdmmjboaoonbaa
open Go.RowKit
open Go.Maps (Keyed)
set_option linter.unusedVariables false

theorem Ap.blk {w0 X W : World} {G : Nat → Prop} {B1 B2 bm : Nat} {s1 s2 : Bg} {q : Int × Int × Int → Option Int} {cnt k : Nat} (h : Ap w0 X G W B1 B2 bm s1 s2 q cnt k) {j : Nat} {ty : TypeId} {vs : Array Value} (hj : G j) (hb : Blk X j ty vs) : Blk W j ty vs := (h.kept j hj).trans hb
def LitsA (lt : Int × Int × Int → Lit) : Prop := ∀ x, okT x → keyOf Try.prog 53 (actK x) = some (lt x)
theorem litsA_ex : ∃ lt, LitsA lt := by
  refine ⟨fun x => (keyOf Try.prog 53 (actK x)).getD (.bool false), fun x h => ?_⟩
  obtain ⟨l, hl⟩ := KA.key x h
  simp only [hl, Option.getD_some]

abbrev mkA (x : Int × Int × Int × Int) : Value := .agg #[.int .u8 x.1, .int .i64 x.2.1, .int .i64 x.2.2.1, .int .i64 x.2.2.2]
structure Sof (lt : Int × Int × Int → Lit) (D : DataW Unit) (K : List (Int × Int × Int)) (q : Int × Int × Int → Option Int) (left : Lit → Bool) (n : Int) : Prop where
  n : n = (K.filter (fun x => isOne q x && !left (lt x))).length
  has : ∀ kl, left kl = true → Maps.has D kl = true
section
variable {D : DataW Unit} {v l : Int} {s1 s2 : Bg} {K : List (Int × Int × Int)} {q : Int × Int × Int → Option Int} {left : Lit → Bool} {n : Int} {lt : Int × Int × Int → Lit}
theorem Sof.start (hlt : LitsA lt) (hN : NumD Try.prog 53 actK okT D q) (hG : Gh v l s1 s2 q K) (hok : ∀ x, (q x).isSome = true → okT x) : Sof lt D K q (Maps.has D) 0 := by
  refine ⟨?_, fun kl h => h⟩
  rw [List.filter_eq_nil_iff.2 (fun x hx => ?_)]
  · rfl
  · have hs := (hG.keys x).2 hx
    have hx' := hok x hs
    rw [(hN.at_ x hx' _ (hlt _ hx')).2, hs]
    simp
theorem Sof.end_ (h : Sof lt D K q left n) (hG : Gh v l s1 s2 q K) (hl : ∀ kl, left kl = false) : n = s1.n := by
  rw [h.n, hG.n, show (fun x => isOne q x && !left (lt x)) = isOne q from funext fun x => by rw [hl]; simp]
theorem Sof.bd (h : Sof lt D K q left n) : 0 ≤ n ∧ n ≤ K.length := by
  have := List.length_filter_le (fun x => isOne q x && !left (lt x)) K
  have := h.n
  omega
theorem Sof.step (hlt : LitsA lt) (h : Sof lt D K q left n) (hN : NumD Try.prog 53 actK okT D q) (hG : Gh v l s1 s2 q K) (hok : ∀ x, (q x).isSome = true → okT x) {x : Int × Int × Int × Int} {c : Int} {kl : Lit} {y : DataW Unit × List MemPlace} (hk : keyOf Try.prog 53 (mkA x) = some kl) (hl : left kl = true)
    (hR : plainElem Try.prog 3 (.int .i64 c) = some y) (hat : ∀ zd, D.atKey kl zd = y.1) : okT x.2 ∧ (c = 0 ∨ c = 1) ∧ decide (inB s1 x.2) = (c == 1) ∧ Sof lt D K q (fun z => left z && !z.sameKey kl) (n + c) := by
  have hh := h.has kl hl
  obtain ⟨a, ha, hka⟩ := hN.only kl hh
  have he := KA.K.inj hk hka
  have e2 : x.2 = a := by
    obtain ⟨x0, x1, x2, x3⟩ := x; obtain ⟨a1, a2, a3⟩ := a
    simp [mkA, actK] at he
    simp [he]
  obtain ⟨g1, g2⟩ := hN.at_ a ha kl hka
  rw [hh] at g2
  obtain ⟨c', ec, ey, hw⟩ := plainElem_int_inv (by rw [Try.underlying3]) hR
  have e0 := hat (.lit (.int .i64 0))
  rw [g1, ey] at e0
  cases ec
  have ec : (q a).getD 0 = c := by simpa using e0
  have hq : q a = some c := by
    cases hqa : q a with
    | none => rw [hqa] at g2; cases g2
    | some u => rw [hqa] at ec; simp at ec; rw [ec]
  have hc := hG.bin a c hq
  have haK := (hG.keys a).1 (by rw [hq]; rfl)
  have hkl : lt a = kl := Option.some.inj ((hlt _ ha).symm.trans hka)
  have hkey := KA.K.key hka
  have hself : kl.sameKey kl = true := Go.WideAt.sameKey_self hkey
  have other : ∀ z ∈ K, z ≠ a → (lt z).sameKey kl = false := fun z hz hne => by
    have hz' := hok z ((hG.keys z).2 hz)
    refine Go.Maps.sameKey_ne fun e => hne ?_
    have := hlt _ hz'
    rw [e] at this
    exact KA.inj z a hz' ha (KA.K.inj this hka)
  rw [e2]
  refine ⟨ha, hc, ?_, ?_, fun kl' h' => h.has kl' (by simp at h'; exact h'.1)⟩
  · have h1 := hG.one a
    rw [hq] at h1
    rcases hc with rfl | rfl
    · have : ¬ inB s1 a := fun e => by have := h1.2 e; simp at this
      simp [this]
    · have : inB s1 a := h1.1 rfl
      simp [this]
  · rw [h.n]
    rcases hc with rfl | rfl
    · rw [count_same (p' := fun x => isOne q x && !(left (lt x) && !(lt x).sameKey kl)) (p := fun x => isOne q x && !left (lt x))]
      · simp
      · intro z hz
        by_cases hne : z = a
        · subst hne; simp [isOne, hq]
        · simp [other z hz hne]
    · rw [count_one (x := a) (p' := fun x => isOne q x && !(left (lt x) && !(lt x).sameKey kl)) (p := fun x => isOne q x && !left (lt x)) hG.nodup haK]
      · simp
      · simp [isOne, hq, hkl, hl]
      · simp [isOne, hq, hkl, hself]
      · intro z hne
        by_cases hz : z ∈ K
        · simp [other z hz hne]
        · have : isOne q z = false := by
            unfold isOne
            rw [decide_eq_false]
            intro e
            exact hz ((hG.keys z).1 (by rw [e]; rfl))
          simp [this]
end
theorem putE_notin {s : Bg} {v l e : Int} (h : putE s v l e = 0) : e ∉ s.L (v, l) := by
  unfold putE at h
  split at h
  · cases h
  · split at h
    · cases h
    · assumption
theorem firstN_len (L : List Int) (m : Int) : (firstN L m).length ≤ L.length := by
  unfold firstN
  split
  · simp
  · rw [List.length_take]; omega
end Go.Proofs.Ythdmmjboaoonbaa
