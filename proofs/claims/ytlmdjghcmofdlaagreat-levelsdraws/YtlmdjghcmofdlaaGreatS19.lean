/- Lemmas. -/
import Derived.Test.YtlmdjghcmofdlaaGreatS02
import Derived.Test.YtlmdjghcmofdlaaGreatS18
import Derived.Test.YtlmdjghcmofdlaaGreatProg
import Derived.Test.YtlmdjghcmofdlaaGreatS10
import Derived.Laws.MakeOwn
import Derived.Deep.Slices
import Derived.ProofKit
import Derived.OpenShut
set_option maxRecDepth 100000
set_option maxHeartbeats 64000000
namespace Go.Proofs.YtlmdjghcmofdlaaGreat
set_option linter.unusedVariables false
inductive Tq (I : Int → Int → Prop) (E : Int → Int → Int → Int → Prop) : Bool → Int → List Int → Prop
  | nil (v : Int) : Tq I E false v []
  | blk {v u x y : Int} {N M : List Int} (he : E v u x y) (hN : Tq I E true u N) (hM : Tq I E false v M) : Tq I E false v (x :: (N ++ y :: M))
  | own {v i : Int} {P Q : List Int} (hi : I v i) (hP : Tq I E false v P) (hQ : Tq I E false v Q) : Tq I E true v (P ++ i :: Q)
section
variable {I I' : Int → Int → Prop} {E E' : Int → Int → Int → Int → Prop}
theorem Tq.app {v : Int} {A B : List Int} (h : Tq I E false v A) (k : Tq I E false v B) : Tq I E false v (A ++ B) := by
  generalize hb : false = b at h
  induction h with
  | nil v => exact k
  | blk he hN hM ihN ihM =>
    have := Tq.blk he hN (ihM k hb)
    simpa [List.append_assoc] using this
  | own hi hP hQ _ _ => cases hb
theorem Tq.mono {b : Bool} {v : Int} {L : List Int} (h : Tq I E b v L) (hI : ∀ v i, I v i → i ∈ L → I' v i) (hE : ∀ v u x y, E v u x y → x ∈ L → y ∈ L → E' v u x y) : Tq I' E' b v L := by
  induction h with
  | nil v => exact .nil v
  | @blk v u x y N M he hN hM ihN ihM =>
    refine .blk (hE _ _ _ _ he (by simp) (by simp)) (ihN (fun v i h1 h2 => hI v i h1 (by simp [h2])) (fun v u x y h1 h2 h3 => hE v u x y h1 (by simp [h2]) (by simp [h3]))) (ihM (fun v i h1 h2 => hI v i h1 (by simp [h2])) (fun v u x y h1 h2 h3 => hE v u x y h1 (by simp [h2]) (by simp [h3])))
  | @own v i P Q hi hP hQ ihP ihQ =>
    exact .own (hI _ _ hi (by simp)) (ihP (fun v i h1 h2 => hI v i h1 (by simp [h2])) (fun v u x y h1 h2 h3 => hE v u x y h1 (by simp [h2]) (by simp [h3]))) (ihQ (fun v i h1 h2 => hI v i h1 (by simp [h2])) (fun v u x y h1 h2 h3 => hE v u x y h1 (by simp [h2]) (by simp [h3])))
theorem Tq.opened {v : Int} {L : List Int} (h : Tq I E true v L) : ∃ i P Q, I v i ∧ Tq I E false v P ∧ Tq I E false v Q ∧ L = P ++ i :: Q := by
  cases h with
  | own hi hP hQ => exact ⟨_, _, _, hi, hP, hQ, rfl⟩
theorem Tq.first {v z : Int} {L : List Int} (h : Tq I E false v (z :: L)) : ∃ u y N M, E v u z y ∧ Tq I E true u N ∧ Tq I E false v M ∧ L = N ++ y :: M := by
  generalize hl : z :: L = l at h
  cases h with
  | nil => cases hl
  | blk he hN hM =>
    injection hl with h1 h2
    subst h1
    exact ⟨_, _, _, _, he, hN, hM, h2⟩
theorem Tq.rot1 (hs : ∀ v u x y, E v u x y → E u v y x) {v z : Int} {L : List Int} (h : Tq I E true v (z :: L)) : ∃ u, Tq I E true u (L ++ [z]) := by
  obtain ⟨i, P, Q, hi, hP, hQ, e⟩ := h.opened
  cases P with
  | nil =>
    injection e with e1 e2
    subst e1 e2
    exact ⟨v, .own hi hQ (.nil v)⟩
  | cons x P' =>
    injection e with e1 e2
    subst e1
    obtain ⟨u, y, N, M, he, hN, hM, eP⟩ := hP.first
    obtain ⟨j, P2, Q2, hj, hP2, hQ2, eN⟩ := hN.opened
    refine ⟨u, ?_⟩
    have := Tq.own hj hP2 (hQ2.app (.blk (hs _ _ _ _ he) (.own hi hM hQ) (.nil u)))
    rw [e2, eP, eN]
    simpa [List.append_assoc] using this
theorem Tq.rot (hs : ∀ v u x y, E v u x y → E u v y x) {A B : List Int} : ∀ {v : Int}, Tq I E true v (A ++ B) → ∃ u, Tq I E true u (B ++ A) := by
  induction A generalizing B with
  | nil => intro v h; exact ⟨v, by simpa using h⟩
  | cons a A ih =>
    intro v h
    obtain ⟨u, h1⟩ := Tq.rot1 (L := A ++ B) hs (show Tq I E true v (a :: (A ++ B)) from h)
    rw [List.append_assoc] at h1
    obtain ⟨u', h2⟩ := ih h1
    exact ⟨u', by simpa [List.append_assoc] using h2⟩
theorem Tq.items {b : Bool} {v : Int} {L : List Int} (h : Tq I E b v L) : ∀ z ∈ L, (∃ u, I u z) ∨ ∃ a c x y, E a c x y ∧ (z = x ∨ z = y) ∧ x ∈ L ∧ y ∈ L ∧ (a = v ∨ ∃ i ∈ L, I a i) ∧ (∃ i ∈ L, I c i) := by
  induction h with
  | nil v => intro z hz; cases hz
  | @blk v u x y N M he hN hM ihN ihM =>
    obtain ⟨j, P2, Q2, hj, _, _, eN⟩ := hN.opened
    have hjN : j ∈ N := by rw [eN]; simp
    intro z hz
    have key : ∀ {K : List Int} {r : Int}, (∀ q ∈ K, q ∈ x :: (N ++ y :: M)) → (r = v ∨ ∃ i ∈ x :: (N ++ y :: M), I r i) → (∃ a c x' y', E a c x' y' ∧ (z = x' ∨ z = y') ∧ x' ∈ K ∧ y' ∈ K ∧ (a = r ∨ ∃ i ∈ K, I a i) ∧ (∃ i ∈ K, I c i)) → (∃ a c x' y', E a c x' y' ∧ (z = x' ∨ z = y') ∧ x' ∈ x :: (N ++ y :: M) ∧ y' ∈ x :: (N ++ y :: M) ∧ (a = v ∨ ∃ i ∈ x :: (N ++ y :: M), I a i) ∧ (∃ i ∈ x :: (N ++ y :: M), I c i)) := by
      rintro K r hK hr ⟨a, c, x', y', h1, h2, h3, h4, h5, i, h6, h7⟩
      refine ⟨a, c, x', y', h1, h2, hK _ h3, hK _ h4, ?_, i, hK _ h6, h7⟩
      rcases h5 with rfl | ⟨q, h8, h9⟩
      · exact hr
      · exact .inr ⟨q, hK _ h8, h9⟩
    rcases List.mem_cons.1 hz with rfl | hz
    · exact .inr ⟨v, u, z, y, he, .inl rfl, by simp, by simp, .inl rfl, j, by simp [hjN], hj⟩
    · rcases List.mem_append.1 hz with hz | hz
      · exact (ihN z hz).imp id (key (fun q hq => by simp [hq]) (.inr ⟨j, by simp [hjN], hj⟩))
      · rcases List.mem_cons.1 hz with rfl | hz
        · exact .inr ⟨v, u, x, z, he, .inr rfl, by simp, by simp, .inl rfl, j, by simp [hjN], hj⟩
        · exact (ihM z hz).imp id (key (fun q hq => by simp [hq]) (.inl rfl))
  | @own v i P Q hi hP hQ ihP ihQ =>
    intro z hz
    have key : ∀ {K : List Int}, (∀ q ∈ K, q ∈ P ++ i :: Q) → (∃ a c x' y', E a c x' y' ∧ (z = x' ∨ z = y') ∧ x' ∈ K ∧ y' ∈ K ∧ (a = v ∨ ∃ i ∈ K, I a i) ∧ (∃ i ∈ K, I c i)) → (∃ a c x' y', E a c x' y' ∧ (z = x' ∨ z = y') ∧ x' ∈ P ++ i :: Q ∧ y' ∈ P ++ i :: Q ∧ (a = v ∨ ∃ q ∈ P ++ i :: Q, I a q) ∧ (∃ q ∈ P ++ i :: Q, I c q)) := by
      rintro K hK ⟨a, c, x', y', h1, h2, h3, h4, h5, q, h6, h7⟩
      exact ⟨a, c, x', y', h1, h2, hK _ h3, hK _ h4, h5.imp id (fun ⟨q, h8, h9⟩ => ⟨q, hK _ h8, h9⟩), q, hK _ h6, h7⟩
    rcases List.mem_append.1 hz with hz | hz
    · exact (ihP z hz).imp id (key (fun q hq => by simp [hq]))
    · rcases List.mem_cons.1 hz with rfl | hz
      · exact .inl ⟨v, hi⟩
      · exact (ihQ z hz).imp id (key (fun q hq => by simp [hq]))
inductive Conn (E : Int → Int → Int → Int → Prop) : Int → Int → Prop
  | refl (v : Int) : Conn E v v
  | step {v u w : Int} (h : Conn E v u) {x y : Int} (he : E u w x y) : Conn E v w
theorem Conn.trans {a b c : Int} (h : Conn E a b) (k : Conn E b c) : Conn E a c := by
  induction k with
  | refl => exact h
  | step _ he ih => exact .step ih he
theorem Conn.symm (hs : ∀ v u x y, E v u x y → E u v y x) {a b : Int} (h : Conn E a b) : Conn E b a := by
  induction h with
  | refl => exact .refl _
  | step _ he ih => exact (Conn.step (.refl _) (hs _ _ _ _ he)).trans ih
theorem Tq.conn {b : Bool} {v : Int} {L : List Int} (h : Tq I E b v L) (hI : ∀ v u i, I v i → I u i → v = u) (hD : ∀ v a c x y, E a c x y → ¬ I v x ∧ ¬ I v y) : ∀ u i, i ∈ L → I u i → Conn E v u := by
  induction h with
  | nil v => intro u i hi; cases hi
  | @blk v u x y N M he hN hM ihN ihM =>
    intro q i hi hq
    rcases List.mem_cons.1 hi with rfl | hi
    · exact absurd hq (hD _ _ _ _ _ he).1
    · rcases List.mem_append.1 hi with hi | hi
      · exact (Conn.step (.refl _) he).trans (ihN q i hi hq)
      · rcases List.mem_cons.1 hi with rfl | hi
        · exact absurd hq (hD _ _ _ _ _ he).2
        · exact ihM q i hi hq
  | @own v i P Q hi hP hQ ihP ihQ =>
    intro q j hj hq
    rcases List.mem_append.1 hj with hj | hj
    · exact ihP q j hj hq
    · rcases List.mem_cons.1 hj with rfl | hj
      · rw [hI _ _ _ hi hq]; exact .refl _
      · exact ihQ q j hj hq
end
end Go.Proofs.YtlmdjghcmofdlaaGreat
/-! Layer 7 (tour), plain: sequences that are turned, spliced and unspliced. -/
namespace Go.Proofs.YtlmdjghcmofdlaaGreat
open Go.RowKit
set_option linter.unusedVariables false
structure Fam (S : Int → List Int) : Prop where
  mem : ∀ i, S i ≠ [] → i ∈ S i
  same : ∀ i j, j ∈ S i → S j = S i
  nodup : ∀ i, (S i).Nodup
theorem Fam.of {w : World} {X : Hx} {F : Nat → Prop} {B : Nat} {s : Sq} (h : TsX X w F B s) : Fam s.S :=
  ⟨fun i hi => by
    cases hk : isK s.K i with
    | true => exact Tp.mem h |>.1 hk
    | false => exact absurd ((Tp.nil h).1 hk) hi, fun i j hj => Tp.same h hj, fun i => Tp.nodup h i⟩
theorem nodup_idx {A B : List Int} {i : Int} (h : (A ++ i :: B).Nodup) : (A ++ i :: B).idxOf i = A.length := by
  have hn : i ∉ A := fun hi => by
    have := (List.nodup_append.1 h).2.2 i hi i (by simp)
    exact this rfl
  rw [List.idxOf_append, if_neg hn]
  simp
theorem cutS_eq {S : Int → List Int} {i : Int} {A B : List Int} (hF : Fam S) (hS : S i = A ++ i :: B) : cutS S i = fun j => if j ∈ A then A else if j ∈ i :: B then i :: B else S j := by
  have hn : (A ++ i :: B).Nodup := by rw [← hS]; exact hF.nodup i
  unfold cutS
  rw [hS, nodup_idx hn]
  simp
theorem joinS_eq {S : Int → List Int} {i j : Int} (hi : i ∈ S i) (hj : j ∈ S j) (hn : j ∉ S i) : joinS S i j = fun k => if k ∈ S i ∨ k ∈ S j then S i ++ S j else S k := by
  unfold joinS
  rw [if_pos]
  unfold joinB
  simp [hi, hj, hn]
theorem joinS_no {S : Int → List Int} {i j : Int} (hn : j ∈ S i) : joinS S i j = S := by
  unfold joinS
  rw [if_neg]
  unfold joinB
  simp [hn]
def putS (S : Int → List Int) (A L : List Int) : Int → List Int := fun j => if j ∈ A then L else S j
theorem putS_in {S : Int → List Int} {A L : List Int} {j : Int} (h : j ∈ A) : putS S A L j = L := if_pos h
theorem putS_out {S : Int → List Int} {A L : List Int} {j : Int} (h : j ∉ A) : putS S A L j = S j := if_neg h
theorem Fam.put {S : Int → List Int} (hF : Fam S) {i : Int} {L : List Int} (hL : L.Perm (S i)) : Fam (putS S L L) := by
  have hmem : ∀ j, j ∈ L ↔ j ∈ S i := fun j => hL.mem_iff
  refine ⟨fun j hj => ?_, fun j k hk => ?_, fun j => ?_⟩
  · by_cases h : j ∈ L
    · rw [putS_in h]; exact h
    · rw [putS_out h] at hj ⊢; exact hF.mem j hj
  · by_cases h : j ∈ L
    · rw [putS_in h] at hk
      rw [putS_in h, putS_in hk]
    · rw [putS_out h] at hk
      rw [putS_out h]
      have hkn : k ∉ L := fun hk' => by
        have e1 := hF.same i k ((hmem k).1 hk')
        have e2 := hF.same j k hk
        have hj : j ∈ S j := hF.mem j (fun e => by rw [e] at hk; cases hk)
        exact h ((hmem j).2 (by rw [← e1, e2]; exact hj))
      rw [putS_out hkn, hF.same j k hk]
  · by_cases h : j ∈ L
    · rw [putS_in h]; exact hL.nodup_iff.2 (hF.nodup i)
    · rw [putS_out h]; exact hF.nodup j
theorem turn_eq {s : Sq} {i : Int} {A B : List Int} (hF : Fam s.S) (hS : s.S i = A ++ i :: B) : (s.turn i).S = putS s.S (i :: B ++ A) (i :: B ++ A) := by
  have hn : (A ++ i :: B).Nodup := by rw [← hS]; exact hF.nodup i
  have hc := cutS_eq hF hS
  have hiA : i ∉ A := fun h => (List.nodup_append.1 hn).2.2 i h i (by simp) rfl
  show joinS (cutS s.S i) i ((s.S i).headD 0) = _
  have ej : ∀ j, cutS s.S i j = if j ∈ A then A else if j ∈ i :: B then i :: B else s.S j := fun j => congrFun hc j
  have e1 : cutS s.S i i = i :: B := by rw [ej, if_neg hiA, if_pos (by simp)]
  generalize cutS s.S i = S1 at *
  cases A with
  | nil =>
    have hh : (s.S i).headD 0 = i := by rw [hS]; rfl
    rw [hh, joinS_no (by rw [e1]; simp)]
    funext j
    rw [ej]
    unfold putS
    simp
  | cons a A' =>
    have hh : (s.S i).headD 0 = a := by rw [hS]; rfl
    have e2 : S1 a = a :: A' := by rw [ej, if_pos (by simp)]
    have haB : a ∉ i :: B := fun h => (List.nodup_append.1 hn).2.2 a (by simp) a h rfl
    rw [hh, joinS_eq (by rw [e1]; simp) (by rw [e2]; simp) (by rw [e1]; exact haB), e1, e2]
    funext j
    unfold putS
    by_cases h1 : j ∈ i :: B
    · rw [if_pos (.inl h1), if_pos (List.mem_append.2 (.inl h1))]
    · by_cases h2 : j ∈ a :: A'
      · rw [if_pos (.inr h2), if_pos (List.mem_append.2 (.inr h2))]
      · rw [if_neg (by rintro (h | h); exact h1 h; exact h2 h), if_neg (fun h => (List.mem_append.1 h).elim h1 h2), ej, if_neg h2, if_neg h1]
theorem Fam.at {S : Int → List Int} (hF : Fam S) {i : Int} (hi : i ∈ S i) : ∃ A B, S i = A ++ i :: B := by
  obtain ⟨A, B, e⟩ := List.append_of_mem hi
  exact ⟨A, B, e⟩
theorem Fam.turned {s : Sq} (hF : Fam s.S) {i : Int} {A B : List Int} (hS : s.S i = A ++ i :: B) : Fam (s.turn i).S ∧ (∀ j, j ∉ s.S i → (s.turn i).S j = s.S j) ∧ (∀ j, j ∈ s.S i → (s.turn i).S j = i :: B ++ A) := by
  rw [turn_eq hF hS]
  have hp : (i :: B ++ A).Perm (s.S i) := by rw [hS]; exact List.perm_append_comm
  exact ⟨hF.put hp, fun j hj => putS_out (fun h => hj (hp.mem_iff.1 h)), fun j hj => putS_in (hp.mem_iff.2 hj)⟩
theorem Fam.joined {S : Int → List Int} (hF : Fam S) {i j : Int} (hi : i ∈ S i) (hj : j ∈ S j) (hn : j ∉ S i) : Fam (joinS S i j) ∧ (∀ k, k ∉ S i → k ∉ S j → joinS S i j k = S k) ∧ (∀ k, k ∈ S i ∨ k ∈ S j → joinS S i j k = S i ++ S j) := by
  have he := joinS_eq hi hj hn
  have hin : ∀ k, k ∈ S i ∨ k ∈ S j → joinS S i j k = S i ++ S j := fun k hk => by rw [he]; exact if_pos hk
  have hout : ∀ k, ¬ (k ∈ S i ∨ k ∈ S j) → joinS S i j k = S k := fun k hk => by rw [he]; exact if_neg hk
  have hdis : ∀ k, k ∈ S i → k ∈ S j → False := fun k h1 h2 => hn (by rw [← hF.same i k h1, hF.same j k h2]; exact hj)
  refine ⟨⟨fun k hk => ?_, fun k l hl => ?_, fun k => ?_⟩, fun k h1 h2 => hout k (by rintro (h | h); exact h1 h; exact h2 h), hin⟩
  · by_cases h : k ∈ S i ∨ k ∈ S j
    · rw [hin k h]; exact List.mem_append.2 h
    · rw [hout k h] at hk ⊢; exact hF.mem k hk
  · by_cases h : k ∈ S i ∨ k ∈ S j
    · rw [hin k h] at hl
      rw [hin k h, hin l (List.mem_append.1 hl)]
    · rw [hout k h] at hl
      have hk : k ∈ S k := hF.mem k (fun e => by rw [e] at hl; cases hl)
      have hl' : ¬ (l ∈ S i ∨ l ∈ S j) := by
        rintro (h1 | h1)
        · exact h (.inl (by rw [← hF.same i l h1, hF.same k l hl]; exact hk))
        · exact h (.inr (by rw [← hF.same j l h1, hF.same k l hl]; exact hk))
      rw [hout k h, hout l hl', hF.same k l hl]
  · by_cases h : k ∈ S i ∨ k ∈ S j
    · rw [hin k h]
      exact List.nodup_append.2 ⟨hF.nodup i, hF.nodup j, fun a ha b hb e => hdis a ha (e ▸ hb)⟩
    · rw [hout k h]; exact hF.nodup k
theorem Fam.parted {S : Int → List Int} (hF : Fam S) {i : Int} {A B : List Int} (hS : S i = A ++ i :: B) : Fam (cutS S i) ∧ (∀ k, k ∉ S i → cutS S i k = S k) ∧ (∀ k, k ∈ A → cutS S i k = A) ∧ (∀ k, k ∈ i :: B → cutS S i k = i :: B) := by
  have hn : (A ++ i :: B).Nodup := by rw [← hS]; exact hF.nodup i
  have ej : ∀ j, cutS S i j = if j ∈ A then A else if j ∈ i :: B then i :: B else S j := fun j => congrFun (cutS_eq hF hS) j
  have hAB : ∀ k, k ∈ A → k ∉ i :: B := fun k h1 h2 => (List.nodup_append.1 hn).2.2 k h1 k h2 rfl
  have hA : ∀ k, k ∈ A → cutS S i k = A := fun k hk => by rw [ej, if_pos hk]
  have hB : ∀ k, k ∈ i :: B → cutS S i k = i :: B := fun k hk => by rw [ej, if_neg (fun h => hAB k h hk), if_pos hk]
  have hO : ∀ k, k ∉ S i → cutS S i k = S k := fun k hk => by
    rw [hS] at hk
    rw [ej, if_neg (fun h => hk (List.mem_append.2 (.inl h))), if_neg (fun h => hk (List.mem_append.2 (.inr h)))]
  have three : ∀ k, k ∈ A ∨ k ∈ i :: B ∨ k ∉ S i := fun k => by
    by_cases h1 : k ∈ A
    · exact .inl h1
    · by_cases h2 : k ∈ i :: B
      · exact .inr (.inl h2)
      · exact .inr (.inr (by rw [hS]; exact fun h => (List.mem_append.1 h).elim h1 h2))
  refine ⟨⟨fun k hk => ?_, fun k l hl => ?_, fun k => ?_⟩, hO, hA, hB⟩
  · rcases three k with h | h | h
    · rw [hA k h]; exact h
    · rw [hB k h]; exact h
    · rw [hO k h] at hk ⊢; exact hF.mem k hk
  · rcases three k with h | h | h
    · rw [hA k h] at hl; rw [hA k h, hA l hl]
    · rw [hB k h] at hl; rw [hB k h, hB l hl]
    · rw [hO k h] at hl
      have hk : k ∈ S k := hF.mem k (fun e => by rw [e] at hl; cases hl)
      have hl' : l ∉ S i := fun h' => h (by rw [← hF.same i l h', hF.same k l hl]; exact hk)
      rw [hO k h, hO l hl', hF.same k l hl]
  · rcases three k with h | h | h
    · rw [hA k h]; exact (List.nodup_append.1 hn).1
    · rw [hB k h]; exact (List.nodup_append.1 hn).2.1
    · rw [hO k h]; exact hF.nodup k
theorem Sq.join_S (s : Sq) (i j : Int) : (s.join i j).S = joinS s.S i j := rfl
theorem Sq.cut_S (s : Sq) (i : Int) : (s.cut i).S = cutS s.S i := rfl
theorem Fam.spliced {s : Sq} (hF : Fam s.S) {i j x y : Int} {A B C D : List Int} (hi : s.S i = A ++ i :: B) (hj : s.S j = C ++ j :: D) (hx : s.S x = [x]) (hy : s.S y = [y]) (hij : j ∉ s.S i) (hxi : x ∉ s.S i) (hxj : x ∉ s.S j) (hyi : y ∉ s.S i) (hyj : y ∉ s.S j) (hxy : x ≠ y) :
    Fam (s.splice i j x y).S ∧ (∀ k, k ∈ (i :: B ++ A) ++ x :: ((j :: D ++ C) ++ [y]) → (s.splice i j x y).S k = (i :: B ++ A) ++ x :: ((j :: D ++ C) ++ [y])) ∧ (∀ k, k ∉ (i :: B ++ A) ++ x :: ((j :: D ++ C) ++ [y]) → (s.splice i j x y).S k = s.S k) := by
  have hii : i ∈ s.S i := by rw [hi]; simp
  have hjj : j ∈ s.S j := by rw [hj]; simp
  have m1 : ∀ k, k ∈ i :: B ++ A ↔ k ∈ s.S i := fun k => by rw [hi]; exact List.perm_append_comm.mem_iff
  have m2 : ∀ k, k ∈ j :: D ++ C ↔ k ∈ s.S j := fun k => by rw [hj]; exact List.perm_append_comm.mem_iff
  have hji : i ∉ s.S j := fun h => hij (by rw [← hF.same j i h] at hjj; exact hjj)
  obtain ⟨F1, o1, n1⟩ := hF.turned hi
  have hj1 : (s.turn i).S j = C ++ j :: D := by rw [o1 j hij]; exact hj
  obtain ⟨F2, o2, n2⟩ := F1.turned hj1
  have sj1 : (s.turn i).S j = s.S j := o1 j hij
  have e2i : ((s.turn i).turn j).S i = i :: B ++ A := by rw [o2 i (by rw [sj1]; exact hji), n1 i hii]
  have e2j : ((s.turn i).turn j).S j = j :: D ++ C := n2 j (by rw [sj1]; exact hjj)
  have e2x : ((s.turn i).turn j).S x = [x] := by rw [o2 x (by rw [sj1]; exact hxj), o1 x hxi, hx]
  have e2y : ((s.turn i).turn j).S y = [y] := by rw [o2 y (by rw [sj1]; exact hyj), o1 y hyi, hy]
  have e2o : ∀ k, k ∉ s.S i → k ∉ s.S j → ((s.turn i).turn j).S k = s.S k := fun k h1 h2 => by rw [o2 k (by rw [sj1]; exact h2), o1 k h1]
  obtain ⟨S2, hS2⟩ : ∃ S2, S2 = ((s.turn i).turn j).S := ⟨_, rfl⟩
  rw [← hS2] at F2 e2i e2j e2x e2y e2o
  have eS : (s.splice i j x y).S = joinS (joinS (joinS S2 i x) i j) i y := by unfold Sq.splice; rw [Sq.join_S, Sq.join_S, Sq.join_S, hS2]
  rw [eS]
  clear eS hS2 o1 n1 o2 n2 hj1 sj1 F1
  obtain ⟨F3, o3, n3⟩ := F2.joined (i := i) (j := x) (by rw [e2i]; simp) (by rw [e2x]; simp) (by rw [e2i]; exact fun h => hxi ((m1 x).1 h))
  rw [e2i, e2x] at o3 n3
  have a3i := n3 i (.inl (by simp))
  have a3j : joinS S2 i x j = j :: D ++ C := by rw [o3 j (fun h => hij ((m1 j).1 h)) (by simp; exact fun e => hxj (e ▸ hjj))]; exact e2j
  have a3y : joinS S2 i x y = [y] := by rw [o3 y (fun h => hyi ((m1 y).1 h)) (by simp; exact Ne.symm hxy)]; exact e2y
  generalize joinS S2 i x = S3 at *
  obtain ⟨F4, o4, n4⟩ := F3.joined (i := i) (j := j) (by rw [a3i]; simp) (by rw [a3j]; simp) (by
    rw [a3i]
    intro h
    rcases List.mem_append.1 h with h | h
    · exact hij ((m1 j).1 h)
    · simp at h; exact hxj (h ▸ hjj))
  rw [a3i, a3j] at o4 n4
  have a4i := n4 i (.inl (by simp))
  have a4y : joinS S3 i j y = [y] := by
    rw [o4 y (fun h => ?_) (fun h => hyj ((m2 y).1 h))]
    · exact a3y
    · rcases List.mem_append.1 h with h | h
      · exact hyi ((m1 y).1 h)
      · simp at h; exact hxy h.symm
  generalize joinS S3 i j = S4 at *
  obtain ⟨F5, o5, n5⟩ := F4.joined (i := i) (j := y) (by rw [a4i]; simp) (by rw [a4y]; simp) (by
    rw [a4i]
    intro h
    rcases List.mem_append.1 h with h | h
    · rcases List.mem_append.1 h with h | h
      · exact hyi ((m1 y).1 h)
      · simp at h; exact hxy h.symm
    · exact hyj ((m2 y).1 h))
  rw [a4i, a4y] at o5 n5
  have eL : (i :: B ++ A ++ [x] ++ (j :: D ++ C)) ++ [y] = (i :: B ++ A) ++ x :: ((j :: D ++ C) ++ [y]) := by simp
  refine ⟨F5, fun k hk => ?_, fun k hk => ?_⟩
  · rw [← eL] at hk ⊢
    exact n5 k (List.mem_append.1 hk)
  · rw [← eL] at hk
    have h1 : k ∉ i :: B ++ A ++ [x] ++ (j :: D ++ C) := fun h => hk (List.mem_append.2 (.inl h))
    have h2 : k ∉ [y] := fun h => hk (List.mem_append.2 (.inr h))
    have h3 : k ∉ i :: B ++ A ++ [x] := fun h => h1 (List.mem_append.2 (.inl h))
    have h4 : k ∉ j :: D ++ C := fun h => h1 (List.mem_append.2 (.inr h))
    have h5 : k ∉ i :: B ++ A := fun h => h3 (List.mem_append.2 (.inl h))
    have h6 : k ∉ [x] := fun h => h3 (List.mem_append.2 (.inr h))
    rw [o5 k h1 h2, o4 k h3 h4, o3 k h5 h6]
    exact e2o k (fun h => h5 ((m1 k).2 h)) (fun h => h4 ((m2 k).2 h))
theorem nxS_two {x n : Int} {l : List Int} : nxS (x :: n :: l) x = n := by
  unfold nxS
  rw [if_pos (by simp)]
  simp
theorem Fam.unspliced {s : Sq} (hF : Fam s.S) {x y n m : Int} {A R N M : List Int} (hx : s.S x = A ++ x :: R) (hR : R ++ A = (n :: N) ++ y :: m :: M) :
    Fam (s.unsplice x y).S ∧ (s.unsplice x y).S x = [x] ∧ (s.unsplice x y).S y = [y] ∧ (∀ k, k ∈ n :: N → (s.unsplice x y).S k = n :: N) ∧ (∀ k, k ∈ m :: M → (s.unsplice x y).S k = m :: M) ∧ (∀ k, k ∉ s.S x → (s.unsplice x y).S k = s.S k) := by
  have hxx : x ∈ s.S x := by rw [hx]; simp
  obtain ⟨F1, o1, n1⟩ := hF.turned hx
  have eR : x :: R ++ A = (x :: n :: N) ++ y :: (m :: M) := by rw [List.cons_append, hR]; rfl
  have hp : ∀ k, k ∈ (x :: n :: N) ++ y :: (m :: M) ↔ k ∈ s.S x := fun k => by rw [← eR, hx]; exact List.perm_append_comm.mem_iff
  rw [eR] at n1
  have hnd : ((x :: n :: N) ++ y :: (m :: M)).Nodup := by rw [← n1 x hxx]; exact F1.nodup x
  have e1y : (s.turn x).S y = (x :: n :: N) ++ y :: (m :: M) := n1 y ((hp y).1 (by simp))
  have hdis : ∀ k, k ∈ x :: n :: N → k ∉ y :: (m :: M) := fun k h1 h2 => (List.nodup_append.1 hnd).2.2 k h1 k h2 rfl
  obtain ⟨F2, o2, p2, q2⟩ := F1.parted e1y
  rw [e1y] at o2
  have eU2 : (s.uns2 x y).S = cutS (s.turn x).S y := by unfold Sq.uns2; rw [Sq.cut_S]
  rw [← eU2] at F2 o2 p2 q2
  have o2' : ∀ k, k ∉ s.S x → (s.uns2 x y).S k = s.S k := fun k hk => by rw [o2 k (fun h => hk ((hp k).1 h)), o1 k hk]
  have e2x : (s.uns2 x y).S x = x :: n :: N := p2 x (by simp)
  have e2n : (s.uns2 x y).S n = [x] ++ n :: N := p2 n (by simp)
  have eU3 : (s.uns3 x y).S = cutS (s.uns2 x y).S n := by unfold Sq.uns3; rw [Sq.cut_S, e2x, nxS_two]
  obtain ⟨F3, o3, p3, q3⟩ := F2.parted e2n
  rw [← eU3] at F3 o3 p3 q3
  rw [e2n] at o3
  have e3y : (s.uns3 x y).S y = y :: m :: M := by rw [o3 y (fun h => hdis y h (by simp)), q2 y (by simp)]
  have e3m : (s.uns3 x y).S m = [y] ++ m :: M := by rw [o3 m (fun h => hdis m h (by simp)), q2 m (by simp)]; rfl
  have eU4 : (s.unsplice x y).S = cutS (s.uns3 x y).S m := by unfold Sq.unsplice; rw [Sq.cut_S, e3y, nxS_two]
  obtain ⟨F4, o4, p4, q4⟩ := F3.parted e3m
  rw [← eU4] at F4 o4 p4 q4
  rw [e3m] at o4
  have k1 : ∀ k, k ∈ x :: n :: N → k ∉ [y] ++ m :: M := fun k h1 h2 => hdis k h1 (by simpa using h2)
  refine ⟨F4, ?_, p4 y (by simp), fun k hk => ?_, fun k hk => q4 k hk, fun k hk => ?_⟩
  · rw [o4 x (k1 x (by simp)), p3 x (by simp)]
  · rw [o4 k (k1 k (by simp at hk ⊢; exact .inr hk)), q3 k hk]
  · have hk' : k ∉ (x :: n :: N) ++ y :: (m :: M) := fun h => hk ((hp k).1 h)
    rw [o4 k (fun h => hk' (List.mem_append.2 (.inr (by simpa using h)))), o3 k (fun h => hk' (List.mem_append.2 (.inl (by simpa using h)))), o2' k hk]
end Go.Proofs.YtlmdjghcmofdlaaGreat
/-! Layer 7 (tour), plain: the tours of a forest are those of its trees, whatever is done. -/
namespace Go.Proofs.YtlmdjghcmofdlaaGreat
open Go.RowKit
set_option linter.unusedVariables false
def tI (t : To) (v i : Int) : Prop := isA t.v v = true ∧ t.item v = i
def tE (t : To) (v u x y : Int) : Prop := ∃ n, isA t.e n = true ∧ (((t.edge n).a = v ∧ (t.edge n).b = u ∧ (t.edge n).x = x ∧ (t.edge n).y = y) ∨ ((t.edge n).b = v ∧ (t.edge n).a = u ∧ (t.edge n).y = x ∧ (t.edge n).x = y))
theorem tE_symm (t : To) : ∀ v u x y, tE t v u x y → tE t u v y x := fun v u x y ⟨n, h1, h2⟩ => ⟨n, h1, h2.elim (fun ⟨a, b, c, d⟩ => .inr ⟨b, a, d, c⟩) (fun ⟨a, b, c, d⟩ => .inl ⟨b, a, d, c⟩)⟩
structure Tb (t : To) : Prop where
  fam : Fam t.s.S
  kS : ∀ i, isK t.s.K i = true ↔ t.s.S i ≠ []
  fk : t.s.fr.Nodup ∧ ∀ f ∈ t.s.fr, isK t.s.K f = false ∧ 1 ≤ f ∧ f ≤ t.s.K.length
theorem Tf.tb {Yh : Hx} {W : World} {F : Nat → Prop} {B G : Nat} {t : To} (h : Tf Yh W F B G t) : Tb t := by
  obtain ⟨X, Ft, hT, _⟩ := h.treap
  refine ⟨Fam.of hT, fun i => ?_, Tp.fk hT⟩
  constructor
  · intro hk e
    have := (Tp.mem hT).1 hk
    rw [e] at this
    cases this
  · intro hne
    cases hk : isK t.s.K i with
    | true => rfl
    | false => exact absurd ((Tp.nil hT).1 hk) hne
theorem newI_free {K : List Bool} {fr : List Int} (h : fr.Nodup ∧ ∀ f ∈ fr, isK K f = false ∧ 1 ≤ f ∧ f ≤ K.length) : isK K (newI K fr) = false := by
  rcases List.eq_nil_or_concat fr with rfl | ⟨fr', f, rfl⟩
  · show isK K ((K.length : Int) + 1) = false
    unfold isK
    rw [List.getD_eq_getElem?_getD, List.getElem?_eq_none (by omega)]
    simp
  · rw [List.concat_eq_append] at h ⊢
    unfold newI
    rw [List.getLast?_concat]
    exact (h.2 f (by simp)).1
def Frk {α : Type} (L : List (α × Bool)) (fr : List Int) : Prop := fr.Nodup ∧ ∀ f ∈ fr, isA L f = false ∧ 1 ≤ f ∧ f ≤ L.length
theorem Frk.new {α : Type} {L : List (α × Bool)} {fr : List Int} (h : Frk L fr) : isA L (tkI L fr) = false := by
  rcases List.eq_nil_or_concat fr with rfl | ⟨fr', f, rfl⟩
  · rw [tkI_nil]
    unfold isA
    rw [List.getElem?_eq_none (by omega)]
    simp
  · rw [List.concat_eq_append] at h ⊢
    rw [tkI_snoc]
    exact (h.2 f (by simp)).1
theorem Frk.rng {α : Type} {L : List (α × Bool)} {fr : List Int} (h : Frk L fr) : ∀ f ∈ fr, 1 ≤ f ∧ f ≤ L.length := fun f hf => (h.2 f hf).2
theorem Frk.take {α : Type} {L : List (α × Bool)} {fr : List Int} (h : Frk L fr) (x : α) : Frk (tkL L fr x) fr.dropLast := by
  refine ⟨h.1.sublist (List.dropLast_sublist fr), fun f hf => ?_⟩
  obtain ⟨h1, h2, h3⟩ := h.2 f (mem_dropLast hf)
  have hl := tkL_len' (L := L) (fr := fr) x
  refine ⟨?_, h2, by omega⟩
  rw [isA_tkL h.rng]
  rw [if_neg]
  · exact h1
  · intro e
    rcases List.eq_nil_or_concat fr with rfl | ⟨fr', g, rfl⟩
    · cases hf
    · rw [List.concat_eq_append] at e hf h
      rw [tkI_snoc] at e
      rw [List.dropLast_concat] at hf
      subst e
      exact (List.nodup_append.1 h.1).2.2 f hf f (by simp) rfl
theorem Frk.free {α : Type} {L : List (α × Bool)} {fr : List Int} (h : Frk L fr) (z : α) {i : Int} (hi : isA L i = true) : Frk (frL z L i) (fr ++ [i]) := by
  have hb := isA_bd hi
  refine ⟨List.nodup_append.2 ⟨h.1, by simp, fun a ha b hb' e => ?_⟩, fun f hf => ?_⟩
  · simp at hb'
    subst hb' e
    rw [(h.2 a ha).1] at hi
    cases hi
  · rw [isA_frL z hi, frL_len]
    rcases List.mem_append.1 hf with h1 | h1
    · obtain ⟨h2, h3⟩ := h.2 f h1
      refine ⟨?_, h3⟩
      split
      · rfl
      · exact h2
    · simp at h1
      subst h1
      exact ⟨if_pos rfl, hb⟩
structure Eu (t : To) : Prop where
  tq : ∀ i, t.s.S i ≠ [] → ∃ v, Tq (tI t) (tE t) true v (t.s.S i)
  iv : ∀ v, isA t.v v = true → t.s.S (t.item v) ≠ [] ∧ t.p (t.item v) = (v, 0) ∧ (t.s.V (t.item v)).c = 1
  ev : ∀ n, isA t.e n = true → t.s.S (t.edge n).x ≠ [] ∧ t.s.S (t.edge n).y ≠ [] ∧ t.p (t.edge n).x = (0, n) ∧ t.p (t.edge n).y = (0, n) ∧ (t.edge n).x ≠ (t.edge n).y ∧ ((t.s.V (t.edge n).x).c = 0 ∧ (t.s.V (t.edge n).x).s = 0 ∧ (t.s.V (t.edge n).x).l = 4611686018427387904) ∧ ((t.s.V (t.edge n).y).c = 0 ∧ (t.s.V (t.edge n).y).s = 0 ∧ (t.s.V (t.edge n).y).l = 4611686018427387904)
  vk : Frk t.v t.fv
  ek : Frk t.e t.fe
theorem to0_eu : Eu to0 := ⟨fun i hi => absurd rfl hi, fun v hv => (by simp [isA, to0] at hv), fun n hn => (by simp [isA, to0] at hn), ⟨List.nodup_nil, fun f hf => (by cases hf)⟩, ⟨List.nodup_nil, fun f hf => (by cases hf)⟩⟩
theorem Eu.addV {t : To} (hB : Tb t) (h : Eu t) (a b : Int) : Eu (t.addV a b) := by
  obtain ⟨i, hi⟩ : ∃ i, i = newI t.s.K t.s.fr := ⟨_, rfl⟩
  obtain ⟨v', hv'⟩ : ∃ v', v' = tkI t.v t.fv := ⟨_, rfl⟩
  have hfree : t.s.S i = [] := by
    have := newI_free hB.fk
    rw [← hi] at this
    cases hS : t.s.S i with
    | nil => rfl
    | cons c l => have h2 := (hB.kS i).2 (by rw [hS]; simp); rw [this] at h2; cases h2
  have hvf : isA t.v v' = false := by rw [hv']; exact h.vk.new
  have hvb := tkI_bd h.vk.rng
  rw [← hv'] at hvb
  have eS : (t.addV a b).s.S = makeS t.s.S i := by rw [hi]; rfl
  have eV : (t.addV a b).s.V = updV t.s.V i ⟨1, a, b, 0⟩ := by rw [hi]; rfl
  have ep : (t.addV a b).p = updP t.p i (v', 0) := by rw [hi, hv']; rfl
  have ev : (t.addV a b).v = tkL t.v t.fv i := by rw [hi]; rfl
  have ee : (t.addV a b).e = t.e := rfl
  have isa : ∀ u, isA (t.addV a b).v u = if u = v' then true else isA t.v u := fun u => by rw [ev, isA_tkL h.vk.rng, hv']
  have it : ∀ u, isA (t.addV a b).v u = true → (t.addV a b).item u = if u = v' then i else t.item u := fun u hu => by
    have hub := isA_bd hu
    rw [To.item_yes hu, ev, atA_tkL h.vk.rng 0 i hub.1, ← hv']
    split
    · rfl
    · rename_i hne
      rw [isa, if_neg hne] at hu
      rw [To.item_yes hu]
  have old : ∀ u, isA t.v u = true → u ≠ v' ∧ isA (t.addV a b).v u = true ∧ (t.addV a b).item u = t.item u := fun u hu => by
    have hne : u ≠ v' := fun e => by rw [e, hvf] at hu; cases hu
    have h1 : isA (t.addV a b).v u = true := by rw [isa, if_neg hne]; exact hu
    exact ⟨hne, h1, by rw [it u h1, if_neg hne]⟩
  have hne : ∀ j, t.s.S j ≠ [] → j ≠ i := fun j hj e => hj (e ▸ hfree)
  have hS : ∀ j, j ≠ i → (t.addV a b).s.S j = t.s.S j := fun j hj => by rw [eS]; exact if_neg hj
  have hSi : (t.addV a b).s.S i = [i] := by rw [eS]; exact if_pos rfl
  refine ⟨fun j hj => ?_, fun u hu => ?_, fun n hn => ?_, ?_, h.ek⟩
  · by_cases e : j = i
    · subst e
      rw [hSi]
      have h1 : isA (t.addV a b).v v' = true := by rw [isa, if_pos rfl]
      exact ⟨v', Tq.own (P := []) (Q := []) ⟨h1, by rw [it v' h1, if_pos rfl]⟩ (.nil _) (.nil _)⟩
    · rw [hS j e] at hj ⊢
      obtain ⟨v, hq⟩ := h.tq j hj
      exact ⟨v, hq.mono (fun u k hk _ => by obtain ⟨h1, h2⟩ := hk; obtain ⟨_, h3, h4⟩ := old u h1; exact ⟨h3, h4.trans h2⟩) (fun _ _ _ _ hk _ _ => hk)⟩
  · rw [it u hu, eV, ep]
    by_cases e : u = v'
    · rw [if_pos e, hSi, e]
      exact ⟨by simp, if_pos rfl, by unfold updV; rw [if_pos rfl]⟩
    · rw [if_neg e]
      rw [isa, if_neg e] at hu
      obtain ⟨h1, h2, h3⟩ := h.iv u hu
      have hn := hne _ h1
      exact ⟨by rw [hS _ hn]; exact h1, by unfold updP; rw [if_neg hn]; exact h2, by unfold updV; rw [if_neg hn]; exact h3⟩
  · have hn' : isA t.e n = true := hn
    obtain ⟨h1, h2, h3, h4, h5, h6, h7⟩ := h.ev n hn'
    have e1 : (t.addV a b).edge n = t.edge n := rfl
    rw [e1, eV, ep, hS _ (hne _ h1), hS _ (hne _ h2)]
    exact ⟨h1, h2, by unfold updP; rw [if_neg (hne _ h1)]; exact h3, by unfold updP; rw [if_neg (hne _ h2)]; exact h4, h5, by unfold updV; rw [if_neg (hne _ h1)]; exact h6, by unfold updV; rw [if_neg (hne _ h2)]; exact h7⟩
  · rw [ev]; exact h.vk.take i
theorem Fam.make {S : Int → List Int} (hF : Fam S) {i : Int} (hi : S i = []) : Fam (makeS S i) := by
  have hin : makeS S i i = [i] := if_pos rfl
  have hout : ∀ j, j ≠ i → makeS S i j = S j := fun j hj => if_neg hj
  have hno : ∀ j, i ∉ S j := fun j h => by
    have h1 := hF.same j i h
    rw [hi] at h1
    rw [← h1] at h
    cases h
  refine ⟨fun j hj => ?_, fun j k hk => ?_, fun j => ?_⟩
  · by_cases e : j = i
    · rw [e, hin]; simp
    · rw [hout j e] at hj ⊢; exact hF.mem j hj
  · by_cases e : j = i
    · rw [e, hin] at hk; simp at hk; rw [hk, e]
    · rw [hout j e] at hk
      have hki : k ≠ i := fun e' => hno j (e' ▸ hk)
      rw [hout j e, hout k hki]; exact hF.same j k hk
  · by_cases e : j = i
    · rw [e, hin]; simp
    · rw [hout j e]; exact hF.nodup j
theorem Eu.one {t : To} (h : Eu t) {v u i : Int} (h1 : tI t v i) (h2 : tI t u i) : v = u := by
  have e1 := (h.iv v h1.1).2.1
  have e2 := (h.iv u h2.1).2.1
  rw [h1.2] at e1
  rw [h2.2, e1] at e2
  exact congrArg Prod.fst e2
theorem Eu.apart {t : To} (h : Eu t) {v a c x y : Int} (hE : tE t a c x y) : ¬ tI t v x ∧ ¬ tI t v y := by
  obtain ⟨n, hn, hc⟩ := hE
  obtain ⟨_, _, p1, p2, _⟩ := h.ev n hn
  have key : ∀ q, t.p q = (0, n) → ¬ tI t v q := fun q hq hv => by
    have e1 := (h.iv v hv.1).2.1
    have hb := isA_bd hv.1
    rw [hv.2, hq] at e1
    have := congrArg Prod.fst e1
    simp only at this
    omega
  rcases hc with ⟨_, _, rfl, rfl⟩ | ⟨_, _, rfl, rfl⟩
  · exact ⟨key _ p1, key _ p2⟩
  · exact ⟨key _ p2, key _ p1⟩
theorem Eu.begins {t : To} (h : Eu t) {a u : Int} {R : List Int} (ha : isA t.v a = true) (hq : Tq (tI t) (tE t) true u (t.item a :: R)) : Tq (tI t) (tE t) false a R := by
  obtain ⟨i, P, Q, hi, hP, hQ, e⟩ := hq.opened
  cases P with
  | nil =>
    injection e with e1 e2
    have : u = a := h.one (i := t.item a) (e1 ▸ hi) ⟨ha, rfl⟩
    rw [← this, e2]; exact hQ
  | cons z P' =>
    injection e with e1 e2
    obtain ⟨c, y, N, M, he, _⟩ := hP.first
    exact absurd ⟨ha, e1⟩ (h.apart (v := a) he).1
theorem Eu.link {t : To} (hB : Tb t) (h : Eu t) {a b : Int} (ha : isA t.v a = true) (hb : isA t.v b = true) (hn : t.same a b = false) : Eu (t.link a b) ∧ ∃ R R', t.s.S (t.item a) ≠ [] ∧ (∀ k, k ∈ t.item a :: R ↔ k ∈ t.s.S (t.item a)) ∧ (∀ k, k ∈ t.item b :: R' ↔ k ∈ t.s.S (t.item b)) ∧ (∀ k, k ∈ (t.item a :: R) ++ t.newX :: ((t.item b :: R') ++ [t.newY]) → (t.link a b).s.S k = (t.item a :: R) ++ t.newX :: ((t.item b :: R') ++ [t.newY])) ∧ (∀ k, k ∉ (t.item a :: R) ++ t.newX :: ((t.item b :: R') ++ [t.newY]) → (t.link a b).s.S k = t.s.S k) := by
  obtain ⟨i, hi⟩ : ∃ i, i = t.item a := ⟨_, rfl⟩
  obtain ⟨j, hj⟩ : ∃ j, j = t.item b := ⟨_, rfl⟩
  obtain ⟨x, hx⟩ : ∃ x, x = t.newX := ⟨_, rfl⟩
  obtain ⟨y, hy⟩ : ∃ y, y = t.newY := ⟨_, rfl⟩
  obtain ⟨n', hn'⟩ : ∃ n', n' = t.newE := ⟨_, rfl⟩
  have hFk : Fk t.s.K t.s.fr := hB.fk
  have empty : ∀ k, isK t.s.K k = false → t.s.S k = [] := fun k hk => by
    cases hS : t.s.S k with
    | nil => rfl
    | cons c l => have h2 := (hB.kS k).2 (by rw [hS]; simp); rw [hk] at h2; cases h2
  have hxK : isK t.s.K x = false := by rw [hx]; exact (newI_bd hFk).2.2
  have hFk1 : Fk (t.s.make noneV).K (t.s.make noneV).fr := hFk.new
  have hyK1 : isK (t.s.make noneV).K y = false := by rw [hy]; exact (newI_bd hFk1).2.2
  have hyx : y ≠ x ∧ isK t.s.K y = false := by
    have e1 : isK (newK t.s.K t.s.fr) y = if y = newI t.s.K t.s.fr then true else isK t.s.K y := isK_new hFk y
    have e2 : isK (newK t.s.K t.s.fr) y = false := hyK1
    rw [e2] at e1
    have e3 : newI t.s.K t.s.fr = x := hx.symm
    rw [e3] at e1
    split at e1
    · cases e1
    · rename_i hne; exact ⟨hne, e1.symm⟩
  have hSx : t.s.S x = [] := empty x hxK
  have hSy : t.s.S y = [] := empty y hyx.2
  obtain ⟨s1, hs1⟩ : ∃ s1, s1 = (t.s.make noneV).make noneV := ⟨_, rfl⟩
  have eS1 : s1.S = makeS (makeS t.s.S x) y := by rw [hs1, hx, hy]; rfl
  have eV1 : s1.V = updV (updV t.s.V x noneV) y noneV := by rw [hs1, hx, hy]; rfl
  have hne : ∀ k, t.s.S k ≠ [] → k ≠ x ∧ k ≠ y := fun k hk => ⟨fun e => hk (e ▸ hSx), fun e => hk (e ▸ hSy)⟩
  have hS1 : ∀ k, k ≠ x → k ≠ y → s1.S k = t.s.S k := fun k h1 h2 => by
    rw [eS1]
    show (if k = y then [y] else if k = x then [x] else t.s.S k) = _
    rw [if_neg h2, if_neg h1]
  have hS1x : s1.S x = [x] := by rw [eS1]; show (if x = y then [y] else if x = x then [x] else t.s.S x) = _; rw [if_neg (Ne.symm hyx.1), if_pos rfl]
  have hS1y : s1.S y = [y] := by rw [eS1]; exact if_pos rfl
  have F1 : Fam s1.S := by
    rw [eS1]
    refine (hB.fam.make hSx).make ?_
    show (if y = x then [x] else t.s.S y) = []
    rw [if_neg hyx.1]; exact hSy
  obtain ⟨hia, pia, _⟩ := h.iv a ha
  obtain ⟨hjb, pjb, _⟩ := h.iv b hb
  rw [← hi] at hia pia
  rw [← hj] at hjb pjb
  have hii := hB.fam.mem i hia
  have hjj := hB.fam.mem j hjb
  have hij : j ∉ t.s.S i := by
    have : decide (t.item b ∈ t.s.S (t.item a)) = false := hn
    rw [← hi, ← hj] at this
    simpa using this
  obtain ⟨A, B, eA⟩ := hB.fam.at hii
  obtain ⟨C, D, eC⟩ := hB.fam.at hjj
  have e1i : s1.S i = A ++ i :: B := by rw [hS1 i (hne i hia).1 (hne i hia).2]; exact eA
  have e1j : s1.S j = C ++ j :: D := by rw [hS1 j (hne j hjb).1 (hne j hjb).2]; exact eC
  have nin : ∀ q k, t.s.S q = [] → q ∉ t.s.S k := fun q k hq hk => by
    have := hB.fam.same k q hk
    rw [hq] at this
    rw [← this] at hk
    cases hk
  have s1i : s1.S i = t.s.S i := hS1 i (hne i hia).1 (hne i hia).2
  have s1j : s1.S j = t.s.S j := hS1 j (hne j hjb).1 (hne j hjb).2
  obtain ⟨F2, inL, outL⟩ := F1.spliced (x := x) (y := y) e1i e1j hS1x hS1y (by rw [s1i]; exact hij) (by rw [s1i]; exact nin x i hSx) (by rw [s1j]; exact nin x j hSx) (by rw [s1i]; exact nin y i hSy) (by rw [s1j]; exact nin y j hSy) (Ne.symm hyx.1)
  have eS : (t.link a b).s.S = (s1.splice i j x y).S := by rw [hs1, hi, hj, hx, hy]; rfl
  have eV : (t.link a b).s.V = s1.V := by
    have : (t.link a b).s = s1.splice i j x y := by rw [hs1, hi, hj, hx, hy]; rfl
    rw [this]; exact (Sq.splice_K s1 i j x y).2.2.1
  have ev : (t.link a b).v = t.v := rfl
  have ee : (t.link a b).e = tkL t.e t.fe ⟨a, b, x, y⟩ := by rw [hx, hy]; rfl
  have ep : (t.link a b).p = updP (updP t.p x (0, n')) y (0, n') := by rw [hx, hy, hn']; rfl
  rw [← eS] at F2 inL outL
  have hnf : isA t.e n' = false := by rw [hn']; exact h.ek.new
  have hnb := tkI_bd h.ek.rng
  have en' : tkI t.e t.fe = n' := hn'.symm
  have isE : ∀ m, isA (t.link a b).e m = if m = n' then true else isA t.e m := fun m => by rw [ee, isA_tkL h.ek.rng, en']
  have edE : ∀ m, 1 ≤ m → (t.link a b).edge m = if m = n' then ⟨a, b, x, y⟩ else t.edge m := fun m hm => by
    show atA zeE (t.link a b).e m = _
    rw [ee, atA_tkL h.ek.rng zeE _ hm, en']
    rfl
  have oldE : ∀ m, isA t.e m = true → m ≠ n' ∧ isA (t.link a b).e m = true ∧ (t.link a b).edge m = t.edge m := fun m hm => by
    have hmn : m ≠ n' := fun e => by rw [e, hnf] at hm; cases hm
    exact ⟨hmn, by rw [isE, if_neg hmn]; exact hm, by rw [edE m (isA_bd hm).1, if_neg hmn]⟩
  have monoE : ∀ v u p q, tE t v u p q → tE (t.link a b) v u p q := fun v u p q ⟨m, h1, h2⟩ => by
    obtain ⟨_, h3, h4⟩ := oldE m h1
    exact ⟨m, h3, by rw [h4]; exact h2⟩
  have monoI : ∀ v k, tI t v k → tI (t.link a b) v k := fun v k hk => hk
  have n1 : 1 ≤ n' := by rw [hn']; exact hnb.1
  have newE : tE (t.link a b) a b x y := ⟨n', by rw [isE, if_pos rfl], by rw [edE n' n1, if_pos rfl]; exact .inl ⟨rfl, rfl, rfl, rfl⟩⟩
  obtain ⟨v1, q1⟩ := h.tq i hia
  rw [eA] at q1
  obtain ⟨u1, q1⟩ := q1.rot (tE_symm t)
  have b1 : Tq (tI t) (tE t) false a (B ++ A) := by
    refine h.begins ha (u := u1) ?_
    rw [← hi]; exact q1
  obtain ⟨v2, q2⟩ := h.tq j hjb
  rw [eC] at q2
  obtain ⟨u2, q2⟩ := q2.rot (tE_symm t)
  have b2 : Tq (tI t) (tE t) false b (D ++ C) := by
    refine h.begins hb (u := u2) ?_
    rw [← hj]; exact q2
  have mm : ∀ {bb : Bool} {v : Int} {L : List Int}, Tq (tI t) (tE t) bb v L → Tq (tI (t.link a b)) (tE (t.link a b)) bb v L := fun hq => hq.mono (fun v k hk _ => monoI v k hk) (fun v u p q hk _ _ => monoE v u p q hk)
  have tour : Tq (tI (t.link a b)) (tE (t.link a b)) true a ((i :: B ++ A) ++ x :: ((j :: D ++ C) ++ [y])) := by
    have k2 : Tq (tI (t.link a b)) (tE (t.link a b)) true b (j :: (D ++ C)) := Tq.own (P := []) (monoI b j ⟨hb, hj.symm⟩) (.nil _) (mm b2)
    have k1 := Tq.own (P := []) (monoI a i ⟨ha, hi.symm⟩) (.nil _) ((mm b1).app (Tq.blk newE k2 (.nil a)))
    simpa [List.append_assoc] using k1
  have mA : ∀ k, k ∈ i :: (B ++ A) ↔ k ∈ t.s.S i := fun k => by rw [eA]; exact (show (i :: B ++ A).Perm _ from List.perm_append_comm).mem_iff
  have mC : ∀ k, k ∈ j :: (D ++ C) ↔ k ∈ t.s.S j := fun k => by rw [eC]; exact (show (j :: D ++ C).Perm _ from List.perm_append_comm).mem_iff
  have hL : ∀ k, k ∉ (i :: B ++ A) ++ x :: ((j :: D ++ C) ++ [y]) → k ≠ x ∧ k ≠ y := fun k hk => ⟨fun e => hk (by rw [e]; simp), fun e => hk (by rw [e]; simp)⟩
  have keep : ∀ k, t.s.S k ≠ [] → (t.link a b).s.S k ≠ [] := fun k hk => by
    by_cases hkL : k ∈ (i :: B ++ A) ++ x :: ((j :: D ++ C) ++ [y])
    · rw [inL k hkL]; simp
    · rw [outL k hkL, hS1 k (hL k hkL).1 (hL k hkL).2]; exact hk
  refine ⟨⟨fun k hk => ?_, fun v hv => ?_, fun m hm => ?_, h.vk, ?_⟩, B ++ A, D ++ C, ?_, ?_, ?_, ?_, ?_⟩
  · by_cases hkL : k ∈ (i :: B ++ A) ++ x :: ((j :: D ++ C) ++ [y])
    · rw [inL k hkL]; exact ⟨a, tour⟩
    · have e3 : (t.link a b).s.S k = t.s.S k := by rw [outL k hkL, hS1 k (hL k hkL).1 (hL k hkL).2]
      rw [e3] at hk ⊢
      obtain ⟨v, hq⟩ := h.tq k hk
      exact ⟨v, mm hq⟩
  · have hv' : isA t.v v = true := hv
    obtain ⟨h1, h2, h3⟩ := h.iv v hv'
    have eit : (t.link a b).item v = t.item v := rfl
    obtain ⟨nx, ny⟩ := hne _ h1
    rw [eit, eV, eV1, ep]
    refine ⟨keep _ h1, ?_, ?_⟩
    · unfold updP; rw [if_neg ny, if_neg nx]; exact h2
    · unfold updV; rw [if_neg ny, if_neg nx]; exact h3
  · have hmb := isA_bd hm
    rw [edE m hmb.1, eV, eV1, ep]
    rw [isE] at hm
    by_cases e : m = n'
    · rw [if_pos e, e]
      refine ⟨?_, ?_, ?_, ?_, Ne.symm hyx.1, ?_, ?_⟩
      · show (t.link a b).s.S x ≠ []; rw [inL x (by simp)]; simp
      · show (t.link a b).s.S y ≠ []; rw [inL y (by simp)]; simp
      · show updP (updP t.p x (0, n')) y (0, n') x = _; unfold updP; rw [if_neg (Ne.symm hyx.1), if_pos rfl]
      · show updP (updP t.p x (0, n')) y (0, n') y = _; unfold updP; rw [if_pos rfl]
      · show (updV (updV t.s.V x noneV) y noneV x).c = 0 ∧ (updV (updV t.s.V x noneV) y noneV x).s = 0 ∧ (updV (updV t.s.V x noneV) y noneV x).l = 4611686018427387904
        unfold updV; rw [if_neg (Ne.symm hyx.1), if_pos rfl]; exact ⟨rfl, rfl, rfl⟩
      · show (updV (updV t.s.V x noneV) y noneV y).c = 0 ∧ (updV (updV t.s.V x noneV) y noneV y).s = 0 ∧ (updV (updV t.s.V x noneV) y noneV y).l = 4611686018427387904
        unfold updV; rw [if_pos rfl]; exact ⟨rfl, rfl, rfl⟩
    · rw [if_neg e] at hm ⊢
      obtain ⟨h1, h2, h3, h4, h5, h6, h7⟩ := h.ev m hm
      obtain ⟨nx, ny⟩ := hne _ h1
      obtain ⟨mx, my⟩ := hne _ h2
      refine ⟨keep _ h1, keep _ h2, ?_, ?_, h5, ?_, ?_⟩
      · unfold updP; rw [if_neg ny, if_neg nx]; exact h3
      · unfold updP; rw [if_neg my, if_neg mx]; exact h4
      · unfold updV; rw [if_neg ny, if_neg nx]; exact h6
      · unfold updV; rw [if_neg my, if_neg mx]; exact h7
  · rw [ee]; exact h.ek.take _
  · rw [← hi]; exact hia
  · rw [← hi]; exact mA
  · rw [← hj]; exact mC
  · rw [← hi, ← hj, ← hx, ← hy]
    intro k hk
    have e4 : (i :: (B ++ A)) ++ x :: ((j :: (D ++ C)) ++ [y]) = (i :: B ++ A) ++ x :: ((j :: D ++ C) ++ [y]) := by simp
    rw [e4] at hk ⊢
    exact inL k hk
  · rw [← hi, ← hj, ← hx, ← hy]
    intro k hk
    have e4 : (i :: (B ++ A)) ++ x :: ((j :: (D ++ C)) ++ [y]) = (i :: B ++ A) ++ x :: ((j :: D ++ C) ++ [y]) := by simp
    rw [e4] at hk
    rw [outL k hk, hS1 k (hL k hk).1 (hL k hk).2]
theorem Sq.free_S {s : Sq} {i : Int} (h : s.S i = [i]) : (s.free i).S = freeS s.S i ∧ (s.free i).V = updV s.V i zeV := by
  have hl : s.lone i = true := by unfold Sq.lone; rw [h]; rfl
  unfold Sq.free
  rw [if_pos hl]
  exact ⟨rfl, rfl⟩
theorem Eu.cut {t : To} (hB : Tb t) (h : Eu t) {n : Int} (hn : isA t.e n = true) : Eu (t.cutE n) ∧ ∃ N M, Tq (tI t) (tE t) true (t.edge n).b N ∧ Tq (tI t) (tE t) true (t.edge n).a M ∧ (t.s.S (t.edge n).x).Perm ((t.edge n).x :: (N ++ (t.edge n).y :: M)) ∧ (∀ k, k ∈ N → (t.cutE n).s.S k = N) ∧ (∀ k, k ∈ M → (t.cutE n).s.S k = M) ∧ (∀ k, k ∉ t.s.S (t.edge n).x → (t.cutE n).s.S k = t.s.S k) := by
  have ec := To.cutE_eq t n
  obtain ⟨x, hx⟩ : ∃ x, x = (t.edge n).x := ⟨_, rfl⟩
  obtain ⟨y, hy⟩ : ∃ y, y = (t.edge n).y := ⟨_, rfl⟩
  obtain ⟨hSx, hSy, px, py, hxy, _, _⟩ := h.ev n hn
  rw [← hx] at hSx px hxy
  rw [← hy] at hSy py hxy
  rw [← hx, ← hy] at ec
  have hxx := hB.fam.mem x hSx
  obtain ⟨A, R, eA⟩ := hB.fam.at hxx
  obtain ⟨v1, q1⟩ := h.tq x hSx
  rw [eA] at q1
  obtain ⟨u, q1⟩ := q1.rot (tE_symm t)
  obtain ⟨i0, P, Q, hi0, hP, hQ, e⟩ := q1.opened
  have hxE : ∀ v c p, tE t v c x p → v = (t.edge n).a ∧ c = (t.edge n).b ∧ p = y := fun v c p ⟨m, hm, hc⟩ => by
    obtain ⟨_, _, p1, p2, _, _⟩ := h.ev m hm
    rcases hc with ⟨h1, h2, h3, h4⟩ | ⟨h1, h2, h3, h4⟩
    · rw [h3, px] at p1
      have hmn : n = m := congrArg Prod.snd p1
      subst hmn
      exact ⟨h1.symm, h2.symm, by rw [← h4, hy]⟩
    · rw [h3, px] at p2
      have hmn : n = m := congrArg Prod.snd p2
      subst hmn
      exact absurd (h3.symm.trans hy.symm) hxy
  cases P with
  | nil =>
    injection e with e1 e2
    have hE : tE t (t.edge n).a (t.edge n).b x y := ⟨n, hn, .inl ⟨rfl, rfl, hx.symm, hy.symm⟩⟩
    exact absurd (e1 ▸ hi0) (h.apart (v := u) hE).1
  | cons z P' =>
    injection e with e1 e2
    subst e1
    obtain ⟨c, y', N, M0, he, hN, hM0, eP⟩ := hP.first
    obtain ⟨eu, ecb, ey⟩ := hxE _ _ _ he
    subst ey
    obtain ⟨M, hM⟩ : ∃ M, M = M0 ++ i0 :: Q := ⟨_, rfl⟩
    have tqM : Tq (tI t) (tE t) true (t.edge n).a M := by rw [hM, ← eu]; exact .own hi0 hM0 hQ
    have tqN : Tq (tI t) (tE t) true (t.edge n).b N := by rw [← ecb]; exact hN
    have e2' : R ++ A = P' ++ i0 :: Q := e2
    have eR : R ++ A = N ++ y' :: M := by rw [e2', eP, hM]; simp
    have hNe : N ≠ [] := by obtain ⟨j, P2, Q2, _, _, _, e3⟩ := tqN.opened; rw [e3]; simp
    have hMe : M ≠ [] := by rw [hM]; simp
    obtain ⟨n0, N', eN⟩ := List.exists_cons_of_ne_nil hNe
    obtain ⟨m0, M', eM⟩ := List.exists_cons_of_ne_nil hMe
    obtain ⟨F4, ux, uy, uN, uM, uO⟩ := hB.fam.unspliced (y := y') eA (by rw [eR, eN, eM])
    rw [← eN] at uN
    rw [← eM] at uM
    have hperm : (t.s.S x).Perm (x :: (N ++ y' :: M)) := by
      rw [eA, ← eR]
      exact (List.perm_append_comm (l₁ := A) (l₂ := x :: R))
    have hnd : (x :: (N ++ y' :: M)).Nodup := hperm.nodup_iff.1 (hB.fam.nodup x)
    have hnd2 := List.nodup_cons.1 hnd
    have hnd3 := List.nodup_append.1 hnd2.2
    have xN : x ∉ N := fun hk => hnd2.1 (by simp [hk])
    have xM : x ∉ M := fun hk => hnd2.1 (by simp [hk])
    have yN : y' ∉ N := fun hk => hnd3.2.2 y' hk y' (by simp) rfl
    have yM : y' ∉ M := (List.nodup_cons.1 hnd3.2.1).1
    obtain ⟨s1, hs1⟩ : ∃ s1, s1 = t.s.unsplice x y' := ⟨_, rfl⟩
    rw [← hs1] at ec F4 ux uy uN uM uO
    have f1 := Sq.free_S ux
    have uy1 : (s1.free x).S y' = [y'] := by rw [f1.1]; show (if y' = x then [] else s1.S y') = _; rw [if_neg (Ne.symm hxy)]; exact uy
    have f2 := Sq.free_S uy1
    have eS : (t.cutE n).s.S = freeS (freeS s1.S x) y' := by rw [ec]; show ((s1.free x).free y').S = _; rw [f2.1, f1.1]
    have eV : (t.cutE n).s.V = updV (updV t.s.V x zeV) y' zeV := by
      rw [ec]; show ((s1.free x).free y').V = _
      rw [f2.2, f1.2, hs1, (Sq.unsplice_K t.s x y').2.2.1]
    have ep : (t.cutE n).p = updP (updP t.p x (0, 0)) y' (0, 0) := by rw [ec]
    have evv : (t.cutE n).v = t.v := by rw [ec]
    have ee : (t.cutE n).e = frL zeE t.e n := by rw [ec]
    have hS : ∀ k, k ≠ x → k ≠ y' → (t.cutE n).s.S k = s1.S k := fun k h1 h2 => by rw [eS]; show (if k = y' then [] else if k = x then [] else s1.S k) = _; rw [if_neg h2, if_neg h1]
    have hS0 : ∀ k, (t.cutE n).s.S k ≠ [] → k ≠ x ∧ k ≠ y' := fun k hk => by
      refine ⟨fun e3 => hk ?_, fun e3 => hk ?_⟩
      · rw [eS, e3]; show (if x = y' then [] else if x = x then [] else s1.S x) = _; rw [if_neg hxy, if_pos rfl]
      · rw [eS, e3]; exact if_pos rfl
    have isE : ∀ m, isA (t.cutE n).e m = if m = n then false else isA t.e m := fun m => by rw [ee, isA_frL zeE hn]
    have edE : ∀ m, isA (t.cutE n).e m = true → m ≠ n ∧ isA t.e m = true ∧ (t.cutE n).edge m = t.edge m := fun m hm => by
      have hmb := isA_bd hm
      rw [isE] at hm
      split at hm
      · cases hm
      · rename_i hne
        refine ⟨hne, hm, ?_⟩
        show atA zeE (t.cutE n).e m = _
        rw [ee, atA_frL zeE hn hmb.1, if_neg hne]
        rfl
    have itE : ∀ v, (t.cutE n).item v = t.item v := fun v => by unfold To.item; rw [evv]
    have monoI : ∀ v k, tI t v k → tI (t.cutE n) v k := fun v k ⟨h1, h2⟩ => ⟨by rw [evv]; exact h1, by rw [itE]; exact h2⟩
    have monoE : ∀ v u p q, tE t v u p q → p ≠ x → p ≠ y' → tE (t.cutE n) v u p q := fun v u p q ⟨m, h1, h2⟩ n1 n2 => by
      have hmn : m ≠ n := fun e3 => by
        subst e3
        rcases h2 with ⟨_, _, h3, _⟩ | ⟨_, _, h3, _⟩
        · exact n1 (by rw [← h3, hx])
        · exact n2 (by rw [← h3, hy])
      have h3 : isA (t.cutE n).e m = true := by rw [isE, if_neg hmn]; exact h1
      exact ⟨m, h3, by rw [(edE m h3).2.2]; exact h2⟩
    have mm : ∀ {bb : Bool} {v : Int} {L : List Int}, x ∉ L → y' ∉ L → Tq (tI t) (tE t) bb v L → Tq (tI (t.cutE n)) (tE (t.cutE n)) bb v L := fun n1 n2 hq => hq.mono (fun v k hk _ => monoI v k hk) (fun v u p q hk h1 _ => monoE v u p q hk (fun e3 => n1 (e3 ▸ h1)) (fun e3 => n2 (e3 ▸ h1)))
    have inN : ∀ k, k ∈ N → (t.cutE n).s.S k = N := fun k hk => by rw [hS k (fun e3 => xN (e3 ▸ hk)) (fun e3 => yN (e3 ▸ hk))]; exact uN k hk
    have inM : ∀ k, k ∈ M → (t.cutE n).s.S k = M := fun k hk => by rw [hS k (fun e3 => xM (e3 ▸ hk)) (fun e3 => yM (e3 ▸ hk))]; exact uM k hk
    have yin : y' ∈ t.s.S x := hperm.mem_iff.2 (by simp)
    have outS : ∀ k, k ∉ t.s.S x → (t.cutE n).s.S k = t.s.S k := fun k hk => by rw [hS k (fun e3 => hk (e3 ▸ hxx)) (fun e3 => hk (e3 ▸ yin))]; exact uO k hk
    have four : ∀ k, k = x ∨ k = y' ∨ k ∈ N ∨ k ∈ M ∨ k ∉ t.s.S x := fun k => by
      by_cases hk : k ∈ t.s.S x
      · have := hperm.mem_iff.1 hk
        rcases List.mem_cons.1 this with h1 | h1
        · exact .inl h1
        · rcases List.mem_append.1 h1 with h1 | h1
          · exact .inr (.inr (.inl h1))
          · rcases List.mem_cons.1 h1 with h1 | h1
            · exact .inr (.inl h1)
            · exact .inr (.inr (.inr (.inl h1)))
      · exact .inr (.inr (.inr (.inr hk)))
    have keep : ∀ k, t.s.S k ≠ [] → k ≠ x → k ≠ y' → (t.cutE n).s.S k ≠ [] := fun k hk n1 n2 => by
      rcases four k with h1 | h1 | h1 | h1 | h1
      · exact absurd h1 n1
      · exact absurd h1 n2
      · rw [inN k h1]; exact hNe
      · rw [inM k h1]; exact hMe
      · rw [outS k h1]; exact hk
    have upd : ∀ k, k ≠ x → k ≠ y' → (t.cutE n).p k = t.p k ∧ (t.cutE n).s.V k = t.s.V k := fun k n1 n2 => by
      refine ⟨?_, ?_⟩
      · rw [ep]; unfold updP; rw [if_neg n2, if_neg n1]
      · rw [eV]; unfold updV; rw [if_neg n2, if_neg n1]
    refine ⟨⟨fun k hk => ?_, fun v hv => ?_, fun m hm => ?_, ?_, ?_⟩, N, M, tqN, tqM, ?_, inN, inM, ?_⟩
    · obtain ⟨n1, n2⟩ := hS0 k hk
      rcases four k with h1 | h1 | h1 | h1 | h1
      · exact absurd h1 n1
      · exact absurd h1 n2
      · rw [inN k h1]; exact ⟨_, mm xN yN tqN⟩
      · rw [inM k h1]; exact ⟨_, mm xM yM tqM⟩
      · rw [outS k h1] at hk ⊢
        obtain ⟨v, hq⟩ := h.tq k hk
        have nk : ∀ q, q ∈ t.s.S x → q ∉ t.s.S k := fun q h2 h3 => h1 (by rw [← hB.fam.same x q h2, hB.fam.same k q h3]; exact hB.fam.mem k hk)
        exact ⟨v, mm (nk x hxx) (nk y' yin) hq⟩
    · rw [evv] at hv
      obtain ⟨h1, h2, h3⟩ := h.iv v hv
      have hE : tE t (t.edge n).a (t.edge n).b x y' := ⟨n, hn, .inl ⟨rfl, rfl, hx.symm, hy.symm⟩⟩
      have n1 : t.item v ≠ x := fun e3 => (h.apart (v := v) hE).1 ⟨hv, e3⟩
      have n2 : t.item v ≠ y' := fun e3 => (h.apart (v := v) hE).2 ⟨hv, e3⟩
      rw [itE, (upd _ n1 n2).1, (upd _ n1 n2).2]
      exact ⟨keep _ h1 n1 n2, h2, h3⟩
    · obtain ⟨hmn, hm', eed⟩ := edE m hm
      obtain ⟨h1, h2, h3, h4, h5, h6, h7⟩ := h.ev m hm'
      have ne : ∀ q, t.p q = (0, m) → q ≠ x ∧ q ≠ y' := fun q hq => by
        refine ⟨fun e3 => ?_, fun e3 => ?_⟩
        · rw [e3, px] at hq; exact hmn (congrArg Prod.snd hq).symm
        · rw [e3, py] at hq; exact hmn (congrArg Prod.snd hq).symm
      obtain ⟨a1, a2⟩ := ne _ h3
      obtain ⟨b1, b2⟩ := ne _ h4
      rw [eed, (upd _ a1 a2).1, (upd _ a1 a2).2, (upd _ b1 b2).1, (upd _ b1 b2).2]
      exact ⟨keep _ h1 a1 a2, keep _ h2 b1 b2, h3, h4, h5, h6, h7⟩
    · rw [ec]; exact h.vk
    · rw [ec]; exact h.ek.free zeE hn
    · rw [← hx, ← hy]; exact hperm
    · rw [← hx]; exact outS
end Go.Proofs.YtlmdjghcmofdlaaGreat
/-! Layer 7 (tour), plain: what the vertices of a tree have together. -/
namespace Go.Proofs.YtlmdjghcmofdlaaGreat
open Go.RowKit
set_option linter.unusedVariables false
def cS (V : Int → Vl) : List Int → Int
  | [] => 0
  | j :: l => (V j).c + cS V l
def sS (V : Int → Vl) : List Int → Int
  | [] => 0
  | j :: l => (V j).s + sS V l
def lS (V : Int → Vl) : List Int → Int
  | [] => 4611686018427387904
  | j :: l => min (V j).l (lS V l)
theorem lS_le (V : Int → Vl) (l : List Int) : lS V l ≤ 4611686018427387904 := by
  induction l with
  | nil => exact Int.le_refl _
  | cons j l ih => show min _ _ ≤ _; omega
theorem sumV_S (V : Int → Vl) (l : List Int) : (sumV (l.map V)).c = wr (cS V l) ∧ (sumV (l.map V)).s = wr (sS V l) ∧ (sumV (l.map V)).l = lS V l := by
  induction l with
  | nil => exact ⟨(wr_id (x := 0) (by decide) (by decide)).symm, (wr_id (x := 0) (by decide) (by decide)).symm, rfl⟩
  | cons j l ih =>
    have e : sumV ((j :: l).map V) = tog (tog noV (V j)) (sumV (l.map V)) := by
      show sumV ([V j] ++ l.map V) = _
      rw [sumV_append]; rfl
    rw [e]
    obtain ⟨h1, h2, h3⟩ := ih
    have hl := lS_le V l
    refine ⟨?_, ?_, ?_⟩
    · show wr (wr (0 + (V j).c) + (sumV (l.map V)).c) = wr ((V j).c + cS V l)
      rw [h1, wr_l, wr_r, Int.zero_add]
    · show wr (wr (0 + (V j).s) + (sumV (l.map V)).s) = wr ((V j).s + sS V l)
      rw [h2, wr_l, wr_r, Int.zero_add]
    · show min (min 4611686018427387904 (V j).l) (sumV (l.map V)).l = min (V j).l (lS V l)
      rw [h3]; omega
theorem To.total_S {t : To} {v : Int} (hv : t.item v ≠ 0) : (t.total v).c = wr (cS t.s.V (t.s.S (t.item v))) ∧ (t.total v).s = wr (sS t.s.V (t.s.S (t.item v))) ∧ (t.total v).l = lS t.s.V (t.s.S (t.item v)) := by
  unfold To.total
  rw [if_neg hv]
  exact sumV_S _ _
theorem addV_facts {t : To} (hB : Tb t) (h : Eu t) (a b : Int) : ∃ i, t.s.S i = [] ∧ (t.addV a b).s.S i = [i] ∧ (∀ j, j ≠ i → (t.addV a b).s.S j = t.s.S j) ∧ (t.addV a b).s.V i = ⟨1, a, b, 0⟩ ∧ (∀ j, j ≠ i → (t.addV a b).s.V j = t.s.V j) ∧ (∀ u, isA (t.addV a b).v u = if u = tkI t.v t.fv then true else isA t.v u) ∧ (t.addV a b).item (tkI t.v t.fv) = i ∧ (∀ u, isA t.v u = true → (t.addV a b).item u = t.item u) := by
  have hfree : t.s.S (newI t.s.K t.s.fr) = [] := by
    have := newI_free hB.fk
    cases hS : t.s.S (newI t.s.K t.s.fr) with
    | nil => rfl
    | cons c l => have h2 := (hB.kS _).2 (by rw [hS]; simp); rw [this] at h2; cases h2
  have isa : ∀ u, isA (t.addV a b).v u = if u = tkI t.v t.fv then true else isA t.v u := fun u => isA_tkL h.vk.rng _ u
  have hvf : isA t.v (tkI t.v t.fv) = false := h.vk.new
  have it : ∀ u, isA (t.addV a b).v u = true → (t.addV a b).item u = if u = tkI t.v t.fv then newI t.s.K t.s.fr else t.item u := fun u hu => by
    have hub := isA_bd hu
    rw [To.item_yes hu, show (t.addV a b).v = tkL t.v t.fv (newI t.s.K t.s.fr) from rfl, atA_tkL h.vk.rng 0 _ hub.1]
    split
    · rfl
    · rename_i hne
      rw [isa, if_neg hne] at hu
      rw [To.item_yes hu]
  refine ⟨newI t.s.K t.s.fr, hfree, if_pos rfl, fun j hj => if_neg hj, if_pos rfl, fun j hj => if_neg hj, isa, ?_, fun u hu => ?_⟩
  · rw [it _ (by rw [isa, if_pos rfl]), if_pos rfl]
  · have hne : u ≠ tkI t.v t.fv := fun e => by rw [e, hvf] at hu; cases hu
    rw [it u (by rw [isa, if_neg hne]; exact hu), if_neg hne]
end Go.Proofs.YtlmdjghcmofdlaaGreat
/-! Layer 7 (tour), plain: what the statement TourParts says of states. -/
namespace Go.Proofs.YtlmdjghcmofdlaaGreat
open Go.RowKit
set_option linter.unusedVariables false
theorem Eu.ne0 {t : To} (hB : Tb t) (h : Eu t) {v : Int} (hv : isA t.v v = true) : t.item v ≠ 0 := fun e => by
  have h1 := (hB.kS _).2 (h.iv v hv).1
  rw [e] at h1
  simp [isK] at h1
theorem To.link_V (t : To) (a b : Int) : (t.link a b).s.V = updV (updV t.s.V t.newX noneV) t.newY noneV := by
  have : (t.link a b).s = ((t.s.make noneV).make noneV).splice (t.item a) (t.item b) t.newX t.newY := rfl
  rw [this, (Sq.splice_K _ _ _ _ _).2.2.1]; rfl
theorem To.cutE_v (t : To) (n : Int) : (t.cutE n).v = t.v := by rw [To.cutE_eq]
theorem Sq.free_V {s : Sq} {i k : Int} (h : k ≠ i) : (s.free i).V k = s.V k := by
  cases hl : s.lone i with
  | true => unfold Sq.free; rw [if_pos hl]; exact if_neg h
  | false => rw [Sq.free_no hl]
theorem To.cutE_V (t : To) (n : Int) {k : Int} (h1 : k ≠ (t.edge n).x) (h2 : k ≠ (t.edge n).y) : (t.cutE n).s.V k = t.s.V k := by
  have ec := To.cutE_eq t n
  have es : (t.cutE n).s = ((t.s.unsplice (t.edge n).x (t.edge n).y).free (t.edge n).x).free (t.edge n).y := by rw [ec]
  rw [es, Sq.free_V h2, Sq.free_V h1, (Sq.unsplice_K _ _ _).2.2.1]
section
variable {n : Nat} {Z : Int} {t : To} {p q : Int} {M N : List Int}
end
end Go.Proofs.YtlmdjghcmofdlaaGreat
namespace Go.Proofs.YtlmdjghcmofdlaaGreat
open Go.RowKit
set_option linter.unusedVariables false
theorem Tb.empty {t : To} (hB : Tb t) {k : Int} (hk : isK t.s.K k = false) : t.s.S k = [] := by
  cases hS : t.s.S k with
  | nil => rfl
  | cons c l => have h2 := (hB.kS k).2 (by rw [hS]; simp); rw [hk] at h2; cases h2
theorem Tb.newXY {t : To} (hB : Tb t) : t.s.S t.newX = [] ∧ t.s.S t.newY = [] := by
  have hFk : Fk t.s.K t.s.fr := hB.fk
  have hxK : isK t.s.K t.newX = false := (newI_bd hFk).2.2
  have hFk1 : Fk (t.s.make noneV).K (t.s.make noneV).fr := hFk.new
  have hyK1 : isK (newK t.s.K t.s.fr) t.newY = false := (newI_bd hFk1).2.2
  have hyK : isK t.s.K t.newY = false := by
    rw [isK_new hFk] at hyK1
    split at hyK1
    · cases hyK1
    · exact hyK1
  exact ⟨hB.empty hxK, hB.empty hyK⟩
inductive Jn (R : Int → Int → Prop) : Int → Int → Prop
  | refl (v : Int) : Jn R v v
  | step {v u w : Int} (h : Jn R v u) (e : R u w ∨ R w u) : Jn R v w
section
variable {R R' : Int → Int → Prop}
theorem Jn.trans {a b c : Int} (h : Jn R a b) (k : Jn R b c) : Jn R a c := by
  induction k with
  | refl => exact h
  | step _ e ih => exact .step ih e
theorem Jn.symm {a b : Int} (h : Jn R a b) : Jn R b a := by
  induction h with
  | refl => exact .refl _
  | step _ e ih => exact (Jn.step (.refl _) e.symm).trans ih
theorem Jn.mono {a b : Int} (h : Jn R a b) (hR : ∀ x y, R x y → R' x y ∨ R' y x) : Jn R' a b := by
  induction h with
  | refl => exact .refl _
  | step _ e ih => exact .step ih (e.elim (fun k => hR _ _ k) (fun k => (hR _ _ k).symm))
theorem Jn.more {a b v u : Int} : Jn (fun x y => R x y ∨ (x = a ∧ y = b)) v u ↔ Jn R v u ∨ (Jn R v a ∧ Jn R b u) ∨ (Jn R v b ∧ Jn R a u) := by
  constructor
  · intro h
    induction h with
    | refl => exact .inl (.refl _)
    | @step u w _ e ih =>
      have key : (R u w ∨ R w u) ∨ (u = a ∧ w = b) ∨ (w = a ∧ u = b) := by
        rcases e with (e | e) | (e | e)
        · exact .inl (.inl e)
        · exact .inr (.inl e)
        · exact .inl (.inr e)
        · exact .inr (.inr e)
      rcases key with e | ⟨rfl, rfl⟩ | ⟨rfl, rfl⟩
      · rcases ih with h1 | ⟨h1, h2⟩ | ⟨h1, h2⟩
        · exact .inl (.step h1 e)
        · exact .inr (.inl ⟨h1, .step h2 e⟩)
        · exact .inr (.inr ⟨h1, .step h2 e⟩)
      · rcases ih with h1 | ⟨h1, h2⟩ | ⟨h1, h2⟩
        · exact .inr (.inl ⟨h1, .refl _⟩)
        · exact .inr (.inl ⟨h1, .refl _⟩)
        · exact .inl h1
      · rcases ih with h1 | ⟨h1, h2⟩ | ⟨h1, h2⟩
        · exact .inr (.inr ⟨h1, .refl _⟩)
        · exact .inl h1
        · exact .inr (.inr ⟨h1, .refl _⟩)
  · have up : ∀ {x y : Int}, Jn R x y → Jn (fun x y => R x y ∨ (x = a ∧ y = b)) x y := fun h => h.mono fun _ _ k => .inl (.inl k)
    rintro (h1 | ⟨h1, h2⟩ | ⟨h1, h2⟩)
    · exact up h1
    · exact (Jn.step (up h1) (.inl (.inr ⟨rfl, rfl⟩))).trans (up h2)
    · exact (Jn.step (up h1) (.inr (.inr ⟨rfl, rfl⟩))).trans (up h2)
end
theorem To.same_iff {t : To} {v u : Int} : t.same v u = true ↔ t.item u ∈ t.s.S (t.item v) := by unfold To.same; simp
theorem same_cl {t : To} (hB : Tb t) (h : Eu t) {v u : Int} (hu : isA t.v u = true) : t.same v u = true ↔ t.s.S (t.item v) = t.s.S (t.item u) := by
  rw [To.same_iff]
  constructor
  · exact fun h1 => (hB.fam.same _ _ h1).symm
  · intro h1; rw [h1]; exact hB.fam.mem _ (h.iv u hu).1
end Go.Proofs.YtlmdjghcmofdlaaGreat
namespace Go.Proofs.YtlmdjghcmofdlaaGreat
open Go.RowKit
set_option linter.unusedVariables false
end Go.Proofs.YtlmdjghcmofdlaaGreat
namespace Go.Proofs.YtlmdjghcmofdlaaGreat
open Go.RowKit
set_option linter.unusedVariables false
def Ed (t : To) (x y : Int) : Prop := ∃ n, isA t.e n = true ∧ (t.edge n).a = x ∧ (t.edge n).b = y
theorem Conn.jn {t : To} {a b : Int} (h : Conn (tE t) a b) : Jn (Ed t) a b := by
  induction h with
  | refl => exact Jn.refl _
  | step _ he ih =>
    obtain ⟨n, hn, hc⟩ := he
    rcases hc with ⟨h1, h2, _, _⟩ | ⟨h1, h2, _, _⟩
    · exact .step ih (.inl ⟨n, hn, h1, h2⟩)
    · exact .step ih (.inr ⟨n, hn, h2, h1⟩)
theorem Eu.ends {t : To} (hB : Tb t) (h : Eu t) {n : Int} (hn : isA t.e n = true) : isA t.v (t.edge n).a = true ∧ isA t.v (t.edge n).b = true ∧ t.item (t.edge n).a ∈ t.s.S (t.edge n).x ∧ t.item (t.edge n).b ∈ t.s.S (t.edge n).x ∧ (t.edge n).y ∈ t.s.S (t.edge n).x := by
  obtain ⟨hSx, hSy, px, py, hxy, _, _⟩ := h.ev n hn
  obtain ⟨r, hr⟩ := h.tq _ hSx
  have hx := hB.fam.mem _ hSx
  have hroot : ∃ i, i ∈ t.s.S (t.edge n).x ∧ tI t r i := by
    obtain ⟨i, P, Q, hi, _, _, e⟩ := hr.opened
    exact ⟨i, by rw [e]; simp, hi⟩
  rcases hr.items _ hx with ⟨u, hu⟩ | ⟨a, c, x, y, hE, hz, mx, my, ha, hc⟩
  · exact absurd hu (h.apart (v := u) ⟨n, hn, .inl ⟨rfl, rfl, rfl, rfl⟩⟩).1
  · have ha' : ∃ i, i ∈ t.s.S (t.edge n).x ∧ tI t a i := by
      rcases ha with rfl | ⟨i, hi, hI⟩
      · exact hroot
      · exact ⟨i, hi, hI⟩
    obtain ⟨i, mi, hi⟩ := ha'
    obtain ⟨j, mj, hj⟩ := hc
    obtain ⟨m, hm, hcm⟩ := hE
    obtain ⟨_, _, qx, qy, _⟩ := h.ev m hm
    have hmn : m = n := by
      have key : t.p (t.edge n).x = (0, m) := by
        rcases hcm with ⟨_, _, e3, e4⟩ | ⟨_, _, e3, e4⟩ <;> rcases hz with e | e
        · rw [e, ← e3]; exact qx
        · rw [e, ← e4]; exact qy
        · rw [e, ← e3]; exact qy
        · rw [e, ← e4]; exact qx
      rw [px] at key
      exact (congrArg Prod.snd key).symm
    subst hmn
    rcases hcm with ⟨e1, e2, e3, e4⟩ | ⟨e1, e2, e3, e4⟩
    · rw [e1, e2, e4]
      exact ⟨hi.1, hj.1, by rw [hi.2]; exact mi, by rw [hj.2]; exact mj, my⟩
    · rw [e1, e2, e3]
      exact ⟨hj.1, hi.1, by rw [hj.2]; exact mj, by rw [hi.2]; exact mi, mx⟩
theorem Eu.joined {t : To} (hB : Tb t) (h : Eu t) {v u : Int} (hv : isA t.v v = true) (hu : isA t.v u = true) : t.same v u = true ↔ Jn (Ed t) v u := by
  constructor
  · intro hs
    rw [To.same_iff] at hs
    obtain ⟨r, hr⟩ := h.tq _ (h.iv v hv).1
    have c := hr.conn (fun v u i a b => h.one a b) (fun v a c x y hE => h.apart hE)
    have c1 := c v _ (hB.fam.mem _ (h.iv v hv).1) ⟨hv, rfl⟩
    have c2 := c u _ hs ⟨hu, rfl⟩
    exact ((c1.symm (tE_symm t)).trans c2).jn
  · intro hj
    have key : ∀ a b, Jn (Ed t) a b → isA t.v a = true → t.s.S (t.item a) = t.s.S (t.item b) ∧ isA t.v b = true := fun a b hj => by
      induction hj with
      | refl => exact fun ha => ⟨rfl, ha⟩
      | step _ e ih =>
        intro ha
        obtain ⟨i1, i2⟩ := ih ha
        rcases e with ⟨n, hn, rfl, rfl⟩ | ⟨n, hn, rfl, rfl⟩
        · obtain ⟨h1, h2, h3, h4, _⟩ := h.ends hB hn
          exact ⟨i1.trans ((hB.fam.same _ _ h3).trans (hB.fam.same _ _ h4).symm), h2⟩
        · obtain ⟨h1, h2, h3, h4, _⟩ := h.ends hB hn
          exact ⟨i1.trans ((hB.fam.same _ _ h4).trans (hB.fam.same _ _ h3).symm), h1⟩
    exact (same_cl hB h hu).2 (key v u hj hv).1
section
variable {g : Int → Int} {it : Int → Int} {n : Nat}
end
end Go.Proofs.YtlmdjghcmofdlaaGreat
namespace Go.Proofs.YtlmdjghcmofdlaaGreat
open Go.RowKit
open Go.Maps (Keyed)
set_option linter.unusedVariables false
def nD (a : Int) : DataW Unit := .lit (.int .i64 a)
def numElem (v : Value) : Option (DataW Unit × List MemPlace) :=
  match v with
  | .int .i64 a => some (nD a, [])
  | _ => none
theorem numElem_mk (a : Int) : numElem (.int .i64 a) = some (nD a, []) := rfl
theorem numElem_inv {v : Value} {z : DataW Unit × List MemPlace} (h : numElem v = some z) : ∃ a, v = .int .i64 a ∧ z = (nD a, []) := by
  unfold numElem at h
  split at h
  · rename_i a
    cases h
    exact ⟨a, rfl, rfl⟩
  · cases h
theorem nD_inj {a b : Int} (h : nD a = nD b) : a = b := by unfold nD at h; simpa using h
def B64 (i : Int) : Prop := -9223372036854775808 ≤ i ∧ i ≤ 9223372036854775807
theorem keyI : Keyed Tryz.prog 3 := Go.Maps.int_keyed (q := .i64) (by kernel_rfl)
theorem keyI_mk {i : Int} (hb : B64 i) : keyOf Tryz.prog 3 (.int .i64 i) = some (.int .i64 i) := Go.Maps.keyOf_int_mk (by kernel_rfl) (WalkArith.wf_i64 hb)
theorem mapI : Tryz.prog.underlying 95 = some (.map 3 3) := by kernel_rfl
theorem zeroI (w : World) : (zeroValue 3).run Tryz.prog w = .ok (.int .i64 0) w := by kernel_rfl
def n0 : Int → Int := fun _ => 0
def updI (p : Int → Int) (i q : Int) : Int → Int := fun j => if j = i then q else p j
theorem updI_at (p : Int → Int) (i q : Int) : updI p i q i = q := if_pos rfl
theorem updI_ne {p : Int → Int} {i q j : Int} (h : j ≠ i) : updI p i q j = p j := if_neg h
def IM (W : World) (b n : Nat) (p : Int → Int) : Prop := ∃ D, W.ownsMap Tryz.prog 3 numElem b n D ∧ ∀ i : Int, D.atKey (.int .i64 i) (nD 0) = nD (p i)
theorem IM.lt {W : World} {b n : Nat} {p : Int → Int} (h : IM W b n p) : b < W.heap.size := by obtain ⟨D, h1, _⟩ := h; exact h1.lt
theorem IM.kept {W W' : World} {b n : Nat} {p : Int → Int} (h : IM W b n p) (hb : W'.heap[b]? = W.heap[b]?) : IM W' b n p := by
  obtain ⟨D, ⟨es, c, h1, h2⟩, h3⟩ := h
  exact ⟨D, ⟨es, c, hb.trans h1, h2⟩, h3⟩
theorem IM.made (W : World) : IM (W.alloc (.map #[] 0)) W.heap.size 0 n0 := ⟨.map [], World.ownsMap_made W _ _ _, fun i => rfl⟩
theorem IM.look {W : World} {b n : Nat} {p : Int → Int} (h : IM W b n p) {i : Int} (hb : B64 i) : (Instr.lookup 95 (.map (some b)) (.int .i64 i) false).run Tryz.prog W = .ok (.int .i64 (p i)) W := by
  obtain ⟨D, h1, h2⟩ := h
  obtain ⟨v, ps, hr, hv⟩ := h1.lookup keyI mapI (zeroI W) (numElem_mk _) (keyI_mk hb)
  obtain ⟨q, rfl, hq⟩ := numElem_inv hv
  rw [hr]
  have := congrArg Prod.fst hq
  simp only at this
  rw [h2 i] at this
  rw [nD_inj this]
theorem IM.look_nil (W : World) {i : Int} (hb : B64 i) : (Instr.lookup 95 (.map none) (.int .i64 i) false).run Tryz.prog W = .ok (.int .i64 0) W := by
  have := Go.Maps.look_nil (P := Tryz.prog) (w := W) false keyI mapI (zeroI W) (keyI_mk hb)
  simpa using this
theorem IM.store {W : World} {b n : Nat} {p : Int → Int} (h : IM W b n p) (hn : n ≤ 100000) {i : Int} (hb : B64 i) (q : Int) : ∃ W', (Instr.mapUpdate 95 (.map (some b)) (.int .i64 i) (.int .i64 q)).run Tryz.prog W = .ok () W' ∧ IM W' b (n + 1) (updI p i q) ∧ W.grownBy W' (some b) := by
  obtain ⟨D, h1, h2⟩ := h
  obtain ⟨W', hr, a, g⟩ := h1.update keyI mapI (by unfold maxLen; omega) (keyI_mk hb) (numElem_mk q)
  refine ⟨W', hr, ⟨_, a, fun j => ?_⟩, g⟩
  unfold updI
  split
  · rename_i e; subst e; exact Go.Maps.atKey_put_same h1.isMap (by simp [WideAt.IsKeyLit]) _ _
  · rename_i e
    rw [Go.Maps.atKey_put_other (by simp; exact e)]
    exact h2 j
theorem IM.drop {W : World} {b n : Nat} {p : Int → Int} (h : IM W b n p) {i : Int} (hb : B64 i) (ty : TypeId) : ∃ W', (Builtin.delete_ #[95, 3] ty #[.map (some b), .int .i64 i]).run Tryz.prog W = .ok (.tuple #[]) W' ∧ IM W' b n (updI p i 0) ∧ W.grownBy W' (some b) := by
  obtain ⟨D, h1, h2⟩ := h
  obtain ⟨W', hr, a, g⟩ := h1.drop keyI mapI (keyI_mk hb) ty
  refine ⟨W', hr, ⟨_, a, fun j => ?_⟩, g.grown⟩
  unfold updI
  split
  · rename_i e; subst e; exact Go.Maps.atKey_del_same _
  · rename_i e
    rw [Go.Maps.atKey_del_other (by simp; exact e)]
    exact h2 j
theorem wpList_num_store {W : World} {ops : Array Oper} {rest : List Oper} {o : Oper} {a : Act} {Q : Exit → Act → World → Prop} (hg : o.guard = none) (m x v : Operand) (hop : o.op = Op.mapUpdate 95 m x v)
    {b n : Nat} {p : Int → Int} (hm : a.eval m = .map (some b)) (h : IM W b n p) (hn : n ≤ 100000) {i : Int} (hx : a.eval x = .int .i64 i) (hb : B64 i) (q : Int) (hv : a.eval v = .int .i64 q)
    (hK : ∀ W', IM W' b (n + 1) (updI p i q) → W.grownBy W' (some b) → wpList Tryz.prog ops Q rest (a.put o.dst undef) W') : wpList Tryz.prog ops Q (o :: rest) a W := by
  refine wpList_plain hg fun K' hK' => ?_
  obtain ⟨W', hrun, r1, r2⟩ := h.store hn hb q
  unfold Oper.wp
  simp [execOp, hop, hm, hx, hv, hrun, Result.andThen]
  exact hK' _ _ (hK W' r1 r2)
theorem wpList_num_drop {W : World} {ops : Array Oper} {rest : List Oper} {o : Oper} {a : Act} {Q : Exit → Act → World → Prop} (hg : o.guard = none) (m x : Operand) (hop : o.op = Op.call { callee := Callee.builtin Builtin.delete, args := #[m, x], argTypes := #[95, 3] })
    {b n : Nat} {p : Int → Int} (hm : a.eval m = .map (some b)) (h : IM W b n p) {i : Int} (hx : a.eval x = .int .i64 i) (hb : B64 i)
    (hK : ∀ W', IM W' b n (updI p i 0) → W.grownBy W' (some b) → wpList Tryz.prog ops Q rest (a.put o.dst (.tuple #[])) W') : wpList Tryz.prog ops Q (o :: rest) a W := by
  refine wpList_plain hg fun K' hK' => ?_
  obtain ⟨W', hrun, r1, r2⟩ := h.drop hb o.type
  unfold Oper.wp
  simp [execOp, hop, resolve, invoke, builtin, hm, hx, hrun, Result.andThen]
  exact hK' _ _ (hK W' r1 r2)
def NmOk (W : World) (x y : Value) (p q : Int → Int) (n : Nat) : Prop := (x = .map none ∧ y = .map none ∧ p = n0 ∧ q = n0 ∧ n = 0) ∨ ∃ b c, x = .map (some b) ∧ y = .map (some c) ∧ b ≠ c ∧ IM W b n p ∧ IM W c n q
def NmB (x y : Value) (k : Nat) : Prop := x = .map (some k) ∨ y = .map (some k)
theorem NmOk.kept {W W' : World} {x y : Value} {p q : Int → Int} {n : Nat} (h : NmOk W x y p q n) (hb : ∀ k, NmB x y k → W'.heap[k]? = W.heap[k]?) : NmOk W' x y p q n := by
  rcases h with h | ⟨b, c, rfl, rfl, h1, h2, h3⟩
  · exact .inl h
  · exact .inr ⟨b, c, rfl, rfl, h1, h2.kept (hb b (.inl rfl)), h3.kept (hb c (.inr rfl))⟩
theorem NmOk.lt {W : World} {x y : Value} {p q : Int → Int} {n : Nat} (h : NmOk W x y p q n) : ∀ k, NmB x y k → k < W.heap.size := by
  intro k hk
  rcases h with ⟨rfl, rfl, _⟩ | ⟨b, c, rfl, rfl, h1, h2, h3⟩
  · rcases hk with h | h <;> cases h
  · rcases hk with h | h <;> cases h
    · exact h2.lt
    · exact h3.lt
theorem NmOk.look {W : World} {x y : Value} {p q : Int → Int} {n : Nat} (h : NmOk W x y p q n) {i : Int} (hb : B64 i) : (Instr.lookup 95 x (.int .i64 i) false).run Tryz.prog W = .ok (.int .i64 (p i)) W ∧ (Instr.lookup 95 y (.int .i64 i) false).run Tryz.prog W = .ok (.int .i64 (q i)) W := by
  rcases h with ⟨rfl, rfl, rfl, rfl, _⟩ | ⟨b, c, rfl, rfl, h1, h2, h3⟩
  · exact ⟨IM.look_nil W hb, IM.look_nil W hb⟩
  · exact ⟨h2.look hb, h3.look hb⟩
theorem mapI_some (bm : Nat) (w : World) : (binOp BinOp.eql 95 (.map (some bm)) (.map none)).run Tryz.prog w = .ok (.bool false) w := by kernel_rfl
theorem mapI_none (w : World) : (binOp BinOp.eql 95 (.map none) (.map none)).run Tryz.prog w = .ok (.bool true) w := by kernel_rfl
end Go.Proofs.YtlmdjghcmofdlaaGreat
namespace Go.Proofs.YtlmdjghcmofdlaaGreat
open Go.RowKit
set_option linter.unusedVariables false
structure Fo where
  t : To
  vi : Int → Int
  vo : Int → Int
  nv : Nat
  ei : Int → Int
  eo : Int → Int
  ne : Nat
  /-- The draws that it shares with others. -/
  dr : Option (Nat × Nat × List Int)
def fo0 : Fo := ⟨to0, n0, n0, 0, n0, n0, 0, none⟩
def Fo.wt (f : Fo) (t : To) : Fo := ⟨t, f.vi, f.vo, f.nv, f.ei, f.eo, f.ne, f.dr⟩
def Fo.wv (f : Fo) (p q : Int → Int) (n : Nat) : Fo := ⟨f.t, p, q, n, f.ei, f.eo, f.ne, f.dr⟩
def Fo.we (f : Fo) (p q : Int → Int) (n : Nat) : Fo := ⟨f.t, f.vi, f.vo, f.nv, p, q, n, f.dr⟩
def Fo.wd (f : Fo) (dr : Option (Nat × Nat × List Int)) : Fo := ⟨f.t, f.vi, f.vo, f.nv, f.ei, f.eo, f.ne, dr⟩
structure FdX (x y u v : Value) (W : World) (F : Nat → Prop) (B G : Nat) (f : Fo) : Prop where
  ex : ∃ Ft, Tf ⟨99, [x, y, u, v], f.dr⟩ W Ft B G f.t ∧ NmOk W x y f.vi f.vo f.nv ∧ NmOk W u v f.ei f.eo f.ne ∧ (∀ k, Ft k → F k) ∧ (∀ k, NmB x y k → F k ∧ ¬ Ft k ∧ ¬ NmB u v k) ∧ (∀ k, NmB u v k → F k ∧ ¬ Ft k)
  lt : ∀ k, F k → k < W.heap.size
def Fd (W : World) (F : Nat → Prop) (B G : Nat) (f : Fo) : Prop := ∃ x y u v, FdX x y u v W F B G f
theorem Tf.blk {Yh : Hx} {W : World} {F : Nat → Prop} {B G : Nat} {t : To} (h : Tf Yh W F B G t) : ∃ a b d v u e g mp, Blk W B Yh.T (a :: b :: d :: v :: u :: e :: g :: mp :: Yh.ex).toArray := by
  obtain ⟨a, b, d, v, u, e, g, mp, Ft, Fv, Fe, GV, h1, _⟩ := h.ex
  exact ⟨a, b, d, v, u, e, g, mp, h1⟩
theorem Tf.reh {T0 : TypeId} {ex0 : List Value} {dr : Option (Nat × Nat × List Int)} {W W' : World} {F : Nat → Prop} {B G : Nat} {t : To} {a b d v u e g mp : Value} {ex : List Value} (h : Tf ⟨T0, ex0, dr⟩ W F B G t) (hb : Blk W B T0 (a :: b :: d :: v :: u :: e :: g :: mp :: ex0).toArray) (hb' : Blk W' B T0 (a :: b :: d :: v :: u :: e :: g :: mp :: ex).toArray)
    (hk : ∀ k, F k → k ≠ B → W'.heap[k]? = W.heap[k]?) (hs : W.heap.size ≤ W'.heap.size) : Tf ⟨T0, ex, dr⟩ W' F B G t := by
  obtain ⟨a', b', d', v', u', e', g', mp', Ft, Fv, Fe, GV, h1, h2, h3, h4, h5, f1, f2, f3, d1, d2, d3, d4⟩ := h.ex
  have e := h1.inj hb
  simp at e
  obtain ⟨rfl, rfl, rfl, rfl, rfl, rfl, rfl, rfl⟩ := e
  exact ⟨⟨_, _, _, _, _, _, _, _, Ft, Fv, Fe, GV, hb', Tp.reh h2 h1 hb' (fun k hk' hne => hk k (f1 k hk') hne) hs, h3.kept (fun k hk' hne => hk k (f2 k hk') hne) hs, h4.kept (fun k hk' hne => hk k (f3 k hk') hne) hs, h5.kept (fun bm e => hk bm (d4 bm e).1 (fun e' => (d4 bm e).2.2.1 (e' ▸ h3.b))), f1, f2, f3, d1, d2, d3, d4⟩, fun k hk' => Nat.lt_of_lt_of_le (h.lt k hk') hs, h.bd⟩
section
variable {W W' : World} {F : Nat → Prop} {B G : Nat} {f : Fo} {x y u v : Value}
theorem FdX.kept (h : FdX x y u v W F B G f) (hb : ∀ k, F k → W'.heap[k]? = W.heap[k]?) (hs : W.heap.size ≤ W'.heap.size) : FdX x y u v W' F B G f := by
  obtain ⟨Ft, h1, h2, h3, f1, f2, f3⟩ := h.ex
  exact ⟨⟨Ft, h1.kept (fun k hk => hb k (f1 k hk)) hs, h2.kept (fun k hk => hb k (f2 k hk).1), h3.kept (fun k hk => hb k (f3 k hk).1), f1, f2, f3⟩, fun k hk => Nat.lt_of_lt_of_le (h.lt k hk) hs⟩
theorem Fd.shared (h : Fd W F B G f) {D Dg : Nat} {xs : List Int} (hd : f.dr = some (D, Dg, xs)) : F D ∧ F Dg ∧ D ≠ B ∧ Dg ≠ B ∧ ∃ n, n ≤ f.t.s.n ∧ Drw W D Dg xs n := by
  obtain ⟨x, y, u, v, h⟩ := h
  obtain ⟨Ft, h1, h2, h3, f1, f2, f3⟩ := h.ex
  obtain ⟨k1, k2, k3⟩ := Tf.shared h1 hd
  exact ⟨f1 D k1, f1 Dg k2, k3⟩
theorem Fd.drawn (h : Fd W F B G f) {D Dg m n : Nat} {xs : List Int} (hd : f.dr = some (D, Dg, xs)) (hb : ∀ k, F k → k ≠ D → k ≠ Dg → W'.heap[k]? = W.heap[k]?) (hs : W.heap.size ≤ W'.heap.size) (hD : Drw W' D Dg xs n) (hn : n ≤ m) : Fd W' F B G (f.wt (f.t.up m)) := by
  obtain ⟨x, y, u, v, h⟩ := h
  obtain ⟨Ft, h1, h2, h3, f1, f2, f3⟩ := h.ex
  obtain ⟨k1, k2, _⟩ := Tf.shared h1 hd
  have nn : ∀ (P : Nat → Prop), (∀ k, P k → ¬ Ft k) → ∀ k, P k → k ≠ D ∧ k ≠ Dg := fun P hP k hk => ⟨fun e => hP k hk (e ▸ k1), fun e => hP k hk (e ▸ k2)⟩
  exact ⟨x, y, u, v, ⟨Ft, Tf.drawn h1 hd (fun k hk => hb k (f1 k hk)) hs hD hn, h2.kept (fun k hk => hb k (f2 k hk).1 (nn _ (fun k hk => (f2 k hk).2.1) k hk).1 (nn _ (fun k hk => (f2 k hk).2.1) k hk).2), h3.kept (fun k hk => hb k (f3 k hk).1 (nn _ (fun k hk => (f3 k hk).2) k hk).1 (nn _ (fun k hk => (f3 k hk).2) k hk).2), f1, f2, f3⟩, fun k hk => Nat.lt_of_lt_of_le (h.lt k hk) hs⟩
theorem FdX.below (h : FdX x y u v W F B G f) (hb : Below W.heap.size W W') : FdX x y u v W' F B G f := h.kept (fun k hk => hb.block k (h.lt k hk)) hb.size
theorem FdX.drew (h : FdX x y u v W F B G f) : FdX x y u v W.drew F B G f := h.kept (fun _ _ => rfl) (Nat.le_refl _)
theorem Fd.lt (h : Fd W F B G f) : ∀ k, F k → k < W.heap.size := let ⟨_, _, _, _, h⟩ := h; h.lt
theorem Fd.kept (h : Fd W F B G f) (hb : ∀ k, F k → W'.heap[k]? = W.heap[k]?) (hs : W.heap.size ≤ W'.heap.size) : Fd W' F B G f := let ⟨x, y, u, v, h⟩ := h; ⟨x, y, u, v, h.kept hb hs⟩
theorem Fd.below (h : Fd W F B G f) (hb : Below W.heap.size W W') : Fd W' F B G f := h.kept (fun k hk => hb.block k (h.lt k hk)) hb.size
theorem FdX.trees (h : FdX x y u v W F B G f) : ∃ Ft, Tf ⟨99, [x, y, u, v], f.dr⟩ W Ft B G f.t ∧ ∀ W' Ft' G' t', Tf ⟨99, [x, y, u, v], f.dr⟩ W' Ft' B G' t' → Step Ft Ft' W W' → ∃ F', FdX x y u v W' F' B G' (f.wt t') ∧ Step F F' W W' := by
  obtain ⟨Ft, h1, h2, h3, f1, f2, f3⟩ := h.ex
  refine ⟨Ft, h1, fun W' Ft' G' t' k1 k2 => ⟨fun k => F k ∨ Ft' k, ?_, ?_⟩⟩
  · have lF := h.lt
    refine ⟨⟨Ft', k1, h2.kept (fun k hk => k2.only.block k (lF k (f2 k hk).1) (f2 k hk).2.1), h3.kept (fun k hk => k2.only.block k (lF k (f3 k hk).1) (f3 k hk).2), fun k hk => .inr hk, fun k hk => ⟨.inl (f2 k hk).1, fun hf => ?_, (f2 k hk).2.2⟩, fun k hk => ⟨.inl (f3 k hk).1, fun hf => ?_⟩⟩, fun k hk => ?_⟩
    · rcases k2.ext k hf with h' | h'
      · exact (f2 k hk).2.1 h'
      · have := lF k (f2 k hk).1; omega
    · rcases k2.ext k hf with h' | h'
      · exact (f3 k hk).2 h'
      · have := lF k (f3 k hk).1; omega
    · rcases hk with hk | hk
      · exact Nat.lt_of_lt_of_le (lF k hk) k2.size
      · exact k1.lt k hk
  · refine ⟨⟨k2.only.os, k2.only.tape, k2.only.output, k2.only.size, fun k hk hn => k2.only.block k hk (fun hf => hn (f1 k hf))⟩, fun k hk => ?_⟩
    rcases hk with hk | hk
    · exact .inl hk
    · exact (k2.ext k hk).imp (f1 k) id
theorem FdX.vnames (h : FdX x y u v W F B G f) : ∃ φ, Hole φ 8 9 ∧ Blk W B 99 (φ x y).toArray ∧ NmOk W x y f.vi f.vo f.nv ∧ (∀ k, NmB x y k → k ≠ B) ∧ ∀ W' x' y' p q n, Blk W' B 99 (φ x' y').toArray → NmOk W' x' y' p q n → (∀ k, NmB x' y' k → NmB x y k ∨ W.heap.size ≤ k) → Only (fun k => k = B ∨ NmB x y k) W W' → ∃ F', Fd W' F' B G (f.wv p q n) ∧ Step F F' W W' := by
  obtain ⟨Ft, h1, h2, h3, f1, f2, f3⟩ := h.ex
  obtain ⟨a, b, d, v', u', e, g, mp, hb⟩ := h1.blk
  have lF := h.lt
  refine ⟨fun x y => [a, b, d, v', u', e, g, mp, x, y, u, v], ⟨fun _ _ => rfl, fun _ _ => rfl, fun _ _ _ => rfl, fun _ _ _ => rfl⟩, hb, h2, fun k hk e => (f2 k hk).2.1 (e ▸ h1.fb), fun W' x' y' p q n k1 k2 k3 k4 => ⟨fun k => F k ∨ NmB x' y' k, ⟨x', y', u, v, ?_⟩, ?_⟩⟩
  · refine ⟨⟨Ft, h1.reh (ex := [x', y', u, v]) hb k1 (fun k hk hne => k4.block k (h1.lt k hk) (fun hf => hf.elim hne (fun hf => (f2 k hf).2.1 hk))) k4.size, k2, h3.kept (fun k hk => k4.block k (lF k (f3 k hk).1) (fun hf => hf.elim (fun e => (f3 k hk).2 (e ▸ h1.fb)) (fun hf => (f2 k hf).2.2 hk))), fun k hk => .inl (f1 k hk), fun k hk => ⟨.inr hk, fun hf => ?_, fun hf => ?_⟩, fun k hk => ⟨.inl (f3 k hk).1, (f3 k hk).2⟩⟩, fun k hk => ?_⟩
    · rcases k3 k hk with h' | h'
      · exact (f2 k h').2.1 hf
      · have := h1.lt k hf; omega
    · rcases k3 k hk with h' | h'
      · exact (f2 k h').2.2 hf
      · have := lF k (f3 k hf).1; omega
    · rcases hk with hk | hk
      · exact Nat.lt_of_lt_of_le (lF k hk) k4.size
      · exact k2.lt k hk
  · refine ⟨⟨k4.os, k4.tape, k4.output, k4.size, fun k hk hn => k4.block k hk (fun hf => hn (hf.elim (fun e => e ▸ f1 B h1.fb) (fun hf => (f2 k hf).1)))⟩, fun k hk => ?_⟩
    rcases hk with hk | hk
    · exact .inl hk
    · exact (k3 k hk).imp (fun h' => (f2 k h').1) id
theorem FdX.enames (h : FdX u v x y W F B G f) : ∃ φ, Hole φ 10 11 ∧ Blk W B 99 (φ x y).toArray ∧ NmOk W x y f.ei f.eo f.ne ∧ (∀ k, NmB x y k → k ≠ B) ∧ ∀ W' x' y' p q n, Blk W' B 99 (φ x' y').toArray → NmOk W' x' y' p q n → (∀ k, NmB x' y' k → NmB x y k ∨ W.heap.size ≤ k) → Only (fun k => k = B ∨ NmB x y k) W W' → ∃ F', Fd W' F' B G (f.we p q n) ∧ Step F F' W W' := by
  obtain ⟨Ft, h1, h3, h2, f1, f3, f2⟩ := h.ex
  obtain ⟨a, b, d, v', u', e, g, mp, hb⟩ := h1.blk
  have lF := h.lt
  refine ⟨fun x y => [a, b, d, v', u', e, g, mp, u, v, x, y], ⟨fun _ _ => rfl, fun _ _ => rfl, fun _ _ _ => rfl, fun _ _ _ => rfl⟩, hb, h2, fun k hk e => (f2 k hk).2 (e ▸ h1.fb), fun W' x' y' p q n k1 k2 k3 k4 => ⟨fun k => F k ∨ NmB x' y' k, ⟨u, v, x', y', ?_⟩, ?_⟩⟩
  · refine ⟨⟨Ft, h1.reh (ex := [u, v, x', y']) hb k1 (fun k hk hne => k4.block k (h1.lt k hk) (fun hf => hf.elim hne (fun hf => (f2 k hf).2 hk))) k4.size, h3.kept (fun k hk => k4.block k (lF k (f3 k hk).1) (fun hf => hf.elim (fun e => (f3 k hk).2.1 (e ▸ h1.fb)) (fun hf => (f3 k hk).2.2 hf))), k2, fun k hk => .inl (f1 k hk), fun k hk => ⟨.inl (f3 k hk).1, (f3 k hk).2.1, fun hf => ?_⟩, fun k hk => ⟨.inr hk, fun hf => ?_⟩⟩, fun k hk => ?_⟩
    · rcases k3 k hf with h' | h'
      · exact (f3 k hk).2.2 h'
      · have := lF k (f3 k hk).1; omega
    · rcases k3 k hk with h' | h'
      · exact (f2 k h').2 hf
      · have := h1.lt k hf; omega
    · rcases hk with hk | hk
      · exact Nat.lt_of_lt_of_le (lF k hk) k4.size
      · exact k2.lt k hk
  · refine ⟨⟨k4.os, k4.tape, k4.output, k4.size, fun k hk hn => k4.block k hk (fun hf => hn (hf.elim (fun e => e ▸ f1 B h1.fb) (fun hf => (f2 k hf).1)))⟩, fun k hk => ?_⟩
    rcases hk with hk | hk
    · exact .inl hk
    · exact (k3 k hk).imp (fun h' => (f2 k h').1) id
theorem FdX.cells (h : FdX x y u v W F B G f) : W.cell? ⟨B, 8, none⟩ = some x ∧ W.cell? ⟨B, 9, none⟩ = some y ∧ W.cell? ⟨B, 10, none⟩ = some u ∧ W.cell? ⟨B, 11, none⟩ = some v := by
  obtain ⟨Ft, h1, _⟩ := h.ex
  obtain ⟨a, b, d, v', u', e, g, mp, hb⟩ := h1.blk
  exact ⟨hb.at rfl, hb.at rfl, hb.at rfl, hb.at rfl⟩
theorem FdX.vlook (h : FdX x y u v W F B G f) {i : Int} (hb : B64 i) : (Instr.lookup 95 x (.int .i64 i) false).run Tryz.prog W = .ok (.int .i64 (f.vi i)) W ∧ (Instr.lookup 95 y (.int .i64 i) false).run Tryz.prog W = .ok (.int .i64 (f.vo i)) W := by
  obtain ⟨Ft, _, h2, _⟩ := h.ex
  exact h2.look hb
theorem FdX.elook (h : FdX x y u v W F B G f) {i : Int} (hb : B64 i) : (Instr.lookup 95 u (.int .i64 i) false).run Tryz.prog W = .ok (.int .i64 (f.ei i)) W ∧ (Instr.lookup 95 v (.int .i64 i) false).run Tryz.prog W = .ok (.int .i64 (f.eo i)) W := by
  obtain ⟨Ft, _, _, h3, _⟩ := h.ex
  exact h3.look hb
theorem Fd.freshD {d : Option Addr} {dr : Option (Nat × Nat × List Int)} (hb : Blk W B 99 #[.slice none 0 0, .slice none 0 0, .pointer d, .slice none 0 0, .slice none 0 0, .slice none 0 0, .slice none 0 0, .map none, .map none, .map none, .map none, .map none]) (hF : F B) (hlt : ∀ k, F k → k < W.heap.size) (hd : Dok dr W F (fun k => k = B) d 0) : Fd W F B G (fo0.wd dr) :=
  ⟨.map none, .map none, .map none, .map none, ⟨F, Tf.fresh (Yh := ⟨99, [.map none, .map none, .map none, .map none], dr⟩) (mx := 0) hb hF hlt hd, .inl ⟨rfl, rfl, rfl, rfl, rfl⟩, .inl ⟨rfl, rfl, rfl, rfl, rfl⟩, fun k hk => hk, fun k hk => (by rcases hk with h | h <;> cases h), fun k hk => (by rcases hk with h | h <;> cases h)⟩, hlt⟩
end
end Go.Proofs.YtlmdjghcmofdlaaGreat
namespace Go.Proofs.YtlmdjghcmofdlaaGreat
open Go.RowKit
set_option linter.unusedVariables false
def okSL (sum least : Int) : Bool := decide (0 ≤ sum ∧ sum ≤ 1099511627776 ∧ 0 ≤ least ∧ least ≤ 1099511627776)
def Fo.addR (f : Fo) (v sum least : Int) : Int := if f.vi v ≠ 0 then 5 else if okSL sum least = true then 0 else 1
def Fo.newV (f : Fo) : Int := tkI f.t.v f.t.fv
def Fo.add (f : Fo) (v sum least : Int) : Fo := if f.addR v sum least = 0 then (f.wt (f.t.addV sum least)).wv (updI f.vi v f.newV) (updI f.vo f.newV v) (f.nv + 1) else f
def Fo.dropR (f : Fo) (v : Int) : Int := f.t.dropR (f.vi v)
def Fo.drop (f : Fo) (v : Int) : Fo := if f.dropR v = 0 then (f.wt (f.t.drop (f.vi v))).wv (updI f.vi v 0) (updI f.vo (f.vi v) 0) f.nv else f
def Fo.linkR (f : Fo) (e a b : Int) : Int := if e < 1 then 1 else if f.ei e ≠ 0 then 5 else if f.vi a ≠ 0 ∧ f.vi b ≠ 0 then (if f.t.same (f.vi a) (f.vi b) = true then 13 else 0) else 4
def Fo.link (f : Fo) (e a b : Int) : Fo := if f.linkR e a b = 0 then (f.wt (f.t.linked (f.vi a) (f.vi b))).we (updI f.ei e (f.t.linkN (f.vi a) (f.vi b))) (updI f.eo (f.t.linkN (f.vi a) (f.vi b)) e) (f.ne + 1) else f
def Fo.cutR (f : Fo) (e : Int) : Int := f.t.cutR (f.ei e)
def Fo.cut (f : Fo) (e : Int) : Fo := if f.cutR e = 0 then (f.wt (f.t.cut (f.ei e))).we (updI f.ei e 0) (updI f.eo (f.ei e) 0) f.ne else f
def Fo.markR (f : Fo) (v b : Int) : Int := f.t.markR (f.vi v) b
def Fo.mark (f : Fo) (v b : Int) : Fo := f.wt (f.t.mark (f.vi v) b)
def Fo.emarkR (f : Fo) (n b : Int) : Int := f.t.emarkR (f.ei n) b
def Fo.emark (f : Fo) (n b : Int) : Fo := f.wt (f.t.emark (f.ei n) b)
def Fo.same (f : Fo) (a b : Int) : Bool := f.t.same (f.vi a) (f.vi b)
def Fo.total (f : Fo) (v : Int) : Vl := f.t.total (f.vi v)
def Fo.least (f : Fo) (v : Int) : Int := if f.vi v ≠ 0 then (f.total v).l else -1
def Fo.findV (f : Fo) (v b : Int) : Int := (f.t.find (f.vi v) (vmk b)).1
def Fo.findE (f : Fo) (v b : Int) : Int := (f.t.find (f.vi v) (emk b)).2
structure Fo.Wf (f : Fo) (k : Nat) : Prop where
  t : f.t.Wf k
  nv : f.nv ≤ k
  ne : f.ne ≤ k
  vb : ∀ v, 0 ≤ f.vi v ∧ f.vi v ≤ 2147483647
  eb : ∀ e, 0 ≤ f.ei e ∧ f.ei e ≤ 2147483647
theorem Fo.Wf.mono {f : Fo} {k k' : Nat} (h : f.Wf k) (hk : k ≤ k') : f.Wf k' := ⟨h.t.mono hk, Nat.le_trans h.nv hk, Nat.le_trans h.ne hk, h.vb, h.eb⟩
theorem fo0_wf : fo0.Wf 0 := ⟨to0_wf, Nat.le_refl _, Nat.le_refl _, fun v => ⟨Int.le_refl _, by simp [fo0, n0]⟩, fun v => ⟨Int.le_refl _, by simp [fo0, n0]⟩⟩
theorem updI_bd {p : Int → Int} (h : ∀ v, 0 ≤ p v ∧ p v ≤ 2147483647) {i q : Int} (hq : 0 ≤ q ∧ q ≤ 2147483647) : ∀ v, 0 ≤ updI p i q v ∧ updI p i q v ≤ 2147483647 := fun v => by
  unfold updI; split
  · exact hq
  · exact h v
theorem Fo.Wf.v64 {f : Fo} {k : Nat} (h : f.Wf k) (v : Int) : B64 (f.vi v) := by have := h.vb v; unfold B64; omega
theorem Fo.Wf.e64 {f : Fo} {k : Nat} (h : f.Wf k) (v : Int) : B64 (f.ei v) := by have := h.eb v; unfold B64; omega
theorem Fo.Wf.newV {f : Fo} {k : Nat} (h : f.Wf k) (hk : k ≤ 30000) : 1 ≤ f.newV ∧ f.newV ≤ 2147483647 := by
  have := tkI_bd h.t.fv
  have := h.t.le.v
  unfold Fo.newV; omega
theorem Fo.Wf.newE {f : Fo} {k : Nat} (h : f.Wf k) (hk : k ≤ 30000) (a b : Int) : 0 ≤ f.t.linkN a b ∧ f.t.linkN a b ≤ 2147483647 := by
  have := tkI_bd h.t.fe
  have := h.t.le.e
  unfold To.linkN To.newE; split <;> omega
theorem Fo.Wf.add {f : Fo} {k : Nat} (h : f.Wf k) (hk : k ≤ 30000) (v s l : Int) : (f.add v s l).Wf (k + 1) := by
  unfold Fo.add
  split
  · have hn := h.newV hk
    exact ⟨h.t.addV s l, Nat.succ_le_succ h.nv, Nat.le_succ_of_le h.ne, updI_bd h.vb (by omega), h.eb⟩
  · exact h.mono (Nat.le_succ k)
theorem Fo.Wf.drop {f : Fo} {k : Nat} (h : f.Wf k) (v : Int) : (f.drop v).Wf (k + 1) := by
  unfold Fo.drop
  split
  · exact ⟨h.t.drop _, Nat.le_succ_of_le h.nv, Nat.le_succ_of_le h.ne, updI_bd h.vb (by omega), h.eb⟩
  · exact h.mono (Nat.le_succ k)
theorem Fo.Wf.link {f : Fo} {k : Nat} (h : f.Wf k) (hk : k ≤ 30000) (e a b : Int) : (f.link e a b).Wf (k + 1) := by
  unfold Fo.link
  split
  · exact ⟨h.t.linked _ _, Nat.le_succ_of_le h.nv, Nat.succ_le_succ h.ne, h.vb, updI_bd h.eb (h.newE hk _ _)⟩
  · exact h.mono (Nat.le_succ k)
theorem Fo.Wf.cut {f : Fo} {k : Nat} (h : f.Wf k) (e : Int) : (f.cut e).Wf (k + 1) := by
  unfold Fo.cut
  split
  · exact ⟨h.t.cut _, Nat.le_succ_of_le h.nv, Nat.le_succ_of_le h.ne, h.vb, updI_bd h.eb (by omega)⟩
  · exact h.mono (Nat.le_succ k)
theorem Fo.Wf.mark {f : Fo} {k : Nat} (h : f.Wf k) (v b : Int) : (f.mark v b).Wf k := ⟨h.t.mark _ b, h.nv, h.ne, h.vb, h.eb⟩
theorem Fo.Wf.emark {f : Fo} {k : Nat} (h : f.Wf k) (v b : Int) : (f.emark v b).Wf k := ⟨h.t.emark _ b, h.nv, h.ne, h.vb, h.eb⟩
theorem Fo.Wf.findV {f : Fo} {k : Nat} (h : f.Wf k) (hk : k ≤ 30000) (v b : Int) : 0 ≤ f.findV v b ∧ f.findV v b ≤ 2147483647 := (h.t.find hk _ _).1
theorem Fo.Wf.findE {f : Fo} {k : Nat} (h : f.Wf k) (hk : k ≤ 30000) (v b : Int) : 0 ≤ f.findE v b ∧ f.findE v b ≤ 2147483647 := (h.t.find hk _ _).2
end Go.Proofs.YtlmdjghcmofdlaaGreat
namespace Go.Proofs.YtlmdjghcmofdlaaGreat
open Go.RowKit
set_option linter.unusedVariables false
theorem Eu.reval {t : To} (h : Eu t) {s' : Sq} (hS : s'.S = t.s.S) (hv : ∀ v, isA t.v v = true → (s'.V (t.item v)).c = 1)
    (he : ∀ n, isA t.e n = true → ((s'.V (t.edge n).x).c = 0 ∧ (s'.V (t.edge n).x).s = 0 ∧ (s'.V (t.edge n).x).l = 4611686018427387904) ∧ ((s'.V (t.edge n).y).c = 0 ∧ (s'.V (t.edge n).y).s = 0 ∧ (s'.V (t.edge n).y).l = 4611686018427387904)) : Eu (t.ws s') := by
  refine ⟨fun i hi => ?_, fun v hA => ?_, fun n hn => ?_, h.vk, h.ek⟩
  · show ∃ v, Tq (tI t) (tE t) true v (s'.S i)
    have hi' : t.s.S i ≠ [] := by rw [← hS]; exact hi
    rw [hS]; exact h.tq i hi'
  · show s'.S (t.item v) ≠ [] ∧ t.p (t.item v) = (v, 0) ∧ (s'.V (t.item v)).c = 1
    rw [hS]; exact ⟨(h.iv v hA).1, (h.iv v hA).2.1, hv v hA⟩
  · show s'.S (t.edge n).x ≠ [] ∧ s'.S (t.edge n).y ≠ [] ∧ t.p (t.edge n).x = (0, n) ∧ t.p (t.edge n).y = (0, n) ∧ (t.edge n).x ≠ (t.edge n).y ∧ _ ∧ _
    rw [hS]
    obtain ⟨h1, h2, h3, h4, h5, _, _⟩ := h.ev n hn
    exact ⟨h1, h2, h3, h4, h5, he n hn⟩
theorem Tb.isK {t : To} (hB : Tb t) (h : Eu t) {v : Int} (hv : isA t.v v = true) : isK t.s.K (t.item v) = true := (hB.kS _).2 (h.iv v hv).1
theorem Eu.item_x {t : To} (h : Eu t) {v n : Int} (hv : isA t.v v = true) (hn : isA t.e n = true) : t.item v ≠ (t.edge n).x ∧ t.item v ≠ (t.edge n).y :=
  ⟨fun e => (h.apart (v := v) (⟨n, hn, .inl ⟨rfl, rfl, rfl, rfl⟩⟩ : tE t _ _ _ _)).1 ⟨hv, e⟩, fun e => (h.apart (v := v) (⟨n, hn, .inl ⟨rfl, rfl, rfl, rfl⟩⟩ : tE t _ _ _ _)).2 ⟨hv, e⟩⟩
theorem Eu.item_inj {t : To} (h : Eu t) {v u : Int} (hv : isA t.v v = true) (hu : isA t.v u = true) (e : t.item v = t.item u) : v = u := h.one (i := t.item u) ⟨hv, e⟩ ⟨hu, rfl⟩
theorem Eu.edge_x {t : To} (h : Eu t) {n m : Int} (hn : isA t.e n = true) (hm : isA t.e m = true) (hne : n ≠ m) : (t.edge n).x ≠ (t.edge m).x ∧ (t.edge n).x ≠ (t.edge m).y ∧ (t.edge n).y ≠ (t.edge m).x ∧ (t.edge n).y ≠ (t.edge m).y := by
  obtain ⟨_, _, p1, p2, _⟩ := h.ev n hn
  obtain ⟨_, _, q1, q2, _⟩ := h.ev m hm
  have key : ∀ a b, t.p a = (0, n) → t.p b = (0, m) → a ≠ b := fun a b ha hb e => hne (by rw [e, hb] at ha; exact (congrArg Prod.snd ha).symm)
  exact ⟨key _ _ p1 q1, key _ _ p1 q2, key _ _ p2 q1, key _ _ p2 q2⟩
theorem Eu.setItem {t : To} (hB : Tb t) (h : Eu t) {v : Int} (hv : isA t.v v = true) (x : Vl) (hx : x.c = 1) : Eu (t.ws (t.s.set (t.item v) x)) ∧ (t.s.set (t.item v) x).V = updV t.s.V (t.item v) x := by
  have e : (t.s.set (t.item v) x).V = updV t.s.V (t.item v) x := if_pos (hB.isK h hv)
  refine ⟨h.reval rfl (fun u hu => ?_) (fun n hn => ?_), e⟩
  · rw [e]; unfold updV; split
    · exact hx
    · exact (h.iv u hu).2.2
  · obtain ⟨_, _, _, _, _, k1, k2⟩ := h.ev n hn
    have := h.item_x hv hn
    rw [e]; unfold updV; rw [if_neg this.1.symm, if_neg this.2.symm]; exact ⟨k1, k2⟩
theorem Eu.markEdge {t : To} (hB : Tb t) (h : Eu t) {n : Int} (hn : isA t.e n = true) (m : Int) : Eu (t.markI (t.edge n).x m) ∧ (t.markI (t.edge n).x m).s.V = updV t.s.V (t.edge n).x ⟨0, 0, 4611686018427387904, m⟩ := by
  have hk : isK t.s.K (t.edge n).x = true := (hB.kS _).2 (h.ev n hn).1
  obtain ⟨_, _, _, _, hxy, k1, k2⟩ := h.ev n hn
  have hval : t.val (t.edge n).x = t.s.V (t.edge n).x := if_pos hk
  have e : (t.markI (t.edge n).x m).s.V = updV t.s.V (t.edge n).x ⟨0, 0, 4611686018427387904, m⟩ := by
    show (t.s.set _ _).V = _
    rw [show (t.s.set (t.edge n).x ⟨(t.val (t.edge n).x).c, (t.val (t.edge n).x).s, (t.val (t.edge n).x).l, m⟩).V = updV t.s.V (t.edge n).x ⟨(t.val (t.edge n).x).c, (t.val (t.edge n).x).s, (t.val (t.edge n).x).l, m⟩ from if_pos hk, hval, k1.1, k1.2.1, k1.2.2]
  refine ⟨?_, e⟩
  unfold To.markI at e ⊢
  refine h.reval rfl (fun u hu => ?_) (fun j hj => ?_)
  · have e' : ∀ z, (t.s.set (t.edge n).x ⟨(t.val (t.edge n).x).c, (t.val (t.edge n).x).s, (t.val (t.edge n).x).l, m⟩).V z = updV t.s.V (t.edge n).x ⟨0, 0, 4611686018427387904, m⟩ z := fun z => congrFun e z
    rw [e']; unfold updV; rw [if_neg (h.item_x hu hn).1]; exact (h.iv u hu).2.2
  · have e' : ∀ z, (t.s.set (t.edge n).x ⟨(t.val (t.edge n).x).c, (t.val (t.edge n).x).s, (t.val (t.edge n).x).l, m⟩).V z = updV t.s.V (t.edge n).x ⟨0, 0, 4611686018427387904, m⟩ z := fun z => congrFun e z
    obtain ⟨_, _, _, _, _, j1, j2⟩ := h.ev j hj
    rw [e', e']
    unfold updV
    by_cases ej : j = n
    · subst ej; rw [if_pos rfl, if_neg hxy.symm]; exact ⟨⟨rfl, rfl, rfl⟩, j2⟩
    · have := h.edge_x hj hn ej
      rw [if_neg this.1, if_neg this.2.2.1]; exact ⟨j1, j2⟩
theorem Eu.alone {t : To} (hB : Tb t) (h : Eu t) {v : Int} (hv : isA t.v v = true) : t.s.lone (t.item v) = true ↔ ∀ n, isA t.e n = true → (t.edge n).a ≠ v ∧ (t.edge n).b ≠ v := by
  have hin := hB.fam.mem _ (h.iv v hv).1
  have hne : ∀ n, isA t.e n = true → (t.edge n).x ≠ t.item v := fun n hn e => (h.item_x hv hn).1 e.symm
  constructor
  · intro hl n hn
    have h1 : t.s.S (t.item v) = [t.item v] := by
      unfold Sq.lone at hl
      have hl := of_decide_eq_true hl
      obtain ⟨z, hz⟩ := List.length_eq_one_iff.1 hl
      rw [hz] at hin ⊢
      rw [List.mem_singleton.1 hin]
    obtain ⟨_, _, e1, e2, _⟩ := h.ends hB hn
    have hx := hB.fam.mem _ (h.ev n hn).1
    have key : ∀ u, t.item u ∈ t.s.S (t.edge n).x → u ≠ v := fun u hu e => by
      subst e
      have hs := hB.fam.same _ _ hu
      rw [h1] at hs
      rw [← hs] at hx
      exact hne n hn (List.mem_singleton.1 hx)
    exact ⟨key _ e1, key _ e2⟩
  · intro hno
    have hj : ∀ u, Jn (Ed t) v u → u = v := fun u hj => by
      induction hj with
      | refl => rfl
      | step _ e ih =>
        rcases e with ⟨n, hn, rfl, rfl⟩ | ⟨n, hn, rfl, rfl⟩
        · exact absurd ih (hno n hn).1
        · exact absurd ih (hno n hn).2
    have all : ∀ z ∈ t.s.S (t.item v), z = t.item v := fun z hz => by
      obtain ⟨r, hr⟩ := h.tq _ (h.iv v hv).1
      have vert : ∀ u, isA t.v u = true → t.item u ∈ t.s.S (t.item v) → u = v := fun u hu hm => hj u ((h.joined hB hv hu).1 (To.same_iff.2 hm))
      rcases hr.items z hz with ⟨u, hu⟩ | ⟨a, c, x, y, hE, hxy, mx, my, _, _⟩
      · rw [← hu.2] at hz ⊢; rw [vert u hu.1 hz]
      · obtain ⟨n, hn, hc⟩ := hE
        obtain ⟨ea, eb, e1, e2, _⟩ := h.ends hB hn
        have hxin : (t.edge n).x ∈ t.s.S (t.item v) := by
          rcases hc with ⟨_, _, e3, e4⟩ | ⟨_, _, e3, e4⟩
          · rw [e3]; exact mx
          · rw [e4]; exact my
        rw [hB.fam.same _ _ hxin] at e1
        exact absurd (vert _ ea e1) (hno n hn).1
    unfold Sq.lone
    have hnd := hB.fam.nodup (t.item v)
    generalize t.s.S (t.item v) = L at *
    match L, hnd, all, hin with
    | [a], _, _, _ => rfl
    | a :: b :: L', hnd, all, _ =>
      have h1 := all a (by simp)
      have h2 := all b (by simp)
      rw [h1, h2] at hnd
      simp at hnd
theorem Eu.dropV {t : To} (hB : Tb t) (h : Eu t) {v : Int} (hv : isA t.v v = true) (hl : t.s.lone (t.item v) = true) :
    Eu (t.dropV v) ∧ (∀ u, isA (t.dropV v).v u = if u = v then false else isA t.v u) ∧ (∀ u, u ≠ v → (t.dropV v).item u = t.item u) ∧ (∀ z, z ≠ t.item v → (t.dropV v).s.V z = t.s.V z) := by
  have hin := hB.fam.mem _ (h.iv v hv).1
  have h1 : t.s.S (t.item v) = [t.item v] := by
    unfold Sq.lone at hl
    obtain ⟨z, hz⟩ := List.length_eq_one_iff.1 (of_decide_eq_true hl)
    rw [hz] at hin ⊢
    rw [List.mem_singleton.1 hin]
  obtain ⟨eS, eV⟩ := Sq.free_S h1
  have ia : ∀ u, isA (t.dropV v).v u = if u = v then false else isA t.v u := fun u => isA_frL 0 hv u
  have it : ∀ u, u ≠ v → (t.dropV v).item u = t.item u := fun u hu => by
    unfold To.item
    rw [ia, if_neg hu]
    by_cases hA : isA t.v u = true
    · rw [if_pos hA, if_pos hA]
      show atA 0 (frL 0 t.v v) u = _
      rw [atA_frL 0 hv (isA_bd hA).1, if_neg hu]
    · rw [if_neg hA, if_neg hA]
  have iV : ∀ z, z ≠ t.item v → (t.dropV v).s.V z = t.s.V z := fun z hz => by show (t.s.free (t.item v)).V z = _; rw [eV]; exact if_neg hz
  have iS : ∀ z, (t.dropV v).s.S z = if z = t.item v then [] else t.s.S z := fun z => by show (t.s.free (t.item v)).S z = _; rw [eS]; rfl
  have ip : ∀ z, z ≠ t.item v → (t.dropV v).p z = t.p z := fun z hz => if_neg hz
  refine ⟨⟨fun i hi => ?_, fun u hu => ?_, fun n hn => ?_, h.vk.free 0 hv, h.ek⟩, ia, it, iV⟩
  · rw [iS] at hi ⊢
    by_cases e : i = t.item v
    · rw [if_pos e] at hi; exact absurd rfl hi
    · rw [if_neg e] at hi ⊢
      obtain ⟨r, hr⟩ := h.tq i hi
      refine ⟨r, hr.mono (fun u z hu hz => ?_) (fun a b x y hE _ _ => hE)⟩
      have hne : u ≠ v := fun e' => by
        subst e'
        rw [← hu.2] at hz
        have := hB.fam.same _ _ hz
        rw [h1] at this
        have hi2 := hB.fam.mem i hi
        rw [← this] at hi2
        exact e (List.mem_singleton.1 hi2)
      exact ⟨by rw [ia, if_neg hne]; exact hu.1, by rw [it u hne]; exact hu.2⟩
  · rw [ia] at hu
    by_cases e : u = v
    · rw [if_pos e] at hu; cases hu
    · rw [if_neg e] at hu
      have hne : t.item u ≠ t.item v := fun e' => e (h.item_inj hu hv e')
      rw [it u e, iS, if_neg hne, ip _ hne, iV _ hne]
      exact h.iv u hu
  · have hx := h.item_x hv hn
    show (t.dropV v).s.S (t.edge n).x ≠ [] ∧ (t.dropV v).s.S (t.edge n).y ≠ [] ∧ (t.dropV v).p (t.edge n).x = _ ∧ (t.dropV v).p (t.edge n).y = _ ∧ (t.edge n).x ≠ (t.edge n).y ∧ (((t.dropV v).s.V (t.edge n).x).c = 0 ∧ ((t.dropV v).s.V (t.edge n).x).s = 0 ∧ ((t.dropV v).s.V (t.edge n).x).l = 4611686018427387904) ∧ (((t.dropV v).s.V (t.edge n).y).c = 0 ∧ ((t.dropV v).s.V (t.edge n).y).s = 0 ∧ ((t.dropV v).s.V (t.edge n).y).l = 4611686018427387904)
    rw [iS, iS, if_neg hx.1.symm, if_neg hx.2.symm, ip _ hx.1.symm, ip _ hx.2.symm, iV _ hx.1.symm, iV _ hx.2.symm]
    exact h.ev n hn
end Go.Proofs.YtlmdjghcmofdlaaGreat
namespace Go.Proofs.YtlmdjghcmofdlaaGreat
open Go.RowKit
set_option linter.unusedVariables false
structure Vx where
  v : Int
  s : Int
  l : Int
  m : Int
structure Ex where
  e : Int
  a : Int
  b : Int
  m : Int
structure Rel (f : Fo) (vs : List Vx) (es : List Ex) : Prop where
  eu : Eu f.t
  vnd : (vs.map Vx.v).Nodup
  esd : (es.map Ex.e).Nodup
  vin : ∀ x, x ∈ vs → isA f.t.v (f.vi x.v) = true ∧ f.vo (f.vi x.v) = x.v ∧ f.t.s.V (f.t.item (f.vi x.v)) = ⟨1, x.s, x.l, x.m⟩ ∧ 0 ≤ x.m ∧ x.m ≤ 15
  vno : ∀ v, v ∉ vs.map Vx.v → f.vi v = 0
  vall : ∀ i, isA f.t.v i = true → ∃ x, x ∈ vs ∧ f.vi x.v = i
  ein : ∀ y, y ∈ es → isA f.t.e (f.ei y.e) = true ∧ f.eo (f.ei y.e) = y.e ∧ (f.t.edge (f.ei y.e)).a = f.vi y.a ∧ (f.t.edge (f.ei y.e)).b = f.vi y.b ∧ y.a ∈ vs.map Vx.v ∧ y.b ∈ vs.map Vx.v ∧ (f.t.s.V (f.t.edge (f.ei y.e)).x).m = emk y.m ∧ (f.t.s.V (f.t.edge (f.ei y.e)).y).m = 0 ∧ 0 ≤ y.m ∧ y.m ≤ 15
  eno : ∀ e, e ∉ es.map Ex.e → f.ei e = 0
  eall : ∀ n, isA f.t.e n = true → ∃ y, y ∈ es ∧ f.ei y.e = n
  z : f.vo 0 = 0 ∧ f.eo 0 = 0 ∧ f.t.p 0 = (0, 0)
theorem rel0 : Rel fo0 [] [] := ⟨to0_eu, List.nodup_nil, List.nodup_nil, fun x h => (by cases h), fun v _ => rfl, fun i h => (by simp [isA, fo0, to0] at h), fun y h => (by cases h), fun e _ => rfl, fun n h => (by simp [isA, fo0, to0] at h), ⟨rfl, rfl, rfl⟩⟩
theorem newI_pos {K : List Bool} {fr : List Int} (h : ∀ f ∈ fr, 1 ≤ f) : newI K fr ≠ 0 := by
  rcases List.eq_nil_or_concat fr with rfl | ⟨fr', f, rfl⟩
  · unfold newI; simp only [List.getLast?_nil]; omega
  · rw [List.concat_eq_append] at h ⊢
    have := h f (by simp)
    unfold newI; rw [List.getLast?_concat]; simp only; omega
theorem Tb.new0 {t : To} (hB : Tb t) : newI t.s.K t.s.fr ≠ 0 ∧ t.newX ≠ 0 ∧ t.newY ≠ 0 := by
  have h1 : ∀ f ∈ t.s.fr, 1 ≤ f := fun f hf => (hB.fk.2 f hf).2.1
  refine ⟨newI_pos h1, newI_pos h1, newI_pos (fun f hf => h1 f ?_)⟩
  exact List.dropLast_subset _ hf
section
variable {f : Fo} {vs : List Vx} {es : List Ex}
theorem Rel.mem (h : Rel f vs es) {v : Int} : f.vi v ≠ 0 ↔ v ∈ vs.map Vx.v := by
  constructor
  · intro h0
    by_cases hv : v ∈ vs.map Vx.v
    · exact hv
    · exact absurd (h.vno v hv) h0
  · intro hv e
    obtain ⟨x, hx, rfl⟩ := List.mem_map.1 hv
    have := isA_bd (h.vin x hx).1
    omega
theorem Rel.isv (h : Rel f vs es) {v : Int} (hv : v ∈ vs.map Vx.v) : isA f.t.v (f.vi v) = true ∧ f.vo (f.vi v) = v := by
  obtain ⟨x, hx, rfl⟩ := List.mem_map.1 hv
  exact ⟨(h.vin x hx).1, (h.vin x hx).2.1⟩
theorem Rel.vinj (h : Rel f vs es) {v u : Int} (hv : v ∈ vs.map Vx.v) (hu : u ∈ vs.map Vx.v) (e : f.vi v = f.vi u) : v = u := by rw [← (h.isv hv).2, e, (h.isv hu).2]
theorem Rel.memE (h : Rel f vs es) {e : Int} : f.ei e ≠ 0 ↔ e ∈ es.map Ex.e := by
  constructor
  · intro h0
    by_cases hv : e ∈ es.map Ex.e
    · exact hv
    · exact absurd (h.eno e hv) h0
  · intro hv e0
    obtain ⟨y, hy, rfl⟩ := List.mem_map.1 hv
    have := isA_bd (h.ein y hy).1
    omega
theorem Rel.one (h : Rel f vs es) {x y : Vx} (hx : x ∈ vs) (hy : y ∈ vs) (e : x.v = y.v) : x = y := by
  have hp := (List.pairwise_map.1 h.vnd)
  rcases List.mem_iff_getElem.1 hx with ⟨i, hi, rfl⟩
  rcases List.mem_iff_getElem.1 hy with ⟨j, hj, rfl⟩
  rcases Nat.lt_trichotomy i j with hij | rfl | hij
  · exact absurd e (List.pairwise_iff_getElem.1 hp i j hi hj hij)
  · rfl
  · exact absurd e.symm (List.pairwise_iff_getElem.1 hp j i hj hi hij)
theorem Rel.oneE (h : Rel f vs es) {x y : Ex} (hx : x ∈ es) (hy : y ∈ es) (e : x.e = y.e) : x = y := by
  have hp := (List.pairwise_map.1 h.esd)
  rcases List.mem_iff_getElem.1 hx with ⟨i, hi, rfl⟩
  rcases List.mem_iff_getElem.1 hy with ⟨j, hj, rfl⟩
  rcases Nat.lt_trichotomy i j with hij | rfl | hij
  · exact absurd e (List.pairwise_iff_getElem.1 hp i j hi hj hij)
  · rfl
  · exact absurd e.symm (List.pairwise_iff_getElem.1 hp j i hj hi hij)
theorem Rel.add (hB : Tb f.t) (h : Rel f vs es) {v s l : Int} : (v ∈ vs.map Vx.v → f.addR v s l = 5 ∧ f.add v s l = f) ∧ (v ∉ vs.map Vx.v → okSL s l = false → f.addR v s l = 1 ∧ f.add v s l = f) ∧ (v ∉ vs.map Vx.v → okSL s l = true → f.addR v s l = 0 ∧ Rel (f.add v s l) (vs ++ [⟨v, s, l, 0⟩]) es) := by
  refine ⟨fun hv => ?_, fun hv hok => ?_, fun hv hok => ?_⟩
  · have hR : f.addR v s l = 5 := by unfold Fo.addR; rw [if_pos (h.mem.2 hv)]
    exact ⟨hR, by unfold Fo.add; rw [if_neg (by rw [hR]; omega)]⟩
  · have hR : f.addR v s l = 1 := by unfold Fo.addR; rw [if_neg (fun k => hv (h.mem.1 k)), if_neg (by rw [hok]; simp)]
    exact ⟨hR, by unfold Fo.add; rw [if_neg (by rw [hR]; omega)]⟩
  · have hR : f.addR v s l = 0 := by unfold Fo.addR; rw [if_neg (fun k => hv (h.mem.1 k)), if_pos hok]
    refine ⟨hR, ?_⟩
    have hA : f.add v s l = (f.wt (f.t.addV s l)).wv (updI f.vi v f.newV) (updI f.vo f.newV v) (f.nv + 1) := by unfold Fo.add; rw [if_pos hR]
    rw [hA]
    obtain ⟨i, f1, f2, f3, f4, f5, f6, f7, f8⟩ := addV_facts hB h.eu s l
    have hE := h.eu.addV hB s l
    have hnew : isA f.t.v f.newV = false := h.eu.vk.new
    have hn1 : 1 ≤ f.newV := (tkI_bd h.eu.vk.rng).1
    have g6 : ∀ u, isA (f.t.addV s l).v u = if u = f.newV then true else isA f.t.v u := f6
    have g7 : (f.t.addV s l).item f.newV = i := f7
    have vi1 : updI f.vi v f.newV v = f.newV := updI_at _ _ _
    have vi2 : ∀ u, u ∈ vs.map Vx.v → updI f.vi v f.newV u = f.vi u := fun u hu => updI_ne (fun e => hv (e ▸ hu))
    have ne : ∀ u, u ∈ vs.map Vx.v → f.vi u ≠ f.newV := fun u hu e => by have := (h.isv hu).1; rw [e, hnew] at this; cases this
    have nin : ∀ z, f.t.s.S z ≠ [] → z ≠ i := fun z hz e => hz (e ▸ f1)
    refine ⟨hE, ?_, h.esd, fun x hx => ?_, fun u hu => ?_, fun j hj => ?_, fun y hy => ?_, h.eno, h.eall, ⟨?_, h.z.2.1, ?_⟩⟩
    · rw [List.map_append]
      refine List.nodup_append.2 ⟨h.vnd, by simp, fun a ha b hb e => ?_⟩
      simp at hb; subst e hb; exact hv ha
    · show isA (f.t.addV s l).v (updI f.vi v f.newV x.v) = true ∧ updI f.vo f.newV v (updI f.vi v f.newV x.v) = x.v ∧ (f.t.addV s l).s.V ((f.t.addV s l).item (updI f.vi v f.newV x.v)) = _ ∧ _
      rcases List.mem_append.1 hx with hx | hx
      · have hm : x.v ∈ vs.map Vx.v := List.mem_map.2 ⟨x, hx, rfl⟩
        obtain ⟨k1, k2, k3, k4⟩ := h.vin x hx
        rw [vi2 _ hm, g6, if_neg (ne _ hm), updI_ne (ne _ hm), f8 _ k1, f5 _ (nin _ (h.eu.iv _ k1).1)]
        exact ⟨k1, k2, k3, k4⟩
      · simp at hx; subst hx
        show isA (f.t.addV s l).v (updI f.vi v f.newV v) = true ∧ updI f.vo f.newV v (updI f.vi v f.newV v) = v ∧ (f.t.addV s l).s.V ((f.t.addV s l).item (updI f.vi v f.newV v)) = _ ∧ _
        rw [vi1, g6, if_pos rfl, updI_at, g7, f4]
        exact ⟨rfl, rfl, rfl, Int.le_refl _, (by decide : (0 : Int) ≤ 15)⟩
    · show updI f.vi v f.newV u = 0
      rw [List.map_append, List.mem_append] at hu
      rw [updI_ne (fun e => hu (.inr (by simp [e])))]
      exact h.vno u (fun k => hu (.inl k))
    · show ∃ x, x ∈ vs ++ [_] ∧ updI f.vi v f.newV x.v = j
      have hj' : isA (f.t.addV s l).v j = true := hj
      rw [g6] at hj'
      by_cases e : j = f.newV
      · exact ⟨⟨v, s, l, 0⟩, by simp, by rw [e]; exact vi1⟩
      · rw [if_neg e] at hj'
        obtain ⟨x, hx, hxe⟩ := h.vall j hj'
        exact ⟨x, List.mem_append.2 (.inl hx), by rw [vi2 _ (List.mem_map.2 ⟨x, hx, rfl⟩)]; exact hxe⟩
    · obtain ⟨k1, k2, k3, k4, k5, k6, k7, k8, k9⟩ := h.ein y hy
      obtain ⟨sx, sy, _⟩ := h.eu.ev _ k1
      have a5 : y.a ∈ (vs ++ [(⟨v, s, l, 0⟩ : Vx)]).map Vx.v := by rw [List.map_append]; exact List.mem_append.2 (.inl k5)
      have a6 : y.b ∈ (vs ++ [(⟨v, s, l, 0⟩ : Vx)]).map Vx.v := by rw [List.map_append]; exact List.mem_append.2 (.inl k6)
      refine ⟨k1, k2, ?_, ?_, a5, a6, ?_, ?_, k9⟩
      · show (f.t.edge _).a = updI f.vi v f.newV y.a
        rw [vi2 _ k5]; exact k3
      · show (f.t.edge _).b = updI f.vi v f.newV y.b
        rw [vi2 _ k6]; exact k4
      · show ((f.t.addV s l).s.V (f.t.edge (f.ei y.e)).x).m = _
        rw [f5 _ (nin _ sx)]; exact k7
      · show ((f.t.addV s l).s.V (f.t.edge (f.ei y.e)).y).m = _
        rw [f5 _ (nin _ sy)]; exact k8
    · show updI f.vo f.newV v 0 = 0
      rw [updI_ne (by omega)]; exact h.z.1
    · show updP f.t.p (newI f.t.s.K f.t.s.fr) _ 0 = (0, 0)
      unfold updP; rw [if_neg hB.new0.1.symm]; exact h.z.2.2
theorem map_v {vs : List Vx} {x' : Vx} {v : Int} (hx : x'.v = v) : (vs.map fun x => if x.v = v then x' else x).map Vx.v = vs.map Vx.v := by
  rw [List.map_map]
  refine List.map_congr_left fun x _ => ?_
  show (if x.v = v then x' else x).v = x.v
  split
  · rename_i e; rw [hx, e]
  · rfl
theorem Rel.vchg (hB : Tb f.t) (h : Rel f vs es) {x0 x' : Vx} (h0 : x0 ∈ vs) (hx : x'.v = x0.v) (hm : 0 ≤ x'.m ∧ x'.m ≤ 15) : Rel (f.wt (f.t.ws (f.t.s.set (f.t.item (f.vi x0.v)) ⟨1, x'.s, x'.l, x'.m⟩))) (vs.map fun x => if x.v = x0.v then x' else x) es := by
  obtain ⟨a1, a2, a3, a4⟩ := h.vin x0 h0
  obtain ⟨hE, eV⟩ := h.eu.setItem hB a1 ⟨1, x'.s, x'.l, x'.m⟩ rfl
  have mv := map_v (vs := vs) hx
  refine ⟨hE, by rw [mv]; exact h.vnd, h.esd, fun x hxm => ?_, fun v hv => h.vno v (by rw [← mv]; exact hv), fun i hi => ?_, fun y hy => ?_, h.eno, h.eall, h.z⟩
  · obtain ⟨x1, h1, rfl⟩ := List.mem_map.1 hxm
    obtain ⟨k1, k2, k3, k4⟩ := h.vin x1 h1
    by_cases e : x1.v = x0.v
    · rw [if_pos e]
      show isA f.t.v (f.vi x'.v) = true ∧ f.vo (f.vi x'.v) = x'.v ∧ (f.t.s.set (f.t.item (f.vi x0.v)) ⟨1, x'.s, x'.l, x'.m⟩).V (f.t.item (f.vi x'.v)) = _ ∧ _
      rw [hx, eV]
      exact ⟨a1, a2, if_pos rfl, hm⟩
    · rw [if_neg e]
      show isA f.t.v (f.vi x1.v) = true ∧ f.vo (f.vi x1.v) = x1.v ∧ (f.t.s.set (f.t.item (f.vi x0.v)) ⟨1, x'.s, x'.l, x'.m⟩).V (f.t.item (f.vi x1.v)) = _ ∧ _
      have hne : f.t.item (f.vi x1.v) ≠ f.t.item (f.vi x0.v) := fun e' => e (h.vinj (List.mem_map.2 ⟨x1, h1, rfl⟩) (List.mem_map.2 ⟨x0, h0, rfl⟩) (h.eu.item_inj k1 a1 e'))
      rw [eV, show updV f.t.s.V (f.t.item (f.vi x0.v)) ⟨1, x'.s, x'.l, x'.m⟩ (f.t.item (f.vi x1.v)) = f.t.s.V (f.t.item (f.vi x1.v)) from if_neg hne]
      exact ⟨k1, k2, k3, k4⟩
  · obtain ⟨x1, h1, rfl⟩ := h.vall i hi
    refine ⟨if x1.v = x0.v then x' else x1, List.mem_map.2 ⟨x1, h1, rfl⟩, ?_⟩
    show f.vi (if x1.v = x0.v then x' else x1).v = f.vi x1.v
    split
    · rename_i e; rw [hx, e]
    · rfl
  · obtain ⟨k1, k2, k3, k4, k5, k6, k7, k8, k9⟩ := h.ein y hy
    have hx2 := h.eu.item_x a1 k1
    refine ⟨k1, k2, k3, k4, by rw [mv]; exact k5, by rw [mv]; exact k6, ?_, ?_, k9⟩
    · show ((f.t.s.set (f.t.item (f.vi x0.v)) ⟨1, x'.s, x'.l, x'.m⟩).V (f.t.edge (f.ei y.e)).x).m = _
      rw [eV, show updV f.t.s.V (f.t.item (f.vi x0.v)) ⟨1, x'.s, x'.l, x'.m⟩ (f.t.edge (f.ei y.e)).x = f.t.s.V (f.t.edge (f.ei y.e)).x from if_neg hx2.1.symm]; exact k7
    · show ((f.t.s.set (f.t.item (f.vi x0.v)) ⟨1, x'.s, x'.l, x'.m⟩).V (f.t.edge (f.ei y.e)).y).m = _
      rw [eV, show updV f.t.s.V (f.t.item (f.vi x0.v)) ⟨1, x'.s, x'.l, x'.m⟩ (f.t.edge (f.ei y.e)).y = f.t.s.V (f.t.edge (f.ei y.e)).y from if_neg hx2.2.symm]; exact k8
theorem Rel.val (hB : Tb f.t) (h : Rel f vs es) {x : Vx} (hx : x ∈ vs) : f.t.val (f.t.item (f.vi x.v)) = ⟨1, x.s, x.l, x.m⟩ := by
  obtain ⟨a1, a2, a3, a4⟩ := h.vin x hx
  unfold To.val; rw [if_pos (hB.isK h.eu a1), a3]
theorem vmk_id {b : Int} (hb : 0 ≤ b ∧ b ≤ 15) : vmk b = b := by
  obtain ⟨n, rfl⟩ : ∃ n : Nat, b = n := ⟨b.toNat, by omega⟩
  have : n = 0 ∨ n = 1 ∨ n = 2 ∨ n = 3 ∨ n = 4 ∨ n = 5 ∨ n = 6 ∨ n = 7 ∨ n = 8 ∨ n = 9 ∨ n = 10 ∨ n = 11 ∨ n = 12 ∨ n = 13 ∨ n = 14 ∨ n = 15 := by omega
  rcases this with rfl | rfl | rfl | rfl | rfl | rfl | rfl | rfl | rfl | rfl | rfl | rfl | rfl | rfl | rfl | rfl <;> decide
theorem Rel.mark (hB : Tb f.t) (h : Rel f vs es) {v b : Int} (hb : 0 ≤ b) : (b > 15 → f.markR v b = 1 ∧ f.mark v b = f) ∧ (¬ b > 15 → v ∉ vs.map Vx.v → f.markR v b = 4 ∧ f.mark v b = f) ∧ (¬ b > 15 → ∀ x, x ∈ vs → x.v = v → f.markR v b = 0 ∧ Rel (f.mark v b) (vs.map fun y => if y.v = v then ⟨v, x.s, x.l, b⟩ else y) es) := by
  refine ⟨fun h15 => ?_, fun h15 hv => ?_, fun h15 x hx e => ?_⟩
  · exact ⟨by unfold Fo.markR To.markR; rw [if_pos h15], by unfold Fo.mark To.mark; rw [if_pos h15]; rfl⟩
  · have h0 := h.vno v hv
    exact ⟨by unfold Fo.markR To.markR; rw [if_neg h15, h0, if_neg (by simp [isA])], by unfold Fo.mark To.mark; rw [if_neg h15, h0, if_neg (by simp [isA])]; rfl⟩
  · subst e
    obtain ⟨a1, a2, a3, a4⟩ := h.vin x hx
    refine ⟨by unfold Fo.markR To.markR; rw [if_neg h15, if_pos a1], ?_⟩
    have := h.vchg hB (x' := ⟨x.v, x.s, x.l, b⟩) hx rfl ⟨hb, by show b ≤ 15; omega⟩
    rw [show f.mark x.v b = f.wt (f.t.ws (f.t.s.set (f.t.item (f.vi x.v)) ⟨1, x.s, x.l, b⟩)) by unfold Fo.mark To.mark; rw [if_neg h15, if_pos a1]; unfold To.markI; rw [h.val hB hx, vmk_id ⟨hb, by omega⟩]]
    exact this
theorem map_e {es : List Ex} {y' : Ex} {e : Int} (hy : y'.e = e) : (es.map fun y => if y.e = e then y' else y).map Ex.e = es.map Ex.e := by
  rw [List.map_map]
  refine List.map_congr_left fun y _ => ?_
  show (if y.e = e then y' else y).e = y.e
  split
  · rename_i k; rw [hy, k]
  · rfl
theorem Rel.emark (hB : Tb f.t) (h : Rel f vs es) {n b : Int} (hb : 0 ≤ b) : (b > 15 → f.emarkR n b = 1 ∧ f.emark n b = f) ∧ (¬ b > 15 → n ∉ es.map Ex.e → f.emarkR n b = 4 ∧ f.emark n b = f) ∧ (¬ b > 15 → ∀ y, y ∈ es → y.e = n → f.emarkR n b = 0 ∧ Rel (f.emark n b) vs (es.map fun z => if z.e = n then ⟨n, y.a, y.b, b⟩ else z)) := by
  refine ⟨fun h15 => ?_, fun h15 hv => ?_, fun h15 y hy e => ?_⟩
  · exact ⟨by unfold Fo.emarkR To.emarkR; rw [if_pos h15], by unfold Fo.emark To.emark; rw [if_pos h15]; rfl⟩
  · have h0 := h.eno n hv
    exact ⟨by unfold Fo.emarkR To.emarkR; rw [if_neg h15, h0, if_neg (by simp [isA])], by unfold Fo.emark To.emark; rw [if_neg h15, h0, if_neg (by simp [isA])]; rfl⟩
  · subst e
    obtain ⟨a1, a2, a3, a4, a5, a6, a7, a8, a9⟩ := h.ein y hy
    refine ⟨by unfold Fo.emarkR To.emarkR; rw [if_neg h15, if_pos a1], ?_⟩
    rw [show f.emark y.e b = f.wt (f.t.markI (f.t.edge (f.ei y.e)).x (emk b)) by unfold Fo.emark To.emark; rw [if_neg h15, if_pos a1]]
    obtain ⟨hE, eV⟩ := h.eu.markEdge hB a1 (emk b)
    have me := map_e (es := es) (y' := ⟨y.e, y.a, y.b, b⟩) (e := y.e) rfl
    obtain ⟨_, _, _, _, hxy, _⟩ := h.eu.ev _ a1
    refine ⟨hE, h.vnd, by rw [me]; exact h.esd, fun x hx => ?_, h.vno, h.vall, fun z hz => ?_, fun e he => h.eno e (by rw [← me]; exact he), fun m hm => ?_, h.z⟩
    · obtain ⟨k1, k2, k3, k4⟩ := h.vin x hx
      refine ⟨k1, k2, ?_, k4⟩
      show (f.t.markI (f.t.edge (f.ei y.e)).x (emk b)).s.V (f.t.item (f.vi x.v)) = _
      rw [eV, show updV f.t.s.V (f.t.edge (f.ei y.e)).x ⟨0, 0, 4611686018427387904, emk b⟩ (f.t.item (f.vi x.v)) = f.t.s.V (f.t.item (f.vi x.v)) from if_neg (h.eu.item_x k1 a1).1]; exact k3
    · obtain ⟨z1, h1, rfl⟩ := List.mem_map.1 hz
      obtain ⟨k1, k2, k3, k4, k5, k6, k7, k8, k9⟩ := h.ein z1 h1
      by_cases e : z1.e = y.e
      · rw [if_pos e]
        have e1 := h.oneE h1 hy e
        subst e1
        refine ⟨a1, a2, a3, a4, a5, a6, ?_, ?_, hb, by show b ≤ 15; omega⟩
        · show ((f.t.markI (f.t.edge (f.ei z1.e)).x (emk b)).s.V (f.t.edge (f.ei z1.e)).x).m = _
          rw [eV, show updV f.t.s.V (f.t.edge (f.ei z1.e)).x ⟨0, 0, 4611686018427387904, emk b⟩ (f.t.edge (f.ei z1.e)).x = ⟨0, 0, 4611686018427387904, emk b⟩ from if_pos rfl]
        · show ((f.t.markI (f.t.edge (f.ei z1.e)).x (emk b)).s.V (f.t.edge (f.ei z1.e)).y).m = _
          rw [eV, show updV f.t.s.V (f.t.edge (f.ei z1.e)).x ⟨0, 0, 4611686018427387904, emk b⟩ (f.t.edge (f.ei z1.e)).y = f.t.s.V (f.t.edge (f.ei z1.e)).y from if_neg hxy.symm]; exact a8
      · rw [if_neg e]
        have hne : f.ei z1.e ≠ f.ei y.e := fun e' => e (by rw [← k2, e', a2])
        have hx2 := h.eu.edge_x k1 a1 hne
        refine ⟨k1, k2, k3, k4, k5, k6, ?_, ?_, k9⟩
        · show ((f.t.markI (f.t.edge (f.ei y.e)).x (emk b)).s.V (f.t.edge (f.ei z1.e)).x).m = _
          rw [eV, show updV f.t.s.V (f.t.edge (f.ei y.e)).x ⟨0, 0, 4611686018427387904, emk b⟩ (f.t.edge (f.ei z1.e)).x = f.t.s.V (f.t.edge (f.ei z1.e)).x from if_neg hx2.1]; exact k7
        · show ((f.t.markI (f.t.edge (f.ei y.e)).x (emk b)).s.V (f.t.edge (f.ei z1.e)).y).m = _
          rw [eV, show updV f.t.s.V (f.t.edge (f.ei y.e)).x ⟨0, 0, 4611686018427387904, emk b⟩ (f.t.edge (f.ei z1.e)).y = f.t.s.V (f.t.edge (f.ei z1.e)).y from if_neg hx2.2.2.1]; exact k8
    · obtain ⟨z1, h1, e1⟩ := h.eall m hm
      refine ⟨if z1.e = y.e then ⟨y.e, y.a, y.b, b⟩ else z1, List.mem_map.2 ⟨z1, h1, rfl⟩, ?_⟩
      show f.ei (if z1.e = y.e then (⟨y.e, y.a, y.b, b⟩ : Ex) else z1).e = m
      split
      · rename_i e; rw [← e1, e]
      · exact e1
theorem To.linkd_eq {t : To} {a b : Int} (ha : isA t.v a = true) (hb : isA t.v b = true) (hs : t.same a b = false) : t.linked a b = t.link a b ∧ t.linkN a b = t.newE := by
  have hR : t.linkR a b = 0 := by unfold To.linkR; rw [if_pos ⟨ha, hb⟩, if_neg (by rw [hs]; simp)]
  exact ⟨by unfold To.linked; rw [if_pos hR], by unfold To.linkN; rw [if_pos hR]⟩
theorem Rel.link (hB : Tb f.t) (h : Rel f vs es) {n a b : Int} : (n < 1 → f.linkR n a b = 1 ∧ f.link n a b = f) ∧ (¬ n < 1 → n ∈ es.map Ex.e → f.linkR n a b = 5 ∧ f.link n a b = f) ∧
    (¬ n < 1 → n ∉ es.map Ex.e → ¬ (a ∈ vs.map Vx.v ∧ b ∈ vs.map Vx.v) → f.linkR n a b = 4 ∧ f.link n a b = f) ∧ (¬ n < 1 → n ∉ es.map Ex.e → a ∈ vs.map Vx.v → b ∈ vs.map Vx.v → f.same a b = true → f.linkR n a b = 13 ∧ f.link n a b = f) ∧
    (¬ n < 1 → n ∉ es.map Ex.e → a ∈ vs.map Vx.v → b ∈ vs.map Vx.v → f.same a b = false → f.linkR n a b = 0 ∧ Rel (f.link n a b) vs (es ++ [⟨n, a, b, 0⟩])) := by
  have no : ∀ r : Int, r ≠ 0 → f.linkR n a b = r → f.linkR n a b = r ∧ f.link n a b = f := fun r h0 hr => ⟨hr, by unfold Fo.link; rw [if_neg (by rw [hr]; exact h0)]⟩
  refine ⟨fun h1 => no 1 (by omega) (by unfold Fo.linkR; rw [if_pos h1]), fun h1 h2 => no 5 (by omega) (by unfold Fo.linkR; rw [if_neg h1, if_pos (h.memE.2 h2)]), fun h1 h2 h3 => no 4 (by omega) ?_, fun h1 h2 ha hb hs => no 13 (by omega) ?_, fun h1 h2 ha hb hs => ?_⟩
  · unfold Fo.linkR; rw [if_neg h1, if_neg (fun k => h2 (h.memE.1 k)), if_neg (fun k => h3 ⟨h.mem.1 k.1, h.mem.1 k.2⟩)]
  · unfold Fo.linkR; rw [if_neg h1, if_neg (fun k => h2 (h.memE.1 k)), if_pos ⟨h.mem.2 ha, h.mem.2 hb⟩, if_pos (show f.t.same (f.vi a) (f.vi b) = true from hs)]
  · have hR : f.linkR n a b = 0 := by unfold Fo.linkR; rw [if_neg h1, if_neg (fun k => h2 (h.memE.1 k)), if_pos ⟨h.mem.2 ha, h.mem.2 hb⟩, if_neg (by rw [show f.t.same (f.vi a) (f.vi b) = false from hs]; simp)]
    refine ⟨hR, ?_⟩
    obtain ⟨a1, _⟩ := h.isv ha
    obtain ⟨b1, _⟩ := h.isv hb
    obtain ⟨l1, l2⟩ := To.linkd_eq a1 b1 hs
    have hL : f.link n a b = (f.wt (f.t.link (f.vi a) (f.vi b))).we (updI f.ei n f.t.newE) (updI f.eo f.t.newE n) (f.ne + 1) := by unfold Fo.link; rw [if_pos hR, l1, l2]
    rw [hL]
    have hE := (h.eu.link hB a1 b1 hs).1
    have hf := h.eu.ek.rng
    have hnb := (tkI_bd hf).1
    have hnew : isA f.t.e f.t.newE = false := h.eu.ek.new
    have i1 : ∀ m, isA (f.t.link (f.vi a) (f.vi b)).e m = if m = f.t.newE then true else isA f.t.e m := fun m => isA_tkL hf _ m
    have i2 : ∀ m, 1 ≤ m → (f.t.link (f.vi a) (f.vi b)).edge m = if m = f.t.newE then ⟨f.vi a, f.vi b, f.t.newX, f.t.newY⟩ else f.t.edge m := fun m hm => atA_tkL hf zeE _ hm
    have hXY := hB.newXY
    have iV : ∀ z, f.t.s.S z ≠ [] → (f.t.link (f.vi a) (f.vi b)).s.V z = f.t.s.V z := fun z hz => by
      have n1 : z ≠ f.t.newY := fun e => hz (e ▸ hXY.2)
      have n2 : z ≠ f.t.newX := fun e => hz (e ▸ hXY.1)
      rw [To.link_V]; unfold updV; rw [if_neg n1, if_neg n2]
    have iN : ((f.t.link (f.vi a) (f.vi b)).s.V f.t.newX).m = 0 ∧ ((f.t.link (f.vi a) (f.vi b)).s.V f.t.newY).m = 0 := by
      rw [To.link_V]; unfold updV
      refine ⟨?_, by rw [if_pos rfl]; rfl⟩
      split
      · rfl
      · rw [if_pos rfl]; rfl
    have e1 : updI f.ei n f.t.newE n = f.t.newE := updI_at _ _ _
    have e2 : ∀ y, y ∈ es → updI f.ei n f.t.newE y.e = f.ei y.e ∧ f.ei y.e ≠ f.t.newE := fun y hy => ⟨updI_ne (fun k => h2 (k ▸ List.mem_map.2 ⟨y, hy, rfl⟩)), fun k => by have := (h.ein y hy).1; rw [k, hnew] at this; cases this⟩
    refine ⟨hE, h.vnd, ?_, fun x hx => ?_, h.vno, h.vall, fun y hy => ?_, fun e he => ?_, fun m hm => ?_, ⟨h.z.1, ?_, ?_⟩⟩
    · rw [List.map_append]
      refine List.nodup_append.2 ⟨h.esd, by simp, fun p hp q hq k => ?_⟩
      simp at hq; subst k hq; exact h2 hp
    · obtain ⟨k1, k2, k3, k4⟩ := h.vin x hx
      refine ⟨k1, k2, ?_, k4⟩
      show (f.t.link (f.vi a) (f.vi b)).s.V (f.t.item (f.vi x.v)) = _
      rw [iV _ (h.eu.iv _ k1).1]; exact k3
    · show isA (f.t.link (f.vi a) (f.vi b)).e (updI f.ei n f.t.newE y.e) = true ∧ updI f.eo f.t.newE n (updI f.ei n f.t.newE y.e) = y.e ∧ ((f.t.link (f.vi a) (f.vi b)).edge (updI f.ei n f.t.newE y.e)).a = f.vi y.a ∧ ((f.t.link (f.vi a) (f.vi b)).edge (updI f.ei n f.t.newE y.e)).b = f.vi y.b ∧ y.a ∈ vs.map Vx.v ∧ y.b ∈ vs.map Vx.v ∧ ((f.t.link (f.vi a) (f.vi b)).s.V ((f.t.link (f.vi a) (f.vi b)).edge (updI f.ei n f.t.newE y.e)).x).m = emk y.m ∧ ((f.t.link (f.vi a) (f.vi b)).s.V ((f.t.link (f.vi a) (f.vi b)).edge (updI f.ei n f.t.newE y.e)).y).m = 0 ∧ 0 ≤ y.m ∧ y.m ≤ 15
      rcases List.mem_append.1 hy with hy | hy
      · obtain ⟨k1, k2, k3, k4, k5, k6, k7, k8, k9⟩ := h.ein y hy
        obtain ⟨r1, r2⟩ := e2 y hy
        obtain ⟨sx, sy, _⟩ := h.eu.ev _ k1
        rw [r1, i1, if_neg r2, updI_ne r2, i2 _ (isA_bd k1).1, if_neg r2, iV _ sx, iV _ sy]
        exact ⟨k1, k2, k3, k4, k5, k6, k7, k8, k9⟩
      · simp at hy; subst hy
        show isA (f.t.link (f.vi a) (f.vi b)).e (updI f.ei n f.t.newE n) = true ∧ updI f.eo f.t.newE n (updI f.ei n f.t.newE n) = n ∧ ((f.t.link (f.vi a) (f.vi b)).edge (updI f.ei n f.t.newE n)).a = f.vi a ∧ ((f.t.link (f.vi a) (f.vi b)).edge (updI f.ei n f.t.newE n)).b = f.vi b ∧ a ∈ vs.map Vx.v ∧ b ∈ vs.map Vx.v ∧ ((f.t.link (f.vi a) (f.vi b)).s.V ((f.t.link (f.vi a) (f.vi b)).edge (updI f.ei n f.t.newE n)).x).m = emk 0 ∧ ((f.t.link (f.vi a) (f.vi b)).s.V ((f.t.link (f.vi a) (f.vi b)).edge (updI f.ei n f.t.newE n)).y).m = 0 ∧ (0 : Int) ≤ 0 ∧ (0 : Int) ≤ 15
        rw [e1, i1, if_pos rfl, updI_at, i2 f.t.newE hnb, if_pos rfl]
        exact ⟨rfl, rfl, rfl, rfl, ha, hb, iN.1, iN.2, Int.le_refl _, by decide⟩
    · show updI f.ei n f.t.newE e = 0
      rw [List.map_append, List.mem_append] at he
      rw [updI_ne (fun k => he (.inr (by simp [k])))]
      exact h.eno e (fun k => he (.inl k))
    · show ∃ y, y ∈ es ++ [_] ∧ updI f.ei n f.t.newE y.e = m
      have hm' : isA (f.t.link (f.vi a) (f.vi b)).e m = true := hm
      rw [i1] at hm'
      by_cases k : m = f.t.newE
      · exact ⟨⟨n, a, b, 0⟩, by simp, by rw [k]; exact e1⟩
      · rw [if_neg k] at hm'
        obtain ⟨y, hy, hye⟩ := h.eall m hm'
        exact ⟨y, List.mem_append.2 (.inl hy), by rw [(e2 y hy).1]; exact hye⟩
    · show updI f.eo f.t.newE n 0 = 0
      rw [updI_ne (fun k => by have : f.t.newE = 0 := k.symm; unfold To.newE at this; omega)]; exact h.z.2.1
    · show updP (updP f.t.p f.t.newX _) f.t.newY _ 0 = (0, 0)
      unfold updP; rw [if_neg hB.new0.2.2.symm, if_neg hB.new0.2.1.symm]; exact h.z.2.2
theorem Rel.cut (hB : Tb f.t) (h : Rel f vs es) {n : Int} : (n ∉ es.map Ex.e → f.cutR n = 4 ∧ f.cut n = f) ∧ (n ∈ es.map Ex.e → f.cutR n = 0 ∧ Rel (f.cut n) vs (es.filter fun y => decide (y.e ≠ n))) := by
  refine ⟨fun hn => ?_, fun hn => ?_⟩
  · have h0 := h.eno n hn
    have hR : f.cutR n = 4 := by unfold Fo.cutR To.cutR; rw [h0, if_neg (by simp [isA])]
    exact ⟨hR, by unfold Fo.cut; rw [if_neg (by rw [hR]; omega)]⟩
  · obtain ⟨y0, hy0, rfl⟩ := List.mem_map.1 hn
    obtain ⟨a1, a2, a3, a4, a5, a6, a7, a8, a9⟩ := h.ein y0 hy0
    have hR : f.cutR y0.e = 0 := by unfold Fo.cutR To.cutR; rw [if_pos a1]
    refine ⟨hR, ?_⟩
    have hC : f.cut y0.e = (f.wt (f.t.cutE (f.ei y0.e))).we (updI f.ei y0.e 0) (updI f.eo (f.ei y0.e) 0) f.ne := by unfold Fo.cut; rw [if_pos hR]; unfold To.cut; rw [if_pos a1]
    rw [hC]
    have hE := (h.eu.cut hB a1).1
    have c0 : (f.t.cutE (f.ei y0.e)).e = frL zeE f.t.e (f.ei y0.e) := by rw [To.cutE_eq]
    have i1 : ∀ m, isA (f.t.cutE (f.ei y0.e)).e m = if m = f.ei y0.e then false else isA f.t.e m := fun m => by rw [c0]; exact isA_frL zeE a1 m
    have i2 : ∀ m, 1 ≤ m → (f.t.cutE (f.ei y0.e)).edge m = if m = f.ei y0.e then zeE else f.t.edge m := fun m hm => by unfold To.edge; rw [c0]; exact atA_frL zeE a1 hm
    have it : ∀ v, (f.t.cutE (f.ei y0.e)).item v = f.t.item v := fun v => by unfold To.item; rw [To.cutE_v]
    have iv : (f.t.cutE (f.ei y0.e)).v = f.t.v := To.cutE_v _ _
    have iV : ∀ z, z ≠ (f.t.edge (f.ei y0.e)).x → z ≠ (f.t.edge (f.ei y0.e)).y → (f.t.cutE (f.ei y0.e)).s.V z = f.t.s.V z := fun z h1 h2 => To.cutE_V _ _ h1 h2
    have ip : (f.t.cutE (f.ei y0.e)).p 0 = (0, 0) := by
      rw [To.cutE_eq]
      show updP (updP f.t.p _ (0, 0)) _ (0, 0) 0 = (0, 0)
      unfold updP
      split
      · rfl
      split
      · rfl
      · exact h.z.2.2
    clear c0
    generalize f.t.cutE (f.ei y0.e) = T at *
    have ne : ∀ y, y ∈ es → y.e ≠ y0.e → f.ei y.e ≠ f.ei y0.e := fun y hy k k2 => k (by rw [← (h.ein y hy).2.1, k2, a2])
    have memf : ∀ y, y ∈ es.filter (fun y => decide (y.e ≠ y0.e)) ↔ y ∈ es ∧ y.e ≠ y0.e := fun y => by simp [List.mem_filter]
    refine ⟨hE, h.vnd, ?_, fun x hx => ?_, fun v hv => h.vno v hv, fun i hi => ?_, fun y hy => ?_, fun e he => ?_, fun m hm => ?_, ⟨h.z.1, ?_, ip⟩⟩
    · exact List.Nodup.sublist (List.Sublist.map _ List.filter_sublist) h.esd
    · obtain ⟨k1, k2, k3, k4⟩ := h.vin x hx
      have hx2 := h.eu.item_x k1 a1
      refine ⟨?_, k2, ?_, k4⟩
      · show isA T.v (f.vi x.v) = true
        rw [iv]; exact k1
      · show T.s.V (T.item (f.vi x.v)) = _
        rw [it, iV _ hx2.1 hx2.2]; exact k3
    · have hi' : isA T.v i = true := hi
      rw [iv] at hi'; exact h.vall i hi'
    · obtain ⟨hy1, hne⟩ := (memf y).1 hy
      obtain ⟨k1, k2, k3, k4, k5, k6, k7, k8, k9⟩ := h.ein y hy1
      have hn2 := ne y hy1 hne
      have hx2 := h.eu.edge_x k1 a1 hn2
      show isA T.e (updI f.ei y0.e 0 y.e) = true ∧ updI f.eo (f.ei y0.e) 0 (updI f.ei y0.e 0 y.e) = y.e ∧ (T.edge (updI f.ei y0.e 0 y.e)).a = f.vi y.a ∧ (T.edge (updI f.ei y0.e 0 y.e)).b = f.vi y.b ∧ y.a ∈ vs.map Vx.v ∧ y.b ∈ vs.map Vx.v ∧ (T.s.V (T.edge (updI f.ei y0.e 0 y.e)).x).m = emk y.m ∧ (T.s.V (T.edge (updI f.ei y0.e 0 y.e)).y).m = 0 ∧ 0 ≤ y.m ∧ y.m ≤ 15
      rw [updI_ne hne, i1, if_neg hn2, updI_ne hn2, i2 _ (isA_bd k1).1, if_neg hn2, iV _ hx2.1 hx2.2.1, iV _ hx2.2.2.1 hx2.2.2.2]
      exact ⟨k1, k2, k3, k4, k5, k6, k7, k8, k9⟩
    · show updI f.ei y0.e 0 e = 0
      by_cases k : e = y0.e
      · rw [k]; exact updI_at _ _ _
      · rw [updI_ne k]
        refine h.eno e (fun k2 => he ?_)
        obtain ⟨y, hy, rfl⟩ := List.mem_map.1 k2
        exact List.mem_map.2 ⟨y, (memf y).2 ⟨hy, k⟩, rfl⟩
    · show ∃ y : Ex, y ∈ es.filter (fun y => decide (y.e ≠ y0.e)) ∧ updI f.ei y0.e 0 y.e = m
      have hm' : isA T.e m = true := hm
      rw [i1] at hm'
      by_cases k : m = f.ei y0.e
      · rw [if_pos k] at hm'; cases hm'
      · rw [if_neg k] at hm'
        obtain ⟨y, hy, hye⟩ := h.eall m hm'
        have hne : y.e ≠ y0.e := fun k2 => k (by rw [← hye, k2])
        exact ⟨y, (memf y).2 ⟨hy, hne⟩, by rw [updI_ne hne]; exact hye⟩
    · show updI f.eo (f.ei y0.e) 0 0 = 0
      unfold updI; split
      · rfl
      · exact h.z.2.1
theorem Rel.drop (hB : Tb f.t) (h : Rel f vs es) {v : Int} : (v ∉ vs.map Vx.v → f.dropR v = 4 ∧ f.drop v = f) ∧ (v ∈ vs.map Vx.v → (∃ y, y ∈ es ∧ (y.a = v ∨ y.b = v)) → f.dropR v = 13 ∧ f.drop v = f) ∧
    (v ∈ vs.map Vx.v → (∀ y, y ∈ es → y.a ≠ v ∧ y.b ≠ v) → f.dropR v = 0 ∧ Rel (f.drop v) (vs.filter fun x => decide (x.v ≠ v)) es) := by
  have no : ∀ r : Int, r ≠ 0 → f.dropR v = r → f.dropR v = r ∧ f.drop v = f := fun r h0 hr => ⟨hr, by unfold Fo.drop; rw [if_neg (by rw [hr]; exact h0)]⟩
  refine ⟨fun hv => no 4 (by omega) (by unfold Fo.dropR To.dropR; rw [h.vno v hv, if_neg (by simp [isA])]), fun hv hy => no 13 (by omega) ?_, fun hv hno => ?_⟩
  · obtain ⟨a1, _⟩ := h.isv hv
    have hl : ¬ f.t.s.lone (f.t.item (f.vi v)) = true := fun k => by
      obtain ⟨y, hy, hc⟩ := hy
      obtain ⟨k1, k2, k3, k4, _⟩ := h.ein y hy
      have := (h.eu.alone hB a1).1 k _ k1
      rcases hc with rfl | rfl
      · exact this.1 k3
      · exact this.2 k4
    unfold Fo.dropR To.dropR; rw [if_pos a1, if_neg hl]
  · obtain ⟨a1, a2⟩ := h.isv hv
    have hl : f.t.s.lone (f.t.item (f.vi v)) = true := (h.eu.alone hB a1).2 fun n hn => by
      obtain ⟨y, hy, rfl⟩ := h.eall n hn
      obtain ⟨k1, k2, k3, k4, k5, k6, _⟩ := h.ein y hy
      rw [k3, k4]
      exact ⟨fun k => (hno y hy).1 (h.vinj k5 hv k), fun k => (hno y hy).2 (h.vinj k6 hv k)⟩
    have hR : f.dropR v = 0 := by unfold Fo.dropR To.dropR; rw [if_pos a1, if_pos hl]
    refine ⟨hR, ?_⟩
    have hD : f.drop v = (f.wt (f.t.dropV (f.vi v))).wv (updI f.vi v 0) (updI f.vo (f.vi v) 0) f.nv := by unfold Fo.drop; rw [if_pos hR]; unfold To.drop; rw [if_pos a1, if_pos hl]
    rw [hD]
    obtain ⟨hE, ia, it, iV⟩ := h.eu.dropV hB a1 hl
    have memf : ∀ x, x ∈ vs.filter (fun x => decide (x.v ≠ v)) ↔ x ∈ vs ∧ x.v ≠ v := fun x => by simp [List.mem_filter]
    have memm : ∀ u, u ∈ (vs.filter fun x => decide (x.v ≠ v)).map Vx.v ↔ u ∈ vs.map Vx.v ∧ u ≠ v := fun u => by
      constructor
      · intro k; obtain ⟨x, hx, rfl⟩ := List.mem_map.1 k; obtain ⟨k1, k2⟩ := (memf x).1 hx; exact ⟨List.mem_map.2 ⟨x, k1, rfl⟩, k2⟩
      · rintro ⟨k, k2⟩; obtain ⟨x, hx, rfl⟩ := List.mem_map.1 k; exact List.mem_map.2 ⟨x, (memf x).2 ⟨hx, k2⟩, rfl⟩
    have ne : ∀ u, u ∈ vs.map Vx.v → u ≠ v → f.vi u ≠ f.vi v := fun u hu k k2 => k (h.vinj hu hv k2)
    refine ⟨hE, ?_, h.esd, fun x hx => ?_, fun u hu => ?_, fun i hi => ?_, fun y hy => ?_, h.eno, h.eall, ⟨?_, h.z.2.1, ?_⟩⟩
    · exact List.Nodup.sublist (List.Sublist.map _ List.filter_sublist) h.vnd
    · obtain ⟨hx1, hne⟩ := (memf x).1 hx
      have hm : x.v ∈ vs.map Vx.v := List.mem_map.2 ⟨x, hx1, rfl⟩
      obtain ⟨k1, k2, k3, k4⟩ := h.vin x hx1
      have hn2 := ne _ hm hne
      show isA (f.t.dropV (f.vi v)).v (updI f.vi v 0 x.v) = true ∧ updI f.vo (f.vi v) 0 (updI f.vi v 0 x.v) = x.v ∧ (f.t.dropV (f.vi v)).s.V ((f.t.dropV (f.vi v)).item (updI f.vi v 0 x.v)) = _ ∧ _
      rw [updI_ne hne, ia, if_neg hn2, updI_ne hn2, it _ hn2, iV _ (fun k => hn2 (h.eu.item_inj k1 a1 k))]
      exact ⟨k1, k2, k3, k4⟩
    · show updI f.vi v 0 u = 0
      by_cases k : u = v
      · rw [k]; exact updI_at _ _ _
      · rw [updI_ne k]; exact h.vno u (fun k2 => hu ((memm u).2 ⟨k2, k⟩))
    · show ∃ x : Vx, x ∈ vs.filter (fun x => decide (x.v ≠ v)) ∧ updI f.vi v 0 x.v = i
      have hi' : isA (f.t.dropV (f.vi v)).v i = true := hi
      rw [ia] at hi'
      by_cases k : i = f.vi v
      · rw [if_pos k] at hi'; cases hi'
      · rw [if_neg k] at hi'
        obtain ⟨x, hx, hxe⟩ := h.vall i hi'
        have hne : x.v ≠ v := fun k2 => k (by rw [← hxe, k2])
        exact ⟨x, (memf x).2 ⟨hx, hne⟩, by rw [updI_ne hne]; exact hxe⟩
    · obtain ⟨k1, k2, k3, k4, k5, k6, k7, k8, k9⟩ := h.ein y hy
      have hx2 := h.eu.item_x a1 k1
      refine ⟨k1, k2, ?_, ?_, (memm _).2 ⟨k5, (hno y hy).1⟩, (memm _).2 ⟨k6, (hno y hy).2⟩, ?_, ?_, k9⟩
      · show (f.t.edge (f.ei y.e)).a = updI f.vi v 0 y.a
        rw [updI_ne (hno y hy).1]; exact k3
      · show (f.t.edge (f.ei y.e)).b = updI f.vi v 0 y.b
        rw [updI_ne (hno y hy).2]; exact k4
      · show ((f.t.dropV (f.vi v)).s.V (f.t.edge (f.ei y.e)).x).m = _
        rw [iV _ hx2.1.symm]; exact k7
      · show ((f.t.dropV (f.vi v)).s.V (f.t.edge (f.ei y.e)).y).m = _
        rw [iV _ hx2.2.symm]; exact k8
    · show updI f.vo (f.vi v) 0 0 = 0
      unfold updI; split
      · rfl
      · exact h.z.1
    · show updP f.t.p (f.t.item (f.vi v)) (0, 0) 0 = (0, 0)
      unfold updP; split
      · rfl
      · exact h.z.2.2
end
end Go.Proofs.YtlmdjghcmofdlaaGreat
namespace Go.Proofs.YtlmdjghcmofdlaaGreat
open Go.RowKit
set_option linter.unusedVariables false
def Ee (es : List Ex) (x y : Int) : Prop := ∃ z, z ∈ es ∧ z.a = x ∧ z.b = y
theorem Tb.S0 {t : To} (hB : Tb t) : t.s.S 0 = [] := hB.empty (k := 0) rfl
section
variable {f : Fo} {vs : List Vx} {es : List Ex}
theorem Rel.jn (h : Rel f vs es) {a b : Int} (ha : a ∈ vs.map Vx.v) (hb : b ∈ vs.map Vx.v) : Jn (Ed f.t) (f.vi a) (f.vi b) ↔ Jn (Ee es) a b := by
  constructor
  · have key : ∀ i j, Jn (Ed f.t) i j → ∀ a, a ∈ vs.map Vx.v → f.vi a = i → ∃ b, b ∈ vs.map Vx.v ∧ f.vi b = j ∧ Jn (Ee es) a b := fun i j hj => by
      induction hj with
      | refl => exact fun a ha e => ⟨a, ha, e, Jn.refl _⟩
      | step _ e ih =>
        intro a ha e0
        obtain ⟨b, hb, e1, hJ⟩ := ih a ha e0
        rcases e with ⟨n, hn, k1, k2⟩ | ⟨n, hn, k1, k2⟩
        · obtain ⟨y, hy, rfl⟩ := h.eall n hn
          obtain ⟨_, _, m3, m4, m5, m6, _⟩ := h.ein y hy
          have : b = y.a := h.vinj hb m5 (by rw [e1, ← k1, m3])
          exact ⟨y.b, m6, by rw [← k2, m4], .step hJ (.inl ⟨y, hy, this.symm, rfl⟩)⟩
        · obtain ⟨y, hy, rfl⟩ := h.eall n hn
          obtain ⟨_, _, m3, m4, m5, m6, _⟩ := h.ein y hy
          have : b = y.b := h.vinj hb m6 (by rw [e1, ← k2, m4])
          exact ⟨y.a, m5, by rw [← k1, m3], .step hJ (.inr ⟨y, hy, rfl, this.symm⟩)⟩
    intro hj
    obtain ⟨b', hb', e, hJ⟩ := key _ _ hj a ha rfl
    rw [h.vinj hb hb' e.symm]; exact hJ
  · intro hj
    induction hj with
    | refl => exact Jn.refl _
    | step hp e ih =>
      rcases e with ⟨z, hz, k1, k2⟩ | ⟨z, hz, k1, k2⟩
      · obtain ⟨m1, _, m3, m4, m5, m6, _⟩ := h.ein z hz
        refine .step (ih (k1 ▸ m5)) (.inl ⟨_, m1, ?_, ?_⟩)
        · rw [m3, k1]
        · rw [m4, k2]
      · obtain ⟨m1, _, m3, m4, m5, m6, _⟩ := h.ein z hz
        refine .step (ih (k2 ▸ m6)) (.inr ⟨_, m1, ?_, ?_⟩)
        · rw [m3, k1]
        · rw [m4, k2]
theorem Rel.same (hB : Tb f.t) (h : Rel f vs es) {a b : Int} : f.same a b = true ↔ a ∈ vs.map Vx.v ∧ b ∈ vs.map Vx.v ∧ Jn (Ee es) a b := by
  unfold Fo.same
  by_cases ha : a ∈ vs.map Vx.v
  · by_cases hb : b ∈ vs.map Vx.v
    · rw [h.eu.joined hB (h.isv ha).1 (h.isv hb).1, h.jn ha hb]
      exact ⟨fun k => ⟨ha, hb, k⟩, fun k => k.2.2⟩
    · refine ⟨fun k => ?_, fun k => absurd k.2.1 hb⟩
      rw [To.same_iff, h.vno b hb, To.item_no (by simp [isA] : isA f.t.v 0 = false)] at k
      have := hB.fam.same _ _ k
      rw [hB.S0] at this
      rw [← this] at k; cases k
  · refine ⟨fun k => ?_, fun k => absurd k.1 ha⟩
    rw [To.same_iff, h.vno a ha, To.item_no (by simp [isA] : isA f.t.v 0 = false), hB.S0] at k
    cases k
end
theorem erase_sum {g : Int → Int} {h : List Int → Int} (h1 : ∀ a l, h (a :: l) = g a + h l) {a : Int} : ∀ {L : List Int}, a ∈ L → h L = g a + h (L.erase a) := by
  intro L
  induction L with
  | nil => intro k; cases k
  | cons b L ih =>
    intro k
    by_cases e : b = a
    · subst e; rw [List.erase_cons_head, h1]
    · have hm : a ∈ L := by rcases List.mem_cons.1 k with k | k; exact absurd k.symm e; exact k
      rw [List.erase_cons_tail (by simpa using e), h1, h1, ih hm]; omega
theorem erase_min {g : Int → Int} {h : List Int → Int} (h1 : ∀ a l, h (a :: l) = min (g a) (h l)) {a : Int} : ∀ {L : List Int}, a ∈ L → h L = min (g a) (h (L.erase a)) := by
  intro L
  induction L with
  | nil => intro k; cases k
  | cons b L ih =>
    intro k
    by_cases e : b = a
    · subst e; rw [List.erase_cons_head, h1]
    · have hm : a ∈ L := by rcases List.mem_cons.1 k with k | k; exact absurd k.symm e; exact k
      rw [List.erase_cons_tail (by simpa using e), h1, h1, ih hm]; omega
def sumL (g : Int → Int) : List Int → Int
  | [] => 0
  | u :: l => g u + sumL g l
def minL (g : Int → Int) : List Int → Int
  | [] => 4611686018427387904
  | u :: l => min (g u) (minL g l)
section
variable {g : Int → Int} {it : Int → Int}
theorem list_sum {h : List Int → Int} (h0 : h [] = 0) (h1 : ∀ a l, h (a :: l) = g a + h l) {T : List Int} (hT : T.Nodup) (inj : ∀ u v, u ∈ T → v ∈ T → it u = it v → u = v) : ∀ {L : List Int}, L.Nodup → (∀ u, u ∈ T → it u ∈ L) → (∀ z, z ∈ L → (∃ u, u ∈ T ∧ it u = z) ∨ g z = 0) → h L = sumL (fun u => g (it u)) T := by
  induction T with
  | nil =>
    intro L _ _ hz
    show h L = 0
    induction L with
    | nil => exact h0
    | cons a L ih =>
      rw [h1, ih (by assumption |> fun k => (List.nodup_cons.1 k).2) (fun u hu => by cases hu) (fun z hz' => hz z (by simp [hz']))]
      rcases hz a (by simp) with ⟨u, hu, _⟩ | e
      · cases hu
      · omega
  | cons u T ih =>
    intro L hL hin hz
    obtain ⟨huT, hT'⟩ := List.nodup_cons.1 hT
    rw [erase_sum h1 (hin u (by simp))]
    show _ = g (it u) + sumL (fun u => g (it u)) T
    rw [ih hT' (fun a b ha hb e => inj a b (by simp [ha]) (by simp [hb]) e) (L := L.erase (it u)) (hL.sublist List.erase_sublist) (fun a ha => ?_) (fun z hz' => ?_)]
    · refine (List.mem_erase_of_ne (fun e => huT ?_)).2 (hin a (by simp [ha]))
      rw [← inj a u (by simp [ha]) (by simp) e]; exact ha
    · obtain ⟨hne, hm⟩ := (hL.mem_erase_iff).1 hz'
      rcases hz z hm with ⟨a, ha, e⟩ | e
      · rcases List.mem_cons.1 ha with rfl | ha
        · exact absurd e.symm hne
        · exact .inl ⟨a, ha, e⟩
      · exact .inr e
theorem list_min {h : List Int → Int} (h0 : h [] = 4611686018427387904) (h1 : ∀ a l, h (a :: l) = min (g a) (h l)) {T : List Int} (hT : T.Nodup) (inj : ∀ u v, u ∈ T → v ∈ T → it u = it v → u = v) : ∀ {L : List Int}, L.Nodup → (∀ u, u ∈ T → it u ∈ L) → (∀ z, z ∈ L → (∃ u, u ∈ T ∧ it u = z) ∨ g z = 4611686018427387904) → h L = minL (fun u => g (it u)) T := by
  induction T with
  | nil =>
    intro L hL _ hz
    show h L = 4611686018427387904
    induction L with
    | nil => exact h0
    | cons a L ih =>
      rw [h1, ih (List.nodup_cons.1 hL).2 (fun u hu => by cases hu) (fun z hz' => hz z (by simp [hz']))]
      rcases hz a (by simp) with ⟨u, hu, _⟩ | e
      · cases hu
      · omega
  | cons u T ih =>
    intro L hL hin hz
    obtain ⟨huT, hT'⟩ := List.nodup_cons.1 hT
    rw [erase_min h1 (hin u (by simp))]
    show _ = min (g (it u)) (minL (fun u => g (it u)) T)
    rw [ih hT' (fun a b ha hb e => inj a b (by simp [ha]) (by simp [hb]) e) (L := L.erase (it u)) (hL.sublist List.erase_sublist) (fun a ha => ?_) (fun z hz' => ?_)]
    · refine (List.mem_erase_of_ne (fun e => huT ?_)).2 (hin a (by simp [ha]))
      rw [← inj a u (by simp [ha]) (by simp) e]; exact ha
    · obtain ⟨hne, hm⟩ := (hL.mem_erase_iff).1 hz'
      rcases hz z hm with ⟨a, ha, e⟩ | e
      · rcases List.mem_cons.1 ha with rfl | ha
        · exact absurd e.symm hne
        · exact .inl ⟨a, ha, e⟩
      · exact .inr e
end
def vat (vs : List Vx) (u : Int) : Vx := (vs.find? fun x => decide (x.v = u)).getD ⟨0, 0, 0, 0⟩
theorem vat_in {vs : List Vx} {u : Int} (h : u ∈ vs.map Vx.v) : vat vs u ∈ vs ∧ (vat vs u).v = u := by
  unfold vat
  cases hf : vs.find? fun x => decide (x.v = u) with
  | some x =>
    have := List.find?_some hf
    exact ⟨List.mem_of_find?_eq_some hf, by simpa using this⟩
  | none =>
    obtain ⟨x, hx, e⟩ := List.mem_map.1 h
    have := List.find?_eq_none.1 hf x hx
    simp [e] at this
section
variable {f : Fo} {vs : List Vx} {es : List Ex}
structure Trv (vs : List Vx) (es : List Ex) (v : Int) (T : List Int) : Prop where
  nd : T.Nodup
  mem : ∀ u, u ∈ T ↔ u ∈ vs.map Vx.v ∧ Jn (Ee es) v u
theorem Rel.tour (hB : Tb f.t) (h : Rel f vs es) {v : Int} (hv : v ∈ vs.map Vx.v) {T : List Int} (hT : Trv vs es v T) :
    (∀ u, u ∈ T → f.t.item (f.vi u) ∈ f.t.s.S (f.t.item (f.vi v))) ∧ (∀ u w, u ∈ T → w ∈ T → f.t.item (f.vi u) = f.t.item (f.vi w) → u = w) ∧
    (∀ z, z ∈ f.t.s.S (f.t.item (f.vi v)) → (∃ u, u ∈ T ∧ f.t.item (f.vi u) = z) ∨ ∃ n, isA f.t.e n = true ∧ (z = (f.t.edge n).x ∨ z = (f.t.edge n).y)) := by
  obtain ⟨v1, v2⟩ := h.isv hv
  refine ⟨fun u hu => ?_, fun u w hu hw e => ?_, fun z hz => ?_⟩
  · obtain ⟨hm, hj⟩ := (hT.mem u).1 hu
    exact To.same_iff.1 (show f.t.same (f.vi v) (f.vi u) = true from (h.same hB).2 ⟨hv, hm, hj⟩)
  · have hu' := ((hT.mem u).1 hu).1
    have hw' := ((hT.mem w).1 hw).1
    exact h.vinj hu' hw' (h.eu.item_inj (h.isv hu').1 (h.isv hw').1 e)
  · obtain ⟨r, hr⟩ := h.eu.tq _ (h.eu.iv _ v1).1
    rcases hr.items z hz with ⟨i, hi⟩ | ⟨a, c, x, y, ⟨n, hn, hc⟩, hxy, _⟩
    · obtain ⟨x, hx, rfl⟩ := h.vall i hi.1
      have hm : x.v ∈ vs.map Vx.v := List.mem_map.2 ⟨x, hx, rfl⟩
      refine .inl ⟨x.v, (hT.mem _).2 ⟨hm, ?_⟩, hi.2⟩
      have : f.same v x.v = true := To.same_iff.2 (by rw [hi.2]; exact hz)
      exact ((h.same hB).1 this).2.2
    · refine .inr ⟨n, hn, ?_⟩
      rcases hc with ⟨_, _, e3, e4⟩ | ⟨_, _, e3, e4⟩ <;> rcases hxy with e | e
      · exact .inl (by rw [e, e3])
      · exact .inr (by rw [e, e4])
      · exact .inr (by rw [e, e3])
      · exact .inl (by rw [e, e4])
theorem Rel.total (hB : Tb f.t) (h : Rel f vs es) {v : Int} (hv : v ∈ vs.map Vx.v) {T : List Int} (hT : Trv vs es v T) :
    (f.total v).c = wr (sumL (fun _ => 1) T) ∧ (f.total v).s = wr (sumL (fun u => (vat vs u).s) T) ∧ (f.total v).l = minL (fun u => (vat vs u).l) T := by
  obtain ⟨t1, t2, t3⟩ := h.tour hB hv hT
  obtain ⟨v1, v2⟩ := h.isv hv
  have hnd := hB.fam.nodup (f.t.item (f.vi v))
  have z0 : ∀ z, z ∈ f.t.s.S (f.t.item (f.vi v)) → (∃ u, u ∈ T ∧ f.t.item (f.vi u) = z) ∨ ((f.t.s.V z).c = 0 ∧ (f.t.s.V z).s = 0 ∧ (f.t.s.V z).l = 4611686018427387904) := fun z hz => by
    rcases t3 z hz with k | ⟨n, hn, k⟩
    · exact .inl k
    · obtain ⟨_, _, _, _, _, k1, k2⟩ := h.eu.ev n hn
      rcases k with rfl | rfl
      · exact .inr k1
      · exact .inr k2
  have hval : ∀ u, u ∈ T → f.t.s.V (f.t.item (f.vi u)) = ⟨1, (vat vs u).s, (vat vs u).l, (vat vs u).m⟩ := fun u hu => by
    obtain ⟨k1, k2⟩ := vat_in ((hT.mem u).1 hu).1
    have := (h.vin _ k1).2.2.1
    rw [k2] at this; exact this
  have cg : ∀ (p q : Int → Int), (∀ u, u ∈ T → p u = q u) → sumL p T = sumL q T ∧ minL p T = minL q T := fun p q hpq => by
    clear hT t1 t2 t3 z0 hval
    induction T with
    | nil => exact ⟨rfl, rfl⟩
    | cons a T ih =>
      obtain ⟨i1, i2⟩ := ih (fun u hu => hpq u (by simp [hu]))
      exact ⟨by show p a + sumL p T = q a + sumL q T; rw [i1, hpq a (by simp)], by show min (p a) (minL p T) = min (q a) (minL q T); rw [i2, hpq a (by simp)]⟩
  obtain ⟨e1, e2, e3⟩ := To.total_S (h.eu.ne0 hB v1)
  refine ⟨?_, ?_, ?_⟩
  · show (f.t.total (f.vi v)).c = _
    rw [e1, list_sum (g := fun z => (f.t.s.V z).c) (it := fun u => f.t.item (f.vi u)) (h := cS f.t.s.V) rfl (fun _ _ => rfl) hT.nd t2 hnd t1 (fun z hz => (z0 z hz).imp id (fun k => k.1))]
    rw [(cg _ (fun _ => 1) (fun u hu => by show (f.t.s.V _).c = 1; rw [hval u hu])).1]
  · show (f.t.total (f.vi v)).s = _
    rw [e2, list_sum (g := fun z => (f.t.s.V z).s) (it := fun u => f.t.item (f.vi u)) (h := sS f.t.s.V) rfl (fun _ _ => rfl) hT.nd t2 hnd t1 (fun z hz => (z0 z hz).imp id (fun k => k.2.1))]
    rw [(cg _ (fun u => (vat vs u).s) (fun u hu => by show (f.t.s.V _).s = _; rw [hval u hu])).1]
  · show (f.t.total (f.vi v)).l = _
    rw [e3, list_min (g := fun z => (f.t.s.V z).l) (it := fun u => f.t.item (f.vi u)) (h := lS f.t.s.V) rfl (fun _ _ => rfl) hT.nd t2 hnd t1 (fun z hz => (z0 z hz).imp id (fun k => k.2.2))]
    rw [(cg _ (fun u => (vat vs u).l) (fun u hu => by show (f.t.s.V _).l = _; rw [hval u hu])).2]
end
end Go.Proofs.YtlmdjghcmofdlaaGreat
