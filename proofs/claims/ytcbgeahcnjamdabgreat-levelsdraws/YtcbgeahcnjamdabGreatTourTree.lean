/- Layer 7 (tour), plain: tours of trees (what a tour is; turns and splices; states whose tours are those of their trees; sums; parts). -/
import Derived.Test.YtcbgeahcnjamdabGreatKit
import Derived.Test.YtcbgeahcnjamdabGreatTourMade
/-! Layer 7 (tour), plain: what the tour of a tree is. I v i: vertex v has the item i; E v u x y: an edge between v and u, gone along at x, gone back at y. -/
namespace Go.Proofs.YtcbgeahcnjamdabGreat
set_option linter.unusedVariables false

/-- Tq true v L: L is a tour of the tree of v, begun wherever between what hangs at v; Tq false v L: some of what hangs at v, in a row. -/
inductive Tq (I : Int → Int → Prop) (E : Int → Int → Int → Int → Prop) : Bool → Int → List Int → Prop
  | nil (v : Int) : Tq I E false v []
  | blk {v u x y : Int} {N M : List Int} (he : E v u x y) (hN : Tq I E true u N) (hM : Tq I E false v M) : Tq I E false v (x :: (N ++ y :: M))
  | own {v i : Int} {P Q : List Int} (hi : I v i) (hP : Tq I E false v P) (hQ : Tq I E false v Q) : Tq I E true v (P ++ i :: Q)
section
variable {I I' : Int → Int → Prop} {E E' : Int → Int → Int → Int → Prop}
theorem Tq.app {v : Int} {A B : List Int} (h : Tq I E false v A) (k : Tq I E false v B) : Tq I E false v (A ++ B) := by
  generalize hb : false = b at h
  induction h with
  | nil v => exact k
  | blk he hN hM ihN ihM =>
    have := Tq.blk he hN (ihM k hb)
    simpa [List.append_assoc] using this
  | own hi hP hQ _ _ => cases hb
theorem Tq.mono {b : Bool} {v : Int} {L : List Int} (h : Tq I E b v L) (hI : ∀ v i, I v i → i ∈ L → I' v i) (hE : ∀ v u x y, E v u x y → x ∈ L → y ∈ L → E' v u x y) : Tq I' E' b v L := by
  induction h with
  | nil v => exact .nil v
  | @blk v u x y N M he hN hM ihN ihM =>
    refine .blk (hE _ _ _ _ he (by simp) (by simp)) (ihN (fun v i h1 h2 => hI v i h1 (by simp [h2])) (fun v u x y h1 h2 h3 => hE v u x y h1 (by simp [h2]) (by simp [h3]))) (ihM (fun v i h1 h2 => hI v i h1 (by simp [h2])) (fun v u x y h1 h2 h3 => hE v u x y h1 (by simp [h2]) (by simp [h3])))
  | @own v i P Q hi hP hQ ihP ihQ =>
    exact .own (hI _ _ hi (by simp)) (ihP (fun v i h1 h2 => hI v i h1 (by simp [h2])) (fun v u x y h1 h2 h3 => hE v u x y h1 (by simp [h2]) (by simp [h3]))) (ihQ (fun v i h1 h2 => hI v i h1 (by simp [h2])) (fun v u x y h1 h2 h3 => hE v u x y h1 (by simp [h2]) (by simp [h3])))
/-- A tour, opened at its root. -/
theorem Tq.opened {v : Int} {L : List Int} (h : Tq I E true v L) : ∃ i P Q, I v i ∧ Tq I E false v P ∧ Tq I E false v Q ∧ L = P ++ i :: Q := by
  cases h with
  | own hi hP hQ => exact ⟨_, _, _, hi, hP, hQ, rfl⟩
/-- What hangs, opened at its first. -/
theorem Tq.first {v z : Int} {L : List Int} (h : Tq I E false v (z :: L)) : ∃ u y N M, E v u z y ∧ Tq I E true u N ∧ Tq I E false v M ∧ L = N ++ y :: M := by
  generalize hl : z :: L = l at h
  cases h with
  | nil => cases hl
  | blk he hN hM =>
    injection hl with h1 h2
    subst h1
    exact ⟨_, _, _, _, he, hN, hM, h2⟩
/-- The ring is turned by one. -/
theorem Tq.rot1 (hs : ∀ v u x y, E v u x y → E u v y x) {v z : Int} {L : List Int} (h : Tq I E true v (z :: L)) : ∃ u, Tq I E true u (L ++ [z]) := by
  obtain ⟨i, P, Q, hi, hP, hQ, e⟩ := h.opened
  cases P with
  | nil =>
    injection e with e1 e2
    subst e1 e2
    exact ⟨v, .own hi hQ (.nil v)⟩
  | cons x P' =>
    injection e with e1 e2
    subst e1
    obtain ⟨u, y, N, M, he, hN, hM, eP⟩ := hP.first
    obtain ⟨j, P2, Q2, hj, hP2, hQ2, eN⟩ := hN.opened
    refine ⟨u, ?_⟩
    have := Tq.own hj hP2 (hQ2.app (.blk (hs _ _ _ _ he) (.own hi hM hQ) (.nil u)))
    rw [e2, eP, eN]
    simpa [List.append_assoc] using this
theorem Tq.rot (hs : ∀ v u x y, E v u x y → E u v y x) {A B : List Int} : ∀ {v : Int}, Tq I E true v (A ++ B) → ∃ u, Tq I E true u (B ++ A) := by
  induction A generalizing B with
  | nil => intro v h; exact ⟨v, by simpa using h⟩
  | cons a A ih =>
    intro v h
    obtain ⟨u, h1⟩ := Tq.rot1 (L := A ++ B) hs (show Tq I E true v (a :: (A ++ B)) from h)
    rw [List.append_assoc] at h1
    obtain ⟨u', h2⟩ := ih h1
    exact ⟨u', by simpa [List.append_assoc] using h2⟩
/-- Each item is a vertex' or an edge's; an edge's has both its items, and both its ends, there. -/
theorem Tq.items {b : Bool} {v : Int} {L : List Int} (h : Tq I E b v L) : ∀ z ∈ L, (∃ u, I u z) ∨ ∃ a c x y, E a c x y ∧ (z = x ∨ z = y) ∧ x ∈ L ∧ y ∈ L ∧ (a = v ∨ ∃ i ∈ L, I a i) ∧ (∃ i ∈ L, I c i) := by
  induction h with
  | nil v => intro z hz; cases hz
  | @blk v u x y N M he hN hM ihN ihM =>
    obtain ⟨j, P2, Q2, hj, _, _, eN⟩ := hN.opened
    have hjN : j ∈ N := by rw [eN]; simp
    intro z hz
    have key : ∀ {K : List Int} {r : Int}, (∀ q ∈ K, q ∈ x :: (N ++ y :: M)) → (r = v ∨ ∃ i ∈ x :: (N ++ y :: M), I r i) → (∃ a c x' y', E a c x' y' ∧ (z = x' ∨ z = y') ∧ x' ∈ K ∧ y' ∈ K ∧ (a = r ∨ ∃ i ∈ K, I a i) ∧ (∃ i ∈ K, I c i)) → (∃ a c x' y', E a c x' y' ∧ (z = x' ∨ z = y') ∧ x' ∈ x :: (N ++ y :: M) ∧ y' ∈ x :: (N ++ y :: M) ∧ (a = v ∨ ∃ i ∈ x :: (N ++ y :: M), I a i) ∧ (∃ i ∈ x :: (N ++ y :: M), I c i)) := by
      rintro K r hK hr ⟨a, c, x', y', h1, h2, h3, h4, h5, i, h6, h7⟩
      refine ⟨a, c, x', y', h1, h2, hK _ h3, hK _ h4, ?_, i, hK _ h6, h7⟩
      rcases h5 with rfl | ⟨q, h8, h9⟩
      · exact hr
      · exact .inr ⟨q, hK _ h8, h9⟩
    rcases List.mem_cons.1 hz with rfl | hz
    · exact .inr ⟨v, u, z, y, he, .inl rfl, by simp, by simp, .inl rfl, j, by simp [hjN], hj⟩
    · rcases List.mem_append.1 hz with hz | hz
      · exact (ihN z hz).imp id (key (fun q hq => by simp [hq]) (.inr ⟨j, by simp [hjN], hj⟩))
      · rcases List.mem_cons.1 hz with rfl | hz
        · exact .inr ⟨v, u, x, z, he, .inr rfl, by simp, by simp, .inl rfl, j, by simp [hjN], hj⟩
        · exact (ihM z hz).imp id (key (fun q hq => by simp [hq]) (.inl rfl))
  | @own v i P Q hi hP hQ ihP ihQ =>
    intro z hz
    have key : ∀ {K : List Int}, (∀ q ∈ K, q ∈ P ++ i :: Q) → (∃ a c x' y', E a c x' y' ∧ (z = x' ∨ z = y') ∧ x' ∈ K ∧ y' ∈ K ∧ (a = v ∨ ∃ i ∈ K, I a i) ∧ (∃ i ∈ K, I c i)) → (∃ a c x' y', E a c x' y' ∧ (z = x' ∨ z = y') ∧ x' ∈ P ++ i :: Q ∧ y' ∈ P ++ i :: Q ∧ (a = v ∨ ∃ q ∈ P ++ i :: Q, I a q) ∧ (∃ q ∈ P ++ i :: Q, I c q)) := by
      rintro K hK ⟨a, c, x', y', h1, h2, h3, h4, h5, q, h6, h7⟩
      exact ⟨a, c, x', y', h1, h2, hK _ h3, hK _ h4, h5.imp id (fun ⟨q, h8, h9⟩ => ⟨q, hK _ h8, h9⟩), q, hK _ h6, h7⟩
    rcases List.mem_append.1 hz with hz | hz
    · exact (ihP z hz).imp id (key (fun q hq => by simp [hq]))
    · rcases List.mem_cons.1 hz with rfl | hz
      · exact .inl ⟨v, hi⟩
      · exact (ihQ z hz).imp id (key (fun q hq => by simp [hq]))
/-- Two vertices between which there is a way. -/
inductive Conn (E : Int → Int → Int → Int → Prop) : Int → Int → Prop
  | refl (v : Int) : Conn E v v
  | step {v u w : Int} (h : Conn E v u) {x y : Int} (he : E u w x y) : Conn E v w
theorem Conn.trans {a b c : Int} (h : Conn E a b) (k : Conn E b c) : Conn E a c := by
  induction k with
  | refl => exact h
  | step _ he ih => exact .step ih he
theorem Conn.symm (hs : ∀ v u x y, E v u x y → E u v y x) {a b : Int} (h : Conn E a b) : Conn E b a := by
  induction h with
  | refl => exact .refl _
  | step _ he ih => exact (Conn.step (.refl _) (hs _ _ _ _ he)).trans ih
/-- All vertices of a tour are joined by ways. -/
theorem Tq.conn {b : Bool} {v : Int} {L : List Int} (h : Tq I E b v L) (hI : ∀ v u i, I v i → I u i → v = u) (hD : ∀ v a c x y, E a c x y → ¬ I v x ∧ ¬ I v y) : ∀ u i, i ∈ L → I u i → Conn E v u := by
  induction h with
  | nil v => intro u i hi; cases hi
  | @blk v u x y N M he hN hM ihN ihM =>
    intro q i hi hq
    rcases List.mem_cons.1 hi with rfl | hi
    · exact absurd hq (hD _ _ _ _ _ he).1
    · rcases List.mem_append.1 hi with hi | hi
      · exact (Conn.step (.refl _) he).trans (ihN q i hi hq)
      · rcases List.mem_cons.1 hi with rfl | hi
        · exact absurd hq (hD _ _ _ _ _ he).2
        · exact ihM q i hi hq
  | @own v i P Q hi hP hQ ihP ihQ =>
    intro q j hj hq
    rcases List.mem_append.1 hj with hj | hj
    · exact ihP q j hj hq
    · rcases List.mem_cons.1 hj with rfl | hj
      · rw [hI _ _ _ hi hq]; exact .refl _
      · exact ihQ q j hj hq
end
end Go.Proofs.YtcbgeahcnjamdabGreat
/-! Layer 7 (tour), plain: sequences that are turned, spliced and unspliced. -/
namespace Go.Proofs.YtcbgeahcnjamdabGreat
open Go.RowKit
set_option linter.unusedVariables false
/-- Sequences apart from one another. -/
structure Fam (S : Int → List Int) : Prop where
  mem : ∀ i, S i ≠ [] → i ∈ S i
  same : ∀ i j, j ∈ S i → S j = S i
  nodup : ∀ i, (S i).Nodup
theorem Fam.of {w : World} {X : Hx} {F : Nat → Prop} {B : Nat} {s : Sq} (h : TsX X w F B s) : Fam s.S :=
  ⟨fun i hi => by
    cases hk : isK s.K i with
    | true => exact Tp.mem h |>.1 hk
    | false => exact absurd ((Tp.nil h).1 hk) hi, fun i j hj => Tp.same h hj, fun i => Tp.nodup h i⟩
theorem nodup_idx {A B : List Int} {i : Int} (h : (A ++ i :: B).Nodup) : (A ++ i :: B).idxOf i = A.length := by
  have hn : i ∉ A := fun hi => by
    have := (List.nodup_append.1 h).2.2 i hi i (by simp)
    exact this rfl
  rw [List.idxOf_append, if_neg hn]
  simp
/-- What a cut makes: A | i B. -/
theorem cutS_eq {S : Int → List Int} {i : Int} {A B : List Int} (hF : Fam S) (hS : S i = A ++ i :: B) : cutS S i = fun j => if j ∈ A then A else if j ∈ i :: B then i :: B else S j := by
  have hn : (A ++ i :: B).Nodup := by rw [← hS]; exact hF.nodup i
  unfold cutS
  rw [hS, nodup_idx hn]
  simp
/-- What a join makes. -/
theorem joinS_eq {S : Int → List Int} {i j : Int} (hi : i ∈ S i) (hj : j ∈ S j) (hn : j ∉ S i) : joinS S i j = fun k => if k ∈ S i ∨ k ∈ S j then S i ++ S j else S k := by
  unfold joinS
  rw [if_pos]
  unfold joinB
  simp [hi, hj, hn]
theorem joinS_no {S : Int → List Int} {i j : Int} (hn : j ∈ S i) : joinS S i j = S := by
  unfold joinS
  rw [if_neg]
  unfold joinB
  simp [hn]
/-- L in the place of what the lists A hold. -/
def putS (S : Int → List Int) (A L : List Int) : Int → List Int := fun j => if j ∈ A then L else S j
theorem putS_in {S : Int → List Int} {A L : List Int} {j : Int} (h : j ∈ A) : putS S A L j = L := if_pos h
theorem putS_out {S : Int → List Int} {A L : List Int} {j : Int} (h : j ∉ A) : putS S A L j = S j := if_neg h
/-- A sequence that is replaced by another one of the same items. -/
theorem Fam.put {S : Int → List Int} (hF : Fam S) {i : Int} {L : List Int} (hL : L.Perm (S i)) : Fam (putS S L L) := by
  have hmem : ∀ j, j ∈ L ↔ j ∈ S i := fun j => hL.mem_iff
  refine ⟨fun j hj => ?_, fun j k hk => ?_, fun j => ?_⟩
  · by_cases h : j ∈ L
    · rw [putS_in h]; exact h
    · rw [putS_out h] at hj ⊢; exact hF.mem j hj
  · by_cases h : j ∈ L
    · rw [putS_in h] at hk
      rw [putS_in h, putS_in hk]
    · rw [putS_out h] at hk
      rw [putS_out h]
      have hkn : k ∉ L := fun hk' => by
        have e1 := hF.same i k ((hmem k).1 hk')
        have e2 := hF.same j k hk
        have hj : j ∈ S j := hF.mem j (fun e => by rw [e] at hk; cases hk)
        exact h ((hmem j).2 (by rw [← e1, e2]; exact hj))
      rw [putS_out hkn, hF.same j k hk]
  · by_cases h : j ∈ L
    · rw [putS_in h]; exact hL.nodup_iff.2 (hF.nodup i)
    · rw [putS_out h]; exact hF.nodup j
/-- A sequence turned to begin at i. -/
theorem turn_eq {s : Sq} {i : Int} {A B : List Int} (hF : Fam s.S) (hS : s.S i = A ++ i :: B) : (s.turn i).S = putS s.S (i :: B ++ A) (i :: B ++ A) := by
  have hn : (A ++ i :: B).Nodup := by rw [← hS]; exact hF.nodup i
  have hc := cutS_eq hF hS
  have hiA : i ∉ A := fun h => (List.nodup_append.1 hn).2.2 i h i (by simp) rfl
  show joinS (cutS s.S i) i ((s.S i).headD 0) = _
  have ej : ∀ j, cutS s.S i j = if j ∈ A then A else if j ∈ i :: B then i :: B else s.S j := fun j => congrFun hc j
  have e1 : cutS s.S i i = i :: B := by rw [ej, if_neg hiA, if_pos (by simp)]
  generalize cutS s.S i = S1 at *
  cases A with
  | nil =>
    have hh : (s.S i).headD 0 = i := by rw [hS]; rfl
    rw [hh, joinS_no (by rw [e1]; simp)]
    funext j
    rw [ej]
    unfold putS
    simp
  | cons a A' =>
    have hh : (s.S i).headD 0 = a := by rw [hS]; rfl
    have e2 : S1 a = a :: A' := by rw [ej, if_pos (by simp)]
    have haB : a ∉ i :: B := fun h => (List.nodup_append.1 hn).2.2 a (by simp) a h rfl
    rw [hh, joinS_eq (by rw [e1]; simp) (by rw [e2]; simp) (by rw [e1]; exact haB), e1, e2]
    funext j
    unfold putS
    by_cases h1 : j ∈ i :: B
    · rw [if_pos (.inl h1), if_pos (List.mem_append.2 (.inl h1))]
    · by_cases h2 : j ∈ a :: A'
      · rw [if_pos (.inr h2), if_pos (List.mem_append.2 (.inr h2))]
      · rw [if_neg (by rintro (h | h); exact h1 h; exact h2 h), if_neg (fun h => (List.mem_append.1 h).elim h1 h2), ej, if_neg h2, if_neg h1]
/-- An item's sequence, parted at it. -/
theorem Fam.at {S : Int → List Int} (hF : Fam S) {i : Int} (hi : i ∈ S i) : ∃ A B, S i = A ++ i :: B := by
  obtain ⟨A, B, e⟩ := List.append_of_mem hi
  exact ⟨A, B, e⟩
theorem Fam.turned {s : Sq} (hF : Fam s.S) {i : Int} {A B : List Int} (hS : s.S i = A ++ i :: B) : Fam (s.turn i).S ∧ (∀ j, j ∉ s.S i → (s.turn i).S j = s.S j) ∧ (∀ j, j ∈ s.S i → (s.turn i).S j = i :: B ++ A) := by
  rw [turn_eq hF hS]
  have hp : (i :: B ++ A).Perm (s.S i) := by rw [hS]; exact List.perm_append_comm
  exact ⟨hF.put hp, fun j hj => putS_out (fun h => hj (hp.mem_iff.1 h)), fun j hj => putS_in (hp.mem_iff.2 hj)⟩
/-- Two sequences that are joined. -/
theorem Fam.joined {S : Int → List Int} (hF : Fam S) {i j : Int} (hi : i ∈ S i) (hj : j ∈ S j) (hn : j ∉ S i) : Fam (joinS S i j) ∧ (∀ k, k ∉ S i → k ∉ S j → joinS S i j k = S k) ∧ (∀ k, k ∈ S i ∨ k ∈ S j → joinS S i j k = S i ++ S j) := by
  have he := joinS_eq hi hj hn
  have hin : ∀ k, k ∈ S i ∨ k ∈ S j → joinS S i j k = S i ++ S j := fun k hk => by rw [he]; exact if_pos hk
  have hout : ∀ k, ¬ (k ∈ S i ∨ k ∈ S j) → joinS S i j k = S k := fun k hk => by rw [he]; exact if_neg hk
  have hdis : ∀ k, k ∈ S i → k ∈ S j → False := fun k h1 h2 => hn (by rw [← hF.same i k h1, hF.same j k h2]; exact hj)
  refine ⟨⟨fun k hk => ?_, fun k l hl => ?_, fun k => ?_⟩, fun k h1 h2 => hout k (by rintro (h | h); exact h1 h; exact h2 h), hin⟩
  · by_cases h : k ∈ S i ∨ k ∈ S j
    · rw [hin k h]; exact List.mem_append.2 h
    · rw [hout k h] at hk ⊢; exact hF.mem k hk
  · by_cases h : k ∈ S i ∨ k ∈ S j
    · rw [hin k h] at hl
      rw [hin k h, hin l (List.mem_append.1 hl)]
    · rw [hout k h] at hl
      have hk : k ∈ S k := hF.mem k (fun e => by rw [e] at hl; cases hl)
      have hl' : ¬ (l ∈ S i ∨ l ∈ S j) := by
        rintro (h1 | h1)
        · exact h (.inl (by rw [← hF.same i l h1, hF.same k l hl]; exact hk))
        · exact h (.inr (by rw [← hF.same j l h1, hF.same k l hl]; exact hk))
      rw [hout k h, hout l hl', hF.same k l hl]
  · by_cases h : k ∈ S i ∨ k ∈ S j
    · rw [hin k h]
      exact List.nodup_append.2 ⟨hF.nodup i, hF.nodup j, fun a ha b hb e => hdis a ha (e ▸ hb)⟩
    · rw [hout k h]; exact hF.nodup k
/-- A sequence that is cut. -/
theorem Fam.parted {S : Int → List Int} (hF : Fam S) {i : Int} {A B : List Int} (hS : S i = A ++ i :: B) : Fam (cutS S i) ∧ (∀ k, k ∉ S i → cutS S i k = S k) ∧ (∀ k, k ∈ A → cutS S i k = A) ∧ (∀ k, k ∈ i :: B → cutS S i k = i :: B) := by
  have hn : (A ++ i :: B).Nodup := by rw [← hS]; exact hF.nodup i
  have ej : ∀ j, cutS S i j = if j ∈ A then A else if j ∈ i :: B then i :: B else S j := fun j => congrFun (cutS_eq hF hS) j
  have hAB : ∀ k, k ∈ A → k ∉ i :: B := fun k h1 h2 => (List.nodup_append.1 hn).2.2 k h1 k h2 rfl
  have hA : ∀ k, k ∈ A → cutS S i k = A := fun k hk => by rw [ej, if_pos hk]
  have hB : ∀ k, k ∈ i :: B → cutS S i k = i :: B := fun k hk => by rw [ej, if_neg (fun h => hAB k h hk), if_pos hk]
  have hO : ∀ k, k ∉ S i → cutS S i k = S k := fun k hk => by
    rw [hS] at hk
    rw [ej, if_neg (fun h => hk (List.mem_append.2 (.inl h))), if_neg (fun h => hk (List.mem_append.2 (.inr h)))]
  have three : ∀ k, k ∈ A ∨ k ∈ i :: B ∨ k ∉ S i := fun k => by
    by_cases h1 : k ∈ A
    · exact .inl h1
    · by_cases h2 : k ∈ i :: B
      · exact .inr (.inl h2)
      · exact .inr (.inr (by rw [hS]; exact fun h => (List.mem_append.1 h).elim h1 h2))
  refine ⟨⟨fun k hk => ?_, fun k l hl => ?_, fun k => ?_⟩, hO, hA, hB⟩
  · rcases three k with h | h | h
    · rw [hA k h]; exact h
    · rw [hB k h]; exact h
    · rw [hO k h] at hk ⊢; exact hF.mem k hk
  · rcases three k with h | h | h
    · rw [hA k h] at hl; rw [hA k h, hA l hl]
    · rw [hB k h] at hl; rw [hB k h, hB l hl]
    · rw [hO k h] at hl
      have hk : k ∈ S k := hF.mem k (fun e => by rw [e] at hl; cases hl)
      have hl' : l ∉ S i := fun h' => h (by rw [← hF.same i l h', hF.same k l hl]; exact hk)
      rw [hO k h, hO l hl', hF.same k l hl]
  · rcases three k with h | h | h
    · rw [hA k h]; exact (List.nodup_append.1 hn).1
    · rw [hB k h]; exact (List.nodup_append.1 hn).2.1
    · rw [hO k h]; exact hF.nodup k
theorem Sq.join_S (s : Sq) (i j : Int) : (s.join i j).S = joinS s.S i j := rfl
theorem Sq.cut_S (s : Sq) (i : Int) : (s.cut i).S = cutS s.S i := rfl
/-- Two tours are spliced. -/
theorem Fam.spliced {s : Sq} (hF : Fam s.S) {i j x y : Int} {A B C D : List Int} (hi : s.S i = A ++ i :: B) (hj : s.S j = C ++ j :: D) (hx : s.S x = [x]) (hy : s.S y = [y]) (hij : j ∉ s.S i) (hxi : x ∉ s.S i) (hxj : x ∉ s.S j) (hyi : y ∉ s.S i) (hyj : y ∉ s.S j) (hxy : x ≠ y) :
    Fam (s.splice i j x y).S ∧ (∀ k, k ∈ (i :: B ++ A) ++ x :: ((j :: D ++ C) ++ [y]) → (s.splice i j x y).S k = (i :: B ++ A) ++ x :: ((j :: D ++ C) ++ [y])) ∧ (∀ k, k ∉ (i :: B ++ A) ++ x :: ((j :: D ++ C) ++ [y]) → (s.splice i j x y).S k = s.S k) := by
  have hii : i ∈ s.S i := by rw [hi]; simp
  have hjj : j ∈ s.S j := by rw [hj]; simp
  have m1 : ∀ k, k ∈ i :: B ++ A ↔ k ∈ s.S i := fun k => by rw [hi]; exact List.perm_append_comm.mem_iff
  have m2 : ∀ k, k ∈ j :: D ++ C ↔ k ∈ s.S j := fun k => by rw [hj]; exact List.perm_append_comm.mem_iff
  have hji : i ∉ s.S j := fun h => hij (by rw [← hF.same j i h] at hjj; exact hjj)
  obtain ⟨F1, o1, n1⟩ := hF.turned hi
  have hj1 : (s.turn i).S j = C ++ j :: D := by rw [o1 j hij]; exact hj
  obtain ⟨F2, o2, n2⟩ := F1.turned hj1
  have sj1 : (s.turn i).S j = s.S j := o1 j hij
  -- behind both turns
  have e2i : ((s.turn i).turn j).S i = i :: B ++ A := by rw [o2 i (by rw [sj1]; exact hji), n1 i hii]
  have e2j : ((s.turn i).turn j).S j = j :: D ++ C := n2 j (by rw [sj1]; exact hjj)
  have e2x : ((s.turn i).turn j).S x = [x] := by rw [o2 x (by rw [sj1]; exact hxj), o1 x hxi, hx]
  have e2y : ((s.turn i).turn j).S y = [y] := by rw [o2 y (by rw [sj1]; exact hyj), o1 y hyi, hy]
  have e2o : ∀ k, k ∉ s.S i → k ∉ s.S j → ((s.turn i).turn j).S k = s.S k := fun k h1 h2 => by rw [o2 k (by rw [sj1]; exact h2), o1 k h1]
  obtain ⟨S2, hS2⟩ : ∃ S2, S2 = ((s.turn i).turn j).S := ⟨_, rfl⟩
  rw [← hS2] at F2 e2i e2j e2x e2y e2o
  have eS : (s.splice i j x y).S = joinS (joinS (joinS S2 i x) i j) i y := by unfold Sq.splice; rw [Sq.join_S, Sq.join_S, Sq.join_S, hS2]
  rw [eS]
  clear eS hS2 o1 n1 o2 n2 hj1 sj1 F1
  obtain ⟨F3, o3, n3⟩ := F2.joined (i := i) (j := x) (by rw [e2i]; simp) (by rw [e2x]; simp) (by rw [e2i]; exact fun h => hxi ((m1 x).1 h))
  rw [e2i, e2x] at o3 n3
  have a3i := n3 i (.inl (by simp))
  have a3j : joinS S2 i x j = j :: D ++ C := by rw [o3 j (fun h => hij ((m1 j).1 h)) (by simp; exact fun e => hxj (e ▸ hjj))]; exact e2j
  have a3y : joinS S2 i x y = [y] := by rw [o3 y (fun h => hyi ((m1 y).1 h)) (by simp; exact Ne.symm hxy)]; exact e2y
  generalize joinS S2 i x = S3 at *
  obtain ⟨F4, o4, n4⟩ := F3.joined (i := i) (j := j) (by rw [a3i]; simp) (by rw [a3j]; simp) (by
    rw [a3i]
    intro h
    rcases List.mem_append.1 h with h | h
    · exact hij ((m1 j).1 h)
    · simp at h; exact hxj (h ▸ hjj))
  rw [a3i, a3j] at o4 n4
  have a4i := n4 i (.inl (by simp))
  have a4y : joinS S3 i j y = [y] := by
    rw [o4 y (fun h => ?_) (fun h => hyj ((m2 y).1 h))]
    · exact a3y
    · rcases List.mem_append.1 h with h | h
      · exact hyi ((m1 y).1 h)
      · simp at h; exact hxy h.symm
  generalize joinS S3 i j = S4 at *
  obtain ⟨F5, o5, n5⟩ := F4.joined (i := i) (j := y) (by rw [a4i]; simp) (by rw [a4y]; simp) (by
    rw [a4i]
    intro h
    rcases List.mem_append.1 h with h | h
    · rcases List.mem_append.1 h with h | h
      · exact hyi ((m1 y).1 h)
      · simp at h; exact hxy h.symm
    · exact hyj ((m2 y).1 h))
  rw [a4i, a4y] at o5 n5
  have eL : (i :: B ++ A ++ [x] ++ (j :: D ++ C)) ++ [y] = (i :: B ++ A) ++ x :: ((j :: D ++ C) ++ [y]) := by simp
  refine ⟨F5, fun k hk => ?_, fun k hk => ?_⟩
  · rw [← eL] at hk ⊢
    exact n5 k (List.mem_append.1 hk)
  · rw [← eL] at hk
    have h1 : k ∉ i :: B ++ A ++ [x] ++ (j :: D ++ C) := fun h => hk (List.mem_append.2 (.inl h))
    have h2 : k ∉ [y] := fun h => hk (List.mem_append.2 (.inr h))
    have h3 : k ∉ i :: B ++ A ++ [x] := fun h => h1 (List.mem_append.2 (.inl h))
    have h4 : k ∉ j :: D ++ C := fun h => h1 (List.mem_append.2 (.inr h))
    have h5 : k ∉ i :: B ++ A := fun h => h3 (List.mem_append.2 (.inl h))
    have h6 : k ∉ [x] := fun h => h3 (List.mem_append.2 (.inr h))
    rw [o5 k h1 h2, o4 k h3 h4, o3 k h5 h6]
    exact e2o k (fun h => h5 ((m1 k).2 h)) (fun h => h4 ((m2 k).2 h))
theorem nxS_two {x n : Int} {l : List Int} : nxS (x :: n :: l) x = n := by
  unfold nxS
  rw [if_pos (by simp)]
  simp
/-- A tour is unspliced. -/
theorem Fam.unspliced {s : Sq} (hF : Fam s.S) {x y n m : Int} {A R N M : List Int} (hx : s.S x = A ++ x :: R) (hR : R ++ A = (n :: N) ++ y :: m :: M) :
    Fam (s.unsplice x y).S ∧ (s.unsplice x y).S x = [x] ∧ (s.unsplice x y).S y = [y] ∧ (∀ k, k ∈ n :: N → (s.unsplice x y).S k = n :: N) ∧ (∀ k, k ∈ m :: M → (s.unsplice x y).S k = m :: M) ∧ (∀ k, k ∉ s.S x → (s.unsplice x y).S k = s.S k) := by
  have hxx : x ∈ s.S x := by rw [hx]; simp
  obtain ⟨F1, o1, n1⟩ := hF.turned hx
  have eR : x :: R ++ A = (x :: n :: N) ++ y :: (m :: M) := by rw [List.cons_append, hR]; rfl
  have hp : ∀ k, k ∈ (x :: n :: N) ++ y :: (m :: M) ↔ k ∈ s.S x := fun k => by rw [← eR, hx]; exact List.perm_append_comm.mem_iff
  rw [eR] at n1
  have hnd : ((x :: n :: N) ++ y :: (m :: M)).Nodup := by rw [← n1 x hxx]; exact F1.nodup x
  have e1y : (s.turn x).S y = (x :: n :: N) ++ y :: (m :: M) := n1 y ((hp y).1 (by simp))
  have hdis : ∀ k, k ∈ x :: n :: N → k ∉ y :: (m :: M) := fun k h1 h2 => (List.nodup_append.1 hnd).2.2 k h1 k h2 rfl
  obtain ⟨F2, o2, p2, q2⟩ := F1.parted e1y
  rw [e1y] at o2
  have eU2 : (s.uns2 x y).S = cutS (s.turn x).S y := by unfold Sq.uns2; rw [Sq.cut_S]
  rw [← eU2] at F2 o2 p2 q2
  have o2' : ∀ k, k ∉ s.S x → (s.uns2 x y).S k = s.S k := fun k hk => by rw [o2 k (fun h => hk ((hp k).1 h)), o1 k hk]
  have e2x : (s.uns2 x y).S x = x :: n :: N := p2 x (by simp)
  have e2n : (s.uns2 x y).S n = [x] ++ n :: N := p2 n (by simp)
  have eU3 : (s.uns3 x y).S = cutS (s.uns2 x y).S n := by unfold Sq.uns3; rw [Sq.cut_S, e2x, nxS_two]
  obtain ⟨F3, o3, p3, q3⟩ := F2.parted e2n
  rw [← eU3] at F3 o3 p3 q3
  rw [e2n] at o3
  have e3y : (s.uns3 x y).S y = y :: m :: M := by rw [o3 y (fun h => hdis y h (by simp)), q2 y (by simp)]
  have e3m : (s.uns3 x y).S m = [y] ++ m :: M := by rw [o3 m (fun h => hdis m h (by simp)), q2 m (by simp)]; rfl
  have eU4 : (s.unsplice x y).S = cutS (s.uns3 x y).S m := by unfold Sq.unsplice; rw [Sq.cut_S, e3y, nxS_two]
  obtain ⟨F4, o4, p4, q4⟩ := F3.parted e3m
  rw [← eU4] at F4 o4 p4 q4
  rw [e3m] at o4
  have k1 : ∀ k, k ∈ x :: n :: N → k ∉ [y] ++ m :: M := fun k h1 h2 => hdis k h1 (by simpa using h2)
  refine ⟨F4, ?_, p4 y (by simp), fun k hk => ?_, fun k hk => q4 k hk, fun k hk => ?_⟩
  · rw [o4 x (k1 x (by simp)), p3 x (by simp)]
  · rw [o4 k (k1 k (by simp at hk ⊢; exact .inr hk)), q3 k hk]
  · have hk' : k ∉ (x :: n :: N) ++ y :: (m :: M) := fun h => hk ((hp k).1 h)
    rw [o4 k (fun h => hk' (List.mem_append.2 (.inr (by simpa using h)))), o3 k (fun h => hk' (List.mem_append.2 (.inl (by simpa using h)))), o2' k hk]
end Go.Proofs.YtcbgeahcnjamdabGreat
/-! Layer 7 (tour), plain: the tours of a forest are those of its trees, whatever is done. -/
namespace Go.Proofs.YtcbgeahcnjamdabGreat
open Go.RowKit
set_option linter.unusedVariables false
/-- Vertex v has the item i. -/
def tI (t : To) (v i : Int) : Prop := isA t.v v = true ∧ t.item v = i
/-- An edge between v and u: x leads to u, y back. -/
def tE (t : To) (v u x y : Int) : Prop := ∃ n, isA t.e n = true ∧ (((t.edge n).a = v ∧ (t.edge n).b = u ∧ (t.edge n).x = x ∧ (t.edge n).y = y) ∨ ((t.edge n).b = v ∧ (t.edge n).a = u ∧ (t.edge n).y = x ∧ (t.edge n).x = y))
theorem tE_symm (t : To) : ∀ v u x y, tE t v u x y → tE t u v y x := fun v u x y ⟨n, h1, h2⟩ => ⟨n, h1, h2.elim (fun ⟨a, b, c, d⟩ => .inr ⟨b, a, d, c⟩) (fun ⟨a, b, c, d⟩ => .inl ⟨b, a, d, c⟩)⟩
/-- What holds of the items, since they lie in a treap. -/
structure Tb (t : To) : Prop where
  fam : Fam t.s.S
  kS : ∀ i, isK t.s.K i = true ↔ t.s.S i ≠ []
  fk : t.s.fr.Nodup ∧ ∀ f ∈ t.s.fr, isK t.s.K f = false ∧ 1 ≤ f ∧ f ≤ t.s.K.length
theorem Tf.tb {Yh : Hx} {W : World} {F : Nat → Prop} {B G : Nat} {t : To} (h : Tf Yh W F B G t) : Tb t := by
  obtain ⟨X, Ft, hT, _⟩ := h.treap
  refine ⟨Fam.of hT, fun i => ?_, Tp.fk hT⟩
  constructor
  · intro hk e
    have := (Tp.mem hT).1 hk
    rw [e] at this
    cases this
  · intro hne
    cases hk : isK t.s.K i with
    | true => rfl
    | false => exact absurd ((Tp.nil hT).1 hk) hne
/-- A number that is taken next was not. -/
theorem newI_free {K : List Bool} {fr : List Int} (h : fr.Nodup ∧ ∀ f ∈ fr, isK K f = false ∧ 1 ≤ f ∧ f ≤ K.length) : isK K (newI K fr) = false := by
  rcases List.eq_nil_or_concat fr with rfl | ⟨fr', f, rfl⟩
  · show isK K ((K.length : Int) + 1) = false
    unfold isK
    rw [List.getD_eq_getElem?_getD, List.getElem?_eq_none (by omega)]
    simp
  · rw [List.concat_eq_append] at h ⊢
    unfold newI
    rw [List.getLast?_concat]
    exact (h.2 f (by simp)).1
/-- Free numbers of an arena are not taken. -/
def Frk {α : Type} (L : List (α × Bool)) (fr : List Int) : Prop := fr.Nodup ∧ ∀ f ∈ fr, isA L f = false ∧ 1 ≤ f ∧ f ≤ L.length
theorem Frk.new {α : Type} {L : List (α × Bool)} {fr : List Int} (h : Frk L fr) : isA L (tkI L fr) = false := by
  rcases List.eq_nil_or_concat fr with rfl | ⟨fr', f, rfl⟩
  · rw [tkI_nil]
    unfold isA
    rw [List.getElem?_eq_none (by omega)]
    simp
  · rw [List.concat_eq_append] at h ⊢
    rw [tkI_snoc]
    exact (h.2 f (by simp)).1
theorem Frk.rng {α : Type} {L : List (α × Bool)} {fr : List Int} (h : Frk L fr) : ∀ f ∈ fr, 1 ≤ f ∧ f ≤ L.length := fun f hf => (h.2 f hf).2
theorem Frk.take {α : Type} {L : List (α × Bool)} {fr : List Int} (h : Frk L fr) (x : α) : Frk (tkL L fr x) fr.dropLast := by
  refine ⟨h.1.sublist (List.dropLast_sublist fr), fun f hf => ?_⟩
  obtain ⟨h1, h2, h3⟩ := h.2 f (mem_dropLast hf)
  have hl := tkL_len' (L := L) (fr := fr) x
  refine ⟨?_, h2, by omega⟩
  rw [isA_tkL h.rng]
  rw [if_neg]
  · exact h1
  · intro e
    rcases List.eq_nil_or_concat fr with rfl | ⟨fr', g, rfl⟩
    · cases hf
    · rw [List.concat_eq_append] at e hf h
      rw [tkI_snoc] at e
      rw [List.dropLast_concat] at hf
      subst e
      exact (List.nodup_append.1 h.1).2.2 f hf f (by simp) rfl
theorem Frk.free {α : Type} {L : List (α × Bool)} {fr : List Int} (h : Frk L fr) (z : α) {i : Int} (hi : isA L i = true) : Frk (frL z L i) (fr ++ [i]) := by
  have hb := isA_bd hi
  refine ⟨List.nodup_append.2 ⟨h.1, by simp, fun a ha b hb' e => ?_⟩, fun f hf => ?_⟩
  · simp at hb'
    subst hb' e
    rw [(h.2 a ha).1] at hi
    cases hi
  · rw [isA_frL z hi, frL_len]
    rcases List.mem_append.1 hf with h1 | h1
    · obtain ⟨h2, h3⟩ := h.2 f h1
      refine ⟨?_, h3⟩
      split
      · rfl
      · exact h2
    · simp at h1
      subst h1
      exact ⟨if_pos rfl, hb⟩
/-- The tours are those of the trees. -/
structure Eu (t : To) : Prop where
  tq : ∀ i, t.s.S i ≠ [] → ∃ v, Tq (tI t) (tE t) true v (t.s.S i)
  iv : ∀ v, isA t.v v = true → t.s.S (t.item v) ≠ [] ∧ t.p (t.item v) = (v, 0) ∧ (t.s.V (t.item v)).c = 1
  ev : ∀ n, isA t.e n = true → t.s.S (t.edge n).x ≠ [] ∧ t.s.S (t.edge n).y ≠ [] ∧ t.p (t.edge n).x = (0, n) ∧ t.p (t.edge n).y = (0, n) ∧ (t.edge n).x ≠ (t.edge n).y ∧ ((t.s.V (t.edge n).x).c = 0 ∧ (t.s.V (t.edge n).x).s = 0 ∧ (t.s.V (t.edge n).x).l = 4611686018427387904) ∧ ((t.s.V (t.edge n).y).c = 0 ∧ (t.s.V (t.edge n).y).s = 0 ∧ (t.s.V (t.edge n).y).l = 4611686018427387904)
  vk : Frk t.v t.fv
  ek : Frk t.e t.fe
theorem to0_eu : Eu to0 := ⟨fun i hi => absurd rfl hi, fun v hv => (by simp [isA, to0] at hv), fun n hn => (by simp [isA, to0] at hn), ⟨List.nodup_nil, fun f hf => (by cases hf)⟩, ⟨List.nodup_nil, fun f hf => (by cases hf)⟩⟩
/-- A vertex more. -/
theorem Eu.addV {t : To} (hB : Tb t) (h : Eu t) (a b : Int) : Eu (t.addV a b) := by
  obtain ⟨i, hi⟩ : ∃ i, i = newI t.s.K t.s.fr := ⟨_, rfl⟩
  obtain ⟨v', hv'⟩ : ∃ v', v' = tkI t.v t.fv := ⟨_, rfl⟩
  have hfree : t.s.S i = [] := by
    have := newI_free hB.fk
    rw [← hi] at this
    cases hS : t.s.S i with
    | nil => rfl
    | cons c l => have h2 := (hB.kS i).2 (by rw [hS]; simp); rw [this] at h2; cases h2
  have hvf : isA t.v v' = false := by rw [hv']; exact h.vk.new
  have hvb := tkI_bd h.vk.rng
  rw [← hv'] at hvb
  have eS : (t.addV a b).s.S = makeS t.s.S i := by rw [hi]; rfl
  have eV : (t.addV a b).s.V = updV t.s.V i ⟨1, a, b, 0⟩ := by rw [hi]; rfl
  have ep : (t.addV a b).p = updP t.p i (v', 0) := by rw [hi, hv']; rfl
  have ev : (t.addV a b).v = tkL t.v t.fv i := by rw [hi]; rfl
  have ee : (t.addV a b).e = t.e := rfl
  have isa : ∀ u, isA (t.addV a b).v u = if u = v' then true else isA t.v u := fun u => by rw [ev, isA_tkL h.vk.rng, hv']
  have it : ∀ u, isA (t.addV a b).v u = true → (t.addV a b).item u = if u = v' then i else t.item u := fun u hu => by
    have hub := isA_bd hu
    rw [To.item_yes hu, ev, atA_tkL h.vk.rng 0 i hub.1, ← hv']
    split
    · rfl
    · rename_i hne
      rw [isa, if_neg hne] at hu
      rw [To.item_yes hu]
  have old : ∀ u, isA t.v u = true → u ≠ v' ∧ isA (t.addV a b).v u = true ∧ (t.addV a b).item u = t.item u := fun u hu => by
    have hne : u ≠ v' := fun e => by rw [e, hvf] at hu; cases hu
    have h1 : isA (t.addV a b).v u = true := by rw [isa, if_neg hne]; exact hu
    exact ⟨hne, h1, by rw [it u h1, if_neg hne]⟩
  have hne : ∀ j, t.s.S j ≠ [] → j ≠ i := fun j hj e => hj (e ▸ hfree)
  have hS : ∀ j, j ≠ i → (t.addV a b).s.S j = t.s.S j := fun j hj => by rw [eS]; exact if_neg hj
  have hSi : (t.addV a b).s.S i = [i] := by rw [eS]; exact if_pos rfl
  refine ⟨fun j hj => ?_, fun u hu => ?_, fun n hn => ?_, ?_, h.ek⟩
  · by_cases e : j = i
    · subst e
      rw [hSi]
      have h1 : isA (t.addV a b).v v' = true := by rw [isa, if_pos rfl]
      exact ⟨v', Tq.own (P := []) (Q := []) ⟨h1, by rw [it v' h1, if_pos rfl]⟩ (.nil _) (.nil _)⟩
    · rw [hS j e] at hj ⊢
      obtain ⟨v, hq⟩ := h.tq j hj
      exact ⟨v, hq.mono (fun u k hk _ => by obtain ⟨h1, h2⟩ := hk; obtain ⟨_, h3, h4⟩ := old u h1; exact ⟨h3, h4.trans h2⟩) (fun _ _ _ _ hk _ _ => hk)⟩
  · rw [it u hu, eV, ep]
    by_cases e : u = v'
    · rw [if_pos e, hSi, e]
      exact ⟨by simp, if_pos rfl, by unfold updV; rw [if_pos rfl]⟩
    · rw [if_neg e]
      rw [isa, if_neg e] at hu
      obtain ⟨h1, h2, h3⟩ := h.iv u hu
      have hn := hne _ h1
      exact ⟨by rw [hS _ hn]; exact h1, by unfold updP; rw [if_neg hn]; exact h2, by unfold updV; rw [if_neg hn]; exact h3⟩
  · have hn' : isA t.e n = true := hn
    obtain ⟨h1, h2, h3, h4, h5, h6, h7⟩ := h.ev n hn'
    have e1 : (t.addV a b).edge n = t.edge n := rfl
    rw [e1, eV, ep, hS _ (hne _ h1), hS _ (hne _ h2)]
    exact ⟨h1, h2, by unfold updP; rw [if_neg (hne _ h1)]; exact h3, by unfold updP; rw [if_neg (hne _ h2)]; exact h4, h5, by unfold updV; rw [if_neg (hne _ h1)]; exact h6, by unfold updV; rw [if_neg (hne _ h2)]; exact h7⟩
  · rw [ev]; exact h.vk.take i
theorem Fam.make {S : Int → List Int} (hF : Fam S) {i : Int} (hi : S i = []) : Fam (makeS S i) := by
  have hin : makeS S i i = [i] := if_pos rfl
  have hout : ∀ j, j ≠ i → makeS S i j = S j := fun j hj => if_neg hj
  have hno : ∀ j, i ∉ S j := fun j h => by
    have h1 := hF.same j i h
    rw [hi] at h1
    rw [← h1] at h
    cases h
  refine ⟨fun j hj => ?_, fun j k hk => ?_, fun j => ?_⟩
  · by_cases e : j = i
    · rw [e, hin]; simp
    · rw [hout j e] at hj ⊢; exact hF.mem j hj
  · by_cases e : j = i
    · rw [e, hin] at hk; simp at hk; rw [hk, e]
    · rw [hout j e] at hk
      have hki : k ≠ i := fun e' => hno j (e' ▸ hk)
      rw [hout j e, hout k hki]; exact hF.same j k hk
  · by_cases e : j = i
    · rw [e, hin]; simp
    · rw [hout j e]; exact hF.nodup j
/-- An item tells its vertex, its edge. -/
theorem Eu.one {t : To} (h : Eu t) {v u i : Int} (h1 : tI t v i) (h2 : tI t u i) : v = u := by
  have e1 := (h.iv v h1.1).2.1
  have e2 := (h.iv u h2.1).2.1
  rw [h1.2] at e1
  rw [h2.2, e1] at e2
  exact congrArg Prod.fst e2
theorem Eu.apart {t : To} (h : Eu t) {v a c x y : Int} (hE : tE t a c x y) : ¬ tI t v x ∧ ¬ tI t v y := by
  obtain ⟨n, hn, hc⟩ := hE
  obtain ⟨_, _, p1, p2, _⟩ := h.ev n hn
  have key : ∀ q, t.p q = (0, n) → ¬ tI t v q := fun q hq hv => by
    have e1 := (h.iv v hv.1).2.1
    have hb := isA_bd hv.1
    rw [hv.2, hq] at e1
    have := congrArg Prod.fst e1
    simp only at this
    omega
  rcases hc with ⟨_, _, rfl, rfl⟩ | ⟨_, _, rfl, rfl⟩
  · exact ⟨key _ p1, key _ p2⟩
  · exact ⟨key _ p2, key _ p1⟩
/-- A tour that begins at a vertex. -/
theorem Eu.begins {t : To} (h : Eu t) {a u : Int} {R : List Int} (ha : isA t.v a = true) (hq : Tq (tI t) (tE t) true u (t.item a :: R)) : Tq (tI t) (tE t) false a R := by
  obtain ⟨i, P, Q, hi, hP, hQ, e⟩ := hq.opened
  cases P with
  | nil =>
    injection e with e1 e2
    have : u = a := h.one (i := t.item a) (e1 ▸ hi) ⟨ha, rfl⟩
    rw [← this, e2]; exact hQ
  | cons z P' =>
    injection e with e1 e2
    obtain ⟨c, y, N, M, he, _⟩ := hP.first
    exact absurd ⟨ha, e1⟩ (h.apart (v := a) he).1
/-- An edge more. -/
theorem Eu.link {t : To} (hB : Tb t) (h : Eu t) {a b : Int} (ha : isA t.v a = true) (hb : isA t.v b = true) (hn : t.same a b = false) : Eu (t.link a b) ∧ ∃ R R', t.s.S (t.item a) ≠ [] ∧ (∀ k, k ∈ t.item a :: R ↔ k ∈ t.s.S (t.item a)) ∧ (∀ k, k ∈ t.item b :: R' ↔ k ∈ t.s.S (t.item b)) ∧ (∀ k, k ∈ (t.item a :: R) ++ t.newX :: ((t.item b :: R') ++ [t.newY]) → (t.link a b).s.S k = (t.item a :: R) ++ t.newX :: ((t.item b :: R') ++ [t.newY])) ∧ (∀ k, k ∉ (t.item a :: R) ++ t.newX :: ((t.item b :: R') ++ [t.newY]) → (t.link a b).s.S k = t.s.S k) := by
  obtain ⟨i, hi⟩ : ∃ i, i = t.item a := ⟨_, rfl⟩
  obtain ⟨j, hj⟩ : ∃ j, j = t.item b := ⟨_, rfl⟩
  obtain ⟨x, hx⟩ : ∃ x, x = t.newX := ⟨_, rfl⟩
  obtain ⟨y, hy⟩ : ∃ y, y = t.newY := ⟨_, rfl⟩
  obtain ⟨n', hn'⟩ : ∃ n', n' = t.newE := ⟨_, rfl⟩
  have hFk : Fk t.s.K t.s.fr := hB.fk
  have empty : ∀ k, isK t.s.K k = false → t.s.S k = [] := fun k hk => by
    cases hS : t.s.S k with
    | nil => rfl
    | cons c l => have h2 := (hB.kS k).2 (by rw [hS]; simp); rw [hk] at h2; cases h2
  have hxK : isK t.s.K x = false := by rw [hx]; exact (newI_bd hFk).2.2
  have hFk1 : Fk (t.s.make noneV).K (t.s.make noneV).fr := hFk.new
  have hyK1 : isK (t.s.make noneV).K y = false := by rw [hy]; exact (newI_bd hFk1).2.2
  have hyx : y ≠ x ∧ isK t.s.K y = false := by
    have e1 : isK (newK t.s.K t.s.fr) y = if y = newI t.s.K t.s.fr then true else isK t.s.K y := isK_new hFk y
    have e2 : isK (newK t.s.K t.s.fr) y = false := hyK1
    rw [e2] at e1
    have e3 : newI t.s.K t.s.fr = x := hx.symm
    rw [e3] at e1
    split at e1
    · cases e1
    · rename_i hne; exact ⟨hne, e1.symm⟩
  have hSx : t.s.S x = [] := empty x hxK
  have hSy : t.s.S y = [] := empty y hyx.2
  obtain ⟨s1, hs1⟩ : ∃ s1, s1 = (t.s.make noneV).make noneV := ⟨_, rfl⟩
  have eS1 : s1.S = makeS (makeS t.s.S x) y := by rw [hs1, hx, hy]; rfl
  have eV1 : s1.V = updV (updV t.s.V x noneV) y noneV := by rw [hs1, hx, hy]; rfl
  have hne : ∀ k, t.s.S k ≠ [] → k ≠ x ∧ k ≠ y := fun k hk => ⟨fun e => hk (e ▸ hSx), fun e => hk (e ▸ hSy)⟩
  have hS1 : ∀ k, k ≠ x → k ≠ y → s1.S k = t.s.S k := fun k h1 h2 => by
    rw [eS1]
    show (if k = y then [y] else if k = x then [x] else t.s.S k) = _
    rw [if_neg h2, if_neg h1]
  have hS1x : s1.S x = [x] := by rw [eS1]; show (if x = y then [y] else if x = x then [x] else t.s.S x) = _; rw [if_neg (Ne.symm hyx.1), if_pos rfl]
  have hS1y : s1.S y = [y] := by rw [eS1]; exact if_pos rfl
  have F1 : Fam s1.S := by
    rw [eS1]
    refine (hB.fam.make hSx).make ?_
    show (if y = x then [x] else t.s.S y) = []
    rw [if_neg hyx.1]; exact hSy
  obtain ⟨hia, pia, _⟩ := h.iv a ha
  obtain ⟨hjb, pjb, _⟩ := h.iv b hb
  rw [← hi] at hia pia
  rw [← hj] at hjb pjb
  have hii := hB.fam.mem i hia
  have hjj := hB.fam.mem j hjb
  have hij : j ∉ t.s.S i := by
    have : decide (t.item b ∈ t.s.S (t.item a)) = false := hn
    rw [← hi, ← hj] at this
    simpa using this
  obtain ⟨A, B, eA⟩ := hB.fam.at hii
  obtain ⟨C, D, eC⟩ := hB.fam.at hjj
  have e1i : s1.S i = A ++ i :: B := by rw [hS1 i (hne i hia).1 (hne i hia).2]; exact eA
  have e1j : s1.S j = C ++ j :: D := by rw [hS1 j (hne j hjb).1 (hne j hjb).2]; exact eC
  have nin : ∀ q k, t.s.S q = [] → q ∉ t.s.S k := fun q k hq hk => by
    have := hB.fam.same k q hk
    rw [hq] at this
    rw [← this] at hk
    cases hk
  have s1i : s1.S i = t.s.S i := hS1 i (hne i hia).1 (hne i hia).2
  have s1j : s1.S j = t.s.S j := hS1 j (hne j hjb).1 (hne j hjb).2
  obtain ⟨F2, inL, outL⟩ := F1.spliced (x := x) (y := y) e1i e1j hS1x hS1y (by rw [s1i]; exact hij) (by rw [s1i]; exact nin x i hSx) (by rw [s1j]; exact nin x j hSx) (by rw [s1i]; exact nin y i hSy) (by rw [s1j]; exact nin y j hSy) (Ne.symm hyx.1)
  have eS : (t.link a b).s.S = (s1.splice i j x y).S := by rw [hs1, hi, hj, hx, hy]; rfl
  have eV : (t.link a b).s.V = s1.V := by
    have : (t.link a b).s = s1.splice i j x y := by rw [hs1, hi, hj, hx, hy]; rfl
    rw [this]; exact (Sq.splice_K s1 i j x y).2.2.1
  have ev : (t.link a b).v = t.v := rfl
  have ee : (t.link a b).e = tkL t.e t.fe ⟨a, b, x, y⟩ := by rw [hx, hy]; rfl
  have ep : (t.link a b).p = updP (updP t.p x (0, n')) y (0, n') := by rw [hx, hy, hn']; rfl
  rw [← eS] at F2 inL outL
  have hnf : isA t.e n' = false := by rw [hn']; exact h.ek.new
  have hnb := tkI_bd h.ek.rng
  have en' : tkI t.e t.fe = n' := hn'.symm
  have isE : ∀ m, isA (t.link a b).e m = if m = n' then true else isA t.e m := fun m => by rw [ee, isA_tkL h.ek.rng, en']
  have edE : ∀ m, 1 ≤ m → (t.link a b).edge m = if m = n' then ⟨a, b, x, y⟩ else t.edge m := fun m hm => by
    show atA zeE (t.link a b).e m = _
    rw [ee, atA_tkL h.ek.rng zeE _ hm, en']
    rfl
  have oldE : ∀ m, isA t.e m = true → m ≠ n' ∧ isA (t.link a b).e m = true ∧ (t.link a b).edge m = t.edge m := fun m hm => by
    have hmn : m ≠ n' := fun e => by rw [e, hnf] at hm; cases hm
    exact ⟨hmn, by rw [isE, if_neg hmn]; exact hm, by rw [edE m (isA_bd hm).1, if_neg hmn]⟩
  have monoE : ∀ v u p q, tE t v u p q → tE (t.link a b) v u p q := fun v u p q ⟨m, h1, h2⟩ => by
    obtain ⟨_, h3, h4⟩ := oldE m h1
    exact ⟨m, h3, by rw [h4]; exact h2⟩
  have monoI : ∀ v k, tI t v k → tI (t.link a b) v k := fun v k hk => hk
  have n1 : 1 ≤ n' := by rw [hn']; exact hnb.1
  have newE : tE (t.link a b) a b x y := ⟨n', by rw [isE, if_pos rfl], by rw [edE n' n1, if_pos rfl]; exact .inl ⟨rfl, rfl, rfl, rfl⟩⟩
  -- the two tours, begun at their vertices
  obtain ⟨v1, q1⟩ := h.tq i hia
  rw [eA] at q1
  obtain ⟨u1, q1⟩ := q1.rot (tE_symm t)
  have b1 : Tq (tI t) (tE t) false a (B ++ A) := by
    refine h.begins ha (u := u1) ?_
    rw [← hi]; exact q1
  obtain ⟨v2, q2⟩ := h.tq j hjb
  rw [eC] at q2
  obtain ⟨u2, q2⟩ := q2.rot (tE_symm t)
  have b2 : Tq (tI t) (tE t) false b (D ++ C) := by
    refine h.begins hb (u := u2) ?_
    rw [← hj]; exact q2
  have mm : ∀ {bb : Bool} {v : Int} {L : List Int}, Tq (tI t) (tE t) bb v L → Tq (tI (t.link a b)) (tE (t.link a b)) bb v L := fun hq => hq.mono (fun v k hk _ => monoI v k hk) (fun v u p q hk _ _ => monoE v u p q hk)
  have tour : Tq (tI (t.link a b)) (tE (t.link a b)) true a ((i :: B ++ A) ++ x :: ((j :: D ++ C) ++ [y])) := by
    have k2 : Tq (tI (t.link a b)) (tE (t.link a b)) true b (j :: (D ++ C)) := Tq.own (P := []) (monoI b j ⟨hb, hj.symm⟩) (.nil _) (mm b2)
    have k1 := Tq.own (P := []) (monoI a i ⟨ha, hi.symm⟩) (.nil _) ((mm b1).app (Tq.blk newE k2 (.nil a)))
    simpa [List.append_assoc] using k1
  have mA : ∀ k, k ∈ i :: (B ++ A) ↔ k ∈ t.s.S i := fun k => by rw [eA]; exact (show (i :: B ++ A).Perm _ from List.perm_append_comm).mem_iff
  have mC : ∀ k, k ∈ j :: (D ++ C) ↔ k ∈ t.s.S j := fun k => by rw [eC]; exact (show (j :: D ++ C).Perm _ from List.perm_append_comm).mem_iff
  have hL : ∀ k, k ∉ (i :: B ++ A) ++ x :: ((j :: D ++ C) ++ [y]) → k ≠ x ∧ k ≠ y := fun k hk => ⟨fun e => hk (by rw [e]; simp), fun e => hk (by rw [e]; simp)⟩
  have keep : ∀ k, t.s.S k ≠ [] → (t.link a b).s.S k ≠ [] := fun k hk => by
    by_cases hkL : k ∈ (i :: B ++ A) ++ x :: ((j :: D ++ C) ++ [y])
    · rw [inL k hkL]; simp
    · rw [outL k hkL, hS1 k (hL k hkL).1 (hL k hkL).2]; exact hk
  refine ⟨⟨fun k hk => ?_, fun v hv => ?_, fun m hm => ?_, h.vk, ?_⟩, B ++ A, D ++ C, ?_, ?_, ?_, ?_, ?_⟩
  · by_cases hkL : k ∈ (i :: B ++ A) ++ x :: ((j :: D ++ C) ++ [y])
    · rw [inL k hkL]; exact ⟨a, tour⟩
    · have e3 : (t.link a b).s.S k = t.s.S k := by rw [outL k hkL, hS1 k (hL k hkL).1 (hL k hkL).2]
      rw [e3] at hk ⊢
      obtain ⟨v, hq⟩ := h.tq k hk
      exact ⟨v, mm hq⟩
  · have hv' : isA t.v v = true := hv
    obtain ⟨h1, h2, h3⟩ := h.iv v hv'
    have eit : (t.link a b).item v = t.item v := rfl
    obtain ⟨nx, ny⟩ := hne _ h1
    rw [eit, eV, eV1, ep]
    refine ⟨keep _ h1, ?_, ?_⟩
    · unfold updP; rw [if_neg ny, if_neg nx]; exact h2
    · unfold updV; rw [if_neg ny, if_neg nx]; exact h3
  · have hmb := isA_bd hm
    rw [edE m hmb.1, eV, eV1, ep]
    rw [isE] at hm
    by_cases e : m = n'
    · rw [if_pos e, e]
      refine ⟨?_, ?_, ?_, ?_, Ne.symm hyx.1, ?_, ?_⟩
      · show (t.link a b).s.S x ≠ []; rw [inL x (by simp)]; simp
      · show (t.link a b).s.S y ≠ []; rw [inL y (by simp)]; simp
      · show updP (updP t.p x (0, n')) y (0, n') x = _; unfold updP; rw [if_neg (Ne.symm hyx.1), if_pos rfl]
      · show updP (updP t.p x (0, n')) y (0, n') y = _; unfold updP; rw [if_pos rfl]
      · show (updV (updV t.s.V x noneV) y noneV x).c = 0 ∧ (updV (updV t.s.V x noneV) y noneV x).s = 0 ∧ (updV (updV t.s.V x noneV) y noneV x).l = 4611686018427387904
        unfold updV; rw [if_neg (Ne.symm hyx.1), if_pos rfl]; exact ⟨rfl, rfl, rfl⟩
      · show (updV (updV t.s.V x noneV) y noneV y).c = 0 ∧ (updV (updV t.s.V x noneV) y noneV y).s = 0 ∧ (updV (updV t.s.V x noneV) y noneV y).l = 4611686018427387904
        unfold updV; rw [if_pos rfl]; exact ⟨rfl, rfl, rfl⟩
    · rw [if_neg e] at hm ⊢
      obtain ⟨h1, h2, h3, h4, h5, h6, h7⟩ := h.ev m hm
      obtain ⟨nx, ny⟩ := hne _ h1
      obtain ⟨mx, my⟩ := hne _ h2
      refine ⟨keep _ h1, keep _ h2, ?_, ?_, h5, ?_, ?_⟩
      · unfold updP; rw [if_neg ny, if_neg nx]; exact h3
      · unfold updP; rw [if_neg my, if_neg mx]; exact h4
      · unfold updV; rw [if_neg ny, if_neg nx]; exact h6
      · unfold updV; rw [if_neg my, if_neg mx]; exact h7
  · rw [ee]; exact h.ek.take _
  · rw [← hi]; exact hia
  · rw [← hi]; exact mA
  · rw [← hj]; exact mC
  · rw [← hi, ← hj, ← hx, ← hy]
    intro k hk
    have e4 : (i :: (B ++ A)) ++ x :: ((j :: (D ++ C)) ++ [y]) = (i :: B ++ A) ++ x :: ((j :: D ++ C) ++ [y]) := by simp
    rw [e4] at hk ⊢
    exact inL k hk
  · rw [← hi, ← hj, ← hx, ← hy]
    intro k hk
    have e4 : (i :: (B ++ A)) ++ x :: ((j :: (D ++ C)) ++ [y]) = (i :: B ++ A) ++ x :: ((j :: D ++ C) ++ [y]) := by simp
    rw [e4] at hk
    rw [outL k hk, hS1 k (hL k hk).1 (hL k hk).2]
theorem Sq.free_S {s : Sq} {i : Int} (h : s.S i = [i]) : (s.free i).S = freeS s.S i ∧ (s.free i).V = updV s.V i zeV := by
  have hl : s.lone i = true := by unfold Sq.lone; rw [h]; rfl
  unfold Sq.free
  rw [if_pos hl]
  exact ⟨rfl, rfl⟩
/-- An edge less. -/
theorem Eu.cut {t : To} (hB : Tb t) (h : Eu t) {n : Int} (hn : isA t.e n = true) : Eu (t.cutE n) ∧ ∃ N M, Tq (tI t) (tE t) true (t.edge n).b N ∧ Tq (tI t) (tE t) true (t.edge n).a M ∧ (t.s.S (t.edge n).x).Perm ((t.edge n).x :: (N ++ (t.edge n).y :: M)) ∧ (∀ k, k ∈ N → (t.cutE n).s.S k = N) ∧ (∀ k, k ∈ M → (t.cutE n).s.S k = M) ∧ (∀ k, k ∉ t.s.S (t.edge n).x → (t.cutE n).s.S k = t.s.S k) := by
  have ec := To.cutE_eq t n
  obtain ⟨x, hx⟩ : ∃ x, x = (t.edge n).x := ⟨_, rfl⟩
  obtain ⟨y, hy⟩ : ∃ y, y = (t.edge n).y := ⟨_, rfl⟩
  obtain ⟨hSx, hSy, px, py, hxy, _, _⟩ := h.ev n hn
  rw [← hx] at hSx px hxy
  rw [← hy] at hSy py hxy
  rw [← hx, ← hy] at ec
  have hxx := hB.fam.mem x hSx
  obtain ⟨A, R, eA⟩ := hB.fam.at hxx
  obtain ⟨v1, q1⟩ := h.tq x hSx
  rw [eA] at q1
  obtain ⟨u, q1⟩ := q1.rot (tE_symm t)
  obtain ⟨i0, P, Q, hi0, hP, hQ, e⟩ := q1.opened
  have hxE : ∀ v c p, tE t v c x p → v = (t.edge n).a ∧ c = (t.edge n).b ∧ p = y := fun v c p ⟨m, hm, hc⟩ => by
    obtain ⟨_, _, p1, p2, _, _⟩ := h.ev m hm
    rcases hc with ⟨h1, h2, h3, h4⟩ | ⟨h1, h2, h3, h4⟩
    · rw [h3, px] at p1
      have hmn : n = m := congrArg Prod.snd p1
      subst hmn
      exact ⟨h1.symm, h2.symm, by rw [← h4, hy]⟩
    · rw [h3, px] at p2
      have hmn : n = m := congrArg Prod.snd p2
      subst hmn
      exact absurd (h3.symm.trans hy.symm) hxy
  cases P with
  | nil =>
    injection e with e1 e2
    have hE : tE t (t.edge n).a (t.edge n).b x y := ⟨n, hn, .inl ⟨rfl, rfl, hx.symm, hy.symm⟩⟩
    exact absurd (e1 ▸ hi0) (h.apart (v := u) hE).1
  | cons z P' =>
    injection e with e1 e2
    subst e1
    obtain ⟨c, y', N, M0, he, hN, hM0, eP⟩ := hP.first
    obtain ⟨eu, ecb, ey⟩ := hxE _ _ _ he
    subst ey
    obtain ⟨M, hM⟩ : ∃ M, M = M0 ++ i0 :: Q := ⟨_, rfl⟩
    have tqM : Tq (tI t) (tE t) true (t.edge n).a M := by rw [hM, ← eu]; exact .own hi0 hM0 hQ
    have tqN : Tq (tI t) (tE t) true (t.edge n).b N := by rw [← ecb]; exact hN
    have e2' : R ++ A = P' ++ i0 :: Q := e2
    have eR : R ++ A = N ++ y' :: M := by rw [e2', eP, hM]; simp
    have hNe : N ≠ [] := by obtain ⟨j, P2, Q2, _, _, _, e3⟩ := tqN.opened; rw [e3]; simp
    have hMe : M ≠ [] := by rw [hM]; simp
    obtain ⟨n0, N', eN⟩ := List.exists_cons_of_ne_nil hNe
    obtain ⟨m0, M', eM⟩ := List.exists_cons_of_ne_nil hMe
    obtain ⟨F4, ux, uy, uN, uM, uO⟩ := hB.fam.unspliced (y := y') eA (by rw [eR, eN, eM])
    rw [← eN] at uN
    rw [← eM] at uM
    have hperm : (t.s.S x).Perm (x :: (N ++ y' :: M)) := by
      rw [eA, ← eR]
      exact (List.perm_append_comm (l₁ := A) (l₂ := x :: R))
    have hnd : (x :: (N ++ y' :: M)).Nodup := hperm.nodup_iff.1 (hB.fam.nodup x)
    have hnd2 := List.nodup_cons.1 hnd
    have hnd3 := List.nodup_append.1 hnd2.2
    have xN : x ∉ N := fun hk => hnd2.1 (by simp [hk])
    have xM : x ∉ M := fun hk => hnd2.1 (by simp [hk])
    have yN : y' ∉ N := fun hk => hnd3.2.2 y' hk y' (by simp) rfl
    have yM : y' ∉ M := (List.nodup_cons.1 hnd3.2.1).1
    obtain ⟨s1, hs1⟩ : ∃ s1, s1 = t.s.unsplice x y' := ⟨_, rfl⟩
    rw [← hs1] at ec F4 ux uy uN uM uO
    have f1 := Sq.free_S ux
    have uy1 : (s1.free x).S y' = [y'] := by rw [f1.1]; show (if y' = x then [] else s1.S y') = _; rw [if_neg (Ne.symm hxy)]; exact uy
    have f2 := Sq.free_S uy1
    have eS : (t.cutE n).s.S = freeS (freeS s1.S x) y' := by rw [ec]; show ((s1.free x).free y').S = _; rw [f2.1, f1.1]
    have eV : (t.cutE n).s.V = updV (updV t.s.V x zeV) y' zeV := by
      rw [ec]; show ((s1.free x).free y').V = _
      rw [f2.2, f1.2, hs1, (Sq.unsplice_K t.s x y').2.2.1]
    have ep : (t.cutE n).p = updP (updP t.p x (0, 0)) y' (0, 0) := by rw [ec]
    have evv : (t.cutE n).v = t.v := by rw [ec]
    have ee : (t.cutE n).e = frL zeE t.e n := by rw [ec]
    have hS : ∀ k, k ≠ x → k ≠ y' → (t.cutE n).s.S k = s1.S k := fun k h1 h2 => by rw [eS]; show (if k = y' then [] else if k = x then [] else s1.S k) = _; rw [if_neg h2, if_neg h1]
    have hS0 : ∀ k, (t.cutE n).s.S k ≠ [] → k ≠ x ∧ k ≠ y' := fun k hk => by
      refine ⟨fun e3 => hk ?_, fun e3 => hk ?_⟩
      · rw [eS, e3]; show (if x = y' then [] else if x = x then [] else s1.S x) = _; rw [if_neg hxy, if_pos rfl]
      · rw [eS, e3]; exact if_pos rfl
    have isE : ∀ m, isA (t.cutE n).e m = if m = n then false else isA t.e m := fun m => by rw [ee, isA_frL zeE hn]
    have edE : ∀ m, isA (t.cutE n).e m = true → m ≠ n ∧ isA t.e m = true ∧ (t.cutE n).edge m = t.edge m := fun m hm => by
      have hmb := isA_bd hm
      rw [isE] at hm
      split at hm
      · cases hm
      · rename_i hne
        refine ⟨hne, hm, ?_⟩
        show atA zeE (t.cutE n).e m = _
        rw [ee, atA_frL zeE hn hmb.1, if_neg hne]
        rfl
    have itE : ∀ v, (t.cutE n).item v = t.item v := fun v => by unfold To.item; rw [evv]
    have monoI : ∀ v k, tI t v k → tI (t.cutE n) v k := fun v k ⟨h1, h2⟩ => ⟨by rw [evv]; exact h1, by rw [itE]; exact h2⟩
    have monoE : ∀ v u p q, tE t v u p q → p ≠ x → p ≠ y' → tE (t.cutE n) v u p q := fun v u p q ⟨m, h1, h2⟩ n1 n2 => by
      have hmn : m ≠ n := fun e3 => by
        subst e3
        rcases h2 with ⟨_, _, h3, _⟩ | ⟨_, _, h3, _⟩
        · exact n1 (by rw [← h3, hx])
        · exact n2 (by rw [← h3, hy])
      have h3 : isA (t.cutE n).e m = true := by rw [isE, if_neg hmn]; exact h1
      exact ⟨m, h3, by rw [(edE m h3).2.2]; exact h2⟩
    have mm : ∀ {bb : Bool} {v : Int} {L : List Int}, x ∉ L → y' ∉ L → Tq (tI t) (tE t) bb v L → Tq (tI (t.cutE n)) (tE (t.cutE n)) bb v L := fun n1 n2 hq => hq.mono (fun v k hk _ => monoI v k hk) (fun v u p q hk h1 _ => monoE v u p q hk (fun e3 => n1 (e3 ▸ h1)) (fun e3 => n2 (e3 ▸ h1)))
    have inN : ∀ k, k ∈ N → (t.cutE n).s.S k = N := fun k hk => by rw [hS k (fun e3 => xN (e3 ▸ hk)) (fun e3 => yN (e3 ▸ hk))]; exact uN k hk
    have inM : ∀ k, k ∈ M → (t.cutE n).s.S k = M := fun k hk => by rw [hS k (fun e3 => xM (e3 ▸ hk)) (fun e3 => yM (e3 ▸ hk))]; exact uM k hk
    have yin : y' ∈ t.s.S x := hperm.mem_iff.2 (by simp)
    have outS : ∀ k, k ∉ t.s.S x → (t.cutE n).s.S k = t.s.S k := fun k hk => by rw [hS k (fun e3 => hk (e3 ▸ hxx)) (fun e3 => hk (e3 ▸ yin))]; exact uO k hk
    have four : ∀ k, k = x ∨ k = y' ∨ k ∈ N ∨ k ∈ M ∨ k ∉ t.s.S x := fun k => by
      by_cases hk : k ∈ t.s.S x
      · have := hperm.mem_iff.1 hk
        rcases List.mem_cons.1 this with h1 | h1
        · exact .inl h1
        · rcases List.mem_append.1 h1 with h1 | h1
          · exact .inr (.inr (.inl h1))
          · rcases List.mem_cons.1 h1 with h1 | h1
            · exact .inr (.inl h1)
            · exact .inr (.inr (.inr (.inl h1)))
      · exact .inr (.inr (.inr (.inr hk)))
    have keep : ∀ k, t.s.S k ≠ [] → k ≠ x → k ≠ y' → (t.cutE n).s.S k ≠ [] := fun k hk n1 n2 => by
      rcases four k with h1 | h1 | h1 | h1 | h1
      · exact absurd h1 n1
      · exact absurd h1 n2
      · rw [inN k h1]; exact hNe
      · rw [inM k h1]; exact hMe
      · rw [outS k h1]; exact hk
    have upd : ∀ k, k ≠ x → k ≠ y' → (t.cutE n).p k = t.p k ∧ (t.cutE n).s.V k = t.s.V k := fun k n1 n2 => by
      refine ⟨?_, ?_⟩
      · rw [ep]; unfold updP; rw [if_neg n2, if_neg n1]
      · rw [eV]; unfold updV; rw [if_neg n2, if_neg n1]
    refine ⟨⟨fun k hk => ?_, fun v hv => ?_, fun m hm => ?_, ?_, ?_⟩, N, M, tqN, tqM, ?_, inN, inM, ?_⟩
    · obtain ⟨n1, n2⟩ := hS0 k hk
      rcases four k with h1 | h1 | h1 | h1 | h1
      · exact absurd h1 n1
      · exact absurd h1 n2
      · rw [inN k h1]; exact ⟨_, mm xN yN tqN⟩
      · rw [inM k h1]; exact ⟨_, mm xM yM tqM⟩
      · rw [outS k h1] at hk ⊢
        obtain ⟨v, hq⟩ := h.tq k hk
        have nk : ∀ q, q ∈ t.s.S x → q ∉ t.s.S k := fun q h2 h3 => h1 (by rw [← hB.fam.same x q h2, hB.fam.same k q h3]; exact hB.fam.mem k hk)
        exact ⟨v, mm (nk x hxx) (nk y' yin) hq⟩
    · rw [evv] at hv
      obtain ⟨h1, h2, h3⟩ := h.iv v hv
      have hE : tE t (t.edge n).a (t.edge n).b x y' := ⟨n, hn, .inl ⟨rfl, rfl, hx.symm, hy.symm⟩⟩
      have n1 : t.item v ≠ x := fun e3 => (h.apart (v := v) hE).1 ⟨hv, e3⟩
      have n2 : t.item v ≠ y' := fun e3 => (h.apart (v := v) hE).2 ⟨hv, e3⟩
      rw [itE, (upd _ n1 n2).1, (upd _ n1 n2).2]
      exact ⟨keep _ h1 n1 n2, h2, h3⟩
    · obtain ⟨hmn, hm', eed⟩ := edE m hm
      obtain ⟨h1, h2, h3, h4, h5, h6, h7⟩ := h.ev m hm'
      have ne : ∀ q, t.p q = (0, m) → q ≠ x ∧ q ≠ y' := fun q hq => by
        refine ⟨fun e3 => ?_, fun e3 => ?_⟩
        · rw [e3, px] at hq; exact hmn (congrArg Prod.snd hq).symm
        · rw [e3, py] at hq; exact hmn (congrArg Prod.snd hq).symm
      obtain ⟨a1, a2⟩ := ne _ h3
      obtain ⟨b1, b2⟩ := ne _ h4
      rw [eed, (upd _ a1 a2).1, (upd _ a1 a2).2, (upd _ b1 b2).1, (upd _ b1 b2).2]
      exact ⟨keep _ h1 a1 a2, keep _ h2 b1 b2, h3, h4, h5, h6, h7⟩
    · rw [ec]; exact h.vk
    · rw [ec]; exact h.ek.free zeE hn
    · rw [← hx, ← hy]; exact hperm
    · rw [← hx]; exact outS
end Go.Proofs.YtcbgeahcnjamdabGreat
/-! Layer 7 (tour), plain: what the vertices of a tree have together. -/
namespace Go.Proofs.YtcbgeahcnjamdabGreat
open Go.RowKit
set_option linter.unusedVariables false
def cS (V : Int → Vl) : List Int → Int
  | [] => 0
  | j :: l => (V j).c + cS V l
def sS (V : Int → Vl) : List Int → Int
  | [] => 0
  | j :: l => (V j).s + sS V l
def lS (V : Int → Vl) : List Int → Int
  | [] => 4611686018427387904
  | j :: l => min (V j).l (lS V l)
theorem lS_le (V : Int → Vl) (l : List Int) : lS V l ≤ 4611686018427387904 := by
  induction l with
  | nil => exact Int.le_refl _
  | cons j l ih => show min _ _ ≤ _; omega
theorem cS_app (V : Int → Vl) (a b : List Int) : cS V (a ++ b) = cS V a + cS V b := by
  induction a with
  | nil => show cS V b = 0 + _; omega
  | cons j a ih => show (V j).c + cS V (a ++ b) = (V j).c + cS V a + _; rw [ih]; omega
theorem sS_app (V : Int → Vl) (a b : List Int) : sS V (a ++ b) = sS V a + sS V b := by
  induction a with
  | nil => show sS V b = 0 + _; omega
  | cons j a ih => show (V j).s + sS V (a ++ b) = (V j).s + sS V a + _; rw [ih]; omega
theorem lS_app (V : Int → Vl) (a b : List Int) : lS V (a ++ b) = min (lS V a) (lS V b) := by
  induction a with
  | nil => show lS V b = min 4611686018427387904 _; have := lS_le V b; omega
  | cons j a ih => show min (V j).l (lS V (a ++ b)) = min (min (V j).l (lS V a)) _; rw [ih]; omega
theorem S_perm (V : Int → Vl) {a b : List Int} (h : a.Perm b) : cS V a = cS V b ∧ sS V a = sS V b ∧ lS V a = lS V b := by
  induction h with
  | nil => exact ⟨rfl, rfl, rfl⟩
  | cons x _ ih => exact ⟨by show _ + _ = _ + _; rw [ih.1], by show _ + _ = _ + _; rw [ih.2.1], by show min _ _ = min _ _; rw [ih.2.2]⟩
  | swap x y l => exact ⟨by show _ + (_ + _) = _ + (_ + _); omega, by show _ + (_ + _) = _ + (_ + _); omega, by show min _ (min _ _) = min _ (min _ _); omega⟩
  | trans _ _ ih1 ih2 => exact ⟨ih1.1.trans ih2.1, ih1.2.1.trans ih2.2.1, ih1.2.2.trans ih2.2.2⟩
theorem S_congr {V V' : Int → Vl} {l : List Int} (h : ∀ j ∈ l, V' j = V j) : cS V' l = cS V l ∧ sS V' l = sS V l ∧ lS V' l = lS V l := by
  induction l with
  | nil => exact ⟨rfl, rfl, rfl⟩
  | cons j l ih =>
    obtain ⟨h1, h2, h3⟩ := ih (fun k hk => h k (by simp [hk]))
    have e := h j (by simp)
    exact ⟨by show _ + _ = _ + _; rw [e, h1], by show _ + _ = _ + _; rw [e, h2], by show min _ _ = min _ _; rw [e, h3]⟩
theorem sumV_S (V : Int → Vl) (l : List Int) : (sumV (l.map V)).c = wr (cS V l) ∧ (sumV (l.map V)).s = wr (sS V l) ∧ (sumV (l.map V)).l = lS V l := by
  induction l with
  | nil => exact ⟨(wr_id (x := 0) (by decide) (by decide)).symm, (wr_id (x := 0) (by decide) (by decide)).symm, rfl⟩
  | cons j l ih =>
    have e : sumV ((j :: l).map V) = tog (tog noV (V j)) (sumV (l.map V)) := by
      show sumV ([V j] ++ l.map V) = _
      rw [sumV_append]; rfl
    rw [e]
    obtain ⟨h1, h2, h3⟩ := ih
    have hl := lS_le V l
    refine ⟨?_, ?_, ?_⟩
    · show wr (wr (0 + (V j).c) + (sumV (l.map V)).c) = wr ((V j).c + cS V l)
      rw [h1, wr_l, wr_r, Int.zero_add]
    · show wr (wr (0 + (V j).s) + (sumV (l.map V)).s) = wr ((V j).s + sS V l)
      rw [h2, wr_l, wr_r, Int.zero_add]
    · show min (min 4611686018427387904 (V j).l) (sumV (l.map V)).l = min (V j).l (lS V l)
      rw [h3]; omega
/-- An edge's items count for nothing. -/
theorem S_edge {V : Int → Vl} {L N M : List Int} {x y : Int} (h : L.Perm (x :: (N ++ y :: M))) (hx : (V x).c = 0 ∧ (V x).s = 0 ∧ (V x).l = 4611686018427387904) (hy : (V y).c = 0 ∧ (V y).s = 0 ∧ (V y).l = 4611686018427387904) : cS V L = cS V N + cS V M ∧ sS V L = sS V N + sS V M ∧ lS V L = min (lS V N) (lS V M) := by
  obtain ⟨h1, h2, h3⟩ := S_perm V h
  rw [h1, h2, h3]
  refine ⟨?_, ?_, ?_⟩
  · show (V x).c + cS V (N ++ y :: M) = _
    rw [cS_app, show cS V (y :: M) = (V y).c + cS V M from rfl]; omega
  · show (V x).s + sS V (N ++ y :: M) = _
    rw [sS_app, show sS V (y :: M) = (V y).s + sS V M from rfl]; omega
  · show min (V x).l (lS V (N ++ y :: M)) = _
    rw [lS_app, show lS V (y :: M) = min (V y).l (lS V M) from rfl]
    have := lS_le V N
    have := lS_le V M
    omega
theorem To.total_S {t : To} {v : Int} (hv : t.item v ≠ 0) : (t.total v).c = wr (cS t.s.V (t.s.S (t.item v))) ∧ (t.total v).s = wr (sS t.s.V (t.s.S (t.item v))) ∧ (t.total v).l = lS t.s.V (t.s.S (t.item v)) := by
  unfold To.total
  rw [if_neg hv]
  exact sumV_S _ _
/-- The state behind k vertices, each of which was linked to one ahead of it. -/
structure Pt (n k : Nat) (t : To) : Prop where
  eu : Eu t
  va : ∀ v, isA t.v v = true ↔ 1 ≤ v ∧ v ≤ (k : Int)
  vl : t.v.length = k ∧ t.fv = []
  ea : ∀ m, isA t.e m = true ↔ 1 ≤ m ∧ m < (k : Int)
  el : t.e.length = k - 1 ∧ t.fe = []
  one : ∀ v u, 1 ≤ v ∧ v ≤ (k : Int) → 1 ≤ u ∧ u ≤ (k : Int) → t.item u ∈ t.s.S (t.item v)
  cs : ∀ v, 1 ≤ v ∧ v ≤ (k : Int) → cS t.s.V (t.s.S (t.item v)) = k ∧ lS t.s.V (t.s.S (t.item v)) = (n : Int) - k
theorem pt0 (n : Nat) : Pt n 0 to0 := ⟨to0_eu, fun v => ⟨fun h => (by simp [isA, to0] at h), fun h => by omega⟩, ⟨rfl, rfl⟩, fun m => ⟨fun h => (by simp [isA, to0] at h), fun h => by omega⟩, ⟨rfl, rfl⟩, fun v u h => by omega, fun v h => by omega⟩
/-- Facts of a vertex more. -/
theorem addV_facts {t : To} (hB : Tb t) (h : Eu t) (a b : Int) : ∃ i, t.s.S i = [] ∧ (t.addV a b).s.S i = [i] ∧ (∀ j, j ≠ i → (t.addV a b).s.S j = t.s.S j) ∧ (t.addV a b).s.V i = ⟨1, a, b, 0⟩ ∧ (∀ j, j ≠ i → (t.addV a b).s.V j = t.s.V j) ∧ (∀ u, isA (t.addV a b).v u = if u = tkI t.v t.fv then true else isA t.v u) ∧ (t.addV a b).item (tkI t.v t.fv) = i ∧ (∀ u, isA t.v u = true → (t.addV a b).item u = t.item u) := by
  have hfree : t.s.S (newI t.s.K t.s.fr) = [] := by
    have := newI_free hB.fk
    cases hS : t.s.S (newI t.s.K t.s.fr) with
    | nil => rfl
    | cons c l => have h2 := (hB.kS _).2 (by rw [hS]; simp); rw [this] at h2; cases h2
  have isa : ∀ u, isA (t.addV a b).v u = if u = tkI t.v t.fv then true else isA t.v u := fun u => isA_tkL h.vk.rng _ u
  have hvf : isA t.v (tkI t.v t.fv) = false := h.vk.new
  have it : ∀ u, isA (t.addV a b).v u = true → (t.addV a b).item u = if u = tkI t.v t.fv then newI t.s.K t.s.fr else t.item u := fun u hu => by
    have hub := isA_bd hu
    rw [To.item_yes hu, show (t.addV a b).v = tkL t.v t.fv (newI t.s.K t.s.fr) from rfl, atA_tkL h.vk.rng 0 _ hub.1]
    split
    · rfl
    · rename_i hne
      rw [isa, if_neg hne] at hu
      rw [To.item_yes hu]
  refine ⟨newI t.s.K t.s.fr, hfree, if_pos rfl, fun j hj => if_neg hj, if_pos rfl, fun j hj => if_neg hj, isa, ?_, fun u hu => ?_⟩
  · rw [it _ (by rw [isa, if_pos rfl]), if_pos rfl]
  · have hne : u ≠ tkI t.v t.fv := fun e => by rw [e, hvf] at hu; cases hu
    rw [it u (by rw [isa, if_neg hne]; exact hu), if_neg hne]
theorem Eu.item_ne {t : To} (hB : Tb t) (h : Eu t) (hb : t.Bd) {v : Int} (hv : isA t.v v = true) : t.item v ≠ 0 ∧ t.item v ∈ t.s.S (t.item v) := by
  refine ⟨?_, hB.fam.mem _ (h.iv v hv).1⟩
  have := hb.v v hv
  rw [To.item_yes hv]
  unfold Bd at this
  omega
end Go.Proofs.YtcbgeahcnjamdabGreat
/-! Layer 7 (tour), plain: what the statement TourParts says of states. -/
namespace Go.Proofs.YtcbgeahcnjamdabGreat
open Go.RowKit
set_option linter.unusedVariables false
theorem Eu.ne0 {t : To} (hB : Tb t) (h : Eu t) {v : Int} (hv : isA t.v v = true) : t.item v ≠ 0 := fun e => by
  have h1 := (hB.kS _).2 (h.iv v hv).1
  rw [e] at h1
  simp [isK] at h1
theorem To.link_V (t : To) (a b : Int) : (t.link a b).s.V = updV (updV t.s.V t.newX noneV) t.newY noneV := by
  have : (t.link a b).s = ((t.s.make noneV).make noneV).splice (t.item a) (t.item b) t.newX t.newY := rfl
  rw [this, (Sq.splice_K _ _ _ _ _).2.2.1]; rfl
theorem perm_of_mem {a b : List Int} (ha : a.Nodup) (hb : b.Nodup) (h : ∀ k, k ∈ a ↔ k ∈ b) : a.Perm b := (List.perm_ext_iff_of_nodup ha hb).2 h
/-- A link: the two tours are one, and what they have is added up. -/
theorem link_S {t : To} (hB : Tb t) (h : Eu t) {a b : Int} (ha : isA t.v a = true) (hb : isA t.v b = true) (hn : t.same a b = false) (hB2 : Tb (t.link a b)) :
    Eu (t.link a b) ∧ ∃ L, (∀ k, k ∈ t.s.S (t.item a) ∨ k ∈ t.s.S (t.item b) → k ∈ L) ∧ (∀ k ∈ L, (t.link a b).s.S k = L) ∧
      cS (t.link a b).s.V L = cS t.s.V (t.s.S (t.item a)) + cS t.s.V (t.s.S (t.item b)) ∧ sS (t.link a b).s.V L = sS t.s.V (t.s.S (t.item a)) + sS t.s.V (t.s.S (t.item b)) ∧ lS (t.link a b).s.V L = min (lS t.s.V (t.s.S (t.item a))) (lS t.s.V (t.s.S (t.item b))) := by
  obtain ⟨hE, R, R', hne, mA, mB, inL, outL⟩ := h.link hB ha hb hn
  obtain ⟨X, hX⟩ : ∃ X, X = t.newX := ⟨_, rfl⟩
  obtain ⟨Y, hY⟩ : ∃ Y, Y = t.newY := ⟨_, rfl⟩
  obtain ⟨N, hN⟩ : ∃ N, N = t.item a :: R := ⟨_, rfl⟩
  obtain ⟨M, hM⟩ : ∃ M, M = t.item b :: R' := ⟨_, rfl⟩
  have eV := To.link_V t a b
  rw [← hX, ← hY] at inL eV
  rw [← hN] at mA inL
  rw [← hM] at mB inL
  have hnd : (N ++ X :: (M ++ [Y])).Nodup := by
    have := hB2.fam.nodup X
    rw [inL X (by simp)] at this
    exact this
  have hp : (N ++ X :: (M ++ [Y])).Perm (X :: (N ++ Y :: M)) := by
    rw [List.perm_iff_count]
    intro c
    simp only [List.count_append, List.count_cons, List.count_nil]
    omega
  have hnd2 := hp.nodup_iff.1 hnd
  have h3 := List.nodup_cons.1 hnd2
  have h4 := List.nodup_append.1 h3.2
  have h5 := List.nodup_cons.1 h4.2.1
  have XY : X ≠ Y := fun e => h3.1 (by rw [e]; simp)
  have XN : X ∉ N := fun e => h3.1 (by simp [e])
  have XM : X ∉ M := fun e => h3.1 (by simp [e])
  have YN : Y ∉ N := fun e => h4.2.2 Y e Y (by simp) rfl
  have pN : N.Perm (t.s.S (t.item a)) := perm_of_mem h4.1 (hB.fam.nodup _) mA
  have pM : M.Perm (t.s.S (t.item b)) := perm_of_mem h5.2 (hB.fam.nodup _) mB
  have cN := S_congr (V := t.s.V) (V' := (t.link a b).s.V) (l := N) (fun j hj => by
    rw [eV]; unfold updV; rw [if_neg (fun (e : j = Y) => YN (e ▸ hj)), if_neg (fun (e : j = X) => XN (e ▸ hj))])
  have cM := S_congr (V := t.s.V) (V' := (t.link a b).s.V) (l := M) (fun j hj => by
    rw [eV]; unfold updV; rw [if_neg (fun (e : j = Y) => h5.1 (e ▸ hj)), if_neg (fun (e : j = X) => XM (e ▸ hj))])
  have qN := S_perm t.s.V pN
  have qM := S_perm t.s.V pM
  have vX : ((t.link a b).s.V X).c = 0 ∧ ((t.link a b).s.V X).s = 0 ∧ ((t.link a b).s.V X).l = 4611686018427387904 := by
    rw [eV]; unfold updV; rw [if_neg XY, if_pos rfl]; exact ⟨rfl, rfl, rfl⟩
  have vY : ((t.link a b).s.V Y).c = 0 ∧ ((t.link a b).s.V Y).s = 0 ∧ ((t.link a b).s.V Y).l = 4611686018427387904 := by
    rw [eV]; unfold updV; rw [if_pos rfl]; exact ⟨rfl, rfl, rfl⟩
  obtain ⟨s1, s2, s3⟩ := S_edge hp vX vY
  refine ⟨hE, _, fun k hk => ?_, inL, ?_, ?_, ?_⟩
  · rcases hk with hk | hk
    · have := (mA k).2 hk; simp [this]
    · have := (mB k).2 hk; simp [this]
  · rw [s1, cN.1, cM.1, qN.1, qM.1]
  · rw [s2, cN.2.1, cM.2.1, qN.2.1, qM.2.1]
  · rw [s3, cN.2.2, cM.2.2, qN.2.2, qM.2.2]
theorem cS_nn {V : Int → Vl} {L : List Int} (h : ∀ z ∈ L, 0 ≤ (V z).c) : 0 ≤ cS V L := by
  induction L with
  | nil => exact Int.le_refl _
  | cons j l ih =>
    have h1 := h j (by simp)
    have h2 := ih (fun z hz => h z (by simp [hz]))
    show 0 ≤ (V j).c + cS V l
    omega
theorem cS_pos {V : Int → Vl} {P Q : List Int} {i : Int} (h : ∀ z ∈ P ++ i :: Q, 0 ≤ (V z).c) (hi : (V i).c = 1) : 1 ≤ cS V (P ++ i :: Q) := by
  have h1 := cS_nn (V := V) (L := P) (fun z hz => h z (by simp [hz]))
  have h2 := cS_nn (V := V) (L := Q) (fun z hz => h z (by simp [hz]))
  rw [cS_app]
  show 1 ≤ _ + ((V i).c + cS V Q)
  omega
theorem Eu.tq_pos {t : To} (h : Eu t) {v : Int} {L : List Int} (hq : Tq (tI t) (tE t) true v L) : isA t.v v = true ∧ t.item v ∈ L ∧ 1 ≤ cS t.s.V L := by
  obtain ⟨i, P, Q, hi, _, _, e⟩ := hq.opened
  refine ⟨hi.1, by rw [hi.2, e]; simp, ?_⟩
  have hnn : ∀ z ∈ L, 0 ≤ (t.s.V z).c := fun z hz => by
    rcases hq.items z hz with ⟨u, hu⟩ | ⟨a, c, x, y, ⟨n, hn, hc⟩, hz', _⟩
    · have := (h.iv u hu.1).2.2
      rw [hu.2] at this
      omega
    · obtain ⟨_, _, _, _, _, hx, hy⟩ := h.ev n hn
      rcases hc with ⟨_, _, rfl, rfl⟩ | ⟨_, _, rfl, rfl⟩
      · rcases hz' with rfl | rfl
        · omega
        · omega
      · rcases hz' with rfl | rfl
        · omega
        · omega
  rw [e] at hnn ⊢
  exact cS_pos hnn (by have := (h.iv v hi.1).2.2; rw [hi.2] at this; exact this)
theorem To.cutE_v (t : To) (n : Int) : (t.cutE n).v = t.v := by rw [To.cutE_eq]
theorem Sq.free_V {s : Sq} {i k : Int} (h : k ≠ i) : (s.free i).V k = s.V k := by
  cases hl : s.lone i with
  | true => unfold Sq.free; rw [if_pos hl]; exact if_neg h
  | false => rw [Sq.free_no hl]
theorem To.cutE_V (t : To) (n : Int) {k : Int} (h1 : k ≠ (t.edge n).x) (h2 : k ≠ (t.edge n).y) : (t.cutE n).s.V k = t.s.V k := by
  have ec := To.cutE_eq t n
  have es : (t.cutE n).s = ((t.s.unsplice (t.edge n).x (t.edge n).y).free (t.edge n).x).free (t.edge n).y := by rw [ec]
  rw [es, Sq.free_V h2, Sq.free_V h1, (Sq.unsplice_K _ _ _).2.2.1]
/-- A cut: two tours, apart, that have together what the one had. -/
theorem cut_S {t : To} (hB : Tb t) (h : Eu t) {n : Int} (hn : isA t.e n = true) :
    Eu (t.cutE n) ∧ isA t.v (t.edge n).a = true ∧ isA t.v (t.edge n).b = true ∧ ∃ M N, t.item (t.edge n).a ∈ M ∧ t.item (t.edge n).b ∈ N ∧ t.item (t.edge n).a ∈ t.s.S (t.edge n).x ∧ (∀ k ∈ M, (t.cutE n).s.S k = M) ∧ (∀ k ∈ N, (t.cutE n).s.S k = N) ∧ (∀ k, k ∈ M → k ∈ N → False) ∧ (∀ v, isA t.v v = true → t.item v ∈ t.s.S (t.edge n).x → t.item v ∈ M ∨ t.item v ∈ N) ∧
      cS t.s.V (t.s.S (t.edge n).x) = cS (t.cutE n).s.V M + cS (t.cutE n).s.V N ∧ sS t.s.V (t.s.S (t.edge n).x) = sS (t.cutE n).s.V M + sS (t.cutE n).s.V N ∧ lS t.s.V (t.s.S (t.edge n).x) = min (lS (t.cutE n).s.V M) (lS (t.cutE n).s.V N) ∧ 1 ≤ cS (t.cutE n).s.V M ∧ 1 ≤ cS (t.cutE n).s.V N := by
  obtain ⟨hE, N, M, tqN, tqM, hp, inN, inM, out⟩ := h.cut hB hn
  obtain ⟨hb, iN, pN⟩ := h.tq_pos tqN
  obtain ⟨ha, iM, pM⟩ := h.tq_pos tqM
  obtain ⟨hSx, hSy, px, py, hxy, vx, vy⟩ := h.ev n hn
  obtain ⟨x, hx⟩ : ∃ x, x = (t.edge n).x := ⟨_, rfl⟩
  obtain ⟨y, hy⟩ : ∃ y, y = (t.edge n).y := ⟨_, rfl⟩
  have hnd := hp.nodup_iff.1 (hB.fam.nodup _)
  have h3 := List.nodup_cons.1 hnd
  have h4 := List.nodup_append.1 h3.2
  have h5 := List.nodup_cons.1 h4.2.1
  have eV : ∀ k, k ≠ (t.edge n).x → k ≠ (t.edge n).y → (t.cutE n).s.V k = t.s.V k := fun k h1 h2 => To.cutE_V t n h1 h2
  have cN := S_congr (V := t.s.V) (V' := (t.cutE n).s.V) (l := N) (fun j hj => eV j (fun e => h3.1 (by rw [← e]; simp [hj])) (fun e => h4.2.2 _ hj _ (by rw [← e]; simp) rfl))
  have cM := S_congr (V := t.s.V) (V' := (t.cutE n).s.V) (l := M) (fun j hj => eV j (fun e => h3.1 (by rw [← e]; simp [hj])) (fun e => h5.1 (e ▸ hj)))
  obtain ⟨s1, s2, s3⟩ := S_edge hp vx vy
  refine ⟨hE, ha, hb, M, N, iM, iN, hp.mem_iff.2 (by simp [iM]), inM, inN, fun k k1 k2 => h4.2.2 k k2 k (by simp [k1]) rfl, fun v hv hm => ?_, ?_, ?_, ?_, ?_, ?_⟩
  · have hEd : tE t (t.edge n).a (t.edge n).b (t.edge n).x (t.edge n).y := ⟨n, hn, .inl ⟨rfl, rfl, rfl, rfl⟩⟩
    have n1 : t.item v ≠ (t.edge n).x := fun e3 => (h.apart (v := v) hEd).1 ⟨hv, e3⟩
    have n2 : t.item v ≠ (t.edge n).y := fun e3 => (h.apart (v := v) hEd).2 ⟨hv, e3⟩
    have := hp.mem_iff.1 hm
    rcases List.mem_cons.1 this with e | e
    · exact absurd e n1
    · rcases List.mem_append.1 e with e | e
      · exact .inr e
      · rcases List.mem_cons.1 e with e | e
        · exact absurd e n2
        · exact .inl e
  · rw [s1, cN.1, cM.1]; omega
  · rw [s2, cN.2.1, cM.2.1]; omega
  · rw [s3, cN.2.2, cM.2.2]; omega
  · rw [cM.1]; exact pM
  · rw [cN.1]; exact pN
/-- The first vertex, and each one more. -/
theorem Pt.add {n k : Nat} {t : To} (hB : Tb t) (h : Pt n k t) (a : Int) :
    Eu (t.addV a ((n : Int) - (k + 1))) ∧ tkI t.v t.fv = k + 1 ∧ (∀ v, isA (t.addV a ((n : Int) - (k + 1))).v v = true ↔ 1 ≤ v ∧ v ≤ ((k + 1 : Nat) : Int)) ∧ ((t.addV a ((n : Int) - (k + 1))).v.length = k + 1 ∧ (t.addV a ((n : Int) - (k + 1))).fv = []) ∧
      ∃ i, (t.addV a ((n : Int) - (k + 1))).item ((k : Int) + 1) = i ∧ (t.addV a ((n : Int) - (k + 1))).s.S i = [i] ∧ ((t.addV a ((n : Int) - (k + 1))).s.V i) = ⟨1, a, (n : Int) - (k + 1), 0⟩ ∧
        ∀ v, 1 ≤ v ∧ v ≤ (k : Int) → (t.addV a ((n : Int) - (k + 1))).item v = t.item v ∧ t.item v ≠ i ∧ (t.addV a ((n : Int) - (k + 1))).s.S (t.item v) = t.s.S (t.item v) ∧ cS (t.addV a ((n : Int) - (k + 1))).s.V (t.s.S (t.item v)) = k ∧ lS (t.addV a ((n : Int) - (k + 1))).s.V (t.s.S (t.item v)) = (n : Int) - k := by
  have hE := h.eu.addV hB a ((n : Int) - (k + 1))
  have e1 : tkI t.v t.fv = k + 1 := by rw [h.vl.2, tkI_nil, h.vl.1]
  obtain ⟨i, f1, f2, f3, f4, f5, f6, f7, f8⟩ := addV_facts hB h.eu a ((n : Int) - (k + 1))
  rw [e1] at f6 f7
  have lv : (t.addV a ((n : Int) - (k + 1))).v.length = k + 1 ∧ (t.addV a ((n : Int) - (k + 1))).fv = [] := by
    constructor
    · show (tkL t.v t.fv _).length = _
      rw [h.vl.2, tkL_nil]; simp [h.vl.1]
    · show t.fv.dropLast = []
      rw [h.vl.2]; rfl
  generalize ht : t.addV a ((n : Int) - (k + 1)) = t1 at *
  refine ⟨hE, e1, fun v => ?_, lv, i, f7, f2, f4, fun v hv => ?_⟩
  · rw [f6]
    split
    · rename_i e; subst e; simp only [true_iff]; omega
    · rename_i e
      rw [h.va]
      push_cast
      omega
  · have hvA := (h.va v).2 hv
    have hne := (h.eu.iv v hvA).1
    have hni : t.item v ≠ i := fun e => hne (e ▸ f1)
    have hno : i ∉ t.s.S (t.item v) := fun hk => by
      have := hB.fam.same _ _ hk
      rw [f1] at this
      exact hne this.symm
    obtain ⟨c1, c2⟩ := h.cs v hv
    obtain ⟨g1, g2, g3⟩ := S_congr (V := t.s.V) (V' := t1.s.V) (l := t.s.S (t.item v)) (fun j hj => f5 j (fun e => hno (e ▸ hj)))
    exact ⟨f8 v hvA, hni, f3 _ hni, by rw [g1, c1], by rw [g3, c2]⟩
theorem Pt.one1 {n : Nat} {t : To} (hB : Tb t) (h : Pt n 0 t) (a : Int) (hn : (n : Int) ≤ 4611686018427387904) : Pt n 1 (t.addV a ((n : Int) - 1)) := by
  have key := h.add hB a
  rw [show (((0 : Nat) : Int) + 1) = 1 from rfl] at key
  obtain ⟨hE, e1, va, vl, i, f1, f2, f3, _⟩ := key
  have ee : (t.addV a ((n : Int) - 1)).e = t.e ∧ (t.addV a ((n : Int) - 1)).fe = t.fe := ⟨rfl, rfl⟩
  refine ⟨hE, va, vl, fun m => ?_, ?_, fun v u hv hu => ?_, fun v hv => ?_⟩
  · rw [ee.1, h.ea]; omega
  · rw [ee.1, ee.2]; exact ⟨h.el.1, h.el.2⟩
  · have ev : v = 1 := by omega
    have eu : u = 1 := by omega
    rw [ev, eu, f1, f2]; simp
  · have ev : v = 1 := by omega
    rw [ev, f1, f2]
    refine ⟨?_, ?_⟩
    · show _ + 0 = _; rw [f3]; rfl
    · show min _ 4611686018427387904 = _; rw [f3]; show min ((n : Int) - 1) _ = _; omega
theorem Pt.more {n k : Nat} {t : To} (hB : Tb t) (h : Pt n k t) (hk : 1 ≤ k) (hn : (n : Int) ≤ 4611686018427387904) (a u : Int) (hu : 1 ≤ u ∧ u ≤ (k : Int)) (hB1 : Tb (t.addV a ((n : Int) - (k + 1)))) : (t.addV a ((n : Int) - (k + 1))).linkR (k + 1) u = 0 ∧ (t.addV a ((n : Int) - (k + 1))).linkN (k + 1) u = k ∧ (Tb ((t.addV a ((n : Int) - (k + 1))).linked (k + 1) u) → Pt n (k + 1) ((t.addV a ((n : Int) - (k + 1))).linked (k + 1) u)) := by
  obtain ⟨hE, e1, va, vl, i, f1, f2, f3, f4⟩ := h.add hB a
  have ee : (t.addV a ((n : Int) - (k + 1))).e = t.e ∧ (t.addV a ((n : Int) - (k + 1))).fe = t.fe := ⟨rfl, rfl⟩
  generalize ht : t.addV a ((n : Int) - (k + 1)) = t1 at *
  have a1 : isA t1.v ((k : Int) + 1) = true := (va _).2 (by omega)
  have a2 : isA t1.v u = true := (va _).2 (by omega)
  obtain ⟨g1, g2, g3, g4, g5⟩ := f4 u hu
  have hs : t1.same ((k : Int) + 1) u = false := by
    unfold To.same
    rw [f1, f2, g1]
    simpa using g2
  have hR : t1.linkR (k + 1) u = 0 := by unfold To.linkR; rw [if_pos ⟨a1, a2⟩, if_neg (by rw [hs]; simp)]
  have hN : t1.newE = k := by
    show tkI t1.e t1.fe = _
    rw [ee.1, ee.2, h.el.2, tkI_nil, h.el.1]; omega
  have hL : t1.linked (k + 1) u = t1.link (k + 1) u := by unfold To.linked; rw [if_pos hR]
  refine ⟨hR, by unfold To.linkN; rw [if_pos hR, hN], fun hB2 => ?_⟩
  rw [hL] at hB2 ⊢
  obtain ⟨hE2, L, inL, sL, c1, _, c3⟩ := link_S hB1 hE a1 a2 hs hB2
  rw [f1, f2, g1, g3] at inL c1 c3
  have evv : (t1.link (k + 1) u).v = t1.v ∧ (t1.link (k + 1) u).fv = t1.fv := ⟨rfl, rfl⟩
  have eit : ∀ v, (t1.link (k + 1) u).item v = t1.item v := fun v => rfl
  have eee : (t1.link (k + 1) u).e = tkL t1.e t1.fe ⟨k + 1, u, t1.newX, t1.newY⟩ ∧ (t1.link (k + 1) u).fe = t1.fe.dropLast := ⟨rfl, rfl⟩
  have all : ∀ v, 1 ≤ v ∧ v ≤ ((k + 1 : Nat) : Int) → t1.item v ∈ L := fun v hv => by
    by_cases e : v = k + 1
    · rw [e, f1]; exact inL i (.inl (by simp))
    · have hv' : 1 ≤ v ∧ v ≤ (k : Int) := by omega
      rw [(f4 v hv').1]
      exact inL _ (.inr (h.one u v hu hv'))
  refine ⟨hE2, fun v => by rw [evv.1]; exact va v, by rw [evv.1, evv.2]; exact vl, fun m => ?_, ?_, fun v q hv hq => ?_, fun v hv => ?_⟩
  · have hf : ∀ f ∈ t1.fe, 1 ≤ f ∧ f ≤ t1.e.length := fun f hf => by rw [ee.2, h.el.2] at hf; cases hf
    rw [eee.1, isA_tkL hf, show tkI t1.e t1.fe = k from hN, ee.1]
    split
    · rename_i e; subst e; simp only [true_iff]; omega
    · rename_i e
      rw [h.ea]; omega
  · rw [eee.1, eee.2, ee.1, ee.2, h.el.2, tkL_nil]
    refine ⟨?_, rfl⟩
    simp only [List.length_append, List.length_cons, List.length_nil, h.el.1]
    omega
  · rw [eit, eit, sL _ (all v hv)]; exact all q hq
  · rw [eit, sL _ (all v hv), c1, c3, g4, g5]
    refine ⟨?_, ?_⟩
    · show ((t1.s.V i).c + 0) + (k : Int) = _; rw [f3]; push_cast; show (1 : Int) + 0 + k = _; omega
    · show min (min (t1.s.V i).l 4611686018427387904) _ = _; rw [f3]; push_cast; show min (min ((n : Int) - (k + 1)) 4611686018427387904) ((n : Int) - k) = _; omega
/-- A tree that was cut in two: M is the tour of p, N that of q; together they have n vertices, the sum Z, and the least 0. -/
structure Ps (n : Nat) (Z : Int) (t : To) (p q : Int) (M N : List Int) : Prop where
  eu : Eu t
  va : ∀ v, isA t.v v = true ↔ 1 ≤ v ∧ v ≤ (n : Int)
  hp : 1 ≤ p ∧ p ≤ (n : Int)
  hq : 1 ≤ q ∧ q ≤ (n : Int)
  pM : t.item p ∈ M
  qN : t.item q ∈ N
  sM : ∀ k ∈ M, t.s.S k = M
  sN : ∀ k ∈ N, t.s.S k = N
  ap : ∀ k, k ∈ M → k ∈ N → False
  all : ∀ v, 1 ≤ v ∧ v ≤ (n : Int) → t.item v ∈ M ∨ t.item v ∈ N
  cc : cS t.s.V M + cS t.s.V N = n ∧ 1 ≤ cS t.s.V M ∧ 1 ≤ cS t.s.V N
  ss : sS t.s.V M + sS t.s.V N = Z
  ll : min (lS t.s.V M) (lS t.s.V N) = 0
theorem Pt.total {n : Nat} {t : To} (hB : Tb t) (h : Pt n n t) (hn : 2 ≤ n ∧ n ≤ 60) : (t.total 1).c = n ∧ (t.total n).s = wr (sS t.s.V (t.s.S (t.item n))) ∧ (t.total 1).l = 0 := by
  have h1 : isA t.v 1 = true := (h.va 1).2 (by omega)
  have h2 : isA t.v n = true := (h.va n).2 (by omega)
  obtain ⟨c1, c2⟩ := h.cs 1 (by omega)
  obtain ⟨a1, a2, a3⟩ := To.total_S (h.eu.ne0 hB h1)
  obtain ⟨b1, b2, b3⟩ := To.total_S (h.eu.ne0 hB h2)
  refine ⟨?_, b2, ?_⟩
  · rw [a1, c1, wr_id (by omega) (by omega)]
  · rw [a3, c2]; omega
theorem Pt.cut {n : Nat} {t : To} (hB : Tb t) (h : Pt n n t) (hn : 2 ≤ n) {x : Int} (hx : 1 ≤ x ∧ x < (n : Int)) : isA t.e x = true ∧ t.cutR x = 0 ∧ ∃ M N, Ps n (sS t.s.V (t.s.S (t.item n))) (t.cut x) (t.endA x) (t.endB x) M N := by
  have he : isA t.e x = true := (h.ea x).2 hx
  obtain ⟨hE, ha, hb, M, N, aM, bN, ax, sM, sN, ap, all, c1, c2, c3, c4, c5⟩ := cut_S hB h.eu he
  have e1 : t.cut x = t.cutE x := by unfold To.cut; rw [if_pos he]
  have e2 : t.endA x = (t.edge x).a := by unfold To.endA; rw [if_pos he]
  have e3 : t.endB x = (t.edge x).b := by unfold To.endB; rw [if_pos he]
  have ev := To.cutE_v t x
  have ei : ∀ v, (t.cutE x).item v = t.item v := fun v => by unfold To.item; rw [ev]
  have eS : t.s.S (t.item (t.edge x).a) = t.s.S (t.edge x).x := hB.fam.same _ _ ax
  have ha' := (h.va _).1 ha
  have hb' := (h.va _).1 hb
  have eT : t.s.S (t.item n) = t.s.S (t.edge x).x := by rw [← eS]; exact hB.fam.same _ _ (h.one _ n ha' (by omega))
  obtain ⟨d1, d2⟩ := h.cs _ ha'
  rw [eS] at d1 d2
  refine ⟨he, by unfold To.cutR; rw [if_pos he], M, N, ?_⟩
  rw [e1, e2, e3, eT]
  refine ⟨hE, fun v => by rw [ev]; exact h.va v, ha', hb', by rw [ei]; exact aM, by rw [ei]; exact bN, sM, sN, ap, fun v hv => by rw [ei]; exact all v ((h.va v).2 hv) (by rw [← eS]; exact h.one _ v ha' hv), ⟨by omega, c4, c5⟩, c2.symm, by omega⟩
section
variable {n : Nat} {Z : Int} {t : To} {p q : Int} {M N : List Int}
theorem Ps.tot (hB : Tb t) (h : Ps n Z t p q M N) {v : Int} (hv : 1 ≤ v ∧ v ≤ (n : Int)) {L : List Int} (hL : t.s.S (t.item v) = L) : (t.total v).c = wr (cS t.s.V L) ∧ (t.total v).s = wr (sS t.s.V L) ∧ (t.total v).l = lS t.s.V L := by
  rw [← hL]; exact To.total_S (h.eu.ne0 hB ((h.va v).2 hv))
theorem Ps.pq (h : Ps n Z t p q M N) : t.same p q = false := by
  unfold To.same
  rw [h.sM _ h.pM]
  simp only [decide_eq_false_iff_not]
  exact fun hk => h.ap _ hk h.qN
theorem Ps.sums (hB : Tb t) (h : Ps n Z t p q M N) (hn : n ≤ 60) : wr ((t.total p).c + (t.total q).c) = n ∧ wr ((t.total p).s + (t.total q).s) = wr Z ∧ min (t.total p).l (t.total q).l = 0 := by
  obtain ⟨a1, a2, a3⟩ := h.tot hB h.hp (h.sM _ h.pM)
  obtain ⟨b1, b2, b3⟩ := h.tot hB h.hq (h.sN _ h.qN)
  rw [a1, a2, a3, b1, b2, b3]
  refine ⟨?_, ?_, h.ll⟩
  · rw [wr_l, wr_r, h.cc.1, wr_id (by omega) (by omega)]
  · rw [wr_l, wr_r, h.ss]
theorem Ps.each (hB : Tb t) (h : Ps n Z t p q M N) {v : Int} (hv : 1 ≤ v ∧ v ≤ (n : Int)) : (t.same v p = true ∧ t.same v q = false ∧ (t.total v).c = (t.total p).c) ∨ (t.same v p = false ∧ t.same v q = true ∧ (t.total v).s = (t.total q).s) := by
  unfold To.same
  rcases h.all v hv with k | k
  · refine .inl ?_
    rw [h.sM _ k, (h.tot hB hv (h.sM _ k)).1, (h.tot hB h.hp (h.sM _ h.pM)).1]
    simp only [decide_eq_false_iff_not, decide_eq_true_eq]
    exact ⟨h.pM, fun e => h.ap _ e h.qN, trivial⟩
  · refine .inr ?_
    rw [h.sN _ k, (h.tot hB hv (h.sN _ k)).2.1, (h.tot hB h.hq (h.sN _ h.qN)).2.1]
    simp only [decide_eq_false_iff_not, decide_eq_true_eq]
    exact ⟨fun e => h.ap _ h.pM e, h.qN, trivial⟩
theorem Ps.again (hB : Tb t) (h : Ps n Z t p q M N) (hn : n ≤ 60) {c d : Int} (hc : 1 ≤ c ∧ c ≤ (n : Int)) (hd : 1 ≤ d ∧ d ≤ (n : Int)) : (t.linkR c d = 5 ∧ t.linked c d = t ∧ t.same c d = true ∧ (t.total c).c ≠ n) ∨ (t.linkR c d = 0 ∧ (Tb (t.linked c d) → ((t.linked c d).total c).c = n ∧ ((t.linked c d).total p).s = wr Z ∧ ((t.linked c d).total q).l = 0 ∧ (t.linked c d).same p q = true)) := by
  have h1 := (h.va c).2 hc
  have h2 := (h.va d).2 hd
  cases hs : t.same c d with
  | true =>
    have hR : t.linkR c d = 5 := by unfold To.linkR; rw [if_pos ⟨h1, h2⟩, if_pos hs]
    refine .inl ⟨hR, by unfold To.linked; rw [hR, if_neg (by omega)], rfl, ?_⟩
    obtain ⟨c1, c2, c3⟩ := h.cc
    rcases h.all c hc with k | k
    · rw [(h.tot hB hc (h.sM _ k)).1, wr_id (by omega) (by omega)]; omega
    · rw [(h.tot hB hc (h.sN _ k)).1, wr_id (by omega) (by omega)]; omega
  | false =>
    have hR : t.linkR c d = 0 := by unfold To.linkR; rw [if_pos ⟨h1, h2⟩, if_neg (by rw [hs]; simp)]
    have hL : t.linked c d = t.link c d := by unfold To.linked; rw [if_pos hR]
    refine .inr ⟨hR, fun hB2 => ?_⟩
    rw [hL] at hB2 ⊢
    obtain ⟨hE2, L, inL, sL, l1, l2, l3⟩ := link_S hB h.eu h1 h2 hs hB2
    have eit : ∀ v, (t.link c d).item v = t.item v := fun v => rfl
    have evv : (t.link c d).v = t.v := rfl
    have both : (t.s.S (t.item c) = M ∧ t.s.S (t.item d) = N) ∨ (t.s.S (t.item c) = N ∧ t.s.S (t.item d) = M) := by
      have hs' : t.item d ∉ t.s.S (t.item c) := by simpa [To.same] using hs
      rcases h.all c hc with k | k <;> rcases h.all d hd with k' | k'
      · exact absurd k' (by rw [h.sM _ k] at hs'; exact hs')
      · exact .inl ⟨h.sM _ k, h.sN _ k'⟩
      · exact .inr ⟨h.sN _ k, h.sM _ k'⟩
      · exact absurd k' (by rw [h.sN _ k] at hs'; exact hs')
    have inM : ∀ k, k ∈ M → k ∈ L := fun k hk => inL k (by rcases both with ⟨e1, e2⟩ | ⟨e1, e2⟩ <;> rw [e1, e2] <;> simp [hk])
    have inN : ∀ k, k ∈ N → k ∈ L := fun k hk => inL k (by rcases both with ⟨e1, e2⟩ | ⟨e1, e2⟩ <;> rw [e1, e2] <;> simp [hk])
    obtain ⟨c1, c2, c3⟩ := h.cc
    have hss := h.ss
    have hll := h.ll
    have m1 : cS (t.link c d).s.V L = n ∧ sS (t.link c d).s.V L = Z ∧ lS (t.link c d).s.V L = 0 := by
      rcases both with ⟨e1, e2⟩ | ⟨e1, e2⟩ <;> rw [e1, e2] at l1 l2 l3 <;> exact ⟨by omega, by omega, by omega⟩
    have tt : ∀ v, 1 ≤ v ∧ v ≤ (n : Int) → (t.link c d).s.S ((t.link c d).item v) = L := fun v hv => by
      rw [eit]; rcases h.all v hv with k | k
      · exact sL _ (inM _ k)
      · exact sL _ (inN _ k)
    have tot : ∀ v, 1 ≤ v ∧ v ≤ (n : Int) → ((t.link c d).total v).c = wr n ∧ ((t.link c d).total v).s = wr Z ∧ ((t.link c d).total v).l = 0 := fun v hv => by
      have := To.total_S (t := t.link c d) (v := v) (hE2.ne0 hB2 (by rw [evv]; exact (h.va v).2 hv))
      rw [tt v hv, m1.1, m1.2.1, m1.2.2] at this
      exact this
    refine ⟨by rw [(tot c hc).1, wr_id (by omega) (by omega)], (tot p h.hp).2.1, (tot q h.hq).2.2, ?_⟩
    unfold To.same
    rw [tt p h.hp]
    simp only [decide_eq_true_eq]
    rw [eit]; exact inN _ h.qN
end
end Go.Proofs.YtcbgeahcnjamdabGreat
