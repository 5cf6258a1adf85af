/- Layer 7 (tour), plain: what the tour of a tree is. I v i: vertex v has the item i; E v u x y: an edge between v and u, gone along at x, gone back at y. -/
import Derived.Test.YtpbnhbpkfdhedaaKit
namespace Go.Proofs.Ytpbnhbpkfdhedaa
set_option linter.unusedVariables false

/-- Tq true v L: L is a tour of the tree of v, begun wherever between what hangs at v; Tq false v L: some of what hangs at v, in a row. -/
inductive Tq (I : Int → Int → Prop) (E : Int → Int → Int → Int → Prop) : Bool → Int → List Int → Prop
  | nil (v : Int) : Tq I E false v []
  | blk {v u x y : Int} {N M : List Int} (he : E v u x y) (hN : Tq I E true u N) (hM : Tq I E false v M) : Tq I E false v (x :: (N ++ y :: M))
  | own {v i : Int} {P Q : List Int} (hi : I v i) (hP : Tq I E false v P) (hQ : Tq I E false v Q) : Tq I E true v (P ++ i :: Q)
section
variable {I I' : Int → Int → Prop} {E E' : Int → Int → Int → Int → Prop}
theorem Tq.app {v : Int} {A B : List Int} (h : Tq I E false v A) (k : Tq I E false v B) : Tq I E false v (A ++ B) := by
  generalize hb : false = b at h
  induction h with
  | nil v => exact k
  | blk he hN hM ihN ihM =>
    have := Tq.blk he hN (ihM k hb)
    simpa [List.append_assoc] using this
  | own hi hP hQ _ _ => cases hb
theorem Tq.mono {b : Bool} {v : Int} {L : List Int} (h : Tq I E b v L) (hI : ∀ v i, I v i → i ∈ L → I' v i) (hE : ∀ v u x y, E v u x y → x ∈ L → y ∈ L → E' v u x y) : Tq I' E' b v L := by
  induction h with
  | nil v => exact .nil v
  | @blk v u x y N M he hN hM ihN ihM =>
    refine .blk (hE _ _ _ _ he (by simp) (by simp)) (ihN (fun v i h1 h2 => hI v i h1 (by simp [h2])) (fun v u x y h1 h2 h3 => hE v u x y h1 (by simp [h2]) (by simp [h3]))) (ihM (fun v i h1 h2 => hI v i h1 (by simp [h2])) (fun v u x y h1 h2 h3 => hE v u x y h1 (by simp [h2]) (by simp [h3])))
  | @own v i P Q hi hP hQ ihP ihQ =>
    exact .own (hI _ _ hi (by simp)) (ihP (fun v i h1 h2 => hI v i h1 (by simp [h2])) (fun v u x y h1 h2 h3 => hE v u x y h1 (by simp [h2]) (by simp [h3]))) (ihQ (fun v i h1 h2 => hI v i h1 (by simp [h2])) (fun v u x y h1 h2 h3 => hE v u x y h1 (by simp [h2]) (by simp [h3])))
/-- A tour, opened at its root. -/
theorem Tq.opened {v : Int} {L : List Int} (h : Tq I E true v L) : ∃ i P Q, I v i ∧ Tq I E false v P ∧ Tq I E false v Q ∧ L = P ++ i :: Q := by
  cases h with
  | own hi hP hQ => exact ⟨_, _, _, hi, hP, hQ, rfl⟩
/-- What hangs, opened at its first. -/
theorem Tq.first {v z : Int} {L : List Int} (h : Tq I E false v (z :: L)) : ∃ u y N M, E v u z y ∧ Tq I E true u N ∧ Tq I E false v M ∧ L = N ++ y :: M := by
  generalize hl : z :: L = l at h
  cases h with
  | nil => cases hl
  | blk he hN hM =>
    injection hl with h1 h2
    subst h1
    exact ⟨_, _, _, _, he, hN, hM, h2⟩
/-- The ring is turned by one. -/
theorem Tq.rot1 (hs : ∀ v u x y, E v u x y → E u v y x) {v z : Int} {L : List Int} (h : Tq I E true v (z :: L)) : ∃ u, Tq I E true u (L ++ [z]) := by
  obtain ⟨i, P, Q, hi, hP, hQ, e⟩ := h.opened
  cases P with
  | nil =>
    injection e with e1 e2
    subst e1 e2
    exact ⟨v, .own hi hQ (.nil v)⟩
  | cons x P' =>
    injection e with e1 e2
    subst e1
    obtain ⟨u, y, N, M, he, hN, hM, eP⟩ := hP.first
    obtain ⟨j, P2, Q2, hj, hP2, hQ2, eN⟩ := hN.opened
    refine ⟨u, ?_⟩
    have := Tq.own hj hP2 (hQ2.app (.blk (hs _ _ _ _ he) (.own hi hM hQ) (.nil u)))
    rw [e2, eP, eN]
    simpa [List.append_assoc] using this
theorem Tq.rot (hs : ∀ v u x y, E v u x y → E u v y x) {A B : List Int} : ∀ {v : Int}, Tq I E true v (A ++ B) → ∃ u, Tq I E true u (B ++ A) := by
  induction A generalizing B with
  | nil => intro v h; exact ⟨v, by simpa using h⟩
  | cons a A ih =>
    intro v h
    obtain ⟨u, h1⟩ := Tq.rot1 (L := A ++ B) hs (show Tq I E true v (a :: (A ++ B)) from h)
    rw [List.append_assoc] at h1
    obtain ⟨u', h2⟩ := ih h1
    exact ⟨u', by simpa [List.append_assoc] using h2⟩
/-- Each item is a vertex' or an edge's; an edge's has both its items, and both its ends, there. -/
theorem Tq.items {b : Bool} {v : Int} {L : List Int} (h : Tq I E b v L) : ∀ z ∈ L, (∃ u, I u z) ∨ ∃ a c x y, E a c x y ∧ (z = x ∨ z = y) ∧ x ∈ L ∧ y ∈ L ∧ (a = v ∨ ∃ i ∈ L, I a i) ∧ (∃ i ∈ L, I c i) := by
  induction h with
  | nil v => intro z hz; cases hz
  | @blk v u x y N M he hN hM ihN ihM =>
    obtain ⟨j, P2, Q2, hj, _, _, eN⟩ := hN.opened
    have hjN : j ∈ N := by rw [eN]; simp
    intro z hz
    have key : ∀ {K : List Int} {r : Int}, (∀ q ∈ K, q ∈ x :: (N ++ y :: M)) → (r = v ∨ ∃ i ∈ x :: (N ++ y :: M), I r i) → (∃ a c x' y', E a c x' y' ∧ (z = x' ∨ z = y') ∧ x' ∈ K ∧ y' ∈ K ∧ (a = r ∨ ∃ i ∈ K, I a i) ∧ (∃ i ∈ K, I c i)) → (∃ a c x' y', E a c x' y' ∧ (z = x' ∨ z = y') ∧ x' ∈ x :: (N ++ y :: M) ∧ y' ∈ x :: (N ++ y :: M) ∧ (a = v ∨ ∃ i ∈ x :: (N ++ y :: M), I a i) ∧ (∃ i ∈ x :: (N ++ y :: M), I c i)) := by
      rintro K r hK hr ⟨a, c, x', y', h1, h2, h3, h4, h5, i, h6, h7⟩
      refine ⟨a, c, x', y', h1, h2, hK _ h3, hK _ h4, ?_, i, hK _ h6, h7⟩
      rcases h5 with rfl | ⟨q, h8, h9⟩
      · exact hr
      · exact .inr ⟨q, hK _ h8, h9⟩
    rcases List.mem_cons.1 hz with rfl | hz
    · exact .inr ⟨v, u, z, y, he, .inl rfl, by simp, by simp, .inl rfl, j, by simp [hjN], hj⟩
    · rcases List.mem_append.1 hz with hz | hz
      · exact (ihN z hz).imp id (key (fun q hq => by simp [hq]) (.inr ⟨j, by simp [hjN], hj⟩))
      · rcases List.mem_cons.1 hz with rfl | hz
        · exact .inr ⟨v, u, x, z, he, .inr rfl, by simp, by simp, .inl rfl, j, by simp [hjN], hj⟩
        · exact (ihM z hz).imp id (key (fun q hq => by simp [hq]) (.inl rfl))
  | @own v i P Q hi hP hQ ihP ihQ =>
    intro z hz
    have key : ∀ {K : List Int}, (∀ q ∈ K, q ∈ P ++ i :: Q) → (∃ a c x' y', E a c x' y' ∧ (z = x' ∨ z = y') ∧ x' ∈ K ∧ y' ∈ K ∧ (a = v ∨ ∃ i ∈ K, I a i) ∧ (∃ i ∈ K, I c i)) → (∃ a c x' y', E a c x' y' ∧ (z = x' ∨ z = y') ∧ x' ∈ P ++ i :: Q ∧ y' ∈ P ++ i :: Q ∧ (a = v ∨ ∃ q ∈ P ++ i :: Q, I a q) ∧ (∃ q ∈ P ++ i :: Q, I c q)) := by
      rintro K hK ⟨a, c, x', y', h1, h2, h3, h4, h5, q, h6, h7⟩
      exact ⟨a, c, x', y', h1, h2, hK _ h3, hK _ h4, h5.imp id (fun ⟨q, h8, h9⟩ => ⟨q, hK _ h8, h9⟩), q, hK _ h6, h7⟩
    rcases List.mem_append.1 hz with hz | hz
    · exact (ihP z hz).imp id (key (fun q hq => by simp [hq]))
    · rcases List.mem_cons.1 hz with rfl | hz
      · exact .inl ⟨v, hi⟩
      · exact (ihQ z hz).imp id (key (fun q hq => by simp [hq]))
/-- Two vertices between which there is a way. -/
inductive Conn (E : Int → Int → Int → Int → Prop) : Int → Int → Prop
  | refl (v : Int) : Conn E v v
  | step {v u w : Int} (h : Conn E v u) {x y : Int} (he : E u w x y) : Conn E v w
theorem Conn.trans {a b c : Int} (h : Conn E a b) (k : Conn E b c) : Conn E a c := by
  induction k with
  | refl => exact h
  | step _ he ih => exact .step ih he
theorem Conn.symm (hs : ∀ v u x y, E v u x y → E u v y x) {a b : Int} (h : Conn E a b) : Conn E b a := by
  induction h with
  | refl => exact .refl _
  | step _ he ih => exact (Conn.step (.refl _) (hs _ _ _ _ he)).trans ih
/-- All vertices of a tour are joined by ways. -/
theorem Tq.conn {b : Bool} {v : Int} {L : List Int} (h : Tq I E b v L) (hI : ∀ v u i, I v i → I u i → v = u) (hD : ∀ v a c x y, E a c x y → ¬ I v x ∧ ¬ I v y) : ∀ u i, i ∈ L → I u i → Conn E v u := by
  induction h with
  | nil v => intro u i hi; cases hi
  | @blk v u x y N M he hN hM ihN ihM =>
    intro q i hi hq
    rcases List.mem_cons.1 hi with rfl | hi
    · exact absurd hq (hD _ _ _ _ _ he).1
    · rcases List.mem_append.1 hi with hi | hi
      · exact (Conn.step (.refl _) he).trans (ihN q i hi hq)
      · rcases List.mem_cons.1 hi with rfl | hi
        · exact absurd hq (hD _ _ _ _ _ he).2
        · exact ihM q i hi hq
  | @own v i P Q hi hP hQ ihP ihQ =>
    intro q j hj hq
    rcases List.mem_append.1 hj with hj | hj
    · exact ihP q j hj hq
    · rcases List.mem_cons.1 hj with rfl | hj
      · rw [hI _ _ _ hi hq]; exact .refl _
      · exact ihQ q j hj hq
end
end Go.Proofs.Ytpbnhbpkfdhedaa
