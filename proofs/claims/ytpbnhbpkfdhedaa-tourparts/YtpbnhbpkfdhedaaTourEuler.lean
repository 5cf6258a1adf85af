/- Layer 7 (tour), plain: sequences that are turned, spliced and unspliced. -/
import Derived.Test.YtpbnhbpkfdhedaaTourMade
import Derived.Test.YtpbnhbpkfdhedaaTourTq
namespace Go.Proofs.Ytpbnhbpkfdhedaa
open Go.RowKit
set_option linter.unusedVariables false
/-- Sequences apart from one another. -/
structure Fam (S : Int → List Int) : Prop where
  mem : ∀ i, S i ≠ [] → i ∈ S i
  same : ∀ i j, j ∈ S i → S j = S i
  nodup : ∀ i, (S i).Nodup
theorem Fam.of {w : World} {X : Hx} {F : Nat → Prop} {B : Nat} {s : Sq} (h : TsX X w F B s) : Fam s.S :=
  ⟨fun i hi => by
    cases hk : isK s.K i with
    | true => exact Tp.mem h |>.1 hk
    | false => exact absurd ((Tp.nil h).1 hk) hi, fun i j hj => Tp.same h hj, fun i => Tp.nodup h i⟩
theorem nodup_idx {A B : List Int} {i : Int} (h : (A ++ i :: B).Nodup) : (A ++ i :: B).idxOf i = A.length := by
  have hn : i ∉ A := fun hi => by
    have := (List.nodup_append.1 h).2.2 i hi i (by simp)
    exact this rfl
  rw [List.idxOf_append, if_neg hn]
  simp
/-- What a cut makes: A | i B. -/
theorem cutS_eq {S : Int → List Int} {i : Int} {A B : List Int} (hF : Fam S) (hS : S i = A ++ i :: B) : cutS S i = fun j => if j ∈ A then A else if j ∈ i :: B then i :: B else S j := by
  have hn : (A ++ i :: B).Nodup := by rw [← hS]; exact hF.nodup i
  unfold cutS
  rw [hS, nodup_idx hn]
  simp
/-- What a join makes. -/
theorem joinS_eq {S : Int → List Int} {i j : Int} (hi : i ∈ S i) (hj : j ∈ S j) (hn : j ∉ S i) : joinS S i j = fun k => if k ∈ S i ∨ k ∈ S j then S i ++ S j else S k := by
  unfold joinS
  rw [if_pos]
  unfold joinB
  simp [hi, hj, hn]
theorem joinS_no {S : Int → List Int} {i j : Int} (hn : j ∈ S i) : joinS S i j = S := by
  unfold joinS
  rw [if_neg]
  unfold joinB
  simp [hn]
/-- L in the place of what the lists A hold. -/
def putS (S : Int → List Int) (A L : List Int) : Int → List Int := fun j => if j ∈ A then L else S j
theorem putS_in {S : Int → List Int} {A L : List Int} {j : Int} (h : j ∈ A) : putS S A L j = L := if_pos h
theorem putS_out {S : Int → List Int} {A L : List Int} {j : Int} (h : j ∉ A) : putS S A L j = S j := if_neg h
/-- A sequence that is replaced by another one of the same items. -/
theorem Fam.put {S : Int → List Int} (hF : Fam S) {i : Int} {L : List Int} (hL : L.Perm (S i)) : Fam (putS S L L) := by
  have hmem : ∀ j, j ∈ L ↔ j ∈ S i := fun j => hL.mem_iff
  refine ⟨fun j hj => ?_, fun j k hk => ?_, fun j => ?_⟩
  · by_cases h : j ∈ L
    · rw [putS_in h]; exact h
    · rw [putS_out h] at hj ⊢; exact hF.mem j hj
  · by_cases h : j ∈ L
    · rw [putS_in h] at hk
      rw [putS_in h, putS_in hk]
    · rw [putS_out h] at hk
      rw [putS_out h]
      have hkn : k ∉ L := fun hk' => by
        have e1 := hF.same i k ((hmem k).1 hk')
        have e2 := hF.same j k hk
        have hj : j ∈ S j := hF.mem j (fun e => by rw [e] at hk; cases hk)
        exact h ((hmem j).2 (by rw [← e1, e2]; exact hj))
      rw [putS_out hkn, hF.same j k hk]
  · by_cases h : j ∈ L
    · rw [putS_in h]; exact hL.nodup_iff.2 (hF.nodup i)
    · rw [putS_out h]; exact hF.nodup j
/-- A sequence turned to begin at i. -/
theorem turn_eq {s : Sq} {i : Int} {A B : List Int} (hF : Fam s.S) (hS : s.S i = A ++ i :: B) : (s.turn i).S = putS s.S (i :: B ++ A) (i :: B ++ A) := by
  have hn : (A ++ i :: B).Nodup := by rw [← hS]; exact hF.nodup i
  have hc := cutS_eq hF hS
  have hiA : i ∉ A := fun h => (List.nodup_append.1 hn).2.2 i h i (by simp) rfl
  show joinS (cutS s.S i) i ((s.S i).headD 0) = _
  have ej : ∀ j, cutS s.S i j = if j ∈ A then A else if j ∈ i :: B then i :: B else s.S j := fun j => congrFun hc j
  have e1 : cutS s.S i i = i :: B := by rw [ej, if_neg hiA, if_pos (by simp)]
  generalize cutS s.S i = S1 at *
  cases A with
  | nil =>
    have hh : (s.S i).headD 0 = i := by rw [hS]; rfl
    rw [hh, joinS_no (by rw [e1]; simp)]
    funext j
    rw [ej]
    unfold putS
    simp
  | cons a A' =>
    have hh : (s.S i).headD 0 = a := by rw [hS]; rfl
    have e2 : S1 a = a :: A' := by rw [ej, if_pos (by simp)]
    have haB : a ∉ i :: B := fun h => (List.nodup_append.1 hn).2.2 a (by simp) a h rfl
    rw [hh, joinS_eq (by rw [e1]; simp) (by rw [e2]; simp) (by rw [e1]; exact haB), e1, e2]
    funext j
    unfold putS
    by_cases h1 : j ∈ i :: B
    · rw [if_pos (.inl h1), if_pos (List.mem_append.2 (.inl h1))]
    · by_cases h2 : j ∈ a :: A'
      · rw [if_pos (.inr h2), if_pos (List.mem_append.2 (.inr h2))]
      · rw [if_neg (by rintro (h | h); exact h1 h; exact h2 h), if_neg (fun h => (List.mem_append.1 h).elim h1 h2), ej, if_neg h2, if_neg h1]
/-- An item's sequence, parted at it. -/
theorem Fam.at {S : Int → List Int} (hF : Fam S) {i : Int} (hi : i ∈ S i) : ∃ A B, S i = A ++ i :: B := by
  obtain ⟨A, B, e⟩ := List.append_of_mem hi
  exact ⟨A, B, e⟩
theorem Fam.turned {s : Sq} (hF : Fam s.S) {i : Int} {A B : List Int} (hS : s.S i = A ++ i :: B) : Fam (s.turn i).S ∧ (∀ j, j ∉ s.S i → (s.turn i).S j = s.S j) ∧ (∀ j, j ∈ s.S i → (s.turn i).S j = i :: B ++ A) := by
  rw [turn_eq hF hS]
  have hp : (i :: B ++ A).Perm (s.S i) := by rw [hS]; exact List.perm_append_comm
  exact ⟨hF.put hp, fun j hj => putS_out (fun h => hj (hp.mem_iff.1 h)), fun j hj => putS_in (hp.mem_iff.2 hj)⟩
/-- Two sequences that are joined. -/
theorem Fam.joined {S : Int → List Int} (hF : Fam S) {i j : Int} (hi : i ∈ S i) (hj : j ∈ S j) (hn : j ∉ S i) : Fam (joinS S i j) ∧ (∀ k, k ∉ S i → k ∉ S j → joinS S i j k = S k) ∧ (∀ k, k ∈ S i ∨ k ∈ S j → joinS S i j k = S i ++ S j) := by
  have he := joinS_eq hi hj hn
  have hin : ∀ k, k ∈ S i ∨ k ∈ S j → joinS S i j k = S i ++ S j := fun k hk => by rw [he]; exact if_pos hk
  have hout : ∀ k, ¬ (k ∈ S i ∨ k ∈ S j) → joinS S i j k = S k := fun k hk => by rw [he]; exact if_neg hk
  have hdis : ∀ k, k ∈ S i → k ∈ S j → False := fun k h1 h2 => hn (by rw [← hF.same i k h1, hF.same j k h2]; exact hj)
  refine ⟨⟨fun k hk => ?_, fun k l hl => ?_, fun k => ?_⟩, fun k h1 h2 => hout k (by rintro (h | h); exact h1 h; exact h2 h), hin⟩
  · by_cases h : k ∈ S i ∨ k ∈ S j
    · rw [hin k h]; exact List.mem_append.2 h
    · rw [hout k h] at hk ⊢; exact hF.mem k hk
  · by_cases h : k ∈ S i ∨ k ∈ S j
    · rw [hin k h] at hl
      rw [hin k h, hin l (List.mem_append.1 hl)]
    · rw [hout k h] at hl
      have hk : k ∈ S k := hF.mem k (fun e => by rw [e] at hl; cases hl)
      have hl' : ¬ (l ∈ S i ∨ l ∈ S j) := by
        rintro (h1 | h1)
        · exact h (.inl (by rw [← hF.same i l h1, hF.same k l hl]; exact hk))
        · exact h (.inr (by rw [← hF.same j l h1, hF.same k l hl]; exact hk))
      rw [hout k h, hout l hl', hF.same k l hl]
  · by_cases h : k ∈ S i ∨ k ∈ S j
    · rw [hin k h]
      exact List.nodup_append.2 ⟨hF.nodup i, hF.nodup j, fun a ha b hb e => hdis a ha (e ▸ hb)⟩
    · rw [hout k h]; exact hF.nodup k
/-- A sequence that is cut. -/
theorem Fam.parted {S : Int → List Int} (hF : Fam S) {i : Int} {A B : List Int} (hS : S i = A ++ i :: B) : Fam (cutS S i) ∧ (∀ k, k ∉ S i → cutS S i k = S k) ∧ (∀ k, k ∈ A → cutS S i k = A) ∧ (∀ k, k ∈ i :: B → cutS S i k = i :: B) := by
  have hn : (A ++ i :: B).Nodup := by rw [← hS]; exact hF.nodup i
  have ej : ∀ j, cutS S i j = if j ∈ A then A else if j ∈ i :: B then i :: B else S j := fun j => congrFun (cutS_eq hF hS) j
  have hAB : ∀ k, k ∈ A → k ∉ i :: B := fun k h1 h2 => (List.nodup_append.1 hn).2.2 k h1 k h2 rfl
  have hA : ∀ k, k ∈ A → cutS S i k = A := fun k hk => by rw [ej, if_pos hk]
  have hB : ∀ k, k ∈ i :: B → cutS S i k = i :: B := fun k hk => by rw [ej, if_neg (fun h => hAB k h hk), if_pos hk]
  have hO : ∀ k, k ∉ S i → cutS S i k = S k := fun k hk => by
    rw [hS] at hk
    rw [ej, if_neg (fun h => hk (List.mem_append.2 (.inl h))), if_neg (fun h => hk (List.mem_append.2 (.inr h)))]
  have three : ∀ k, k ∈ A ∨ k ∈ i :: B ∨ k ∉ S i := fun k => by
    by_cases h1 : k ∈ A
    · exact .inl h1
    · by_cases h2 : k ∈ i :: B
      · exact .inr (.inl h2)
      · exact .inr (.inr (by rw [hS]; exact fun h => (List.mem_append.1 h).elim h1 h2))
  refine ⟨⟨fun k hk => ?_, fun k l hl => ?_, fun k => ?_⟩, hO, hA, hB⟩
  · rcases three k with h | h | h
    · rw [hA k h]; exact h
    · rw [hB k h]; exact h
    · rw [hO k h] at hk ⊢; exact hF.mem k hk
  · rcases three k with h | h | h
    · rw [hA k h] at hl; rw [hA k h, hA l hl]
    · rw [hB k h] at hl; rw [hB k h, hB l hl]
    · rw [hO k h] at hl
      have hk : k ∈ S k := hF.mem k (fun e => by rw [e] at hl; cases hl)
      have hl' : l ∉ S i := fun h' => h (by rw [← hF.same i l h', hF.same k l hl]; exact hk)
      rw [hO k h, hO l hl', hF.same k l hl]
  · rcases three k with h | h | h
    · rw [hA k h]; exact (List.nodup_append.1 hn).1
    · rw [hB k h]; exact (List.nodup_append.1 hn).2.1
    · rw [hO k h]; exact hF.nodup k
theorem Sq.join_S (s : Sq) (i j : Int) : (s.join i j).S = joinS s.S i j := rfl
theorem Sq.cut_S (s : Sq) (i : Int) : (s.cut i).S = cutS s.S i := rfl
/-- Two tours are spliced. -/
theorem Fam.spliced {s : Sq} (hF : Fam s.S) {i j x y : Int} {A B C D : List Int} (hi : s.S i = A ++ i :: B) (hj : s.S j = C ++ j :: D) (hx : s.S x = [x]) (hy : s.S y = [y]) (hij : j ∉ s.S i) (hxi : x ∉ s.S i) (hxj : x ∉ s.S j) (hyi : y ∉ s.S i) (hyj : y ∉ s.S j) (hxy : x ≠ y) :
    Fam (s.splice i j x y).S ∧ (∀ k, k ∈ (i :: B ++ A) ++ x :: ((j :: D ++ C) ++ [y]) → (s.splice i j x y).S k = (i :: B ++ A) ++ x :: ((j :: D ++ C) ++ [y])) ∧ (∀ k, k ∉ (i :: B ++ A) ++ x :: ((j :: D ++ C) ++ [y]) → (s.splice i j x y).S k = s.S k) := by
  have hii : i ∈ s.S i := by rw [hi]; simp
  have hjj : j ∈ s.S j := by rw [hj]; simp
  have m1 : ∀ k, k ∈ i :: B ++ A ↔ k ∈ s.S i := fun k => by rw [hi]; exact List.perm_append_comm.mem_iff
  have m2 : ∀ k, k ∈ j :: D ++ C ↔ k ∈ s.S j := fun k => by rw [hj]; exact List.perm_append_comm.mem_iff
  have hji : i ∉ s.S j := fun h => hij (by rw [← hF.same j i h] at hjj; exact hjj)
  obtain ⟨F1, o1, n1⟩ := hF.turned hi
  have hj1 : (s.turn i).S j = C ++ j :: D := by rw [o1 j hij]; exact hj
  obtain ⟨F2, o2, n2⟩ := F1.turned hj1
  have sj1 : (s.turn i).S j = s.S j := o1 j hij
  -- behind both turns
  have e2i : ((s.turn i).turn j).S i = i :: B ++ A := by rw [o2 i (by rw [sj1]; exact hji), n1 i hii]
  have e2j : ((s.turn i).turn j).S j = j :: D ++ C := n2 j (by rw [sj1]; exact hjj)
  have e2x : ((s.turn i).turn j).S x = [x] := by rw [o2 x (by rw [sj1]; exact hxj), o1 x hxi, hx]
  have e2y : ((s.turn i).turn j).S y = [y] := by rw [o2 y (by rw [sj1]; exact hyj), o1 y hyi, hy]
  have e2o : ∀ k, k ∉ s.S i → k ∉ s.S j → ((s.turn i).turn j).S k = s.S k := fun k h1 h2 => by rw [o2 k (by rw [sj1]; exact h2), o1 k h1]
  obtain ⟨S2, hS2⟩ : ∃ S2, S2 = ((s.turn i).turn j).S := ⟨_, rfl⟩
  rw [← hS2] at F2 e2i e2j e2x e2y e2o
  have eS : (s.splice i j x y).S = joinS (joinS (joinS S2 i x) i j) i y := by unfold Sq.splice; rw [Sq.join_S, Sq.join_S, Sq.join_S, hS2]
  rw [eS]
  clear eS hS2 o1 n1 o2 n2 hj1 sj1 F1
  obtain ⟨F3, o3, n3⟩ := F2.joined (i := i) (j := x) (by rw [e2i]; simp) (by rw [e2x]; simp) (by rw [e2i]; exact fun h => hxi ((m1 x).1 h))
  rw [e2i, e2x] at o3 n3
  have a3i := n3 i (.inl (by simp))
  have a3j : joinS S2 i x j = j :: D ++ C := by rw [o3 j (fun h => hij ((m1 j).1 h)) (by simp; exact fun e => hxj (e ▸ hjj))]; exact e2j
  have a3y : joinS S2 i x y = [y] := by rw [o3 y (fun h => hyi ((m1 y).1 h)) (by simp; exact Ne.symm hxy)]; exact e2y
  generalize joinS S2 i x = S3 at *
  obtain ⟨F4, o4, n4⟩ := F3.joined (i := i) (j := j) (by rw [a3i]; simp) (by rw [a3j]; simp) (by
    rw [a3i]
    intro h
    rcases List.mem_append.1 h with h | h
    · exact hij ((m1 j).1 h)
    · simp at h; exact hxj (h ▸ hjj))
  rw [a3i, a3j] at o4 n4
  have a4i := n4 i (.inl (by simp))
  have a4y : joinS S3 i j y = [y] := by
    rw [o4 y (fun h => ?_) (fun h => hyj ((m2 y).1 h))]
    · exact a3y
    · rcases List.mem_append.1 h with h | h
      · exact hyi ((m1 y).1 h)
      · simp at h; exact hxy h.symm
  generalize joinS S3 i j = S4 at *
  obtain ⟨F5, o5, n5⟩ := F4.joined (i := i) (j := y) (by rw [a4i]; simp) (by rw [a4y]; simp) (by
    rw [a4i]
    intro h
    rcases List.mem_append.1 h with h | h
    · rcases List.mem_append.1 h with h | h
      · exact hyi ((m1 y).1 h)
      · simp at h; exact hxy h.symm
    · exact hyj ((m2 y).1 h))
  rw [a4i, a4y] at o5 n5
  have eL : (i :: B ++ A ++ [x] ++ (j :: D ++ C)) ++ [y] = (i :: B ++ A) ++ x :: ((j :: D ++ C) ++ [y]) := by simp
  refine ⟨F5, fun k hk => ?_, fun k hk => ?_⟩
  · rw [← eL] at hk ⊢
    exact n5 k (List.mem_append.1 hk)
  · rw [← eL] at hk
    have h1 : k ∉ i :: B ++ A ++ [x] ++ (j :: D ++ C) := fun h => hk (List.mem_append.2 (.inl h))
    have h2 : k ∉ [y] := fun h => hk (List.mem_append.2 (.inr h))
    have h3 : k ∉ i :: B ++ A ++ [x] := fun h => h1 (List.mem_append.2 (.inl h))
    have h4 : k ∉ j :: D ++ C := fun h => h1 (List.mem_append.2 (.inr h))
    have h5 : k ∉ i :: B ++ A := fun h => h3 (List.mem_append.2 (.inl h))
    have h6 : k ∉ [x] := fun h => h3 (List.mem_append.2 (.inr h))
    rw [o5 k h1 h2, o4 k h3 h4, o3 k h5 h6]
    exact e2o k (fun h => h5 ((m1 k).2 h)) (fun h => h4 ((m2 k).2 h))
theorem nxS_two {x n : Int} {l : List Int} : nxS (x :: n :: l) x = n := by
  unfold nxS
  rw [if_pos (by simp)]
  simp
/-- A tour is unspliced. -/
theorem Fam.unspliced {s : Sq} (hF : Fam s.S) {x y n m : Int} {A R N M : List Int} (hx : s.S x = A ++ x :: R) (hR : R ++ A = (n :: N) ++ y :: m :: M) :
    Fam (s.unsplice x y).S ∧ (s.unsplice x y).S x = [x] ∧ (s.unsplice x y).S y = [y] ∧ (∀ k, k ∈ n :: N → (s.unsplice x y).S k = n :: N) ∧ (∀ k, k ∈ m :: M → (s.unsplice x y).S k = m :: M) ∧ (∀ k, k ∉ s.S x → (s.unsplice x y).S k = s.S k) := by
  have hxx : x ∈ s.S x := by rw [hx]; simp
  obtain ⟨F1, o1, n1⟩ := hF.turned hx
  have eR : x :: R ++ A = (x :: n :: N) ++ y :: (m :: M) := by rw [List.cons_append, hR]; rfl
  have hp : ∀ k, k ∈ (x :: n :: N) ++ y :: (m :: M) ↔ k ∈ s.S x := fun k => by rw [← eR, hx]; exact List.perm_append_comm.mem_iff
  rw [eR] at n1
  have hnd : ((x :: n :: N) ++ y :: (m :: M)).Nodup := by rw [← n1 x hxx]; exact F1.nodup x
  have e1y : (s.turn x).S y = (x :: n :: N) ++ y :: (m :: M) := n1 y ((hp y).1 (by simp))
  have hdis : ∀ k, k ∈ x :: n :: N → k ∉ y :: (m :: M) := fun k h1 h2 => (List.nodup_append.1 hnd).2.2 k h1 k h2 rfl
  obtain ⟨F2, o2, p2, q2⟩ := F1.parted e1y
  rw [e1y] at o2
  have eU2 : (s.uns2 x y).S = cutS (s.turn x).S y := by unfold Sq.uns2; rw [Sq.cut_S]
  rw [← eU2] at F2 o2 p2 q2
  have o2' : ∀ k, k ∉ s.S x → (s.uns2 x y).S k = s.S k := fun k hk => by rw [o2 k (fun h => hk ((hp k).1 h)), o1 k hk]
  have e2x : (s.uns2 x y).S x = x :: n :: N := p2 x (by simp)
  have e2n : (s.uns2 x y).S n = [x] ++ n :: N := p2 n (by simp)
  have eU3 : (s.uns3 x y).S = cutS (s.uns2 x y).S n := by unfold Sq.uns3; rw [Sq.cut_S, e2x, nxS_two]
  obtain ⟨F3, o3, p3, q3⟩ := F2.parted e2n
  rw [← eU3] at F3 o3 p3 q3
  rw [e2n] at o3
  have e3y : (s.uns3 x y).S y = y :: m :: M := by rw [o3 y (fun h => hdis y h (by simp)), q2 y (by simp)]
  have e3m : (s.uns3 x y).S m = [y] ++ m :: M := by rw [o3 m (fun h => hdis m h (by simp)), q2 m (by simp)]; rfl
  have eU4 : (s.unsplice x y).S = cutS (s.uns3 x y).S m := by unfold Sq.unsplice; rw [Sq.cut_S, e3y, nxS_two]
  obtain ⟨F4, o4, p4, q4⟩ := F3.parted e3m
  rw [← eU4] at F4 o4 p4 q4
  rw [e3m] at o4
  have k1 : ∀ k, k ∈ x :: n :: N → k ∉ [y] ++ m :: M := fun k h1 h2 => hdis k h1 (by simpa using h2)
  refine ⟨F4, ?_, p4 y (by simp), fun k hk => ?_, fun k hk => q4 k hk, fun k hk => ?_⟩
  · rw [o4 x (k1 x (by simp)), p3 x (by simp)]
  · rw [o4 k (k1 k (by simp at hk ⊢; exact .inr hk)), q3 k hk]
  · have hk' : k ∉ (x :: n :: N) ++ y :: (m :: M) := fun h => hk ((hp k).1 h)
    rw [o4 k (fun h => hk' (List.mem_append.2 (.inr (by simpa using h)))), o3 k (fun h => hk' (List.mem_append.2 (.inl (by simpa using h)))), o2' k hk]
end Go.Proofs.Ytpbnhbpkfdhedaa
