/- Layer 7 (tour), plain: the tours of a forest are those of its trees, whatever is done. -/
import Derived.Test.YtpbnhbpkfdhedaaTourEuler
namespace Go.Proofs.Ytpbnhbpkfdhedaa
open Go.RowKit
set_option linter.unusedVariables false
/-- Vertex v has the item i. -/
def tI (t : To) (v i : Int) : Prop := isA t.v v = true ∧ t.item v = i
/-- An edge between v and u: x leads to u, y back. -/
def tE (t : To) (v u x y : Int) : Prop := ∃ n, isA t.e n = true ∧ (((t.edge n).a = v ∧ (t.edge n).b = u ∧ (t.edge n).x = x ∧ (t.edge n).y = y) ∨ ((t.edge n).b = v ∧ (t.edge n).a = u ∧ (t.edge n).y = x ∧ (t.edge n).x = y))
theorem tE_symm (t : To) : ∀ v u x y, tE t v u x y → tE t u v y x := fun v u x y ⟨n, h1, h2⟩ => ⟨n, h1, h2.elim (fun ⟨a, b, c, d⟩ => .inr ⟨b, a, d, c⟩) (fun ⟨a, b, c, d⟩ => .inl ⟨b, a, d, c⟩)⟩
/-- What holds of the items, since they lie in a treap. -/
structure Tb (t : To) : Prop where
  fam : Fam t.s.S
  kS : ∀ i, isK t.s.K i = true ↔ t.s.S i ≠ []
  fk : t.s.fr.Nodup ∧ ∀ f ∈ t.s.fr, isK t.s.K f = false ∧ 1 ≤ f ∧ f ≤ t.s.K.length
theorem Tf.tb {W : World} {F : Nat → Prop} {B G : Nat} {t : To} (h : Tf W F B G t) : Tb t := by
  obtain ⟨X, Ft, hT, _⟩ := h.treap
  refine ⟨Fam.of hT, fun i => ?_, Tp.fk hT⟩
  constructor
  · intro hk e
    have := (Tp.mem hT).1 hk
    rw [e] at this
    cases this
  · intro hne
    cases hk : isK t.s.K i with
    | true => rfl
    | false => exact absurd ((Tp.nil hT).1 hk) hne
/-- A number that is taken next was not. -/
theorem newI_free {K : List Bool} {fr : List Int} (h : fr.Nodup ∧ ∀ f ∈ fr, isK K f = false ∧ 1 ≤ f ∧ f ≤ K.length) : isK K (newI K fr) = false := by
  rcases List.eq_nil_or_concat fr with rfl | ⟨fr', f, rfl⟩
  · show isK K ((K.length : Int) + 1) = false
    unfold isK
    rw [List.getD_eq_getElem?_getD, List.getElem?_eq_none (by omega)]
    simp
  · rw [List.concat_eq_append] at h ⊢
    unfold newI
    rw [List.getLast?_concat]
    exact (h.2 f (by simp)).1
/-- Free numbers of an arena are not taken. -/
def Frk {α : Type} (L : List (α × Bool)) (fr : List Int) : Prop := fr.Nodup ∧ ∀ f ∈ fr, isA L f = false ∧ 1 ≤ f ∧ f ≤ L.length
theorem Frk.new {α : Type} {L : List (α × Bool)} {fr : List Int} (h : Frk L fr) : isA L (tkI L fr) = false := by
  rcases List.eq_nil_or_concat fr with rfl | ⟨fr', f, rfl⟩
  · rw [tkI_nil]
    unfold isA
    rw [List.getElem?_eq_none (by omega)]
    simp
  · rw [List.concat_eq_append] at h ⊢
    rw [tkI_snoc]
    exact (h.2 f (by simp)).1
theorem Frk.rng {α : Type} {L : List (α × Bool)} {fr : List Int} (h : Frk L fr) : ∀ f ∈ fr, 1 ≤ f ∧ f ≤ L.length := fun f hf => (h.2 f hf).2
theorem Frk.take {α : Type} {L : List (α × Bool)} {fr : List Int} (h : Frk L fr) (x : α) : Frk (tkL L fr x) fr.dropLast := by
  refine ⟨h.1.sublist (List.dropLast_sublist fr), fun f hf => ?_⟩
  obtain ⟨h1, h2, h3⟩ := h.2 f (mem_dropLast hf)
  have hl := tkL_len' (L := L) (fr := fr) x
  refine ⟨?_, h2, by omega⟩
  rw [isA_tkL h.rng]
  rw [if_neg]
  · exact h1
  · intro e
    rcases List.eq_nil_or_concat fr with rfl | ⟨fr', g, rfl⟩
    · cases hf
    · rw [List.concat_eq_append] at e hf h
      rw [tkI_snoc] at e
      rw [List.dropLast_concat] at hf
      subst e
      exact (List.nodup_append.1 h.1).2.2 f hf f (by simp) rfl
theorem Frk.free {α : Type} {L : List (α × Bool)} {fr : List Int} (h : Frk L fr) (z : α) {i : Int} (hi : isA L i = true) : Frk (frL z L i) (fr ++ [i]) := by
  have hb := isA_bd hi
  refine ⟨List.nodup_append.2 ⟨h.1, by simp, fun a ha b hb' e => ?_⟩, fun f hf => ?_⟩
  · simp at hb'
    subst hb' e
    rw [(h.2 a ha).1] at hi
    cases hi
  · rw [isA_frL z hi, frL_len]
    rcases List.mem_append.1 hf with h1 | h1
    · obtain ⟨h2, h3⟩ := h.2 f h1
      refine ⟨?_, h3⟩
      split
      · rfl
      · exact h2
    · simp at h1
      subst h1
      exact ⟨if_pos rfl, hb⟩
/-- The tours are those of the trees. -/
structure Eu (t : To) : Prop where
  tq : ∀ i, t.s.S i ≠ [] → ∃ v, Tq (tI t) (tE t) true v (t.s.S i)
  iv : ∀ v, isA t.v v = true → t.s.S (t.item v) ≠ [] ∧ t.p (t.item v) = (v, 0) ∧ (t.s.V (t.item v)).c = 1
  ev : ∀ n, isA t.e n = true → t.s.S (t.edge n).x ≠ [] ∧ t.s.S (t.edge n).y ≠ [] ∧ t.p (t.edge n).x = (0, n) ∧ t.p (t.edge n).y = (0, n) ∧ (t.edge n).x ≠ (t.edge n).y ∧ ((t.s.V (t.edge n).x).c = 0 ∧ (t.s.V (t.edge n).x).s = 0 ∧ (t.s.V (t.edge n).x).l = 4611686018427387904) ∧ ((t.s.V (t.edge n).y).c = 0 ∧ (t.s.V (t.edge n).y).s = 0 ∧ (t.s.V (t.edge n).y).l = 4611686018427387904)
  vk : Frk t.v t.fv
  ek : Frk t.e t.fe
theorem to0_eu : Eu to0 := ⟨fun i hi => absurd rfl hi, fun v hv => (by simp [isA, to0] at hv), fun n hn => (by simp [isA, to0] at hn), ⟨List.nodup_nil, fun f hf => (by cases hf)⟩, ⟨List.nodup_nil, fun f hf => (by cases hf)⟩⟩
/-- A vertex more. -/
theorem Eu.addV {t : To} (hB : Tb t) (h : Eu t) (a b : Int) : Eu (t.addV a b) := by
  obtain ⟨i, hi⟩ : ∃ i, i = newI t.s.K t.s.fr := ⟨_, rfl⟩
  obtain ⟨v', hv'⟩ : ∃ v', v' = tkI t.v t.fv := ⟨_, rfl⟩
  have hfree : t.s.S i = [] := by
    have := newI_free hB.fk
    rw [← hi] at this
    cases hS : t.s.S i with
    | nil => rfl
    | cons c l => have h2 := (hB.kS i).2 (by rw [hS]; simp); rw [this] at h2; cases h2
  have hvf : isA t.v v' = false := by rw [hv']; exact h.vk.new
  have hvb := tkI_bd h.vk.rng
  rw [← hv'] at hvb
  have eS : (t.addV a b).s.S = makeS t.s.S i := by rw [hi]; rfl
  have eV : (t.addV a b).s.V = updV t.s.V i ⟨1, a, b, 0⟩ := by rw [hi]; rfl
  have ep : (t.addV a b).p = updP t.p i (v', 0) := by rw [hi, hv']; rfl
  have ev : (t.addV a b).v = tkL t.v t.fv i := by rw [hi]; rfl
  have ee : (t.addV a b).e = t.e := rfl
  have isa : ∀ u, isA (t.addV a b).v u = if u = v' then true else isA t.v u := fun u => by rw [ev, isA_tkL h.vk.rng, hv']
  have it : ∀ u, isA (t.addV a b).v u = true → (t.addV a b).item u = if u = v' then i else t.item u := fun u hu => by
    have hub := isA_bd hu
    rw [To.item_yes hu, ev, atA_tkL h.vk.rng 0 i hub.1, ← hv']
    split
    · rfl
    · rename_i hne
      rw [isa, if_neg hne] at hu
      rw [To.item_yes hu]
  have old : ∀ u, isA t.v u = true → u ≠ v' ∧ isA (t.addV a b).v u = true ∧ (t.addV a b).item u = t.item u := fun u hu => by
    have hne : u ≠ v' := fun e => by rw [e, hvf] at hu; cases hu
    have h1 : isA (t.addV a b).v u = true := by rw [isa, if_neg hne]; exact hu
    exact ⟨hne, h1, by rw [it u h1, if_neg hne]⟩
  have hne : ∀ j, t.s.S j ≠ [] → j ≠ i := fun j hj e => hj (e ▸ hfree)
  have hS : ∀ j, j ≠ i → (t.addV a b).s.S j = t.s.S j := fun j hj => by rw [eS]; exact if_neg hj
  have hSi : (t.addV a b).s.S i = [i] := by rw [eS]; exact if_pos rfl
  refine ⟨fun j hj => ?_, fun u hu => ?_, fun n hn => ?_, ?_, h.ek⟩
  · by_cases e : j = i
    · subst e
      rw [hSi]
      have h1 : isA (t.addV a b).v v' = true := by rw [isa, if_pos rfl]
      exact ⟨v', Tq.own (P := []) (Q := []) ⟨h1, by rw [it v' h1, if_pos rfl]⟩ (.nil _) (.nil _)⟩
    · rw [hS j e] at hj ⊢
      obtain ⟨v, hq⟩ := h.tq j hj
      exact ⟨v, hq.mono (fun u k hk _ => by obtain ⟨h1, h2⟩ := hk; obtain ⟨_, h3, h4⟩ := old u h1; exact ⟨h3, h4.trans h2⟩) (fun _ _ _ _ hk _ _ => hk)⟩
  · rw [it u hu, eV, ep]
    by_cases e : u = v'
    · rw [if_pos e, hSi, e]
      exact ⟨by simp, if_pos rfl, by unfold updV; rw [if_pos rfl]⟩
    · rw [if_neg e]
      rw [isa, if_neg e] at hu
      obtain ⟨h1, h2, h3⟩ := h.iv u hu
      have hn := hne _ h1
      exact ⟨by rw [hS _ hn]; exact h1, by unfold updP; rw [if_neg hn]; exact h2, by unfold updV; rw [if_neg hn]; exact h3⟩
  · have hn' : isA t.e n = true := hn
    obtain ⟨h1, h2, h3, h4, h5, h6, h7⟩ := h.ev n hn'
    have e1 : (t.addV a b).edge n = t.edge n := rfl
    rw [e1, eV, ep, hS _ (hne _ h1), hS _ (hne _ h2)]
    exact ⟨h1, h2, by unfold updP; rw [if_neg (hne _ h1)]; exact h3, by unfold updP; rw [if_neg (hne _ h2)]; exact h4, h5, by unfold updV; rw [if_neg (hne _ h1)]; exact h6, by unfold updV; rw [if_neg (hne _ h2)]; exact h7⟩
  · rw [ev]; exact h.vk.take i
theorem Fam.make {S : Int → List Int} (hF : Fam S) {i : Int} (hi : S i = []) : Fam (makeS S i) := by
  have hin : makeS S i i = [i] := if_pos rfl
  have hout : ∀ j, j ≠ i → makeS S i j = S j := fun j hj => if_neg hj
  have hno : ∀ j, i ∉ S j := fun j h => by
    have h1 := hF.same j i h
    rw [hi] at h1
    rw [← h1] at h
    cases h
  refine ⟨fun j hj => ?_, fun j k hk => ?_, fun j => ?_⟩
  · by_cases e : j = i
    · rw [e, hin]; simp
    · rw [hout j e] at hj ⊢; exact hF.mem j hj
  · by_cases e : j = i
    · rw [e, hin] at hk; simp at hk; rw [hk, e]
    · rw [hout j e] at hk
      have hki : k ≠ i := fun e' => hno j (e' ▸ hk)
      rw [hout j e, hout k hki]; exact hF.same j k hk
  · by_cases e : j = i
    · rw [e, hin]; simp
    · rw [hout j e]; exact hF.nodup j
/-- An item tells its vertex, its edge. -/
theorem Eu.one {t : To} (h : Eu t) {v u i : Int} (h1 : tI t v i) (h2 : tI t u i) : v = u := by
  have e1 := (h.iv v h1.1).2.1
  have e2 := (h.iv u h2.1).2.1
  rw [h1.2] at e1
  rw [h2.2, e1] at e2
  exact congrArg Prod.fst e2
theorem Eu.apart {t : To} (h : Eu t) {v a c x y : Int} (hE : tE t a c x y) : ¬ tI t v x ∧ ¬ tI t v y := by
  obtain ⟨n, hn, hc⟩ := hE
  obtain ⟨_, _, p1, p2, _⟩ := h.ev n hn
  have key : ∀ q, t.p q = (0, n) → ¬ tI t v q := fun q hq hv => by
    have e1 := (h.iv v hv.1).2.1
    have hb := isA_bd hv.1
    rw [hv.2, hq] at e1
    have := congrArg Prod.fst e1
    simp only at this
    omega
  rcases hc with ⟨_, _, rfl, rfl⟩ | ⟨_, _, rfl, rfl⟩
  · exact ⟨key _ p1, key _ p2⟩
  · exact ⟨key _ p2, key _ p1⟩
/-- A tour that begins at a vertex. -/
theorem Eu.begins {t : To} (h : Eu t) {a u : Int} {R : List Int} (ha : isA t.v a = true) (hq : Tq (tI t) (tE t) true u (t.item a :: R)) : Tq (tI t) (tE t) false a R := by
  obtain ⟨i, P, Q, hi, hP, hQ, e⟩ := hq.opened
  cases P with
  | nil =>
    injection e with e1 e2
    have : u = a := h.one (i := t.item a) (e1 ▸ hi) ⟨ha, rfl⟩
    rw [← this, e2]; exact hQ
  | cons z P' =>
    injection e with e1 e2
    obtain ⟨c, y, N, M, he, _⟩ := hP.first
    exact absurd ⟨ha, e1⟩ (h.apart (v := a) he).1
/-- An edge more. -/
theorem Eu.link {t : To} (hB : Tb t) (h : Eu t) {a b : Int} (ha : isA t.v a = true) (hb : isA t.v b = true) (hn : t.same a b = false) : Eu (t.link a b) ∧ ∃ R R', t.s.S (t.item a) ≠ [] ∧ (∀ k, k ∈ t.item a :: R ↔ k ∈ t.s.S (t.item a)) ∧ (∀ k, k ∈ t.item b :: R' ↔ k ∈ t.s.S (t.item b)) ∧ (∀ k, k ∈ (t.item a :: R) ++ t.newX :: ((t.item b :: R') ++ [t.newY]) → (t.link a b).s.S k = (t.item a :: R) ++ t.newX :: ((t.item b :: R') ++ [t.newY])) ∧ (∀ k, k ∉ (t.item a :: R) ++ t.newX :: ((t.item b :: R') ++ [t.newY]) → (t.link a b).s.S k = t.s.S k) := by
  obtain ⟨i, hi⟩ : ∃ i, i = t.item a := ⟨_, rfl⟩
  obtain ⟨j, hj⟩ : ∃ j, j = t.item b := ⟨_, rfl⟩
  obtain ⟨x, hx⟩ : ∃ x, x = t.newX := ⟨_, rfl⟩
  obtain ⟨y, hy⟩ : ∃ y, y = t.newY := ⟨_, rfl⟩
  obtain ⟨n', hn'⟩ : ∃ n', n' = t.newE := ⟨_, rfl⟩
  have hFk : Fk t.s.K t.s.fr := hB.fk
  have empty : ∀ k, isK t.s.K k = false → t.s.S k = [] := fun k hk => by
    cases hS : t.s.S k with
    | nil => rfl
    | cons c l => have h2 := (hB.kS k).2 (by rw [hS]; simp); rw [hk] at h2; cases h2
  have hxK : isK t.s.K x = false := by rw [hx]; exact (newI_bd hFk).2.2
  have hFk1 : Fk (t.s.make noneV).K (t.s.make noneV).fr := hFk.new
  have hyK1 : isK (t.s.make noneV).K y = false := by rw [hy]; exact (newI_bd hFk1).2.2
  have hyx : y ≠ x ∧ isK t.s.K y = false := by
    have e1 : isK (newK t.s.K t.s.fr) y = if y = newI t.s.K t.s.fr then true else isK t.s.K y := isK_new hFk y
    have e2 : isK (newK t.s.K t.s.fr) y = false := hyK1
    rw [e2] at e1
    have e3 : newI t.s.K t.s.fr = x := hx.symm
    rw [e3] at e1
    split at e1
    · cases e1
    · rename_i hne; exact ⟨hne, e1.symm⟩
  have hSx : t.s.S x = [] := empty x hxK
  have hSy : t.s.S y = [] := empty y hyx.2
  obtain ⟨s1, hs1⟩ : ∃ s1, s1 = (t.s.make noneV).make noneV := ⟨_, rfl⟩
  have eS1 : s1.S = makeS (makeS t.s.S x) y := by rw [hs1, hx, hy]; rfl
  have eV1 : s1.V = updV (updV t.s.V x noneV) y noneV := by rw [hs1, hx, hy]; rfl
  have hne : ∀ k, t.s.S k ≠ [] → k ≠ x ∧ k ≠ y := fun k hk => ⟨fun e => hk (e ▸ hSx), fun e => hk (e ▸ hSy)⟩
  have hS1 : ∀ k, k ≠ x → k ≠ y → s1.S k = t.s.S k := fun k h1 h2 => by
    rw [eS1]
    show (if k = y then [y] else if k = x then [x] else t.s.S k) = _
    rw [if_neg h2, if_neg h1]
  have hS1x : s1.S x = [x] := by rw [eS1]; show (if x = y then [y] else if x = x then [x] else t.s.S x) = _; rw [if_neg (Ne.symm hyx.1), if_pos rfl]
  have hS1y : s1.S y = [y] := by rw [eS1]; exact if_pos rfl
  have F1 : Fam s1.S := by
    rw [eS1]
    refine (hB.fam.make hSx).make ?_
    show (if y = x then [x] else t.s.S y) = []
    rw [if_neg hyx.1]; exact hSy
  obtain ⟨hia, pia, _⟩ := h.iv a ha
  obtain ⟨hjb, pjb, _⟩ := h.iv b hb
  rw [← hi] at hia pia
  rw [← hj] at hjb pjb
  have hii := hB.fam.mem i hia
  have hjj := hB.fam.mem j hjb
  have hij : j ∉ t.s.S i := by
    have : decide (t.item b ∈ t.s.S (t.item a)) = false := hn
    rw [← hi, ← hj] at this
    simpa using this
  obtain ⟨A, B, eA⟩ := hB.fam.at hii
  obtain ⟨C, D, eC⟩ := hB.fam.at hjj
  have e1i : s1.S i = A ++ i :: B := by rw [hS1 i (hne i hia).1 (hne i hia).2]; exact eA
  have e1j : s1.S j = C ++ j :: D := by rw [hS1 j (hne j hjb).1 (hne j hjb).2]; exact eC
  have nin : ∀ q k, t.s.S q = [] → q ∉ t.s.S k := fun q k hq hk => by
    have := hB.fam.same k q hk
    rw [hq] at this
    rw [← this] at hk
    cases hk
  have s1i : s1.S i = t.s.S i := hS1 i (hne i hia).1 (hne i hia).2
  have s1j : s1.S j = t.s.S j := hS1 j (hne j hjb).1 (hne j hjb).2
  obtain ⟨F2, inL, outL⟩ := F1.spliced (x := x) (y := y) e1i e1j hS1x hS1y (by rw [s1i]; exact hij) (by rw [s1i]; exact nin x i hSx) (by rw [s1j]; exact nin x j hSx) (by rw [s1i]; exact nin y i hSy) (by rw [s1j]; exact nin y j hSy) (Ne.symm hyx.1)
  have eS : (t.link a b).s.S = (s1.splice i j x y).S := by rw [hs1, hi, hj, hx, hy]; rfl
  have eV : (t.link a b).s.V = s1.V := by
    have : (t.link a b).s = s1.splice i j x y := by rw [hs1, hi, hj, hx, hy]; rfl
    rw [this]; exact (Sq.splice_K s1 i j x y).2.2.1
  have ev : (t.link a b).v = t.v := rfl
  have ee : (t.link a b).e = tkL t.e t.fe ⟨a, b, x, y⟩ := by rw [hx, hy]; rfl
  have ep : (t.link a b).p = updP (updP t.p x (0, n')) y (0, n') := by rw [hx, hy, hn']; rfl
  rw [← eS] at F2 inL outL
  have hnf : isA t.e n' = false := by rw [hn']; exact h.ek.new
  have hnb := tkI_bd h.ek.rng
  have en' : tkI t.e t.fe = n' := hn'.symm
  have isE : ∀ m, isA (t.link a b).e m = if m = n' then true else isA t.e m := fun m => by rw [ee, isA_tkL h.ek.rng, en']
  have edE : ∀ m, 1 ≤ m → (t.link a b).edge m = if m = n' then ⟨a, b, x, y⟩ else t.edge m := fun m hm => by
    show atA zeE (t.link a b).e m = _
    rw [ee, atA_tkL h.ek.rng zeE _ hm, en']
    rfl
  have oldE : ∀ m, isA t.e m = true → m ≠ n' ∧ isA (t.link a b).e m = true ∧ (t.link a b).edge m = t.edge m := fun m hm => by
    have hmn : m ≠ n' := fun e => by rw [e, hnf] at hm; cases hm
    exact ⟨hmn, by rw [isE, if_neg hmn]; exact hm, by rw [edE m (isA_bd hm).1, if_neg hmn]⟩
  have monoE : ∀ v u p q, tE t v u p q → tE (t.link a b) v u p q := fun v u p q ⟨m, h1, h2⟩ => by
    obtain ⟨_, h3, h4⟩ := oldE m h1
    exact ⟨m, h3, by rw [h4]; exact h2⟩
  have monoI : ∀ v k, tI t v k → tI (t.link a b) v k := fun v k hk => hk
  have n1 : 1 ≤ n' := by rw [hn']; exact hnb.1
  have newE : tE (t.link a b) a b x y := ⟨n', by rw [isE, if_pos rfl], by rw [edE n' n1, if_pos rfl]; exact .inl ⟨rfl, rfl, rfl, rfl⟩⟩
  -- the two tours, begun at their vertices
  obtain ⟨v1, q1⟩ := h.tq i hia
  rw [eA] at q1
  obtain ⟨u1, q1⟩ := q1.rot (tE_symm t)
  have b1 : Tq (tI t) (tE t) false a (B ++ A) := by
    refine h.begins ha (u := u1) ?_
    rw [← hi]; exact q1
  obtain ⟨v2, q2⟩ := h.tq j hjb
  rw [eC] at q2
  obtain ⟨u2, q2⟩ := q2.rot (tE_symm t)
  have b2 : Tq (tI t) (tE t) false b (D ++ C) := by
    refine h.begins hb (u := u2) ?_
    rw [← hj]; exact q2
  have mm : ∀ {bb : Bool} {v : Int} {L : List Int}, Tq (tI t) (tE t) bb v L → Tq (tI (t.link a b)) (tE (t.link a b)) bb v L := fun hq => hq.mono (fun v k hk _ => monoI v k hk) (fun v u p q hk _ _ => monoE v u p q hk)
  have tour : Tq (tI (t.link a b)) (tE (t.link a b)) true a ((i :: B ++ A) ++ x :: ((j :: D ++ C) ++ [y])) := by
    have k2 : Tq (tI (t.link a b)) (tE (t.link a b)) true b (j :: (D ++ C)) := Tq.own (P := []) (monoI b j ⟨hb, hj.symm⟩) (.nil _) (mm b2)
    have k1 := Tq.own (P := []) (monoI a i ⟨ha, hi.symm⟩) (.nil _) ((mm b1).app (Tq.blk newE k2 (.nil a)))
    simpa [List.append_assoc] using k1
  have mA : ∀ k, k ∈ i :: (B ++ A) ↔ k ∈ t.s.S i := fun k => by rw [eA]; exact (show (i :: B ++ A).Perm _ from List.perm_append_comm).mem_iff
  have mC : ∀ k, k ∈ j :: (D ++ C) ↔ k ∈ t.s.S j := fun k => by rw [eC]; exact (show (j :: D ++ C).Perm _ from List.perm_append_comm).mem_iff
  have hL : ∀ k, k ∉ (i :: B ++ A) ++ x :: ((j :: D ++ C) ++ [y]) → k ≠ x ∧ k ≠ y := fun k hk => ⟨fun e => hk (by rw [e]; simp), fun e => hk (by rw [e]; simp)⟩
  have keep : ∀ k, t.s.S k ≠ [] → (t.link a b).s.S k ≠ [] := fun k hk => by
    by_cases hkL : k ∈ (i :: B ++ A) ++ x :: ((j :: D ++ C) ++ [y])
    · rw [inL k hkL]; simp
    · rw [outL k hkL, hS1 k (hL k hkL).1 (hL k hkL).2]; exact hk
  refine ⟨⟨fun k hk => ?_, fun v hv => ?_, fun m hm => ?_, h.vk, ?_⟩, B ++ A, D ++ C, ?_, ?_, ?_, ?_, ?_⟩
  · by_cases hkL : k ∈ (i :: B ++ A) ++ x :: ((j :: D ++ C) ++ [y])
    · rw [inL k hkL]; exact ⟨a, tour⟩
    · have e3 : (t.link a b).s.S k = t.s.S k := by rw [outL k hkL, hS1 k (hL k hkL).1 (hL k hkL).2]
      rw [e3] at hk ⊢
      obtain ⟨v, hq⟩ := h.tq k hk
      exact ⟨v, mm hq⟩
  · have hv' : isA t.v v = true := hv
    obtain ⟨h1, h2, h3⟩ := h.iv v hv'
    have eit : (t.link a b).item v = t.item v := rfl
    obtain ⟨nx, ny⟩ := hne _ h1
    rw [eit, eV, eV1, ep]
    refine ⟨keep _ h1, ?_, ?_⟩
    · unfold updP; rw [if_neg ny, if_neg nx]; exact h2
    · unfold updV; rw [if_neg ny, if_neg nx]; exact h3
  · have hmb := isA_bd hm
    rw [edE m hmb.1, eV, eV1, ep]
    rw [isE] at hm
    by_cases e : m = n'
    · rw [if_pos e, e]
      refine ⟨?_, ?_, ?_, ?_, Ne.symm hyx.1, ?_, ?_⟩
      · show (t.link a b).s.S x ≠ []; rw [inL x (by simp)]; simp
      · show (t.link a b).s.S y ≠ []; rw [inL y (by simp)]; simp
      · show updP (updP t.p x (0, n')) y (0, n') x = _; unfold updP; rw [if_neg (Ne.symm hyx.1), if_pos rfl]
      · show updP (updP t.p x (0, n')) y (0, n') y = _; unfold updP; rw [if_pos rfl]
      · show (updV (updV t.s.V x noneV) y noneV x).c = 0 ∧ (updV (updV t.s.V x noneV) y noneV x).s = 0 ∧ (updV (updV t.s.V x noneV) y noneV x).l = 4611686018427387904
        unfold updV; rw [if_neg (Ne.symm hyx.1), if_pos rfl]; exact ⟨rfl, rfl, rfl⟩
      · show (updV (updV t.s.V x noneV) y noneV y).c = 0 ∧ (updV (updV t.s.V x noneV) y noneV y).s = 0 ∧ (updV (updV t.s.V x noneV) y noneV y).l = 4611686018427387904
        unfold updV; rw [if_pos rfl]; exact ⟨rfl, rfl, rfl⟩
    · rw [if_neg e] at hm ⊢
      obtain ⟨h1, h2, h3, h4, h5, h6, h7⟩ := h.ev m hm
      obtain ⟨nx, ny⟩ := hne _ h1
      obtain ⟨mx, my⟩ := hne _ h2
      refine ⟨keep _ h1, keep _ h2, ?_, ?_, h5, ?_, ?_⟩
      · unfold updP; rw [if_neg ny, if_neg nx]; exact h3
      · unfold updP; rw [if_neg my, if_neg mx]; exact h4
      · unfold updV; rw [if_neg ny, if_neg nx]; exact h6
      · unfold updV; rw [if_neg my, if_neg mx]; exact h7
  · rw [ee]; exact h.ek.take _
  · rw [← hi]; exact hia
  · rw [← hi]; exact mA
  · rw [← hj]; exact mC
  · rw [← hi, ← hj, ← hx, ← hy]
    intro k hk
    have e4 : (i :: (B ++ A)) ++ x :: ((j :: (D ++ C)) ++ [y]) = (i :: B ++ A) ++ x :: ((j :: D ++ C) ++ [y]) := by simp
    rw [e4] at hk ⊢
    exact inL k hk
  · rw [← hi, ← hj, ← hx, ← hy]
    intro k hk
    have e4 : (i :: (B ++ A)) ++ x :: ((j :: (D ++ C)) ++ [y]) = (i :: B ++ A) ++ x :: ((j :: D ++ C) ++ [y]) := by simp
    rw [e4] at hk
    rw [outL k hk, hS1 k (hL k hk).1 (hL k hk).2]
theorem Sq.free_S {s : Sq} {i : Int} (h : s.S i = [i]) : (s.free i).S = freeS s.S i ∧ (s.free i).V = updV s.V i zeV := by
  have hl : s.lone i = true := by unfold Sq.lone; rw [h]; rfl
  unfold Sq.free
  rw [if_pos hl]
  exact ⟨rfl, rfl⟩
/-- An edge less. -/
theorem Eu.cut {t : To} (hB : Tb t) (h : Eu t) {n : Int} (hn : isA t.e n = true) : Eu (t.cutE n) ∧ ∃ N M, Tq (tI t) (tE t) true (t.edge n).b N ∧ Tq (tI t) (tE t) true (t.edge n).a M ∧ (t.s.S (t.edge n).x).Perm ((t.edge n).x :: (N ++ (t.edge n).y :: M)) ∧ (∀ k, k ∈ N → (t.cutE n).s.S k = N) ∧ (∀ k, k ∈ M → (t.cutE n).s.S k = M) ∧ (∀ k, k ∉ t.s.S (t.edge n).x → (t.cutE n).s.S k = t.s.S k) := by
  have ec := To.cutE_eq t n
  obtain ⟨x, hx⟩ : ∃ x, x = (t.edge n).x := ⟨_, rfl⟩
  obtain ⟨y, hy⟩ : ∃ y, y = (t.edge n).y := ⟨_, rfl⟩
  obtain ⟨hSx, hSy, px, py, hxy, _, _⟩ := h.ev n hn
  rw [← hx] at hSx px hxy
  rw [← hy] at hSy py hxy
  rw [← hx, ← hy] at ec
  have hxx := hB.fam.mem x hSx
  obtain ⟨A, R, eA⟩ := hB.fam.at hxx
  obtain ⟨v1, q1⟩ := h.tq x hSx
  rw [eA] at q1
  obtain ⟨u, q1⟩ := q1.rot (tE_symm t)
  obtain ⟨i0, P, Q, hi0, hP, hQ, e⟩ := q1.opened
  have hxE : ∀ v c p, tE t v c x p → v = (t.edge n).a ∧ c = (t.edge n).b ∧ p = y := fun v c p ⟨m, hm, hc⟩ => by
    obtain ⟨_, _, p1, p2, _, _⟩ := h.ev m hm
    rcases hc with ⟨h1, h2, h3, h4⟩ | ⟨h1, h2, h3, h4⟩
    · rw [h3, px] at p1
      have hmn : n = m := congrArg Prod.snd p1
      subst hmn
      exact ⟨h1.symm, h2.symm, by rw [← h4, hy]⟩
    · rw [h3, px] at p2
      have hmn : n = m := congrArg Prod.snd p2
      subst hmn
      exact absurd (h3.symm.trans hy.symm) hxy
  cases P with
  | nil =>
    injection e with e1 e2
    have hE : tE t (t.edge n).a (t.edge n).b x y := ⟨n, hn, .inl ⟨rfl, rfl, hx.symm, hy.symm⟩⟩
    exact absurd (e1 ▸ hi0) (h.apart (v := u) hE).1
  | cons z P' =>
    injection e with e1 e2
    subst e1
    obtain ⟨c, y', N, M0, he, hN, hM0, eP⟩ := hP.first
    obtain ⟨eu, ecb, ey⟩ := hxE _ _ _ he
    subst ey
    obtain ⟨M, hM⟩ : ∃ M, M = M0 ++ i0 :: Q := ⟨_, rfl⟩
    have tqM : Tq (tI t) (tE t) true (t.edge n).a M := by rw [hM, ← eu]; exact .own hi0 hM0 hQ
    have tqN : Tq (tI t) (tE t) true (t.edge n).b N := by rw [← ecb]; exact hN
    have e2' : R ++ A = P' ++ i0 :: Q := e2
    have eR : R ++ A = N ++ y' :: M := by rw [e2', eP, hM]; simp
    have hNe : N ≠ [] := by obtain ⟨j, P2, Q2, _, _, _, e3⟩ := tqN.opened; rw [e3]; simp
    have hMe : M ≠ [] := by rw [hM]; simp
    obtain ⟨n0, N', eN⟩ := List.exists_cons_of_ne_nil hNe
    obtain ⟨m0, M', eM⟩ := List.exists_cons_of_ne_nil hMe
    obtain ⟨F4, ux, uy, uN, uM, uO⟩ := hB.fam.unspliced (y := y') eA (by rw [eR, eN, eM])
    rw [← eN] at uN
    rw [← eM] at uM
    have hperm : (t.s.S x).Perm (x :: (N ++ y' :: M)) := by
      rw [eA, ← eR]
      exact (List.perm_append_comm (l₁ := A) (l₂ := x :: R))
    have hnd : (x :: (N ++ y' :: M)).Nodup := hperm.nodup_iff.1 (hB.fam.nodup x)
    have hnd2 := List.nodup_cons.1 hnd
    have hnd3 := List.nodup_append.1 hnd2.2
    have xN : x ∉ N := fun hk => hnd2.1 (by simp [hk])
    have xM : x ∉ M := fun hk => hnd2.1 (by simp [hk])
    have yN : y' ∉ N := fun hk => hnd3.2.2 y' hk y' (by simp) rfl
    have yM : y' ∉ M := (List.nodup_cons.1 hnd3.2.1).1
    obtain ⟨s1, hs1⟩ : ∃ s1, s1 = t.s.unsplice x y' := ⟨_, rfl⟩
    rw [← hs1] at ec F4 ux uy uN uM uO
    have f1 := Sq.free_S ux
    have uy1 : (s1.free x).S y' = [y'] := by rw [f1.1]; show (if y' = x then [] else s1.S y') = _; rw [if_neg (Ne.symm hxy)]; exact uy
    have f2 := Sq.free_S uy1
    have eS : (t.cutE n).s.S = freeS (freeS s1.S x) y' := by rw [ec]; show ((s1.free x).free y').S = _; rw [f2.1, f1.1]
    have eV : (t.cutE n).s.V = updV (updV t.s.V x zeV) y' zeV := by
      rw [ec]; show ((s1.free x).free y').V = _
      rw [f2.2, f1.2, hs1, (Sq.unsplice_K t.s x y').2.2.1]
    have ep : (t.cutE n).p = updP (updP t.p x (0, 0)) y' (0, 0) := by rw [ec]
    have evv : (t.cutE n).v = t.v := by rw [ec]
    have ee : (t.cutE n).e = frL zeE t.e n := by rw [ec]
    have hS : ∀ k, k ≠ x → k ≠ y' → (t.cutE n).s.S k = s1.S k := fun k h1 h2 => by rw [eS]; show (if k = y' then [] else if k = x then [] else s1.S k) = _; rw [if_neg h2, if_neg h1]
    have hS0 : ∀ k, (t.cutE n).s.S k ≠ [] → k ≠ x ∧ k ≠ y' := fun k hk => by
      refine ⟨fun e3 => hk ?_, fun e3 => hk ?_⟩
      · rw [eS, e3]; show (if x = y' then [] else if x = x then [] else s1.S x) = _; rw [if_neg hxy, if_pos rfl]
      · rw [eS, e3]; exact if_pos rfl
    have isE : ∀ m, isA (t.cutE n).e m = if m = n then false else isA t.e m := fun m => by rw [ee, isA_frL zeE hn]
    have edE : ∀ m, isA (t.cutE n).e m = true → m ≠ n ∧ isA t.e m = true ∧ (t.cutE n).edge m = t.edge m := fun m hm => by
      have hmb := isA_bd hm
      rw [isE] at hm
      split at hm
      · cases hm
      · rename_i hne
        refine ⟨hne, hm, ?_⟩
        show atA zeE (t.cutE n).e m = _
        rw [ee, atA_frL zeE hn hmb.1, if_neg hne]
        rfl
    have itE : ∀ v, (t.cutE n).item v = t.item v := fun v => by unfold To.item; rw [evv]
    have monoI : ∀ v k, tI t v k → tI (t.cutE n) v k := fun v k ⟨h1, h2⟩ => ⟨by rw [evv]; exact h1, by rw [itE]; exact h2⟩
    have monoE : ∀ v u p q, tE t v u p q → p ≠ x → p ≠ y' → tE (t.cutE n) v u p q := fun v u p q ⟨m, h1, h2⟩ n1 n2 => by
      have hmn : m ≠ n := fun e3 => by
        subst e3
        rcases h2 with ⟨_, _, h3, _⟩ | ⟨_, _, h3, _⟩
        · exact n1 (by rw [← h3, hx])
        · exact n2 (by rw [← h3, hy])
      have h3 : isA (t.cutE n).e m = true := by rw [isE, if_neg hmn]; exact h1
      exact ⟨m, h3, by rw [(edE m h3).2.2]; exact h2⟩
    have mm : ∀ {bb : Bool} {v : Int} {L : List Int}, x ∉ L → y' ∉ L → Tq (tI t) (tE t) bb v L → Tq (tI (t.cutE n)) (tE (t.cutE n)) bb v L := fun n1 n2 hq => hq.mono (fun v k hk _ => monoI v k hk) (fun v u p q hk h1 _ => monoE v u p q hk (fun e3 => n1 (e3 ▸ h1)) (fun e3 => n2 (e3 ▸ h1)))
    have inN : ∀ k, k ∈ N → (t.cutE n).s.S k = N := fun k hk => by rw [hS k (fun e3 => xN (e3 ▸ hk)) (fun e3 => yN (e3 ▸ hk))]; exact uN k hk
    have inM : ∀ k, k ∈ M → (t.cutE n).s.S k = M := fun k hk => by rw [hS k (fun e3 => xM (e3 ▸ hk)) (fun e3 => yM (e3 ▸ hk))]; exact uM k hk
    have yin : y' ∈ t.s.S x := hperm.mem_iff.2 (by simp)
    have outS : ∀ k, k ∉ t.s.S x → (t.cutE n).s.S k = t.s.S k := fun k hk => by rw [hS k (fun e3 => hk (e3 ▸ hxx)) (fun e3 => hk (e3 ▸ yin))]; exact uO k hk
    have four : ∀ k, k = x ∨ k = y' ∨ k ∈ N ∨ k ∈ M ∨ k ∉ t.s.S x := fun k => by
      by_cases hk : k ∈ t.s.S x
      · have := hperm.mem_iff.1 hk
        rcases List.mem_cons.1 this with h1 | h1
        · exact .inl h1
        · rcases List.mem_append.1 h1 with h1 | h1
          · exact .inr (.inr (.inl h1))
          · rcases List.mem_cons.1 h1 with h1 | h1
            · exact .inr (.inl h1)
            · exact .inr (.inr (.inr (.inl h1)))
      · exact .inr (.inr (.inr (.inr hk)))
    have keep : ∀ k, t.s.S k ≠ [] → k ≠ x → k ≠ y' → (t.cutE n).s.S k ≠ [] := fun k hk n1 n2 => by
      rcases four k with h1 | h1 | h1 | h1 | h1
      · exact absurd h1 n1
      · exact absurd h1 n2
      · rw [inN k h1]; exact hNe
      · rw [inM k h1]; exact hMe
      · rw [outS k h1]; exact hk
    have upd : ∀ k, k ≠ x → k ≠ y' → (t.cutE n).p k = t.p k ∧ (t.cutE n).s.V k = t.s.V k := fun k n1 n2 => by
      refine ⟨?_, ?_⟩
      · rw [ep]; unfold updP; rw [if_neg n2, if_neg n1]
      · rw [eV]; unfold updV; rw [if_neg n2, if_neg n1]
    refine ⟨⟨fun k hk => ?_, fun v hv => ?_, fun m hm => ?_, ?_, ?_⟩, N, M, tqN, tqM, ?_, inN, inM, ?_⟩
    · obtain ⟨n1, n2⟩ := hS0 k hk
      rcases four k with h1 | h1 | h1 | h1 | h1
      · exact absurd h1 n1
      · exact absurd h1 n2
      · rw [inN k h1]; exact ⟨_, mm xN yN tqN⟩
      · rw [inM k h1]; exact ⟨_, mm xM yM tqM⟩
      · rw [outS k h1] at hk ⊢
        obtain ⟨v, hq⟩ := h.tq k hk
        have nk : ∀ q, q ∈ t.s.S x → q ∉ t.s.S k := fun q h2 h3 => h1 (by rw [← hB.fam.same x q h2, hB.fam.same k q h3]; exact hB.fam.mem k hk)
        exact ⟨v, mm (nk x hxx) (nk y' yin) hq⟩
    · rw [evv] at hv
      obtain ⟨h1, h2, h3⟩ := h.iv v hv
      have hE : tE t (t.edge n).a (t.edge n).b x y' := ⟨n, hn, .inl ⟨rfl, rfl, hx.symm, hy.symm⟩⟩
      have n1 : t.item v ≠ x := fun e3 => (h.apart (v := v) hE).1 ⟨hv, e3⟩
      have n2 : t.item v ≠ y' := fun e3 => (h.apart (v := v) hE).2 ⟨hv, e3⟩
      rw [itE, (upd _ n1 n2).1, (upd _ n1 n2).2]
      exact ⟨keep _ h1 n1 n2, h2, h3⟩
    · obtain ⟨hmn, hm', eed⟩ := edE m hm
      obtain ⟨h1, h2, h3, h4, h5, h6, h7⟩ := h.ev m hm'
      have ne : ∀ q, t.p q = (0, m) → q ≠ x ∧ q ≠ y' := fun q hq => by
        refine ⟨fun e3 => ?_, fun e3 => ?_⟩
        · rw [e3, px] at hq; exact hmn (congrArg Prod.snd hq).symm
        · rw [e3, py] at hq; exact hmn (congrArg Prod.snd hq).symm
      obtain ⟨a1, a2⟩ := ne _ h3
      obtain ⟨b1, b2⟩ := ne _ h4
      rw [eed, (upd _ a1 a2).1, (upd _ a1 a2).2, (upd _ b1 b2).1, (upd _ b1 b2).2]
      exact ⟨keep _ h1 a1 a2, keep _ h2 b1 b2, h3, h4, h5, h6, h7⟩
    · rw [ec]; exact h.vk
    · rw [ec]; exact h.ek.free zeE hn
    · rw [← hx, ← hy]; exact hperm
    · rw [← hx]; exact outS
end Go.Proofs.Ytpbnhbpkfdhedaa
