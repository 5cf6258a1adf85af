/- Lemmas. -/
import Derived.Test.YtabgplniaiehpaaGreatS20
import Derived.Test.YtabgplniaiehpaaGreatS02
import Derived.Test.YtabgplniaiehpaaGreatS19
import Derived.Deep.RegionHeld3
import Derived.Test.YtabgplniaiehpaaGreatS05
set_option maxRecDepth 100000
set_option maxHeartbeats 64000000
namespace Go.Proofs.YtabgplniaiehpaaGreat
open Go.RowKit
set_option linter.unusedVariables false
theorem fb1 : ∀ e : Fin 16, ∀ b : Fin 256, hasB (emk (e.val : Int)) (vmk (b.val : Int)) = false := by decide +kernel
theorem fb2 : ∀ m : Fin 16, ∀ b : Fin 256, hasB (m.val : Int) (vmk (b.val : Int)) = hasB (m.val : Int) (b.val : Int) := by decide +kernel
theorem fb3 : ∀ m : Fin 16, ∀ b : Fin 256, hasB (m.val : Int) (emk (b.val : Int)) = false := by decide +kernel
theorem fb4 : ∀ e : Fin 16, ∀ b : Fin 256, hasB (emk (e.val : Int)) (emk (b.val : Int)) = hasB (e.val : Int) (b.val : Int) := by decide +kernel
theorem toF {n : Nat} {x : Int} (h : 0 ≤ x ∧ x < n) : ∃ k : Fin n, x = (k.val : Int) := ⟨⟨x.toNat, by omega⟩, by simp; omega⟩
section
variable {e b : Int}
theorem hb1 (he : 0 ≤ e ∧ e ≤ 15) (hb : 0 ≤ b ∧ b ≤ 255) : hasB (emk e) (vmk b) = false := by
  obtain ⟨e, rfl⟩ := toF (n := 16) (x := e) (by omega); obtain ⟨b, rfl⟩ := toF (n := 256) (x := b) (by omega); exact fb1 e b
theorem hb2 (he : 0 ≤ e ∧ e ≤ 15) (hb : 0 ≤ b ∧ b ≤ 255) : hasB e (vmk b) = hasB e b := by
  obtain ⟨e, rfl⟩ := toF (n := 16) (x := e) (by omega); obtain ⟨b, rfl⟩ := toF (n := 256) (x := b) (by omega); exact fb2 e b
theorem hb3 (he : 0 ≤ e ∧ e ≤ 15) (hb : 0 ≤ b ∧ b ≤ 255) : hasB e (emk b) = false := by
  obtain ⟨e, rfl⟩ := toF (n := 16) (x := e) (by omega); obtain ⟨b, rfl⟩ := toF (n := 256) (x := b) (by omega); exact fb3 e b
theorem hb4 (he : 0 ≤ e ∧ e ≤ 15) (hb : 0 ≤ b ∧ b ≤ 255) : hasB (emk e) (emk b) = hasB e b := by
  obtain ⟨e, rfl⟩ := toF (n := 16) (x := e) (by omega); obtain ⟨b, rfl⟩ := toF (n := 256) (x := b) (by omega); exact fb4 e b
end
section
variable {f : Fo} {vs : List Vx} {es : List Ex}
theorem Rel.mOf (h : Rel f vs es) {v : Int} {T : List Int} (hT : Trv vs es v T) {u : Int} (hu : u ∈ T) : (f.t.s.V (f.t.item (f.vi u))).m = (vat vs u).m ∧ 0 ≤ (vat vs u).m ∧ (vat vs u).m ≤ 15 := by
  obtain ⟨k1, k2⟩ := vat_in ((hT.mem u).1 hu).1
  obtain ⟨_, _, k3, k4⟩ := h.vin _ k1
  rw [k2] at k3
  exact ⟨by rw [k3], k4⟩
theorem Rel.findV (hB : Tb f.t) (h : Rel f vs es) {v : Int} (hv : v ∈ vs.map Vx.v) {T : List Int} (hT : Trv vs es v T) {b : Int} (hb : 0 ≤ b ∧ b ≤ 255) :
    (f.findV v b ≠ 0 ∧ ∃ u, u ∈ T ∧ hasB (vat vs u).m b = true ∧ f.vo (f.findV v b) = u) ∨ (f.findV v b = 0 ∧ ∀ u, u ∈ T → hasB (vat vs u).m b = false) := by
  obtain ⟨t1, t2, t3⟩ := h.tour hB hv hT
  obtain ⟨v1, v2⟩ := h.isv hv
  have hi := h.eu.ne0 hB v1
  have hf : f.findV v b = (f.t.p (fdS f.t.s.V (f.t.s.S (f.t.item (f.vi v))) (vmk b))).1 := by unfold Fo.findV To.find; rw [if_neg hi]
  rw [hf]
  unfold fdS
  cases hq : (f.t.s.S (f.t.item (f.vi v))).find? fun j => hasB (f.t.s.V j).m (vmk b) with
  | some z =>
    have hz := List.mem_of_find?_eq_some hq
    have hh : hasB (f.t.s.V z).m (vmk b) = true := by have := List.find?_some hq; simpa using this
    simp only [Option.getD_some]
    rcases t3 z hz with ⟨u, hu, rfl⟩ | ⟨n, hn, k⟩
    · have hm := ((hT.mem u).1 hu).1
      obtain ⟨u1, u2⟩ := h.isv hm
      obtain ⟨m1, m2⟩ := h.mOf hT hu
      rw [(h.eu.iv _ u1).2.1]
      rw [m1, hb2 m2 hb] at hh
      exact .inl ⟨h.mem.2 hm, u, hu, hh, u2⟩
    · obtain ⟨y, hy, rfl⟩ := h.eall n hn
      obtain ⟨_, _, _, _, _, _, k7, k8, k9⟩ := h.ein y hy
      rcases k with rfl | rfl
      · rw [k7, hb1 k9 hb] at hh; cases hh
      · rw [k8, hb2 ⟨Int.le_refl 0, by decide⟩ hb] at hh
        have : hasB 0 b = false := by have := hb3 (e := 0) (b := 0) ⟨Int.le_refl 0, by decide⟩ ⟨Int.le_refl 0, by decide⟩; obtain ⟨b, rfl⟩ := toF (n := 256) (x := b) (by omega); exact (by decide +kernel : ∀ b : Fin 256, hasB 0 (b.val : Int) = false) b
        rw [this] at hh; cases hh
  | none =>
    simp only [Option.getD_none]
    rw [h.z.2.2]
    refine .inr ⟨rfl, fun u hu => ?_⟩
    obtain ⟨m1, m2⟩ := h.mOf hT hu
    have := List.find?_eq_none.1 hq _ (t1 u hu)
    rw [m1, hb2 m2 hb] at this
    simpa using this
theorem Rel.eTour (hB : Tb f.t) (h : Rel f vs es) {v : Int} (hv : v ∈ vs.map Vx.v) {T : List Int} (hT : Trv vs es v T) {y : Ex} (hy : y ∈ es) : (f.t.edge (f.ei y.e)).x ∈ f.t.s.S (f.t.item (f.vi v)) ↔ y.a ∈ T := by
  obtain ⟨k1, k2, k3, k4, k5, k6, _⟩ := h.ein y hy
  obtain ⟨e1, e2, e3, e4, _⟩ := h.eu.ends hB k1
  rw [k3] at e3
  have hx := hB.fam.mem _ (h.eu.ev _ k1).1
  have hs := hB.fam.same _ _ e3
  constructor
  · intro hm
    refine (hT.mem _).2 ⟨k5, ?_⟩
    have : f.same v y.a = true := To.same_iff.2 (by rw [← hB.fam.same _ _ hm]; exact e3)
    exact ((h.same hB).1 this).2.2
  · intro ha
    have h1 : f.t.same (f.vi v) (f.vi y.a) = true := (h.same hB).2 ⟨hv, k5, ((hT.mem _).1 ha).2⟩
    have := hB.fam.same _ _ (To.same_iff.1 h1)
    rw [← this, hs]; exact hx
theorem Rel.findE (hB : Tb f.t) (h : Rel f vs es) {v : Int} (hv : v ∈ vs.map Vx.v) {T : List Int} (hT : Trv vs es v T) {b : Int} (hb : 0 ≤ b ∧ b ≤ 255) :
    (f.findE v b ≠ 0 ∧ ∃ y, y ∈ es ∧ y.a ∈ T ∧ hasB y.m b = true ∧ f.eo (f.findE v b) = y.e) ∨ (f.findE v b = 0 ∧ ∀ y, y ∈ es → y.a ∈ T → hasB y.m b = false) := by
  obtain ⟨t1, t2, t3⟩ := h.tour hB hv hT
  obtain ⟨v1, v2⟩ := h.isv hv
  have hi := h.eu.ne0 hB v1
  have hf : f.findE v b = (f.t.p (fdS f.t.s.V (f.t.s.S (f.t.item (f.vi v))) (emk b))).2 := by unfold Fo.findE To.find; rw [if_neg hi]
  rw [hf]
  unfold fdS
  cases hq : (f.t.s.S (f.t.item (f.vi v))).find? fun j => hasB (f.t.s.V j).m (emk b) with
  | some z =>
    have hz := List.mem_of_find?_eq_some hq
    have hh : hasB (f.t.s.V z).m (emk b) = true := by have := List.find?_some hq; simpa using this
    simp only [Option.getD_some]
    rcases t3 z hz with ⟨u, hu, rfl⟩ | ⟨n, hn, k⟩
    · obtain ⟨m1, m2⟩ := h.mOf hT hu
      rw [m1, hb3 m2 hb] at hh; cases hh
    · obtain ⟨y, hy, rfl⟩ := h.eall n hn
      obtain ⟨k1, k2, _, _, _, _, k7, k8, k9⟩ := h.ein y hy
      rcases k with rfl | rfl
      · rw [k7, hb4 k9 hb] at hh
        rw [(h.eu.ev _ k1).2.2.1]
        exact .inl ⟨h.memE.2 (List.mem_map.2 ⟨y, hy, rfl⟩), y, hy, (h.eTour hB hv hT hy).1 hz, hh, k2⟩
      · rw [k8, hb3 ⟨Int.le_refl 0, by decide⟩ hb] at hh; cases hh
  | none =>
    simp only [Option.getD_none]
    rw [h.z.2.2]
    refine .inr ⟨rfl, fun y hy ha => ?_⟩
    obtain ⟨k1, k2, _, _, _, _, k7, k8, k9⟩ := h.ein y hy
    have := List.find?_eq_none.1 hq _ ((h.eTour hB hv hT hy).2 ha)
    rw [k7, hb4 k9 hb] at this
    simpa using this
end
def atK : List Int → Int → Int
  | [], _ => -1
  | k :: l, v => if k = v then 0 else if atK l v < 0 then -1 else atK l v + 1
theorem atK_no {ks : List Int} {v : Int} (h : v ∉ ks) : atK ks v = -1 := by
  induction ks with
  | nil => rfl
  | cons k l ih =>
    unfold atK
    rw [if_neg (fun e => h (by simp [e])), ih (fun e => h (by simp [e]))]; rfl
theorem atK_hit {ks : List Int} {v : Int} : ∀ {i : Nat}, ks[i]? = some v → (∀ j, j < i → ks[j]? ≠ some v) → atK ks v = i := by
  induction ks with
  | nil => intro i h; cases h
  | cons k l ih =>
    intro i h hno
    cases i with
    | zero => simp at h; subst h; unfold atK; rw [if_pos rfl]; rfl
    | succ i =>
      have h0 := hno 0 (by omega)
      simp at h0 h
      have := ih h (fun j hj => by have := hno (j + 1) (by omega); simpa using this)
      unfold atK; rw [if_neg h0, this, if_neg (by omega)]; omega
theorem atK_mem {ks : List Int} {v : Int} (h : v ∈ ks) : ∃ i : Nat, atK ks v = i ∧ ks[i]? = some v := by
  induction ks with
  | nil => cases h
  | cons k l ih =>
    unfold atK
    by_cases e : k = v
    · rw [if_pos e]; exact ⟨0, rfl, by simp [e]⟩
    · obtain ⟨i, h1, h2⟩ := ih (by rcases List.mem_cons.1 h with k | k; exact absurd k.symm e; exact k)
      rw [if_neg e, h1, if_neg (by omega)]
      exact ⟨i + 1, by omega, by simpa using h2⟩
section
variable {W W' : World} {F : Nat → Prop} {R : Nat} {vs : List Vx} {es : List Ex}
end
theorem nodup_len {T : List Int} : ∀ {K : List Int}, T.Nodup → (∀ u, u ∈ T → u ∈ K) → T.length ≤ K.length := by
  induction T with
  | nil => intro K _ _; exact Nat.zero_le _
  | cons a T ih =>
    intro K hT hs
    obtain ⟨haT, hT'⟩ := List.nodup_cons.1 hT
    have hm := hs a (by simp)
    have := ih (K := K.erase a) hT' (fun u hu => (List.mem_erase_of_ne (fun k => haT (by rw [← k]; exact hu))).2 (hs u (by simp [hu])))
    rw [List.length_erase_of_mem hm] at this
    have := List.length_pos_of_mem hm
    simp; omega
structure Gt (vs : List Vx) (es : List Ex) (v : Int) (T : List Int) : Prop where
  nd : T.Nodup
  v0 : v ∈ T
  mem : ∀ u, u ∈ T → u ∈ vs.map Vx.v ∧ Jn (Ee es) v u
section
variable {vs : List Vx} {es : List Ex} {v : Int} {T : List Int}
theorem Gt.len (h : Gt vs es v T) : T.length ≤ vs.length := by have := nodup_len h.nd (fun u hu => (h.mem u hu).1); simpa using this
theorem Gt.more (h : Gt vs es v T) {a b : Int} (he : Ee es a b ∨ Ee es b a) (ha : a ∈ T) (hb : b ∉ T) (hv : b ∈ vs.map Vx.v) : Gt vs es v (T ++ [b]) :=
  ⟨List.nodup_append.2 ⟨h.nd, by simp, fun x hx y hy k => by simp at hy; subst k hy; exact hb hx⟩, by simp [h.v0], fun u hu => by
    rcases List.mem_append.1 hu with hu | hu
    · exact h.mem u hu
    · simp at hu; subst hu; exact ⟨hv, .step (h.mem a ha).2 he⟩⟩
theorem Gt.tr (h : Gt vs es v T) (hc : ∀ y, y ∈ es → (y.a ∈ T ↔ y.b ∈ T)) : Trv vs es v T := by
  have hin : ∀ u, Jn (Ee es) v u → u ∈ T := fun u hu => by
    induction hu with
    | refl => exact h.v0
    | step _ k ih =>
      rcases k with ⟨z, hz, rfl, rfl⟩ | ⟨z, hz, rfl, rfl⟩
      · exact (hc z hz).1 ih
      · exact (hc z hz).2 ih
  exact ⟨h.nd, fun u => ⟨h.mem u, fun k => hin u k.2⟩⟩
end
def slen : Value → Nat
  | .slice _ n _ => n
  | _ => 0
def sbl : Value → Nat
  | .bool true => 1
  | _ => 0
theorem infoI8 : (Tryz.prog.info? 3).map (fun i => (i.zero, i.size, i.bytes)) = some (some (.int .i64 0), 1, 8) := by kernel_rfl
def TreeOf (vs : List Vx) (es : List Ex) (v : Int) (T : List Int) : Prop := (v ∈ vs.map Vx.v → Trv vs es v T) ∧ (v ∉ vs.map Vx.v → T = [])
def wcs : List Vx → List Value
  | [] => []
  | x :: l => .int .i64 x.v :: .int .i64 x.s :: .int .i64 x.l  :: wcs l
def fcs : List Ex → List Value
  | [] => []
  | y :: l => .int .i64 y.e :: .int .i64 y.a :: .int .i64 y.b  :: fcs l
theorem wcs_at {vs : List Vx} {x : Vx} : ∀ {i : Nat}, vs[i]? = some x → (wcs vs)[i * 3]? = some (.int .i64 x.v) ∧ (wcs vs)[i * 3 + 1]? = some (.int .i64 x.s) ∧ (wcs vs)[i * 3 + 2]? = some (.int .i64 x.l) := by
  induction vs with
  | nil => intro i h; cases h
  | cons y l ih =>
    intro i h
    cases i with
    | zero => simp at h; subst h; exact ⟨rfl, rfl, rfl⟩
    | succ i =>
      have := ih (by simpa using h)
      rw [show (i + 1) * 3 = i * 3 + 3 by omega]
      exact this
theorem fcs_at {es : List Ex} {x : Ex} : ∀ {i : Nat}, es[i]? = some x → (fcs es)[i * 3]? = some (.int .i64 x.e) ∧ (fcs es)[i * 3 + 1]? = some (.int .i64 x.a) ∧ (fcs es)[i * 3 + 2]? = some (.int .i64 x.b) := by
  induction es with
  | nil => intro i h; cases h
  | cons y l ih =>
    intro i h
    cases i with
    | zero => simp at h; subst h; exact ⟨rfl, rfl, rfl⟩
    | succ i =>
      have := ih (by simpa using h)
      rw [show (i + 1) * 3 = i * 3 + 3 by omega]
      exact this
structure R10 (W : World) (F : Nat → Prop) (R : Nat) (N0 : Int) (vs : List Vx) (es : List Ex) : Prop where
  ex : ∃ lv mv, Blk W R 70 #[.int .i64 N0, lv, mv] ∧ RowW W 82 3 lv vs.length (wcs vs) ∧ RowW W 78 3 mv es.length (fcs es) ∧ (∀ k, lv.ownBlock = some k → F k ∧ k ≠ R) ∧ (∀ k, mv.ownBlock = some k → F k ∧ k ≠ R ∧ lv.ownBlock ≠ some k)
  b : F R
  lt : ∀ k, F k → k < W.heap.size
section
variable {W W' : World} {F : Nat → Prop} {R : Nat} {N0 : Int} {vs : List Vx} {es : List Ex}
theorem R10.kept (h : R10 W F R N0 vs es) (hb : ∀ k, F k → W'.heap[k]? = W.heap[k]?) (hs : W.heap.size ≤ W'.heap.size) : R10 W' F R N0 vs es := by
  obtain ⟨lv, mv, h1, h2, h3, h4, h5⟩ := h.ex
  exact ⟨⟨lv, mv, (hb R h.b).trans h1, h2.kept fun k hk => hb k (h4 k hk).1, h3.kept fun k hk => hb k (h5 k hk).1, h4, h5⟩, h.b, fun k hk => Nat.lt_of_lt_of_le (h.lt k hk) hs⟩
theorem R10.below (h : R10 W F R N0 vs es) (hb : Below W.heap.size W W') : R10 W' F R N0 vs es := h.kept (fun k hk => hb.block k (h.lt k hk)) hb.size
theorem R10.step {F' F1 : Nat → Prop} (h : R10 W F R N0 vs es) (hb : Step F' F1 W W') (hd : ∀ k, F k → ¬ F' k) : R10 W' F R N0 vs es := h.kept (fun k hk => hb.only.block k (h.lt k hk) (hd k hk)) hb.size
theorem R10.vhead (h : R10 W F R N0 vs es) : ∃ ao cap, W.cell? ⟨R, 1, none⟩ = some (.slice ao vs.length cap) ∧ ∀ i x, vs[i]? = some x → ∃ g, ao = some ⟨g, 0, none⟩ ∧ W.cell? ⟨g, i * 3, none⟩ = some (.int .i64 x.v) ∧ W.cell? ⟨g, i * 3 + 1, none⟩ = some (.int .i64 x.s) ∧ W.cell? ⟨g, i * 3 + 2, none⟩ = some (.int .i64 x.l) := by
  obtain ⟨lv, mv, h1, h2, h3, h4, h5⟩ := h.ex
  obtain ⟨ao, cap, rfl⟩ := h2.form
  refine ⟨ao, cap, h1.at rfl, fun i x hx => ?_⟩
  obtain ⟨g, cap', e⟩ := h2.led (by have := (List.getElem?_eq_some_iff.1 hx).1; omega)
  cases e
  obtain ⟨a1, a2, a3⟩ := wcs_at hx
  exact ⟨g, rfl, h2.cell a1, h2.cell a2, h2.cell a3⟩
theorem R10.ehead (h : R10 W F R N0 vs es) : ∃ ao cap, W.cell? ⟨R, 2, none⟩ = some (.slice ao es.length cap) ∧ ∀ i x, es[i]? = some x → ∃ g, ao = some ⟨g, 0, none⟩ ∧ W.cell? ⟨g, i * 3, none⟩ = some (.int .i64 x.e) ∧ W.cell? ⟨g, i * 3 + 1, none⟩ = some (.int .i64 x.a) ∧ W.cell? ⟨g, i * 3 + 2, none⟩ = some (.int .i64 x.b) := by
  obtain ⟨lv, mv, h1, h2, h3, h4, h5⟩ := h.ex
  obtain ⟨ao, cap, rfl⟩ := h3.form
  refine ⟨ao, cap, h1.at rfl, fun i x hx => ?_⟩
  obtain ⟨g, cap', e⟩ := h3.led (by have := (List.getElem?_eq_some_iff.1 hx).1; omega)
  cases e
  obtain ⟨a1, a2, a3⟩ := fcs_at hx
  exact ⟨g, rfl, h3.cell a1, h3.cell a2, h3.cell a3⟩
end
theorem gat_any {w : World} {F : Nat → Prop} {R : Nat} {N0 : Int} {vs : List Vx} {es : List Ex} (h : R10 w F R N0 vs es) (v : Int) (hl : vs.length ≤ 10000) : Calls Tryz.prog 99 #[.pointer (some ⟨R, 0, none⟩), .int .i64 v] w fun e w' => e = .returned (.int .i64 (atK (vs.map Vx.v) v)) ∧ w' = w := by
  obtain ⟨ao, cap, c0, hc⟩ := h.vhead
  have HC := mkH hc
  obtain ⟨n, hn⟩ : ∃ n, n = vs.length := ⟨_, rfl⟩
  have HN := mkH hn
  rw [← hn] at c0 hl
  clear hc hn h
  have HK : Hid (∀ (i : Nat) (x : Vx), vs[i]? = some x → (vs.map Vx.v)[i]? = some x.v) := fun i x hx => by rw [List.getElem?_map, hx]; rfl
  go_enter Tryz.func99, Tryz.ntmps99
  go_wp2
  go_loopw [5] (fun vi wr => ∃ i : Nat, vi = .int .i64 i ∧ i ≤ n ∧ wr = w ∧ Hid (∀ j, j < i → (vs.map Vx.v)[j]? ≠ some v)) (fun vi _ => n - (intOf vi).toNat)
  case atStart => exact ⟨0, rfl, Nat.zero_le _, rfl, fun j hj => absurd hj (Nat.not_lt_zero j)⟩
  case round =>
    obtain ⟨i, rfl, hin, rfl, HJ⟩ := hrel
    by_cases hlt : i < n
    · obtain ⟨x, hx⟩ : ∃ x, vs[i]? = some x := ⟨_, List.getElem?_eq_getElem (by rw [← HN.out]; exact hlt)⟩
      obtain ⟨g, rfl, d0, _⟩ := HC.out i x hx
      have hxk := HK.out i x hx
      have HX := mkH hxk
      have hlti : (i : Int) < (n : Int) := by omega
      clear hxk hx
      generalize x.v = q at *
      by_cases e : q = v
      · subst e
        have hres := atK_hit HX.out HJ.out
        have HRs := mkH hres
        clear hres
        go_wp2
        go_ret
        refine ⟨ret_of ?_, rfl⟩
        first | (rw [HRs.out]; done) | (rw [HRs.out]; rfl)
      · have e2 : (q == v) = false := by simpa using e
        have HJ2 : Hid (∀ j, j < i + 1 → (vs.map Vx.v)[j]? ≠ some v) := fun j hj => by
          rcases Nat.lt_or_ge j i with k | k
          · exact HJ.out j k
          · obtain rfl : j = i := by omega
            rw [HX.out]; exact fun k => e (Option.some.inj k)
        clear HJ HX
        go_wp2
        go_roundw
        case rel => exact ⟨i + 1, by go_num, by omega, by first | rfl | trivial, HJ2.out⟩
        case measure => simp [intOf]; omega
    · have hlti : ¬ (i : Int) < (n : Int) := by omega
      have hno : v ∉ vs.map Vx.v := fun k => by
        obtain ⟨j, hj⟩ := List.mem_iff_getElem?.1 k
        have hl := (List.getElem?_eq_some_iff.1 hj).1
        rw [List.length_map, ← HN.out] at hl
        exact HJ.out j (by omega) hj
      have HRs := mkH (atK_no hno)
      clear hno HJ
      go_wp2
      go_ret
      refine ⟨ret_of ?_, rfl⟩
      first | (rw [HRs.out]; done) | (rw [HRs.out]; rfl)
theorem gedge_any {w : World} {F : Nat → Prop} {R : Nat} {N0 : Int} {vs : List Vx} {es : List Ex} (h : R10 w F R N0 vs es) (v : Int) (hl : es.length ≤ 10000) : Calls Tryz.prog 24 #[.pointer (some ⟨R, 0, none⟩), .int .i64 v] w fun e w' => e = .returned (.int .i64 (atK (es.map Ex.e) v)) ∧ w' = w := by
  obtain ⟨ao, cap, c0, hc⟩ := h.ehead
  have HC := mkH hc
  obtain ⟨n, hn⟩ : ∃ n, n = es.length := ⟨_, rfl⟩
  have HN := mkH hn
  rw [← hn] at c0 hl
  clear hc hn h
  have HK : Hid (∀ (i : Nat) (x : Ex), es[i]? = some x → (es.map Ex.e)[i]? = some x.e) := fun i x hx => by rw [List.getElem?_map, hx]; rfl
  go_enter Tryz.func24, Tryz.ntmps24
  go_wp2
  go_loopw [5] (fun vi wr => ∃ i : Nat, vi = .int .i64 i ∧ i ≤ n ∧ wr = w ∧ Hid (∀ j, j < i → (es.map Ex.e)[j]? ≠ some v)) (fun vi _ => n - (intOf vi).toNat)
  case atStart => exact ⟨0, rfl, Nat.zero_le _, rfl, fun j hj => absurd hj (Nat.not_lt_zero j)⟩
  case round =>
    obtain ⟨i, rfl, hin, rfl, HJ⟩ := hrel
    by_cases hlt : i < n
    · obtain ⟨x, hx⟩ : ∃ x, es[i]? = some x := ⟨_, List.getElem?_eq_getElem (by rw [← HN.out]; exact hlt)⟩
      obtain ⟨g, rfl, d0, _⟩ := HC.out i x hx
      have hxk := HK.out i x hx
      have HX := mkH hxk
      have hlti : (i : Int) < (n : Int) := by omega
      clear hxk hx
      generalize x.e = q at *
      by_cases e : q = v
      · subst e
        have hres := atK_hit HX.out HJ.out
        have HRs := mkH hres
        clear hres
        go_wp2
        go_ret
        refine ⟨ret_of ?_, rfl⟩
        first | (rw [HRs.out]; done) | (rw [HRs.out]; rfl)
      · have e2 : (q == v) = false := by simpa using e
        have HJ2 : Hid (∀ j, j < i + 1 → (es.map Ex.e)[j]? ≠ some v) := fun j hj => by
          rcases Nat.lt_or_ge j i with k | k
          · exact HJ.out j k
          · obtain rfl : j = i := by omega
            rw [HX.out]; exact fun k => e (Option.some.inj k)
        clear HJ HX
        go_wp2
        go_roundw
        case rel => exact ⟨i + 1, by go_num, by omega, by first | rfl | trivial, HJ2.out⟩
        case measure => simp [intOf]; omega
    · have hlti : ¬ (i : Int) < (n : Int) := by omega
      have hno : v ∉ es.map Ex.e := fun k => by
        obtain ⟨j, hj⟩ := List.mem_iff_getElem?.1 k
        have hl := (List.getElem?_eq_some_iff.1 hj).1
        rw [List.length_map, ← HN.out] at hl
        exact HJ.out j (by omega) hj
      have HRs := mkH (atK_no hno)
      clear hno HJ
      go_wp2
      go_ret
      refine ⟨ret_of ?_, rfl⟩
      first | (rw [HRs.out]; done) | (rw [HRs.out]; rfl)
theorem grhas_any {w : World} {ao : Option Addr} {cap : Nat} {T : List Int} (h : RowW w 3 1 (.slice ao T.length cap) T.length (i64s T)) (v : Int) (hl : T.length ≤ 10000) : Calls Tryz.prog 100 #[.slice ao T.length cap, .int .i64 v] w fun e w' => e = .returned (.bool (decide (v ∈ T))) ∧ w' = w := by
  have HC : Hid (∀ i x, T[i]? = some x → ∃ g, ao = some ⟨g, 0, none⟩ ∧ w.cell? ⟨g, i, none⟩ = some (.int .i64 x)) := fun i x hx => by
    have hi := (List.getElem?_eq_some_iff.1 hx).1
    obtain ⟨g, cap', e⟩ := h.led (by omega)
    cases e
    exact ⟨g, rfl, h.cell (by unfold i64s; rw [List.getElem?_map, hx]; rfl)⟩
  obtain ⟨n, hn⟩ : ∃ n, n = T.length := ⟨_, rfl⟩
  have HN := mkH hn
  rw [← hn] at hl ⊢
  clear hn h
  go_enter Tryz.func100, Tryz.ntmps100
  go_wp2
  go_loopw [5] (fun vi wr => ∃ i : Nat, vi = .int .i64 i ∧ i ≤ n ∧ wr = w ∧ Hid (∀ j, j < i → T[j]? ≠ some v)) (fun vi _ => n - (intOf vi).toNat)
  case atStart => exact ⟨0, rfl, Nat.zero_le _, rfl, fun j hj => absurd hj (Nat.not_lt_zero j)⟩
  case round =>
    obtain ⟨i, rfl, hin, rfl, HJ⟩ := hrel
    by_cases hlt : i < n
    · obtain ⟨x, hx⟩ : ∃ x, T[i]? = some x := ⟨_, List.getElem?_eq_getElem (by rw [← HN.out]; exact hlt)⟩
      obtain ⟨g, rfl, d0⟩ := HC.out i x hx
      have HX := mkH hx
      have hlti : (i : Int) < (n : Int) := by omega
      clear hx
      by_cases e : x = v
      · subst e
        have HRs : Hid (decide (x ∈ T) = true) := decide_eq_true (List.mem_iff_getElem?.2 ⟨i, HX.out⟩)
        go_wp2
        go_ret
        refine ⟨ret_of ?_, rfl⟩
        first | (rw [HRs.out]; done) | (rw [HRs.out]; rfl)
      · have e2 : (x == v) = false := by simpa using e
        have HJ2 : Hid (∀ j, j < i + 1 → T[j]? ≠ some v) := fun j hj => by
          rcases Nat.lt_or_ge j i with k | k
          · exact HJ.out j k
          · obtain rfl : j = i := by omega
            rw [HX.out]; exact fun k => e (Option.some.inj k)
        clear HJ HX
        go_wp2
        go_roundw
        case rel => exact ⟨i + 1, by go_num, by omega, by first | rfl | trivial, HJ2.out⟩
        case measure => simp [intOf]; omega
    · have hlti : ¬ (i : Int) < (n : Int) := by omega
      have HRs : Hid (decide (v ∈ T) = false) := decide_eq_false fun k => by
        obtain ⟨j, hj⟩ := List.mem_iff_getElem?.1 k
        have hl := (List.getElem?_eq_some_iff.1 hj).1
        rw [← HN.out] at hl
        exact HJ.out j (by omega) hj
      clear HJ
      go_wp2
      go_ret
      refine ⟨ret_of ?_, rfl⟩
      first | (rw [HRs.out]; done) | (rw [HRs.out]; rfl)
theorem R10.room {W : World} {F : Nat → Prop} {R : Nat} {N0 : Int} {vs : List Vx} {es : List Ex} (h : R10 W F R N0 vs es) : W.cell? ⟨R, 0, none⟩ = some (.int .i64 N0) := by
  obtain ⟨lv, mv, h1, _⟩ := h.ex
  exact h1.at rfl
theorem gjoined_any {w : World} {F : Nat → Prop} {R : Nat} {N0 : Int} {vs : List Vx} {es : List Ex} (h : R10 w F R N0 vs es) (v : Int) (hvl : vs.length ≤ 10000) (hel : es.length ≤ 10000) (hes : ∀ y, y ∈ es → y.a ∈ vs.map Vx.v ∧ y.b ∈ vs.map Vx.v) :
    Calls Tryz.prog 97 #[.pointer (some ⟨R, 0, none⟩), .int .i64 v, .slice none 0 0, .bool true] w fun e w' => ∃ T ao cap, e = .returned (.slice ao T.length cap) ∧ ListW w w' ao cap T ∧ Below w.heap.size w w' ∧ T.length ≤ vs.length ∧ TreeOf vs es v T := by
  have HAt := mkH (gat_any h v hvl)
  have H8 := mkH h
  have HES := mkH hes
  clear h hes
  by_cases hv : v ∈ vs.map Vx.v
  case neg =>
    rw [atK_no hv] at HAt
    go_enter Tryz.func97, Tryz.ntmps97
    go_wp2_with fail
    refine HAt.out.mono ?_
    rintro e w1 ⟨rfl, rfl⟩
    go_wp2
    go_ret
    exact ⟨[], none, 0, rfl, ⟨RowW.empty _ _ _, fun k hk => by cases hk⟩, Below.refl _ _, Nat.zero_le _, ⟨fun k => absurd k hv, fun _ => rfl⟩⟩
  obtain ⟨i0, hi0, _⟩ := atK_mem hv
  rw [hi0] at HAt
  obtain ⟨j0, ji, jz0, jz1, jz2⟩ := info_parts infoI8
  have hb0 := (Below.refl w.heap.size w).alloc (Nat.le_refl _) (.cells #[.int .i64 v] 3)
  have HL0 : Hid (ListW w (w.alloc (.cells #[.int .i64 v] 3)) (some ⟨w.heap.size, 0, none⟩) 1 [v]) := ⟨⟨rfl, .inr ⟨w.heap.size, 1, _, rfl, Blk.new w 3 #[.int .i64 v], Nat.le_refl _, by unfold maxLen; omega, Nat.le_refl _, rfl⟩⟩, fun k hk => by cases hk; exact Nat.le_refl _⟩
  have HG0 : Hid (Gt vs es v [v]) := ⟨by simp, by simp, fun u hu => by simp at hu; subst hu; exact ⟨hv, Jn.refl _⟩⟩
  have HB0 := mkH hb0
  have HV := mkH hv
  clear hb0 hi0 hv
  obtain ⟨n, hn⟩ : ∃ n, n = es.length := ⟨_, rfl⟩
  have HN := mkH hn
  rw [← hn] at hel
  clear hn
  obtain ⟨N, hN⟩ : ∃ N, N = vs.length := ⟨_, rfl⟩
  have HNN := mkH hN
  rw [← hN] at hvl
  clear hN
  go_enter Tryz.func97, Tryz.ntmps97
  go_wp2_with fail
  refine HAt.out.mono ?_
  rintro e w1 ⟨rfl, rfl⟩
  clear HAt
  go_wp2
  go_loopw [9, 10] (fun vo vm wr => ∃ (T : List Int) (ao : Option Addr) (cap : Nat) (m : Bool), vo = .slice ao T.length cap ∧ vm = .bool m ∧ Hid (Gt vs es v T) ∧ Hid (ListW w1 wr ao cap T) ∧ Hid (Below w1.heap.size w1 wr) ∧ Hid (m = false → ∀ y, y ∈ es → (y.a ∈ T ↔ y.b ∈ T))) (fun vo vm _ => 2 * (N + 1 - slen vo) + sbl vm)
  case atStart => exact ⟨[v], _, 1, true, rfl, rfl, HG0.out, HL0.out, HB0.out, fun k => by cases k⟩
  case round =>
    clear HG0 HL0 HB0
    obtain ⟨T, ao, cap, m, rfl, rfl, HG, HL, HB, HC⟩ := hrel
    have hTN : T.length ≤ N := by rw [HNN.out]; exact HG.out.len
    cases m with
    | false =>
      go_wp2
      go_ret
      exact ⟨T, _, _, rfl, HL.out, HB.out, HG.out.len, ⟨fun _ => HG.out.tr (HC.out (by first | rfl | trivial)), fun k => absurd HV.out k⟩⟩
    | true =>
      clear HC
      obtain ⟨t0, ht0⟩ : ∃ t0, t0 = T.length := ⟨_, rfl⟩
      have HT0 := mkH ht0
      rw [← ht0] at hTN
      go_wp2
      go_loopw [9, 10, 11] (fun vo vm vi wr => ∃ (i : Nat) (T : List Int) (ao : Option Addr) (cap : Nat) (m : Bool), vi = .int .i64 i ∧ vo = .slice ao T.length cap ∧ vm = .bool m ∧ i ≤ n ∧ t0 ≤ T.length ∧ (m = true → t0 < T.length) ∧ Hid (Gt vs es v T) ∧ Hid (ListW w1 wr ao cap T) ∧ Hid (Below w1.heap.size w1 wr) ∧ Hid (m = false → ∀ j y, j < i → es[j]? = some y → (y.a ∈ T ↔ y.b ∈ T))) (fun _ _ vi _ => n - (intOf vi).toNat)
      case atStart => exact ⟨0, T, ao, cap, false, rfl, rfl, rfl, Nat.zero_le _, by rw [HT0.out]; exact Nat.le_refl _, (fun k => by cases k), HG.out, HL.out, HB.out, fun _ j y hj => absurd hj (Nat.not_lt_zero j)⟩
      case round =>
        clear HG HL HB ht0
        obtain ⟨i, U, bo, bc, m, rfl, rfl, rfl, hin, htU, hmU, HG, HL, HB, HC⟩ := hrel
        have hUN : U.length ≤ N := by rw [HNN.out]; exact HG.out.len
        by_cases hlt : i < n
        · obtain ⟨y, hy⟩ : ∃ y, es[i]? = some y := ⟨_, List.getElem?_eq_getElem (by rw [← HN.out]; exact hlt)⟩
          have hym : y ∈ es := List.mem_of_getElem? hy
          obtain ⟨eo, ec, c1, hcs⟩ := (H8.out.below HB.out).ehead
          rw [← HN.out] at c1
          obtain ⟨g, rfl, d0, d1, d2⟩ := hcs i y hy
          have hlti : (i : Int) < (n : Int) := by omega
          have HYe := mkH (HES.out y hym)
          have HYm := mkH hym
          have HYi := mkH hy
          clear d0 hcs hym hy
          have CA := mkH (grhas_any HL.out.1 y.a (by omega))
          have CB := mkH (grhas_any HL.out.1 y.b (by omega))
          obtain ⟨u, hu⟩ : ∃ u, u = U.length := ⟨_, rfl⟩
          have HU := mkH hu
          rw [← hu] at CA CB htU hmU hUN ⊢
          clear hu
          have HRow : Hid (∀ o, RowW (wr.alloc o) 3 1 (.slice bo u bc) u (i64s U)) := fun o => by rw [HU.out]; exact HL.out.1.kept fun k hk => heap_alloc_old wr _ k (HL.out.1.lt hk)
          by_cases ha : y.a ∈ U
          · by_cases hb : y.b ∈ U
            · skip
              rw [decide_eq_true ha] at CA
              rw [decide_eq_true hb] at CB
              have HC2 : Hid (m = false → ∀ j z, j < i + 1 → es[j]? = some z → (z.a ∈ U ↔ z.b ∈ U)) := fun k j z hj hz => by
                rcases Nat.lt_or_ge j i with k2 | k2
                · exact HC.out k j z k2 hz
                · obtain rfl : j = i := by omega
                  rw [HYi.out] at hz; cases hz
                  exact ⟨fun _ => hb, fun _ => ha⟩
              clear ha hb HRow
              go_wp2_with fail
              refine CA.out.mono ?_
              rintro e w2 ⟨rfl, rfl⟩
              go_wp2_with fail
              refine CB.out.mono ?_
              rintro e w3 ⟨rfl, rfl⟩
              clear CA CB HC
              cases m with
              | true =>
                go_wp2
                go_roundw
                case rel => exact ⟨i + 1, U, bo, bc, true, by go_num, by rw [← HU.out], rfl, by omega, by rw [← HU.out]; exact htU, (fun k => by rw [← HU.out]; first | exact hmU k | exact hmU trivial), HG.out, HL.out, HB.out, (fun k => HC2.out (by first | exact k | trivial))⟩
                case measure => simp [intOf]; omega
              | false =>
                go_wp2
                go_roundw
                case rel => exact ⟨i + 1, U, bo, bc, false, by go_num, by rw [← HU.out], rfl, by omega, by rw [← HU.out]; exact htU, (fun k => by rw [← HU.out]; first | exact hmU k | exact hmU trivial), HG.out, HL.out, HB.out, (fun k => HC2.out (by first | exact k | trivial))⟩
                case measure => simp [intOf]; omega
            · skip
              rw [decide_eq_true ha] at CA
              rw [decide_eq_false hb] at CB
              have HG2 := mkH (HG.out.more (a := y.a) (b := y.b) (.inl ⟨y, HYm.out, rfl, rfl⟩) ha hb HYe.out.2)
              clear HG
              have hN2 : U.length + 1 ≤ N := by have := HG2.out.len; rw [List.length_append, ← HNN.out] at this; exact this
              rw [← HU.out] at hN2
              clear ha hb
              go_wp2_with fail
              refine CA.out.mono ?_
              rintro e w2 ⟨rfl, rfl⟩
              go_wp2_with fail
              refine CB.out.mono ?_
              rintro e w3 ⟨rfl, rfl⟩
              clear CA CB HC
              go_wp2_with (at_builtin; refine wpList_append_row _ rfl _ _ 33 rfl 3 j0 (.int .i64 0) 1 8 Tryz.underlying33 ji jz0 jz1 jz2 rfl _ _ _ rfl (HRow.out _) ⟨w3.heap.size, 0, none⟩ 1 1 [.int .i64 y.b] rfl rfl (World.news_of_block (Blk.new w3 _ _)) (by simp [Value.oneCell']) (by omega) (by unfold maxLen; omega) (by omega) ?_; intro g2 cap2 wa hown hgrow hat hlt2)
              try simp only [Act.put]
              have hw3 := HB.out.size
              have hg2 : w1.heap.size ≤ g2 := by
                rcases hat with k | k
                · exact HL.out.2 g2 (by rw [← HU.out]; exact k)
                · rw [k, World.size_alloc]; omega
              have HL2 : Hid (ListW w1 wa (some ⟨g2, 0, none⟩) cap2 (U ++ [y.b])) := ⟨by rw [List.length_append, i64s_snoc, ← HU.out]; exact hown, fun k hk => by cases hk; exact hg2⟩
              have HB2 : Hid (Below w1.heap.size w1 wa) := by
                have hb3 : Below w1.heap.size w1 (w3.alloc (.cells #[.int .i64 y.b] 3)) := HB.out.alloc hw3 _
                exact ⟨hgrow.os.trans hb3.os, hgrow.tape.trans hb3.tape, hgrow.output.trans hb3.output, Nat.le_trans hb3.size hgrow.size, fun k hk => (hgrow.block k (Nat.lt_of_lt_of_le hk hb3.size) (fun e => by have := HL.out.2 k (by rw [← HU.out]; exact e.symm); omega)).trans (hb3.block k hk)⟩
              clear hown hgrow hat HL HB HRow
              go_wp2
              go_roundw
              case rel => exact ⟨i + 1, U ++ [y.b], _, cap2, true, by go_num, by rw [List.length_append, ← HU.out]; rfl, rfl, by omega, by rw [List.length_append, ← HU.out]; omega, fun _ => by rw [List.length_append, ← HU.out]; show t0 < u + 1; omega, HG2.out, HL2.out, HB2.out, fun k => by cases k⟩
              case measure => simp [intOf]; omega
          · by_cases hb : y.b ∈ U
            · skip
              rw [decide_eq_false ha] at CA
              rw [decide_eq_true hb] at CB
              have HG2 := mkH (HG.out.more (a := y.b) (b := y.a) (.inr ⟨y, HYm.out, rfl, rfl⟩) hb ha HYe.out.1)
              clear HG
              have hN2 : U.length + 1 ≤ N := by have := HG2.out.len; rw [List.length_append, ← HNN.out] at this; exact this
              rw [← HU.out] at hN2
              clear ha hb
              go_wp2_with fail
              refine CA.out.mono ?_
              rintro e w2 ⟨rfl, rfl⟩
              go_wp2_with fail
              refine CB.out.mono ?_
              rintro e w3 ⟨rfl, rfl⟩
              clear CA CB HC
              go_wp2_with (at_builtin; refine wpList_append_row _ rfl _ _ 33 rfl 3 j0 (.int .i64 0) 1 8 Tryz.underlying33 ji jz0 jz1 jz2 rfl _ _ _ rfl (HRow.out _) ⟨w3.heap.size, 0, none⟩ 1 1 [.int .i64 y.a] rfl rfl (World.news_of_block (Blk.new w3 _ _)) (by simp [Value.oneCell']) (by omega) (by unfold maxLen; omega) (by omega) ?_; intro g2 cap2 wa hown hgrow hat hlt2)
              try simp only [Act.put]
              have hw3 := HB.out.size
              have hg2 : w1.heap.size ≤ g2 := by
                rcases hat with k | k
                · exact HL.out.2 g2 (by rw [← HU.out]; exact k)
                · rw [k, World.size_alloc]; omega
              have HL2 : Hid (ListW w1 wa (some ⟨g2, 0, none⟩) cap2 (U ++ [y.a])) := ⟨by rw [List.length_append, i64s_snoc, ← HU.out]; exact hown, fun k hk => by cases hk; exact hg2⟩
              have HB2 : Hid (Below w1.heap.size w1 wa) := by
                have hb3 : Below w1.heap.size w1 (w3.alloc (.cells #[.int .i64 y.a] 3)) := HB.out.alloc hw3 _
                exact ⟨hgrow.os.trans hb3.os, hgrow.tape.trans hb3.tape, hgrow.output.trans hb3.output, Nat.le_trans hb3.size hgrow.size, fun k hk => (hgrow.block k (Nat.lt_of_lt_of_le hk hb3.size) (fun e => by have := HL.out.2 k (by rw [← HU.out]; exact e.symm); omega)).trans (hb3.block k hk)⟩
              clear hown hgrow hat HL HB HRow
              go_wp2
              go_roundw
              case rel => exact ⟨i + 1, U ++ [y.a], _, cap2, true, by go_num, by rw [List.length_append, ← HU.out]; rfl, rfl, by omega, by rw [List.length_append, ← HU.out]; omega, fun _ => by rw [List.length_append, ← HU.out]; show t0 < u + 1; omega, HG2.out, HL2.out, HB2.out, fun k => by cases k⟩
              case measure => simp [intOf]; omega
            · skip
              rw [decide_eq_false ha] at CA
              rw [decide_eq_false hb] at CB
              have HC2 : Hid (m = false → ∀ j z, j < i + 1 → es[j]? = some z → (z.a ∈ U ↔ z.b ∈ U)) := fun k j z hj hz => by
                rcases Nat.lt_or_ge j i with k2 | k2
                · exact HC.out k j z k2 hz
                · obtain rfl : j = i := by omega
                  rw [HYi.out] at hz; cases hz
                  exact ⟨fun k => absurd k ha, fun k => absurd k hb⟩
              clear ha hb HRow
              go_wp2_with fail
              refine CA.out.mono ?_
              rintro e w2 ⟨rfl, rfl⟩
              go_wp2_with fail
              refine CB.out.mono ?_
              rintro e w3 ⟨rfl, rfl⟩
              clear CA CB HC
              cases m with
              | true =>
                go_wp2
                go_roundw
                case rel => exact ⟨i + 1, U, bo, bc, true, by go_num, by rw [← HU.out], rfl, by omega, by rw [← HU.out]; exact htU, (fun k => by rw [← HU.out]; first | exact hmU k | exact hmU trivial), HG.out, HL.out, HB.out, (fun k => HC2.out (by first | exact k | trivial))⟩
                case measure => simp [intOf]; omega
              | false =>
                go_wp2
                go_roundw
                case rel => exact ⟨i + 1, U, bo, bc, false, by go_num, by rw [← HU.out], rfl, by omega, by rw [← HU.out]; exact htU, (fun k => by rw [← HU.out]; first | exact hmU k | exact hmU trivial), HG.out, HL.out, HB.out, (fun k => HC2.out (by first | exact k | trivial))⟩
                case measure => simp [intOf]; omega
        · obtain rfl : i = n := by omega
          have hlti : ¬ (i : Int) < (i : Int) := by omega
          obtain ⟨eo, ec, c1, _⟩ := (H8.out.below HB.out).ehead
          rw [← HN.out] at c1
          have HCl : Hid (m = false → ∀ y, y ∈ es → (y.a ∈ U ↔ y.b ∈ U)) := fun k y hy => by
            obtain ⟨j, hj⟩ := List.mem_iff_getElem?.1 hy
            exact HC.out k j y (by rw [HN.out]; exact (List.getElem?_eq_some_iff.1 hj).1) hj
          clear HC
          go_wp2
          go_roundw
          case rel => exact ⟨U, bo, bc, m, rfl, rfl, HG.out, HL.out, HB.out, HCl.out⟩
          case measure =>
            cases m with
            | true => have := hmU (by first | rfl | trivial); have := HT0.out; simp [slen, sbl]; omega
            | false => have := HT0.out; simp [slen, sbl]; omega
theorem take_snoc {T : List Int} {i : Nat} {u : Int} (h : T[i]? = some u) : T.take (i + 1) = T.take i ++ [u] := by
  rw [List.take_add_one, h]; rfl
theorem sumL_snoc (g : Int → Int) (T : List Int) (u : Int) : sumL g (T ++ [u]) = sumL g T + g u := by
  induction T with
  | nil => show g u + 0 = 0 + g u; omega
  | cons a T ih => show g a + sumL g (T ++ [u]) = g a + sumL g T + g u; rw [ih]; omega
theorem minL_snoc (g : Int → Int) (T : List Int) (u : Int) (hu : g u ≤ 4611686018427387904) : minL g (T ++ [u]) = min (minL g T) (g u) := by
  induction T with
  | nil => show min (g u) 4611686018427387904 = min 4611686018427387904 (g u); omega
  | cons a T ih => show min (g a) (minL g (T ++ [u])) = min (min (g a) (minL g T)) (g u); rw [ih]; omega
theorem sumL_bd {g : Int → Int} {c : Int} (hc : 0 ≤ c) : ∀ {T : List Int}, (∀ u, u ∈ T → 0 ≤ g u ∧ g u ≤ c) → 0 ≤ sumL g T ∧ sumL g T ≤ T.length * c := by
  intro T
  induction T with
  | nil => intro _; exact ⟨Int.le_refl _, by simp [sumL]⟩
  | cons a T ih =>
    intro h
    have h1 := ih (fun u hu => h u (by simp [hu]))
    have h2 := h a (by simp)
    have e : ((a :: T).length : Int) * c = T.length * c + c := by rw [List.length_cons, show ((T.length + 1 : Nat) : Int) = (T.length : Int) + 1 by omega, Int.add_mul]; omega
    rw [e]
    show 0 ≤ g a + sumL g T ∧ g a + sumL g T ≤ _
    omega
def Vok (vs : List Vx) : Prop := (vs.map Vx.v).Nodup ∧ ∀ x, x ∈ vs → (0 ≤ x.s ∧ x.s ≤ 1099511627776) ∧ (0 ≤ x.l ∧ x.l ≤ 1099511627776) ∧ 0 ≤ x.m ∧ x.m ≤ 15
def Eok (vs : List Vx) (es : List Ex) : Prop := ∀ y, y ∈ es → y.a ∈ vs.map Vx.v ∧ y.b ∈ vs.map Vx.v
theorem vat_of {vs : List Vx} (h : (vs.map Vx.v).Nodup) {x : Vx} (hx : x ∈ vs) : vat vs x.v = x := by
  obtain ⟨k1, k2⟩ := vat_in (vs := vs) (List.mem_map.2 ⟨x, hx, rfl⟩)
  have hp := List.pairwise_map.1 h
  rcases List.mem_iff_getElem.1 hx with ⟨i, hi, e1⟩
  rcases List.mem_iff_getElem.1 k1 with ⟨j, hj, e2⟩
  rcases Nat.lt_trichotomy i j with hij | rfl | hij
  · exact absurd (by rw [e1, e2, k2]) (List.pairwise_iff_getElem.1 hp i j hi hj hij)
  · rw [← e2, e1]
  · exact absurd (by rw [e1, e2, k2]) (List.pairwise_iff_getElem.1 hp j i hj hi hij)
theorem TreeOf.sub {vs : List Vx} {es : List Ex} {v : Int} {T : List Int} (h : TreeOf vs es v T) {u : Int} (hu : u ∈ T) : u ∈ vs.map Vx.v := by
  by_cases hv : v ∈ vs.map Vx.v
  · exact (((h.1 hv).mem u).1 hu).1
  · rw [h.2 hv] at hu; cases hu
section
variable {w : World} {F : Nat → Prop} {R : Nat} {vs : List Vx} {es : List Ex}
def lsN (vs : List Vx) (T : List Int) (i : Nat) : Int := if i = 0 then -1 else minL (fun u => (vat vs u).l) (T.take i)
theorem minL_bd {g : Int → Int} : ∀ {T : List Int}, (∀ u, u ∈ T → 0 ≤ g u) → 0 ≤ minL g T := by
  intro T
  induction T with
  | nil => intro _; exact (by decide : (0 : Int) ≤ 4611686018427387904)
  | cons a T ih =>
    intro h
    have h1 := ih (fun u hu => h u (by simp [hu]))
    have h2 := h a (by simp)
    show 0 ≤ min (g a) (minL g T)
    omega
end
theorem R10.vcell {W : World} {F : Nat → Prop} {R : Nat} {N0 : Int} {vs : List Vx} {es : List Ex} (h : R10 W F R N0 vs es) (hok : Vok vs) {u : Int} (hu : u ∈ vs.map Vx.v) : ∃ (j : Nat) (g cap : Nat), atK (vs.map Vx.v) u = j ∧ j < vs.length ∧ g < W.heap.size ∧ W.cell? ⟨R, 1, none⟩ = some (.slice (some ⟨g, 0, none⟩) vs.length cap) ∧ W.cell? ⟨g, j * 3 + 1, none⟩ = some (.int .i64 (vat vs u).s) ∧ W.cell? ⟨g, j * 3 + 2, none⟩ = some (.int .i64 (vat vs u).l) := by
  obtain ⟨j, e, hj⟩ := atK_mem hu
  rw [List.getElem?_map] at hj
  cases hx : vs[j]? with
  | none => rw [hx] at hj; cases hj
  | some x =>
    rw [hx] at hj
    have hxu : x.v = u := Option.some.inj hj
    obtain ⟨ao, cap, c0, hc⟩ := h.vhead
    obtain ⟨g, rfl, d0, d1, d2⟩ := hc j x hx
    have := vat_of hok.1 (List.mem_of_getElem? hx)
    rw [hxu] at this
    rw [this]
    exact ⟨j, g, cap, e, (List.getElem?_eq_some_iff.1 hx).1, cell_lt d0, c0, d1, d2⟩
section
variable {w : World} {F : Nat → Prop} {R : Nat} {N0 : Int} {vs : List Vx} {es : List Ex}
theorem gsumr_any (h : R10 w F R N0 vs es) (v : Int) (hvl : vs.length ≤ 1000) (hel : es.length ≤ 1000) (hok : Vok vs) (hes : Eok vs es) : Calls Tryz.prog 101 #[.pointer (some ⟨R, 0, none⟩), .int .i64 v] w fun e w' => ∃ T, TreeOf vs es v T ∧ e = .returned (.int .i64 (sumL (fun u => (vat vs u).s) T)) ∧ Below w.heap.size w w' := by
  have HTr := mkH (gjoined_any h v (by omega) (by omega) hes)
  have H8 := mkH h
  have HOK := mkH hok
  clear h hes hok
  go_enter Tryz.func101, Tryz.ntmps101
  go_wp2_with fail
  refine HTr.out.mono ?_
  rintro e w1 ⟨T, ao, cap, rfl, hL, hB, hn, hT⟩
  have HL := mkH hL
  have HBl := mkH hB
  have HT := mkH hT
  obtain ⟨t, ht⟩ : ∃ t, t = T.length := ⟨_, rfl⟩
  have Ht := mkH ht
  rw [← ht] at hn ⊢
  clear hL hB hT HTr ht
  have hnv : Hid (∀ u, u ∈ T → u ∈ vs.map Vx.v) := fun u hu => HT.out.sub hu
  obtain ⟨nv, hnv2⟩ : ∃ nv, nv = vs.length := ⟨_, rfl⟩
  have HNV := mkH hnv2
  rw [← hnv2] at hvl hn
  clear hnv2
  go_wp2
  go_loopw [6, 7] (fun vn vi wr => ∃ i : Nat, vi = .int .i64 i ∧ vn = .int .i64 (sumL (fun u => (vat vs u).s) (T.take i)) ∧ i ≤ t ∧ Hid (Below w1.heap.size w1 wr)) (fun _ vi _ => t - (intOf vi).toNat)
  case atStart => exact ⟨0, rfl, rfl, Nat.zero_le _, Below.refl _ _⟩
  case round =>
    obtain ⟨i, rfl, rfl, hit, HBr⟩ := hrel
    by_cases hlt : i < t
    · have hbd := sumL_bd (g := fun u => (vat vs u).s) (c := 1099511627776) (by omega) (T := T.take i) (fun u hu => (HOK.out.2 _ (vat_in (hnv.out u (List.mem_of_mem_take hu))).1).1)
      have hti : (T.take i).length ≤ 1000 := by rw [List.length_take]; omega
      have hbd2 : sumL (fun u => (vat vs u).s) (T.take i) ≤ 1000 * 1099511627776 := by
        have k1 := hbd.2
        have k2 : ((T.take i).length : Int) * 1099511627776 ≤ 1000 * 1099511627776 := Int.mul_le_mul_of_nonneg_right (by omega) (by decide)
        omega
      obtain ⟨u, hu⟩ : ∃ u, T[i]? = some u := ⟨_, List.getElem?_eq_getElem (by rw [← Ht.out]; exact hlt)⟩
      have hum := hnv.out u (List.mem_of_getElem? hu)
      have H8r := (H8.out.below HBl.out).below HBr.out
      obtain ⟨j, gv, vc, ej, hj, hgl, c0, d1, d2⟩ := H8r.vcell HOK.out hum
      have hvk := (HOK.out.2 _ (vat_in hum).1)
      obtain ⟨gt, cap2, eL⟩ := HL.out.1.led (by rw [← Ht.out]; omega)
      cases eL
      have hgt := HL.out.1.lt (k := gt) rfl
      have dT : wr.cell? ⟨gt, i, none⟩ = some (.int .i64 u) := (HBr.out.cell (p := ⟨gt, i, none⟩) hgt).trans (HL.out.1.cell (by unfold i64s; rw [List.getElem?_map, hu]; rfl))
      have hgt2 : gt < wr.heap.size := Nat.lt_of_lt_of_le hgt HBr.out.size
      have hRl := H8r.lt R H8r.b
      rw [← HNV.out] at c0 hj
      have g0 : ∀ g : Grow wr, g.w.cell? ⟨R, 1, none⟩ = some (.slice (some ⟨gv, 0, none⟩) nv vc) := Grow.cell hRl c0
      have g1 : ∀ g : Grow wr, g.w.cell? ⟨gv, j * 3 + 1, none⟩ = some (.int .i64 (vat vs u).s) := Grow.cell hgl d1
      have g2 : ∀ g : Grow wr, g.w.cell? ⟨gt, i, none⟩ = some (.int .i64 u) := Grow.cell hgt2 dT
      have HC : Hid (∀ g : Grow wr, Calls Tryz.prog 99 #[.pointer (some ⟨R, 0, none⟩), .int .i64 u] g.w fun e w' => e = .returned (.int .i64 (j : Int)) ∧ Below g.w.heap.size g.w w') := fun g => by
        have := gat_any (H8r.below g.h) u (by rw [← HNV.out]; omega)
        rw [ej] at this
        exact this.mono fun e w' ⟨k1, k2⟩ => ⟨k1, by rw [k2]; exact Below.refl _ _⟩
      have hne := Grow.ne wr
      have hlti : (i : Int) < (t : Int) := by omega
      have hjn : (j : Int) < (nv : Int) := by omega
      have HUi := mkH hu
      clear hu hum H8r ej d1 d2 dT c0 hj hgl hRl hgt hgt2
      have HS : Hid (sumL (fun u => (vat vs u).s) (T.take (i + 1)) = sumL (fun u => (vat vs u).s) (T.take i) + (vat vs u).s) := by show _ = _; rw [take_snoc HUi.out, sumL_snoc]
      clear hbd
      have hb0 := sumL_bd (g := fun u => (vat vs u).s) (c := 1099511627776) (by omega) (T := T.take i) (fun u hu => (HOK.out.2 _ (vat_in (hnv.out u (List.mem_of_mem_take hu))).1).1)
      have hlow := hb0.1
      clear hb0
      obtain ⟨S, hS⟩ : ∃ S, S = sumL (fun u => (vat vs u).s) (T.take i) := ⟨_, rfl⟩
      rw [← hS] at HS hbd2 hlow ⊢
      clear hS
      have hs1 := hvk.1
      generalize (vat vs u).s = x at *
      have hw : IntKind.i64.wrap (S + x) = S + x := by simp [IntKind.wrap, IntKind.bits, IntKind.signed]; omega
      go_wp2_with fail
      refine wp_region_grow (by kernel_rfl) (by kernel_rfl) ?_
      try simp only [List.append_eq, List.cons_append, List.nil_append]
      repeat (go_big_quiet_step ((go_at_call 99; exact grow_call (HC.out _))))
      refine wpQuiet_nil ?_
      rintro w7 ⟨⟨_, hb7⟩, rfl⟩
      have HB7 := mkH (HBr.out.trans (hb7.mono HBr.out.size))
      clear hb7 g0 g1 g2 hne HC HBr
      go_wp2
      go_roundw
      case rel => exact ⟨i + 1, by go_num, by rw [HS.out], by omega, HB7.out⟩
      case measure => simp [intOf]; omega
    · obtain rfl : i = t := by omega
      have hlti : ¬ (i : Int) < (i : Int) := by omega
      have HTk : Hid (T.take i = T) := by show T.take i = T; rw [Ht.out]; exact List.take_length
      go_wp2
      go_ret
      exact ⟨T, HT.out, ret_of (by rw [HTk.out]; rfl), HBl.out.trans (HBr.out.mono HBl.out.size)⟩
theorem gleastr_any (h : R10 w F R N0 vs es) (v : Int) (hvl : vs.length ≤ 1000) (hel : es.length ≤ 1000) (hok : Vok vs) (hes : Eok vs es) : Calls Tryz.prog 102 #[.pointer (some ⟨R, 0, none⟩), .int .i64 v] w fun e w' => ∃ T, TreeOf vs es v T ∧ e = .returned (.int .i64 (lsN vs T T.length)) ∧ Below w.heap.size w w' := by
  have HTr := mkH (gjoined_any h v (by omega) (by omega) hes)
  have H8 := mkH h
  have HOK := mkH hok
  clear h hes hok
  go_enter Tryz.func102, Tryz.ntmps102
  go_wp2_with fail
  refine HTr.out.mono ?_
  rintro e w1 ⟨T, ao, cap, rfl, hL, hB, hn, hT⟩
  have HL := mkH hL
  have HBl := mkH hB
  have HT := mkH hT
  obtain ⟨t, ht⟩ : ∃ t, t = T.length := ⟨_, rfl⟩
  have Ht := mkH ht
  rw [← ht] at hn ⊢
  clear hL hB hT HTr ht
  have hnv : Hid (∀ u, u ∈ T → u ∈ vs.map Vx.v) := fun u hu => HT.out.sub hu
  obtain ⟨nv, hnv2⟩ : ∃ nv, nv = vs.length := ⟨_, rfl⟩
  have HNV := mkH hnv2
  rw [← hnv2] at hvl hn
  clear hnv2
  go_wp2
  go_loopw [6, 7] (fun vn vi wr => ∃ i : Nat, vi = .int .i64 i ∧ vn = .int .i64 (lsN vs T i) ∧ i ≤ t ∧ Hid (Below w1.heap.size w1 wr)) (fun _ vi _ => t - (intOf vi).toNat)
  case atStart => exact ⟨0, rfl, rfl, Nat.zero_le _, Below.refl _ _⟩
  case round =>
    obtain ⟨i, rfl, rfl, hit, HBr⟩ := hrel
    by_cases hlt : i < t
    · have hbd := minL_bd (g := fun u => (vat vs u).l) (T := T.take i) (fun u hu => ((HOK.out.2 _ (vat_in (hnv.out u (List.mem_of_mem_take hu))).1).2.1).1)
      obtain ⟨u, hu⟩ : ∃ u, T[i]? = some u := ⟨_, List.getElem?_eq_getElem (by rw [← Ht.out]; exact hlt)⟩
      have hum := hnv.out u (List.mem_of_getElem? hu)
      have H8r := (H8.out.below HBl.out).below HBr.out
      obtain ⟨j, gv, vc, ej, hj, hgl, c0, d1, d2⟩ := H8r.vcell HOK.out hum
      have hvk := (HOK.out.2 _ (vat_in hum).1)
      obtain ⟨gt, cap2, eL⟩ := HL.out.1.led (by rw [← Ht.out]; omega)
      cases eL
      have hgt := HL.out.1.lt (k := gt) rfl
      have dT : wr.cell? ⟨gt, i, none⟩ = some (.int .i64 u) := (HBr.out.cell (p := ⟨gt, i, none⟩) hgt).trans (HL.out.1.cell (by unfold i64s; rw [List.getElem?_map, hu]; rfl))
      have hgt2 : gt < wr.heap.size := Nat.lt_of_lt_of_le hgt HBr.out.size
      have hRl := H8r.lt R H8r.b
      rw [← HNV.out] at c0 hj
      have g0 : ∀ g : Grow wr, g.w.cell? ⟨R, 1, none⟩ = some (.slice (some ⟨gv, 0, none⟩) nv vc) := Grow.cell hRl c0
      have g1 : ∀ g : Grow wr, g.w.cell? ⟨gv, j * 3 + 2, none⟩ = some (.int .i64 (vat vs u).l) := Grow.cell hgl d2
      have g2 : ∀ g : Grow wr, g.w.cell? ⟨gt, i, none⟩ = some (.int .i64 u) := Grow.cell hgt2 dT
      have HC : Hid (∀ g : Grow wr, Calls Tryz.prog 99 #[.pointer (some ⟨R, 0, none⟩), .int .i64 u] g.w fun e w' => e = .returned (.int .i64 (j : Int)) ∧ Below g.w.heap.size g.w w') := fun g => by
        have := gat_any (H8r.below g.h) u (by rw [← HNV.out]; omega)
        rw [ej] at this
        exact this.mono fun e w' ⟨k1, k2⟩ => ⟨k1, by rw [k2]; exact Below.refl _ _⟩
      have hne := Grow.ne wr
      have hlti : (i : Int) < (t : Int) := by omega
      have hjn : (j : Int) < (nv : Int) := by omega
      have HUi := mkH hu
      clear hu hum H8r ej d1 d2 dT c0 hj hgl hRl hgt hgt2
      have hs1 := hvk.2.1
      have HS : Hid (lsN vs T (i + 1) = if i = 0 then (vat vs u).l else min (minL (fun u => (vat vs u).l) (T.take i)) (vat vs u).l) := by
        show lsN vs T (i + 1) = _
        unfold lsN
        rw [if_neg (Nat.succ_ne_zero i), take_snoc HUi.out, minL_snoc _ _ _ (by show (vat vs u).l ≤ _; omega)]
        by_cases k : i = 0
        · subst k; rw [if_pos rfl]; show min 4611686018427387904 _ = _; omega
        · rw [if_neg k]
      have HM : Hid (lsN vs T i = if i = 0 then -1 else minL (fun u => (vat vs u).l) (T.take i)) := rfl
      generalize minL (fun u => (vat vs u).l) (T.take i) = m at *
      generalize (vat vs u).l = x at *
      by_cases hi0 : i = 0
      · have h1 := HM.out
        have h2 := HS.out
        rw [if_pos hi0] at h1 h2
        rw [h1]
        have HS2 := mkH h2
        clear h1 h2 HM HS hi0
        go_wp2_with fail
        refine wp_region_grow (by kernel_rfl) (by kernel_rfl) ?_
        try simp only [List.append_eq, List.cons_append, List.nil_append]
        repeat (go_big_quiet_step ((go_at_call 99; exact grow_call (HC.out _))))
        refine wpQuiet_nil ?_
        rintro w7 ⟨⟨_, hb7⟩, rfl⟩
        have HB7 := mkH (HBr.out.trans (hb7.mono HBr.out.size))
        clear hb7 g0 g1 g2 hne HC HBr
        go_wp2
        go_roundw
        case rel => exact ⟨i + 1, by go_num, by rw [HS2.out], by omega, HB7.out⟩
        case measure => simp [intOf]; omega
      · have h1 := HM.out
        have h2 := HS.out
        rw [if_neg hi0] at h1 h2
        rw [h1]
        have HS2 := mkH h2
        have hm0 : ¬ m < 0 := by omega
        clear h1 h2 HM HS
        by_cases hx : x < m
        · skip
          go_wp2_with fail
          refine wp_region_grow (by kernel_rfl) (by kernel_rfl) ?_
          try simp only [List.append_eq, List.cons_append, List.nil_append]
          repeat (go_big_quiet_step ((go_at_call 99; exact grow_call (HC.out _))))
          refine wpQuiet_nil ?_
          rintro w7 ⟨⟨_, hb7⟩, rfl⟩
          have HB7 := mkH (HBr.out.trans (hb7.mono HBr.out.size))
          clear hb7 g0 g1 g2 hne HC HBr
          go_wp2
          go_roundw
          case rel => exact ⟨i + 1, by go_num, by rw [HS2.out]; congr 1; omega, by omega, HB7.out⟩
          case measure => simp [intOf]; omega
        · skip
          go_wp2_with fail
          refine wp_region_grow (by kernel_rfl) (by kernel_rfl) ?_
          try simp only [List.append_eq, List.cons_append, List.nil_append]
          repeat (go_big_quiet_step ((go_at_call 99; exact grow_call (HC.out _))))
          refine wpQuiet_nil ?_
          rintro w7 ⟨⟨_, hb7⟩, rfl⟩
          have HB7 := mkH (HBr.out.trans (hb7.mono HBr.out.size))
          clear hb7 g0 g1 g2 hne HC HBr
          go_wp2
          go_roundw
          case rel => exact ⟨i + 1, by go_num, by rw [HS2.out]; congr 1; omega, by omega, HB7.out⟩
          case measure => simp [intOf]; omega
    · obtain rfl : i = t := by omega
      have hlti : ¬ (i : Int) < (i : Int) := by omega
      go_wp2
      go_ret
      exact ⟨T, HT.out, ret_of (by rw [← Ht.out]; rfl), HBl.out.trans (HBr.out.mono HBl.out.size)⟩
end
section
variable {w : World} {F : Nat → Prop} {R : Nat} {vs : List Vx} {es : List Ex}
end
theorem owns_row {w : World} {base : Nat} {e : TypeId} {size : Nat} {v : Value} {n : Nat} {xs : List Value} (h : w.ownsRow base e size v n xs) : RowW w e size v n xs ∧ ∀ k, v.ownBlock = some k → base ≤ k := by
  rcases h.2 with h1 | ⟨g, cap, cur, rfl, hb, hg, h1, h2, h3, h4⟩
  · exact ⟨⟨h.1, .inl h1⟩, fun k hk => by rw [h1.1] at hk; cases hk⟩
  · exact ⟨⟨h.1, .inr ⟨g, cap, cur, rfl, hg, h1, h2, by omega, h4⟩⟩, fun k hk => by cases hk; exact hb⟩
section
variable {w : World} {F : Nat → Prop} {R : Nat} {vs : List Vx} {es : List Ex}
end
theorem NmB_some {b c k : Nat} (h : NmB (.map (some b)) (.map (some c)) k) : k = b ∨ k = c := h.imp (fun e => (by cases e; rfl)) (fun e => (by cases e; rfl))
theorem IM.gone {W W' : World} {b c n : Nat} {p : Int → Int} (h : IM W b n p) (hg : W.grownBy W' (some c)) (hne : b ≠ c) : IM W' b n p := h.kept (hg.block b h.lt (fun e => hne (Option.some.inj e)))
section
variable {w : World} {B o : Nat} {φ : Value → Value → List Value} {T : TypeId} {x y : Value} {p q : Int → Int} {n : Nat}
theorem nput_any (ok : Hole φ o (o + 1)) (hb : Blk w B T (φ x y).toArray) (hn : NmOk w x y p q n) (hB : ∀ k, NmB x y k → k ≠ B) (hle : n ≤ 30000) {a i : Int} (ha : B64 a) (hi : B64 i) :
    Calls Tryz.prog 132 #[.pointer (some ⟨B, o, none⟩), .int .i64 a, .int .i64 i] w fun e w' => ∃ x' y', e = .returned (.tuple #[]) ∧ Blk w' B T (φ x' y').toArray ∧ NmOk w' x' y' (updI p a i) (updI q i a) (n + 1) ∧ (∀ k, NmB x' y' k → NmB x y k ∨ w.heap.size ≤ k) ∧ Only (fun k => k = B ∨ NmB x y k) w w' := by
  have HO := mkH ok
  obtain ⟨c0, c1⟩ := ok.cells hb
  have f0 := hb.frozen o
  have f1 := hb.frozen (o + 1)
  have hBl := hb.lt
  have hmm := @run_makeMap Tryz.prog
  rcases hn with ⟨rfl, rfl, rfl, rfl, rfl⟩ | ⟨b, c, rfl, rfl, hbc, hp, hq⟩
  · have hz := mapI_none
    have f2 := (ok.set0 hb (.map (some w.heap.size))).frozen (o + 1)
    have c2 := (ok.cells (ok.set0 hb (.map (some w.heap.size)))).2
    have hs1 : ((w.setCell ⟨B, o, none⟩ (.map (some w.heap.size))).setCell ⟨B, o + 1, none⟩ (.map (some (w.heap.size + 1)))).heap.size = w.heap.size := by rw [size_setCell, size_setCell]
    have hk2 := ok.set1 (ok.set0 hb (.map (some w.heap.size))) (.map (some (w.heap.size + 1)))
    have hN2 : Only (fun k => k = B ∨ NmB (.map none) (.map none) k) w ((w.setCell ⟨B, o, none⟩ (.map (some w.heap.size))).setCell ⟨B, o + 1, none⟩ (.map (some (w.heap.size + 1)))) := ((Only.refl _ w).set (.inl (.inl rfl)) o _).set (.inl (.inl rfl)) (o + 1) _
    have HK : Hid (Blk ((((w.setCell ⟨B, o, none⟩ (.map (some w.heap.size))).setCell ⟨B, o + 1, none⟩ (.map (some (w.heap.size + 1)))).alloc (.map #[] 0)).alloc (.map #[] 0)) B T (φ (.map (some w.heap.size)) (.map (some (w.heap.size + 1)))).toArray) := (hk2.alloc _).alloc _
    have HM1 : Hid (IM ((((w.setCell ⟨B, o, none⟩ (.map (some w.heap.size))).setCell ⟨B, o + 1, none⟩ (.map (some (w.heap.size + 1)))).alloc (.map #[] 0)).alloc (.map #[] 0)) w.heap.size 0 n0) := by
      have := IM.made ((w.setCell ⟨B, o, none⟩ (.map (some w.heap.size))).setCell ⟨B, o + 1, none⟩ (.map (some (w.heap.size + 1))))
      rw [hs1] at this
      exact this.kept (heap_alloc_old _ _ _ this.lt)
    have HM2 : Hid (IM ((((w.setCell ⟨B, o, none⟩ (.map (some w.heap.size))).setCell ⟨B, o + 1, none⟩ (.map (some (w.heap.size + 1)))).alloc (.map #[] 0)).alloc (.map #[] 0)) (w.heap.size + 1) 0 n0) := by
      have := IM.made (((w.setCell ⟨B, o, none⟩ (.map (some w.heap.size))).setCell ⟨B, o + 1, none⟩ (.map (some (w.heap.size + 1)))).alloc (.map #[] 0))
      rw [show (((w.setCell ⟨B, o, none⟩ (.map (some w.heap.size))).setCell ⟨B, o + 1, none⟩ (.map (some (w.heap.size + 1)))).alloc (.map #[] 0)).heap.size = w.heap.size + 1 by rw [← hs1]; simp] at this
      exact this
    have HN : Hid (Only (fun k => k = B ∨ NmB (.map none) (.map none) k) w ((((w.setCell ⟨B, o, none⟩ (.map (some w.heap.size))).setCell ⟨B, o + 1, none⟩ (.map (some (w.heap.size + 1)))).alloc (.map #[] 0)).alloc (.map #[] 0))) := (hN2.alloc _).alloc _
    have c4 := (ok.cells HK.out).1
    clear hb ok hk2 hN2
    go_enter Tryz.func132, Tryz.ntmps132
    have hne1 : w.heap.size + 1 ≠ w.heap.size := Nat.succ_ne_self _
    go_wp2_with (at_mapUpdate; (first
      | (refine wpList_num_store rfl _ _ _ rfl rfl HM1.out (by omega) rfl ha i rfl ?_; intro w3 hP hg; have hB3 := HK.out.kept hg (fun e => by have := Option.some.inj e; omega); have HM3 := mkH (HM2.out.gone hg hne1); have c5 := (HO.out.cells hB3).2)
      | (refine wpList_num_store rfl _ _ _ rfl rfl HM3.out (by omega) rfl hi a rfl ?_; intro w4 hP4 hg4)))
    try simp only [Act.put]
    have HK4 := mkH (hB3.kept hg4 (fun e => by have := Option.some.inj e; omega))
    have HP4 := mkH hP4
    have HPa := mkH (hP.gone hg4 hne1.symm)
    have HN4 := mkH ((HN.out.grown hg (fun k e => .inr (by have := Option.some.inj e; omega))).grown hg4 (fun k e => .inr (by have := Option.some.inj e; omega)))
    clear hP4 hg4 hP hg hB3 HM3 HM1 HM2 HN HK c0 c1 c2 c4 c5 f0 f1 f2 hs1
    go_wp2
    go_returns
    refine ⟨rfl, _, _, HK4.out, .inr ⟨_, _, rfl, rfl, hne1.symm, HPa.out, HP4.out⟩, fun k hk => .inr ?_, HN4.out⟩
    rcases NmB_some hk with h | h <;> omega
  · have hz := mapI_some
    have HP := mkH hp
    have HQ := mkH hq
    have HK := mkH hb
    have hbB := hB b (.inl rfl)
    have hcB := hB c (.inr rfl)
    clear hb ok hp hq hB
    go_enter Tryz.func132, Tryz.ntmps132
    go_wp2_with (at_mapUpdate; (first
      | (refine wpList_num_store rfl _ _ _ rfl rfl HP.out (by omega) rfl ha i rfl ?_; intro w3 hP hg; have hB3 := HK.out.kept hg (fun e => hbB (Option.some.inj e).symm); have HQ3 := mkH (HQ.out.gone hg (Ne.symm hbc)); have c5 := (HO.out.cells hB3).2)
      | (refine wpList_num_store rfl _ _ _ rfl rfl HQ3.out (by omega) rfl hi a rfl ?_; intro w4 hP4 hg4)))
    try simp only [Act.put]
    have HK4 := mkH (hB3.kept hg4 (fun e => hcB (Option.some.inj e).symm))
    have HP4 := mkH hP4
    have HPa := mkH (hP.gone hg4 hbc)
    have HN4 := mkH (((Only.refl (fun k => k = B ∨ NmB (.map (some b)) (.map (some c)) k) w).grown hg (fun k e => .inl (.inr (.inl (by rw [← e]))))).grown hg4 (fun k e => .inl (.inr (.inr (by rw [← e])))))
    clear hP4 hg4 hP hg hB3 HQ3 HP HQ HK c0 c1 c5 f0 f1
    go_wp2
    go_returns
    exact ⟨rfl, _, _, HK4.out, .inr ⟨_, _, rfl, rfl, hbc, HPa.out, HP4.out⟩, fun k hk => .inl hk, HN4.out⟩
theorem ntake_any (ok : Hole φ o (o + 1)) (hb : Blk w B T (φ x y).toArray) (hn : NmOk w x y p q n) (hB : ∀ k, NmB x y k → k ≠ B) {a : Int} (ha : B64 a) (hi : B64 (p a)) (h0 : p a ≠ 0) :
    Calls Tryz.prog 134 #[.pointer (some ⟨B, o, none⟩), .int .i64 a] w fun e w' => e = .returned (.tuple #[]) ∧ Blk w' B T (φ x y).toArray ∧ NmOk w' x y (updI p a 0) (updI q (p a) 0) n ∧ Only (fun k => k = B ∨ NmB x y k) w w' := by
  have HO := mkH ok
  obtain ⟨c0, c1⟩ := ok.cells hb
  have hBl := hb.lt
  rcases hn with ⟨rfl, rfl, rfl, rfl, rfl⟩ | ⟨b, c, rfl, rfl, hbc, hp, hq⟩
  · exact absurd rfl h0
  · have HP := mkH hp
    have HQ := mkH hq
    have HK := mkH hb
    have hbB := hB b (.inl rfl)
    have hcB := hB c (.inr rfl)
    have hl : ∀ g : Grow w, (Instr.lookup 84 (.map (some b)) (.int .i64 a) false).run Tryz.prog g.w = .ok (.int .i64 (p a)) g.w := fun g => (hp.kept (g.h.block b hp.lt)).look ha
    have HL := mkH hl
    have g0 := fun g => Grow.cell (X := w) hBl c0 g
    have g1 := fun g => Grow.cell (X := w) hBl c1 g
    generalize p a = z at *
    clear hb ok hp hq hB hl
    go_enter Tryz.func134, Tryz.ntmps134
    have gl := HL.out
    have hne := Grow.ne w
    go_wp2_with fail
    try simp only [Act.put]
    refine wp_region_tail 10 (by kernel_rfl) (by kernel_rfl) (by kernel_rfl) ?_
    simp only [stillAt, stillOp, List.set_cons_succ, List.set_cons_zero, List.getElem?_cons_succ, List.getElem?_cons_zero, Option.getD_some, List.drop_succ_cons, List.drop_zero]
    repeat (go_big_quiet_step (fail))
    refine wpQuiet_nil ?_
    rintro w3 ⟨⟨_, hb3⟩, rfl⟩
    have HP1 := mkH (HP.out.kept (hb3.block b HP.out.lt))
    have HQ1 := mkH (HQ.out.kept (hb3.block c HQ.out.lt))
    have HK1 := mkH (HK.out.below hb3)
    have HN1 : Hid (Only (fun k => k = B ∨ NmB (.map (some b)) (.map (some c)) k) w w3) := ⟨hb3.os, hb3.tape, hb3.output, hb3.size, fun k hk _ => hb3.block k hk⟩
    clear hb3 g0 g1 gl hne HL HP HQ HK c0 c1
    go_wp2_with (at_delete; (first
      | (refine wpList_num_drop rfl _ _ rfl rfl HQ1.out rfl hi ?_; intro w4 hP hg; have hK4 := HK1.out.kept hg (fun e => hcB (Option.some.inj e).symm); have c0 := (HO.out.cells hK4).1; have HP4 := mkH (HP1.out.gone hg hbc))
      | (refine wpList_num_drop rfl _ _ rfl rfl HP4.out rfl ha ?_; intro w5 hP5 hg5)))
    try simp only [Act.put]
    have HP5 := mkH hP5
    have HQ5 := mkH (hP.gone hg5 (Ne.symm hbc))
    have HK5 := mkH (hK4.kept hg5 (fun e => hbB (Option.some.inj e).symm))
    have HN5 := mkH ((HN1.out.grown hg (fun k e => .inl (.inr (.inr (by rw [← e]))))).grown hg5 (fun k e => .inl (.inr (.inl (by rw [← e])))))
    clear hP5 hg5 hP hg hK4 HP4 HQ1 HP1 HK1 HN1 c0
    go_wp2
    go_returns
    exact ⟨rfl, HK5.out, .inr ⟨_, _, rfl, rfl, hbc, HP5.out, HQ5.out⟩, HN5.out⟩
end
section
variable {w : World} {F : Nat → Prop} {B G : Nat} {f : Fo}
theorem fvput_any (h : Fd w F B G f) {a i : Int} (ha : B64 a) (hi : B64 i) (hle : f.nv ≤ 30000) : Calls Tryz.prog 132 #[.pointer (some ⟨B, 8, none⟩), .int .i64 a, .int .i64 i] w fun e w' => ∃ F', e = .returned (.tuple #[]) ∧ Fd w' F' B G (f.wv (updI f.vi a i) (updI f.vo i a) (f.nv + 1)) ∧ Step F F' w w' := by
  obtain ⟨x, y, u, v, h⟩ := h
  obtain ⟨φ, ok, hb, hn, hB, hup⟩ := h.vnames
  exact (nput_any ok hb hn hB hle ha hi).mono fun e w' ⟨x', y', h1, h2, h3, h4, h5⟩ => let ⟨F', a, b⟩ := hup _ _ _ _ _ _ h2 h3 h4 h5; ⟨F', h1, a, b⟩
theorem fvtake_any (h : Fd w F B G f) {a : Int} (ha : B64 a) (hi : B64 (f.vi a)) (h0 : f.vi a ≠ 0) : Calls Tryz.prog 134 #[.pointer (some ⟨B, 8, none⟩), .int .i64 a] w fun e w' => ∃ F', e = .returned (.tuple #[]) ∧ Fd w' F' B G (f.wv (updI f.vi a 0) (updI f.vo (f.vi a) 0) f.nv) ∧ Step F F' w w' := by
  obtain ⟨x, y, u, v, h⟩ := h
  obtain ⟨φ, ok, hb, hn, hB, hup⟩ := h.vnames
  exact (ntake_any ok hb hn hB ha hi h0).mono fun e w' ⟨h1, h2, h3, h5⟩ => let ⟨F', a, b⟩ := hup _ _ _ _ _ _ h2 h3 (fun k hk => .inl hk) h5; ⟨F', h1, a, b⟩
theorem feput_any (h : Fd w F B G f) {a i : Int} (ha : B64 a) (hi : B64 i) (hle : f.ne ≤ 30000) : Calls Tryz.prog 132 #[.pointer (some ⟨B, 10, none⟩), .int .i64 a, .int .i64 i] w fun e w' => ∃ F', e = .returned (.tuple #[]) ∧ Fd w' F' B G (f.we (updI f.ei a i) (updI f.eo i a) (f.ne + 1)) ∧ Step F F' w w' := by
  obtain ⟨x, y, u, v, h⟩ := h
  obtain ⟨φ, ok, hb, hn, hB, hup⟩ := h.enames
  exact (nput_any ok hb hn hB hle ha hi).mono fun e w' ⟨x', y', h1, h2, h3, h4, h5⟩ => let ⟨F', a, b⟩ := hup _ _ _ _ _ _ h2 h3 h4 h5; ⟨F', h1, a, b⟩
theorem fetake_any (h : Fd w F B G f) {a : Int} (ha : B64 a) (hi : B64 (f.ei a)) (h0 : f.ei a ≠ 0) : Calls Tryz.prog 134 #[.pointer (some ⟨B, 10, none⟩), .int .i64 a] w fun e w' => ∃ F', e = .returned (.tuple #[]) ∧ Fd w' F' B G (f.we (updI f.ei a 0) (updI f.eo (f.ei a) 0) f.ne) ∧ Step F F' w w' := by
  obtain ⟨x, y, u, v, h⟩ := h
  obtain ⟨φ, ok, hb, hn, hB, hup⟩ := h.enames
  exact (ntake_any ok hb hn hB ha hi h0).mono fun e w' ⟨h1, h2, h3, h5⟩ => let ⟨F', a, b⟩ := hup _ _ _ _ _ _ h2 h3 (fun k hk => .inl hk) h5; ⟨F', h1, a, b⟩
theorem fohas_any (h : Fd w F B G f) (v : Int) (hb : B64 v) : Calls Tryz.prog 74 #[.pointer (some ⟨B, 0, none⟩), .int .i64 v] w fun e w' => e = .returned (.bool (f.vi v != 0)) ∧ w' = w := by
  obtain ⟨x, y, u, v', h⟩ := h
  have c8 := h.cells.1
  have hl := (h.vlook hb).1
  generalize f.vi v = z at *
  clear h
  go_enter Tryz.func74, Tryz.ntmps74
  go_wp2
  go_ret
  exact ⟨rfl, rfl⟩
theorem fohasE_any (h : Fd w F B G f) (v : Int) (hb : B64 v) : Calls Tryz.prog 16 #[.pointer (some ⟨B, 0, none⟩), .int .i64 v] w fun e w' => e = .returned (.bool (f.ei v != 0)) ∧ w' = w := by
  obtain ⟨x, y, u, v', h⟩ := h
  have c8 := h.cells.2.2.1
  have hl := (h.elook hb).1
  generalize f.ei v = z at *
  clear h
  go_enter Tryz.func16, Tryz.ntmps16
  go_wp2
  go_ret
  exact ⟨rfl, rfl⟩
theorem foright_any (a b : Int) (w : World) : Calls Tryz.prog 131 #[.int .i64 a, .int .i64 b] w fun e w' => e = .returned (.bool (okSL a b)) ∧ w' = w := by
  have hR : ∀ (p : Bool), p = okSL a b → (.returned (.bool p) : Ending) = .returned (.bool (okSL a b)) := fun p hp => by rw [hp]
  have HR := mkH hR
  clear hR
  by_cases h1 : 0 ≤ a
  · by_cases h2 : a ≤ 1099511627776
    · by_cases h3 : 0 ≤ b
      · have hv : okSL a b = decide (b ≤ 1099511627776) := by unfold okSL; simp [h1, h2, h3]
        go_enter Tryz.func131, Tryz.ntmps131
        go_wp2
        go_ret
        refine ⟨ret_of ?_, rfl⟩
        first | rfl | (rw [hv]; rfl)
      · have hv : okSL a b = false := by unfold okSL; simp [h1, h2, h3]
        go_enter Tryz.func131, Tryz.ntmps131
        go_wp2
        go_ret
        exact ⟨ret_of (by first | rfl | (rw [hv]; rfl)), rfl⟩
    · have hv : okSL a b = false := by unfold okSL; simp [h1, h2]
      go_enter Tryz.func131, Tryz.ntmps131
      go_wp2
      go_ret
      exact ⟨ret_of (by first | rfl | (rw [hv]; rfl)), rfl⟩
  · have hv : okSL a b = false := by unfold okSL; simp [h1]
    go_enter Tryz.func131, Tryz.ntmps131
    go_wp2
    go_ret
    exact ⟨ret_of (by first | rfl | (rw [hv]; rfl)), rfl⟩
theorem fosize_any (h : Fd w F B G f) (v : Int) (hbv : B64 v) {k : Nat} (hw : f.Wf k) (hk : k ≤ 30000) : Calls Tryz.prog 58 #[.pointer (some ⟨B, 0, none⟩), .int .i64 v] w fun e w' => e = .returned (.int .i64 (f.total v).c) ∧ Below w.heap.size w w' := by
  unfold Fo.total
  obtain ⟨mx, my, mu, mv, h⟩ := h
  obtain ⟨Ft, hT, _⟩ := h.trees
  have hBl := hT.lt B hT.fb
  have glv : ∀ g : Grow w, (Instr.lookup 84 mx (.int .i64 v) false).run Tryz.prog g.w = .ok (.int .i64 (f.vi v)) g.w := fun g => ((h.below g.h).vlook hbv).1
  have g8 : ∀ g : Grow w, g.w.cell? ⟨B, 8, none⟩ = some mx := fun g => Grow.cell hBl h.cells.1 g
  have HC : Hid (∀ g : Grow w, Calls Tryz.prog 30 #[.pointer (some ⟨B, 0, none⟩), .int .i64 (f.vi v)] g.w fun e w' => e = .returned (.int .i64 (f.t.total (f.vi v)).c) ∧ Below g.w.heap.size g.w w') := fun g => fsize_any (hT.below g.h) _ hw.t.le hk
  generalize (f.t.total (f.vi v)).c = r at *
  generalize f.vi v = z at *
  clear h hT hw
  go_enter Tryz.func58, Tryz.ntmps58
  go_wp2_with fail
  have hne := Grow.ne w
  refine wp_region_grow (by kernel_rfl) (by kernel_rfl) ?_
  repeat (go_big_quiet_step ((go_at_call 30; exact grow_call (HC.out _))))
  refine wpQuiet_nil ?_
  rintro w7 ⟨⟨_, hb7⟩, rfl⟩
  have HB7 := mkH hb7
  clear hb7 g8 glv hne HC
  go_wp2
  go_ret
  exact ⟨rfl, HB7.out⟩
theorem fosum_any (h : Fd w F B G f) (v : Int) (hbv : B64 v) {k : Nat} (hw : f.Wf k) (hk : k ≤ 30000) : Calls Tryz.prog 59 #[.pointer (some ⟨B, 0, none⟩), .int .i64 v] w fun e w' => e = .returned (.int .i64 (f.total v).s) ∧ Below w.heap.size w w' := by
  unfold Fo.total
  obtain ⟨mx, my, mu, mv, h⟩ := h
  obtain ⟨Ft, hT, _⟩ := h.trees
  have hBl := hT.lt B hT.fb
  have glv : ∀ g : Grow w, (Instr.lookup 84 mx (.int .i64 v) false).run Tryz.prog g.w = .ok (.int .i64 (f.vi v)) g.w := fun g => ((h.below g.h).vlook hbv).1
  have g8 : ∀ g : Grow w, g.w.cell? ⟨B, 8, none⟩ = some mx := fun g => Grow.cell hBl h.cells.1 g
  have HC : Hid (∀ g : Grow w, Calls Tryz.prog 31 #[.pointer (some ⟨B, 0, none⟩), .int .i64 (f.vi v)] g.w fun e w' => e = .returned (.int .i64 (f.t.total (f.vi v)).s) ∧ Below g.w.heap.size g.w w') := fun g => fsum_any (hT.below g.h) _ hw.t.le hk
  generalize (f.t.total (f.vi v)).s = r at *
  generalize f.vi v = z at *
  clear h hT hw
  go_enter Tryz.func59, Tryz.ntmps59
  go_wp2_with fail
  have hne := Grow.ne w
  refine wp_region_grow (by kernel_rfl) (by kernel_rfl) ?_
  repeat (go_big_quiet_step ((go_at_call 31; exact grow_call (HC.out _))))
  refine wpQuiet_nil ?_
  rintro w7 ⟨⟨_, hb7⟩, rfl⟩
  have HB7 := mkH hb7
  clear hb7 g8 glv hne HC
  go_wp2
  go_ret
  exact ⟨rfl, HB7.out⟩
theorem fosame_any (h : Fd w F B G f) (a : Int) (b : Int) (hba : B64 a) (hbb : B64 b) {k : Nat} (hw : f.Wf k) (hk : k ≤ 30000) : Calls Tryz.prog 61 #[.pointer (some ⟨B, 0, none⟩), .int .i64 a, .int .i64 b] w fun e w' => e = .returned (.bool (f.same a b)) ∧ Below w.heap.size w w' := by
  unfold Fo.same
  obtain ⟨mx, my, mu, mv, h⟩ := h
  obtain ⟨Ft, hT, _⟩ := h.trees
  have hBl := hT.lt B hT.fb
  have gla : ∀ g : Grow w, (Instr.lookup 84 mx (.int .i64 a) false).run Tryz.prog g.w = .ok (.int .i64 (f.vi a)) g.w := fun g => ((h.below g.h).vlook hba).1
  have glb : ∀ g : Grow w, (Instr.lookup 84 mx (.int .i64 b) false).run Tryz.prog g.w = .ok (.int .i64 (f.vi b)) g.w := fun g => ((h.below g.h).vlook hbb).1
  have g8 : ∀ g : Grow w, g.w.cell? ⟨B, 8, none⟩ = some mx := fun g => Grow.cell hBl h.cells.1 g
  have HC : Hid (∀ g : Grow w, Calls Tryz.prog 42 #[.pointer (some ⟨B, 0, none⟩), .int .i64 (f.vi a), .int .i64 (f.vi b)] g.w fun e w' => e = .returned (.bool (f.t.same (f.vi a) (f.vi b))) ∧ Below g.w.heap.size g.w w') := fun g => fsame_any (hT.below g.h) _ _ hw.t.le hk
  generalize f.t.same (f.vi a) (f.vi b) = r at *
  generalize f.vi a = za at *
  generalize f.vi b = zb at *
  clear h hT hw
  go_enter Tryz.func61, Tryz.ntmps61
  go_wp2_with fail
  have hne := Grow.ne w
  refine wp_region_grow (by kernel_rfl) (by kernel_rfl) ?_
  repeat (go_big_quiet_step ((go_at_call 42; exact grow_call (HC.out _))))
  refine wpQuiet_nil ?_
  rintro w7 ⟨⟨_, hb7⟩, rfl⟩
  have HB7 := mkH hb7
  clear hb7 g8 gla glb hne HC
  go_wp2
  go_ret
  exact ⟨ret_of rfl, HB7.out⟩
theorem foleast_any (h : Fd w F B G f) (v : Int) (hbv : B64 v) {k : Nat} (hw : f.Wf k) (hk : k ≤ 30000) : Calls Tryz.prog 60 #[.pointer (some ⟨B, 0, none⟩), .int .i64 v] w fun e w' => e = .returned (.int .i64 (f.least v)) ∧ Below w.heap.size w w' := by
  have HH := mkH (fohas_any h v hbv)
  unfold Fo.least Fo.total
  by_cases hz : f.vi v = 0
  · rw [if_neg (by simp [hz])]
    rw [hz] at HH
    clear h hw hz
    go_enter Tryz.func60, Tryz.ntmps60
    go_wp2_with fail
    refine HH.out.mono ?_
    rintro e w1 ⟨rfl, rfl⟩
    go_wp2
    go_ret
    exact ⟨rfl, Below.refl _ _⟩
  rw [if_pos hz]
  have hz1 : (f.vi v != 0) = true := by simpa using hz
  obtain ⟨mx, my, mu, mv, h⟩ := h
  obtain ⟨Ft, hT, _⟩ := h.trees
  have hBl := hT.lt B hT.fb
  have GLV : Hid (∀ g : Grow w, (Instr.lookup 84 mx (.int .i64 v) false).run Tryz.prog g.w = .ok (.int .i64 (f.vi v)) g.w) := fun g => ((h.below g.h).vlook hbv).1
  have g8 : ∀ g : Grow w, g.w.cell? ⟨B, 8, none⟩ = some mx := fun g => Grow.cell hBl h.cells.1 g
  have HC : Hid (∀ g : Grow w, Calls Tryz.prog 32 #[.pointer (some ⟨B, 0, none⟩), .int .i64 (f.vi v)] g.w fun e w' => e = .returned (.int .i64 (f.t.total (f.vi v)).l) ∧ Below g.w.heap.size g.w w') := fun g => fleast_any (hT.below g.h) _ hw.t.le hk
  generalize (f.t.total (f.vi v)).l = r at *
  generalize f.vi v = z at *
  clear h hT hw
  go_enter Tryz.func60, Tryz.ntmps60
  go_wp2_with fail
  refine HH.out.mono ?_
  rintro e w1 ⟨rfl, rfl⟩
  rw [hz1]
  go_wp2_with fail
  have hne := Grow.ne w1
  have glv := GLV.out
  refine wp_region_grow (by kernel_rfl) (by kernel_rfl) ?_
  repeat (go_big_quiet_step ((go_at_call 32; exact grow_call (HC.out _))))
  refine wpQuiet_nil ?_
  rintro w7 ⟨⟨_, hb7⟩, rfl⟩
  have HB7 := mkH hb7
  clear hb7 g8 glv GLV hne HC HH
  go_wp2
  go_ret
  exact ⟨rfl, HB7.out⟩
theorem fofindV_any (h : Fd w F B G f) (v : Int) (b : Int) (hbv : B64 v) {k : Nat} (hw : f.Wf k) (hk : k ≤ 30000) : Calls Tryz.prog 57 #[.pointer (some ⟨B, 0, none⟩), .int .i64 v, .int .u8 b] w fun e w' => e = .returned (.tuple #[.int .i64 (f.vo (f.findV v b)), .bool (decide (f.findV v b ≠ 0))]) ∧ Below w.heap.size w w' := by
  obtain ⟨mx, my, mu, mv, h⟩ := h
  obtain ⟨Ft, hT, _⟩ := h.trees
  have hBl := hT.lt B hT.fb
  have glv : ∀ g : Grow w, (Instr.lookup 84 mx (.int .i64 v) false).run Tryz.prog g.w = .ok (.int .i64 (f.vi v)) g.w := fun g => ((h.below g.h).vlook hbv).1
  have g8 : ∀ g : Grow w, g.w.cell? ⟨B, 8, none⟩ = some mx := fun g => Grow.cell hBl h.cells.1 g
  have HC : Hid (∀ g : Grow w, Calls Tryz.prog 34 #[.pointer (some ⟨B, 0, none⟩), .int .i64 (f.vi v), .int .u8 b] g.w fun e w' => e = .returned (.tuple #[.int .i64 (f.findV v b), .bool (decide (f.findV v b ≠ 0))]) ∧ Below g.w.heap.size g.w w') := fun g => ffindV_any (hT.below g.h) _ b (vmk_bd b) (hw.findV hk v b) hw.t.le hk
  have GLU : Hid (∀ g : Grow w, (Instr.lookup 84 my (.int .i64 (f.findV v b)) false).run Tryz.prog g.w = .ok (.int .i64 (f.vo (f.findV v b))) g.w) := fun g => ((h.below g.h).vlook (by have := hw.findV hk v b; unfold B64; omega)).2
  have g9 : ∀ g : Grow w, g.w.cell? ⟨B, 9, none⟩ = some my := fun g => Grow.cell hBl h.cells.2.1 g
  generalize decide (f.findV v b ≠ 0) = rb at *
  generalize f.vo (f.findV v b) = r2 at *
  generalize f.findV v b = r at *
  generalize f.vi v = z at *
  clear h hT hw
  go_enter Tryz.func57, Tryz.ntmps57
  go_wp2_with fail
  have hne := Grow.ne w
  refine wp_region_grow (by kernel_rfl) (by kernel_rfl) ?_
  repeat (go_big_quiet_step ((go_at_call 34; exact grow_call (HC.out _))))
  refine wpQuiet_nil ?_
  rintro w7 ⟨⟨_, hb7⟩, rfl⟩
  have HB7 := mkH hb7
  have c9 := g9 ⟨w7, hb7⟩
  have hlu := GLU.out ⟨w7, hb7⟩
  simp only at c9 hlu
  clear hb7 g8 g9 glv GLU hne HC
  go_wp2
  go_ret2
  exact ⟨ret_of rfl, HB7.out⟩
theorem fofindE_any (h : Fd w F B G f) (v : Int) (b : Int) (hbv : B64 v) {k : Nat} (hw : f.Wf k) (hk : k ≤ 30000) : Calls Tryz.prog 81 #[.pointer (some ⟨B, 0, none⟩), .int .i64 v, .int .u8 b] w fun e w' => e = .returned (.tuple #[.int .i64 (f.eo (f.findE v b)), .bool (decide (f.findE v b ≠ 0))]) ∧ Below w.heap.size w w' := by
  obtain ⟨mx, my, mu, mv, h⟩ := h
  obtain ⟨Ft, hT, _⟩ := h.trees
  have hBl := hT.lt B hT.fb
  have glv : ∀ g : Grow w, (Instr.lookup 84 mx (.int .i64 v) false).run Tryz.prog g.w = .ok (.int .i64 (f.vi v)) g.w := fun g => ((h.below g.h).vlook hbv).1
  have g8 : ∀ g : Grow w, g.w.cell? ⟨B, 8, none⟩ = some mx := fun g => Grow.cell hBl h.cells.1 g
  have HC : Hid (∀ g : Grow w, Calls Tryz.prog 36 #[.pointer (some ⟨B, 0, none⟩), .int .i64 (f.vi v), .int .u8 b] g.w fun e w' => e = .returned (.tuple #[.int .i64 (f.findE v b), .bool (decide (f.findE v b ≠ 0))]) ∧ Below g.w.heap.size g.w w') := fun g => ffindE_any (hT.below g.h) _ b (emk_bd b) (hw.findE hk v b) hw.t.le hk
  have GLU : Hid (∀ g : Grow w, (Instr.lookup 84 mv (.int .i64 (f.findE v b)) false).run Tryz.prog g.w = .ok (.int .i64 (f.eo (f.findE v b))) g.w) := fun g => ((h.below g.h).elook (by have := hw.findE hk v b; unfold B64; omega)).2
  have g9 : ∀ g : Grow w, g.w.cell? ⟨B, 11, none⟩ = some mv := fun g => Grow.cell hBl h.cells.2.2.2 g
  generalize decide (f.findE v b ≠ 0) = rb at *
  generalize f.eo (f.findE v b) = r2 at *
  generalize f.findE v b = r at *
  generalize f.vi v = z at *
  clear h hT hw
  go_enter Tryz.func81, Tryz.ntmps81
  go_wp2_with fail
  have hne := Grow.ne w
  refine wp_region_grow (by kernel_rfl) (by kernel_rfl) ?_
  repeat (go_big_quiet_step ((go_at_call 36; exact grow_call (HC.out _))))
  refine wpQuiet_nil ?_
  rintro w7 ⟨⟨_, hb7⟩, rfl⟩
  have HB7 := mkH hb7
  have c9 := g9 ⟨w7, hb7⟩
  have hlu := GLU.out ⟨w7, hb7⟩
  simp only at c9 hlu
  clear hb7 g8 g9 glv GLU hne HC
  go_wp2
  go_ret2
  exact ⟨ret_of rfl, HB7.out⟩
theorem fomark_any (h : Fd w F B G f) (v b : Int) (hbv : B64 v) {k : Nat} (hw : f.Wf k) (hk : k ≤ 30000) : Calls Tryz.prog 56 #[.pointer (some ⟨B, 0, none⟩), .int .i64 v, .int .u8 b] w fun e w' => ∃ F', e = .returned (.int .i64 (f.markR v b)) ∧ Fd w' F' B G (f.mark v b) ∧ Step F F' w w' := by
  unfold Fo.markR Fo.mark
  obtain ⟨mx, my, mu, mv, h⟩ := h
  obtain ⟨Ft, hT, hup⟩ := h.trees
  have c8 := h.cells.1
  have hl := (h.drew.vlook hbv).1
  have NZ : Hid (∀ w' F' G' t', FdX mx my mu mv w' F' B G' (f.wt t') → w'.cell? ⟨B, 8, none⟩ = some mx ∧ (Instr.lookup 84 mx (.int .i64 v) false).run Tryz.prog w' = .ok (.int .i64 (f.vi v)) w') := fun w' F' G' t' h' => ⟨h'.cells.1, (h'.vlook hbv).1⟩
  have HC : Hid (Calls Tryz.prog 33 #[.pointer (some ⟨B, 0, none⟩), .int .i64 (f.vi v), .int .u8 b] w.drew fun e w' => ∃ F', e = .returned (.int .i64 (f.t.markR (f.vi v) b)) ∧ FdX mx my mu mv w' F' B G (f.wt (f.t.mark (f.vi v) b)) ∧ Step F F' w w') := (fmark_any (hT.kept (W' := w.drew) (fun _ _ => rfl) (Nat.le_refl _)) _ b hw.t.le hk).mono fun e w' ⟨Ft', h1, h2, h3⟩ => let ⟨F', a, b⟩ := hup _ _ _ _ h2 (Step.undrew h3); ⟨F', h1, a, b⟩
  generalize f.t.mark (f.vi v) b = t' at *
  generalize f.t.markR (f.vi v) b = r at *
  generalize f.vi v = z at *
  clear h hT hup hw
  go_enter Tryz.func56, Tryz.ntmps56
  go_wp2_with fail
  go_region_held3 (fun w' => w'.cell? ⟨B, 8, none⟩ = some mx ∧ (Instr.lookup 84 mx (.int .i64 v) false).run Tryz.prog w' = .ok (.int .i64 z) w')
    (first | go_keep | with_reducible exact NZ.out _ _ _ _ hT3)
    (first | (go_at_call 33; refine HC.out.mono ?_; rintro e w3 ⟨F3, rfl, hT3, hS3⟩) | fail)
  have H3 : Hid (Fd w3 F3 B G (f.wt t')) := ⟨_, _, _, _, hT3⟩
  have S3 := mkH hS3
  clear hT3 hS3 HC NZ c8 hl
  go_wp2
  go_ret
  exact ⟨_, rfl, H3.out, S3.out⟩
theorem foemark_any (h : Fd w F B G f) (v b : Int) (hbv : B64 v) {k : Nat} (hw : f.Wf k) (hk : k ≤ 30000) : Calls Tryz.prog 72 #[.pointer (some ⟨B, 0, none⟩), .int .i64 v, .int .u8 b] w fun e w' => ∃ F', e = .returned (.int .i64 (f.emarkR v b)) ∧ Fd w' F' B G (f.emark v b) ∧ Step F F' w w' := by
  unfold Fo.emarkR Fo.emark
  obtain ⟨mx, my, mu, mv, h⟩ := h
  obtain ⟨Ft, hT, hup⟩ := h.trees
  have c8 := h.cells.2.2.1
  have hl := (h.drew.elook hbv).1
  have NZ : Hid (∀ w' F' G' t', FdX mx my mu mv w' F' B G' (f.wt t') → w'.cell? ⟨B, 10, none⟩ = some mu ∧ (Instr.lookup 84 mu (.int .i64 v) false).run Tryz.prog w' = .ok (.int .i64 (f.ei v)) w') := fun w' F' G' t' h' => ⟨h'.cells.2.2.1, (h'.elook hbv).1⟩
  have HC : Hid (Calls Tryz.prog 35 #[.pointer (some ⟨B, 0, none⟩), .int .i64 (f.ei v), .int .u8 b] w.drew fun e w' => ∃ F', e = .returned (.int .i64 (f.t.emarkR (f.ei v) b)) ∧ FdX mx my mu mv w' F' B G (f.wt (f.t.emark (f.ei v) b)) ∧ Step F F' w w') := (femark_any (hT.kept (W' := w.drew) (fun _ _ => rfl) (Nat.le_refl _)) _ b hw.t.le hk).mono fun e w' ⟨Ft', h1, h2, h3⟩ => let ⟨F', a, b⟩ := hup _ _ _ _ h2 (Step.undrew h3); ⟨F', h1, a, b⟩
  generalize f.t.emark (f.ei v) b = t' at *
  generalize f.t.emarkR (f.ei v) b = r at *
  generalize f.ei v = z at *
  clear h hT hup hw
  go_enter Tryz.func72, Tryz.ntmps72
  go_wp2_with fail
  go_region_held3 (fun w' => w'.cell? ⟨B, 10, none⟩ = some mu ∧ (Instr.lookup 84 mu (.int .i64 v) false).run Tryz.prog w' = .ok (.int .i64 z) w')
    (first | go_keep | with_reducible exact NZ.out _ _ _ _ hT3)
    (first | (go_at_call 35; refine HC.out.mono ?_; rintro e w3 ⟨F3, rfl, hT3, hS3⟩) | fail)
  have H3 : Hid (Fd w3 F3 B G (f.wt t')) := ⟨_, _, _, _, hT3⟩
  have S3 := mkH hS3
  clear hT3 hS3 HC NZ c8 hl
  go_wp2
  go_ret
  exact ⟨_, rfl, H3.out, S3.out⟩
theorem fodrop_any (h : Fd w F B G f) (v : Int) (hbv : B64 v) {k : Nat} (hw : f.Wf k) (hk : k ≤ 30000) : Calls Tryz.prog 64 #[.pointer (some ⟨B, 0, none⟩), .int .i64 v] w fun e w' => ∃ F', e = .returned (.int .i64 (f.dropR v)) ∧ Fd w' F' B G (f.drop v) ∧ Step F F' w w' := by
  have HT : Hid (∀ w' F', Fd w' F' B G (f.wt (f.t.drop (f.vi v))) → f.dropR v = 0 → Calls Tryz.prog 134 #[.pointer (some ⟨B, 8, none⟩), .int .i64 v] w' fun e w2 => ∃ F2, e = .returned (.tuple #[]) ∧ Fd w2 F2 B G (f.drop v) ∧ Step F' F2 w' w2) := fun w' F' h' h0 => by
    have hz : f.vi v ≠ 0 := fun e => by unfold Fo.dropR To.dropR at h0; rw [e] at h0; simp [isA] at h0
    have := fvtake_any h' hbv (hw.v64 v) hz
    rw [show f.drop v = (f.wt (f.t.drop (f.vi v))).wv (updI f.vi v 0) (updI f.vo (f.vi v) 0) f.nv by unfold Fo.drop; rw [if_pos h0]]
    exact this
  have HE : Hid (f.dropR v ≠ 0 → f.wt (f.t.drop (f.vi v)) = f.drop v) := fun h0 => by
    have e1 : f.t.drop (f.vi v) = f.t := by
      unfold Fo.dropR To.dropR at h0
      unfold To.drop
      split
      · rename_i h1; rw [if_pos h1] at h0
        split
        · rename_i h2; rw [if_pos h2] at h0; exact absurd rfl h0
        · rfl
      · rfl
    unfold Fo.drop; rw [if_neg h0, e1]; rfl
  obtain ⟨mx, my, mu, mv, h⟩ := h
  obtain ⟨Ft, hT, hup⟩ := h.trees
  have c8 := h.cells.1
  have hl := (h.drew.vlook hbv).1
  have NZ : Hid (∀ w' F' G' t', FdX mx my mu mv w' F' B G' (f.wt t') → w'.cell? ⟨B, 8, none⟩ = some mx ∧ (Instr.lookup 84 mx (.int .i64 v) false).run Tryz.prog w' = .ok (.int .i64 (f.vi v)) w') := fun w' F' G' t' h' => ⟨h'.cells.1, (h'.vlook hbv).1⟩
  have HC : Hid (Calls Tryz.prog 40 #[.pointer (some ⟨B, 0, none⟩), .int .i64 (f.vi v)] w.drew fun e w' => ∃ F', e = .returned (.int .i64 (f.dropR v)) ∧ FdX mx my mu mv w' F' B G (f.wt (f.t.drop (f.vi v))) ∧ Step F F' w w') := (fdrop_any (hT.kept (W' := w.drew) (fun _ _ => rfl) (Nat.le_refl _)) _ hw.t.le hk).mono fun e w' ⟨Ft', h1, h2, h3⟩ => let ⟨F', a, b⟩ := hup _ _ _ _ h2 (Step.undrew h3); ⟨F', h1, a, b⟩
  generalize f.t.drop (f.vi v) = t' at *
  generalize f.drop v = f' at *
  generalize f.dropR v = r at *
  generalize f.vi v = z at *
  clear h hT hup hw
  by_cases hr : r = 0
  · subst hr
    go_enter Tryz.func64, Tryz.ntmps64
    go_wp2_with fail
    go_region_held3 (fun w' => w'.cell? ⟨B, 8, none⟩ = some mx ∧ (Instr.lookup 84 mx (.int .i64 v) false).run Tryz.prog w' = .ok (.int .i64 z) w')
      (first | go_keep | with_reducible exact NZ.out _ _ _ _ hT3)
      (first | (go_at_call 40; refine HC.out.mono ?_; rintro e w3 ⟨F3, rfl, hT3, hS3⟩) | fail)
    have H3 : Hid (Fd w3 F3 B G (f.wt t')) := ⟨_, _, _, _, hT3⟩
    have S3 := mkH hS3
    clear hT3 hS3 HC NZ c8 hl
    go_wp2_with fail
    refine (HT.out _ _ H3.out (by first | rfl | trivial)).mono ?_
    rintro e w4 ⟨F4, rfl, hT4, hS4⟩
    have H4 := mkH hT4
    have S4 := mkH (S3.out.trans hS4)
    clear hT4 hS4 H3 S3
    go_wp2
    go_ret
    exact ⟨_, rfl, H4.out, S4.out⟩
  · have hr1 : (r == 0) = false := by simpa using hr
    go_enter Tryz.func64, Tryz.ntmps64
    go_wp2_with fail
    go_region_held3 (fun w' => w'.cell? ⟨B, 8, none⟩ = some mx ∧ (Instr.lookup 84 mx (.int .i64 v) false).run Tryz.prog w' = .ok (.int .i64 z) w')
      (first | go_keep | with_reducible exact NZ.out _ _ _ _ hT3)
      (first | (go_at_call 40; refine HC.out.mono ?_; rintro e w3 ⟨F3, rfl, hT3, hS3⟩) | fail)
    have H3 : Hid (Fd w3 F3 B G f') := by rw [← HE.out hr]; exact ⟨_, _, _, _, hT3⟩
    have S3 := mkH hS3
    clear hT3 hS3 HC NZ c8 hl HE
    go_wp2
    go_ret
    exact ⟨_, rfl, H3.out, S3.out⟩
theorem focut_any (h : Fd w F B G f) (v : Int) (hbv : B64 v) {k : Nat} (hw : f.Wf k) (hk : k ≤ 30000) : Calls Tryz.prog 69 #[.pointer (some ⟨B, 0, none⟩), .int .i64 v] w fun e w' => ∃ F', e = .returned (.int .i64 (f.cutR v)) ∧ Fd w' F' B G (f.cut v) ∧ Step F F' w w' := by
  have HT : Hid (∀ w' F', Fd w' F' B G (f.wt (f.t.cut (f.ei v))) → f.cutR v = 0 → Calls Tryz.prog 134 #[.pointer (some ⟨B, 10, none⟩), .int .i64 v] w' fun e w2 => ∃ F2, e = .returned (.tuple #[]) ∧ Fd w2 F2 B G (f.cut v) ∧ Step F' F2 w' w2) := fun w' F' h' h0 => by
    have hz : f.ei v ≠ 0 := fun e => by unfold Fo.cutR To.cutR at h0; rw [e] at h0; simp [isA] at h0
    have := fetake_any h' hbv (hw.e64 v) hz
    rw [show f.cut v = (f.wt (f.t.cut (f.ei v))).we (updI f.ei v 0) (updI f.eo (f.ei v) 0) f.ne by unfold Fo.cut; rw [if_pos h0]]
    exact this
  have HE : Hid (f.cutR v ≠ 0 → f.wt (f.t.cut (f.ei v)) = f.cut v) := fun h0 => by
    have e1 : f.t.cut (f.ei v) = f.t := by
      unfold Fo.cutR To.cutR at h0
      unfold To.cut
      split
      · rename_i h1; rw [if_pos h1] at h0; exact absurd rfl h0
      · rfl
    unfold Fo.cut; rw [if_neg h0, e1]; rfl
  obtain ⟨mx, my, mu, mv, h⟩ := h
  obtain ⟨Ft, hT, hup⟩ := h.trees
  have c8 := h.cells.2.2.1
  have hl := (h.drew.elook hbv).1
  have NZ : Hid (∀ w' F' G' t', FdX mx my mu mv w' F' B G' (f.wt t') → w'.cell? ⟨B, 10, none⟩ = some mu ∧ (Instr.lookup 84 mu (.int .i64 v) false).run Tryz.prog w' = .ok (.int .i64 (f.ei v)) w') := fun w' F' G' t' h' => ⟨h'.cells.2.2.1, (h'.elook hbv).1⟩
  have HC : Hid (Calls Tryz.prog 38 #[.pointer (some ⟨B, 0, none⟩), .int .i64 (f.ei v)] w.drew fun e w' => ∃ F', e = .returned (.int .i64 (f.cutR v)) ∧ FdX mx my mu mv w' F' B G (f.wt (f.t.cut (f.ei v))) ∧ Step F F' w w') := (fcut_any (hT.kept (W' := w.drew) (fun _ _ => rfl) (Nat.le_refl _)) _ hw.t.le hk).mono fun e w' ⟨Ft', h1, h2, h3⟩ => let ⟨F', a, b⟩ := hup _ _ _ _ h2 (Step.undrew h3); ⟨F', h1, a, b⟩
  generalize f.t.cut (f.ei v) = t' at *
  generalize f.cut v = f' at *
  generalize f.cutR v = r at *
  generalize f.ei v = z at *
  clear h hT hup hw
  by_cases hr : r = 0
  · subst hr
    go_enter Tryz.func69, Tryz.ntmps69
    go_wp2_with fail
    go_region_held3 (fun w' => w'.cell? ⟨B, 10, none⟩ = some mu ∧ (Instr.lookup 84 mu (.int .i64 v) false).run Tryz.prog w' = .ok (.int .i64 z) w')
      (first | go_keep | with_reducible exact NZ.out _ _ _ _ hT3)
      (first | (go_at_call 38; refine HC.out.mono ?_; rintro e w3 ⟨F3, rfl, hT3, hS3⟩) | fail)
    have H3 : Hid (Fd w3 F3 B G (f.wt t')) := ⟨_, _, _, _, hT3⟩
    have S3 := mkH hS3
    clear hT3 hS3 HC NZ c8 hl
    go_wp2_with fail
    refine (HT.out _ _ H3.out (by first | rfl | trivial)).mono ?_
    rintro e w4 ⟨F4, rfl, hT4, hS4⟩
    have H4 := mkH hT4
    have S4 := mkH (S3.out.trans hS4)
    clear hT4 hS4 H3 S3
    go_wp2
    go_ret
    exact ⟨_, rfl, H4.out, S4.out⟩
  · have hr1 : (r == 0) = false := by simpa using hr
    go_enter Tryz.func69, Tryz.ntmps69
    go_wp2_with fail
    go_region_held3 (fun w' => w'.cell? ⟨B, 10, none⟩ = some mu ∧ (Instr.lookup 84 mu (.int .i64 v) false).run Tryz.prog w' = .ok (.int .i64 z) w')
      (first | go_keep | with_reducible exact NZ.out _ _ _ _ hT3)
      (first | (go_at_call 38; refine HC.out.mono ?_; rintro e w3 ⟨F3, rfl, hT3, hS3⟩) | fail)
    have H3 : Hid (Fd w3 F3 B G f') := by rw [← HE.out hr]; exact ⟨_, _, _, _, hT3⟩
    have S3 := mkH hS3
    clear hT3 hS3 HC NZ c8 hl HE
    go_wp2
    go_ret
    exact ⟨_, rfl, H3.out, S3.out⟩
theorem foadd_any (h : Fd w F B G f) (v a b : Int) (hbv : B64 v) {k : Nat} (hw : f.Wf k) (hk : k ≤ 30000) : Calls Tryz.prog 54 #[.pointer (some ⟨B, 0, none⟩), .int .i64 v, .int .i64 a, .int .i64 b] w fun e w' => ∃ F', e = .returned (.int .i64 (f.addR v a b)) ∧ Fd w' F' B G (f.add v a b) ∧ Step F F' w w' := by
  have HH := mkH (fohas_any h v hbv)
  have HR := mkH (foright_any a b)
  have H0 := mkH h
  by_cases hz : f.vi v = 0
  · rw [hz] at HH
    cases hok : okSL a b with
    | false =>
      have e1 : f.addR v a b = 1 := by unfold Fo.addR; rw [if_neg (by simp [hz]), if_neg (by simp [hok])]
      have e2 : f.add v a b = f := by unfold Fo.add; rw [if_neg (by rw [e1]; omega)]
      rw [e1, e2]
      rw [hok] at HR
      clear h hw hz e1 e2 hok
      go_enter Tryz.func54, Tryz.ntmps54
      go_wp2_with fail
      refine HH.out.mono ?_
      rintro e w1 ⟨rfl, rfl⟩
      go_wp2_with fail
      refine (HR.out _).mono ?_
      rintro e w2 ⟨rfl, rfl⟩
      go_wp2
      go_ret
      exact ⟨_, rfl, H0.out, Step.refl _ _⟩
    | true =>
      have e1 : f.addR v a b = 0 := by unfold Fo.addR; rw [if_neg (by simp [hz]), if_pos hok]
      have e2 : f.add v a b = (f.wt (f.t.addV a b)).wv (updI f.vi v f.newV) (updI f.vo f.newV v) (f.nv + 1) := by unfold Fo.add; rw [if_pos e1]
      rw [e1, e2]
      rw [hok] at HR
      have hnv := hw.newV hk
      have HP : Hid (∀ w' F', Fd w' F' B G (f.wt (f.t.addV a b)) → Calls Tryz.prog 132 #[.pointer (some ⟨B, 8, none⟩), .int .i64 v, .int .i64 f.newV] w' fun e w2 => ∃ F2, e = .returned (.tuple #[]) ∧ Fd w2 F2 B G ((f.wt (f.t.addV a b)).wv (updI f.vi v f.newV) (updI f.vo f.newV v) (f.nv + 1)) ∧ Step F' F2 w' w2) := fun w' F' h' => fvput_any h' hbv (by unfold B64; omega) (Nat.le_trans hw.nv hk)
      obtain ⟨mx, my, mu, mv, h⟩ := h
      obtain ⟨Ft, hT, hup⟩ := h.trees
      have HC : Hid (Calls Tryz.prog 28 #[.pointer (some ⟨B, 0, none⟩), .int .i64 a, .int .i64 b] w.drew fun e w' => ∃ F', e = .returned (.int .i64 f.newV) ∧ Fd w' F' B G (f.wt (f.t.addV a b)) ∧ Step F F' w w') := (fvertex_any (hT.kept (W' := w.drew) (fun _ _ => rfl) (Nat.le_refl _)) a b hw.t.le hk).mono fun e w' ⟨Ft', h1, h2, h3⟩ => let ⟨F', a, b⟩ := hup _ _ _ _ h2 (Step.undrew h3); ⟨F', h1, ⟨_, _, _, _, a⟩, b⟩
      generalize (f.wt (f.t.addV a b)).wv (updI f.vi v f.newV) (updI f.vo f.newV v) (f.nv + 1) = f2 at *
      generalize f.wt (f.t.addV a b) = f1 at *
      generalize f.newV = r at *
      clear h hT hup hw hz e1 e2 hok H0 hnv
      go_enter Tryz.func54, Tryz.ntmps54
      go_wp2_with fail
      refine HH.out.mono ?_
      rintro e w1 ⟨rfl, rfl⟩
      go_wp2_with fail
      refine (HR.out _).mono ?_
      rintro e w2 ⟨rfl, rfl⟩
      go_wp2_with fail
      go_region_held3 (fun w' => True) (first | go_keep | trivial)
        (first
          | (go_at_call 132; refine (HP.out _ _ H3.out).mono ?_; rintro e w4 ⟨F4, rfl, hT4, hS4⟩)
          | (go_at_call 28; refine HC.out.mono ?_; rintro e w3 ⟨F3, rfl, hT3, hS3⟩; have H3 := mkH hT3)
          | fail)
      have H4 := mkH hT4
      have S4 := mkH (hS3.trans hS4)
      clear hT3 hS3 hT4 hS4 HC HP H3 HH HR
      go_wp2
      go_ret
      exact ⟨_, rfl, H4.out, S4.out⟩
  · have hz1 : (f.vi v != 0) = true := by simpa using hz
    have e1 : f.addR v a b = 5 := by unfold Fo.addR; rw [if_pos hz]
    have e2 : f.add v a b = f := by unfold Fo.add; rw [if_neg (by rw [e1]; omega)]
    rw [e1, e2]
    rw [hz1] at HH
    clear h hw hz hz1 e1 e2
    go_enter Tryz.func54, Tryz.ntmps54
    go_wp2_with fail
    refine HH.out.mono ?_
    rintro e w1 ⟨rfl, rfl⟩
    go_wp2
    go_ret
    exact ⟨_, rfl, H0.out, Step.refl _ _⟩
end
section
variable {w : World} {F : Nat → Prop} {B G : Nat} {f : Fo}
theorem Fo.link_no {f : Fo} {n a b : Int} (h : f.linkR n a b ≠ 0) : f.link n a b = f := by unfold Fo.link; rw [if_neg h]
theorem folink_any (h : Fd w F B G f) (n a b : Int) (hbn : B64 n) (hba : B64 a) (hbb : B64 b) {k : Nat} (hw : f.Wf k) (hk : k ≤ 30000) : Calls Tryz.prog 55 #[.pointer (some ⟨B, 0, none⟩), .int .i64 n, .int .i64 a, .int .i64 b] w fun e w' => ∃ F' G', e = .returned (.int .i64 (f.linkR n a b)) ∧ Fd w' F' B G' (f.link n a b) ∧ Step F F' w w' := by
  have H0 := mkH h
  have HE := mkH (fohasE_any h n hbn)
  have HA := mkH (fohas_any h a hba)
  have HB := mkH (fohas_any h b hbb)
  have HS := mkH (fosame_any h a b hba hbb hw hk)
  by_cases hn : n < 1
  · have e1 : f.linkR n a b = 1 := by unfold Fo.linkR; rw [if_pos hn]
    rw [Fo.link_no (by rw [e1]; omega), e1]
    clear h hw e1
    go_enter Tryz.func55, Tryz.ntmps55
    go_wp2
    go_ret
    exact ⟨_, _, rfl, H0.out, Step.refl _ _⟩
  by_cases hE : f.ei n = 0
  case neg =>
    have e1 : f.linkR n a b = 5 := by unfold Fo.linkR; rw [if_neg hn, if_pos hE]
    rw [Fo.link_no (by rw [e1]; omega), e1]
    rw [show (f.ei n != 0) = true by simpa using hE] at HE
    clear h hw e1 hE
    go_enter Tryz.func55, Tryz.ntmps55
    go_wp2_with fail
    refine HE.out.mono ?_
    rintro e w1 ⟨rfl, rfl⟩
    go_wp2
    go_ret
    exact ⟨_, _, rfl, H0.out, Step.refl _ _⟩
  rw [hE] at HE
  by_cases hA : f.vi a = 0
  · have e1 : f.linkR n a b = 4 := by unfold Fo.linkR; rw [if_neg hn, if_neg (by simp [hE]), if_neg (by simp [hA])]
    rw [Fo.link_no (by rw [e1]; omega), e1]
    rw [hA] at HA
    clear h hw e1 hE hA
    go_enter Tryz.func55, Tryz.ntmps55
    go_wp2_with fail
    refine HE.out.mono ?_
    rintro e w1 ⟨rfl, rfl⟩
    go_wp2_with fail
    refine HA.out.mono ?_
    rintro e w2 ⟨rfl, rfl⟩
    go_wp2
    go_ret
    exact ⟨_, _, rfl, H0.out, Step.refl _ _⟩
  have hA1 : (f.vi a != 0) = true := by simpa using hA
  rw [hA1] at HA
  by_cases hB : f.vi b = 0
  · have e1 : f.linkR n a b = 4 := by unfold Fo.linkR; rw [if_neg hn, if_neg (by simp [hE]), if_neg (by simp [hB])]
    rw [Fo.link_no (by rw [e1]; omega), e1]
    rw [hB] at HB
    clear h hw e1 hE hB hA hA1
    go_enter Tryz.func55, Tryz.ntmps55
    go_wp2_with fail
    refine HE.out.mono ?_
    rintro e w1 ⟨rfl, rfl⟩
    go_wp2_with fail
    refine HA.out.mono ?_
    rintro e w2 ⟨rfl, rfl⟩
    go_wp2_with fail
    refine HB.out.mono ?_
    rintro e w3 ⟨rfl, rfl⟩
    go_wp2
    go_ret
    exact ⟨_, _, rfl, H0.out, Step.refl _ _⟩
  have hB1 : (f.vi b != 0) = true := by simpa using hB
  rw [hB1] at HB
  cases hs : f.same a b with
  | true =>
    have e1 : f.linkR n a b = 13 := by unfold Fo.linkR; rw [if_neg hn, if_neg (by simp [hE]), if_pos ⟨hA, hB⟩, if_pos (show f.t.same (f.vi a) (f.vi b) = true from hs)]
    rw [Fo.link_no (by rw [e1]; omega), e1]
    rw [hs] at HS
    clear h hw e1 hE hB hA hA1 hB1 hs
    go_enter Tryz.func55, Tryz.ntmps55
    go_wp2_with fail
    refine HE.out.mono ?_
    rintro e w1 ⟨rfl, rfl⟩
    go_wp2_with fail
    refine HA.out.mono ?_
    rintro e w2 ⟨rfl, rfl⟩
    go_wp2_with fail
    refine HB.out.mono ?_
    rintro e w3 ⟨rfl, rfl⟩
    go_wp2_with fail
    refine HS.out.mono ?_
    rintro e w4 ⟨rfl, hb4⟩
    have HB4 := mkH hb4
    clear hb4
    go_wp2
    go_ret
    exact ⟨_, _, rfl, H0.out.below HB4.out, Step.of_below HB4.out⟩
  | false =>
    have e1 : f.linkR n a b = 0 := by unfold Fo.linkR; rw [if_neg hn, if_neg (by simp [hE]), if_pos ⟨hA, hB⟩, if_neg (by rw [show f.t.same (f.vi a) (f.vi b) = false from hs]; simp)]
    have e2 : f.link n a b = (f.wt (f.t.linked (f.vi a) (f.vi b))).we (updI f.ei n (f.t.linkN (f.vi a) (f.vi b))) (updI f.eo (f.t.linkN (f.vi a) (f.vi b)) n) (f.ne + 1) := by unfold Fo.link; rw [if_pos e1]
    rw [e1, e2]
    rw [hs] at HS
    have hnN := hw.newE hk (f.vi a) (f.vi b)
    have HP : Hid (∀ w' F' G', Fd w' F' B G' (f.wt (f.t.linked (f.vi a) (f.vi b))) → Calls Tryz.prog 132 #[.pointer (some ⟨B, 10, none⟩), .int .i64 n, .int .i64 (f.t.linkN (f.vi a) (f.vi b))] w' fun e w2 => ∃ F2, e = .returned (.tuple #[]) ∧ Fd w2 F2 B G' ((f.wt (f.t.linked (f.vi a) (f.vi b))).we (updI f.ei n (f.t.linkN (f.vi a) (f.vi b))) (updI f.eo (f.t.linkN (f.vi a) (f.vi b)) n) (f.ne + 1)) ∧ Step F' F2 w' w2) := fun w' F' G' h' => feput_any h' hbn (by unfold B64; omega) (Nat.le_trans hw.ne hk)
    obtain ⟨mx, my, mu, mv, h⟩ := h
    have HX := mkH h
    have NZ : Hid (∀ w' F' G' f', FdX mx my mu mv w' F' B G' f' → f'.vi = f.vi → w'.cell? ⟨B, 8, none⟩ = some mx ∧ (Instr.lookup 84 mx (.int .i64 a) false).run Tryz.prog w' = .ok (.int .i64 (f.vi a)) w' ∧ (Instr.lookup 84 mx (.int .i64 b) false).run Tryz.prog w' = .ok (.int .i64 (f.vi b)) w') := fun w' F' G' f' h' e => ⟨h'.cells.1, by rw [← e]; exact (h'.vlook hba).1, by rw [← e]; exact (h'.vlook hbb).1⟩
    have HC : Hid (∀ wx, FdX mx my mu mv wx F B G f → Calls Tryz.prog 29 #[.pointer (some ⟨B, 0, none⟩), .int .i64 (f.vi a), .int .i64 (f.vi b)] wx.drew fun e w' => ∃ F' G', e = .returned (.tuple #[.int .i64 (f.t.linkN (f.vi a) (f.vi b)), .int .i64 (f.t.linkR (f.vi a) (f.vi b))]) ∧ FdX mx my mu mv w' F' B G' (f.wt (f.t.linked (f.vi a) (f.vi b))) ∧ Step F F' wx w') := fun wx hx => by
      obtain ⟨Ft, hT, hup⟩ := hx.trees
      exact (flink_any (hT.kept (W' := wx.drew) (fun _ _ => rfl) (Nat.le_refl _)) _ _ (hw.t.mv _) hw.t.le hk).mono fun e w' ⟨Ft', G2, h1, h2, h3⟩ => let ⟨F', a, b⟩ := hup _ _ _ _ h2 (Step.undrew h3); ⟨F', G2, h1, a, b⟩
    have HW : Hid ((f.wt (f.t.linked (f.vi a) (f.vi b))).vi = f.vi) := rfl
    generalize (f.wt (f.t.linked (f.vi a) (f.vi b))).we (updI f.ei n (f.t.linkN (f.vi a) (f.vi b))) (updI f.eo (f.t.linkN (f.vi a) (f.vi b)) n) (f.ne + 1) = f2 at *
    generalize f.wt (f.t.linked (f.vi a) (f.vi b)) = f1 at *
    generalize f.t.linkN (f.vi a) (f.vi b) = r at *
    generalize f.t.linkR (f.vi a) (f.vi b) = q at *
    obtain ⟨za, hza⟩ : ∃ za, za = f.vi a := ⟨_, rfl⟩
    obtain ⟨zb, hzb⟩ : ∃ zb, zb = f.vi b := ⟨_, rfl⟩
    rw [← hza, ← hzb] at HC NZ
    clear h hw hE hB hA hA1 hB1 hs e1 e2 hnN H0 hza hzb
    go_enter Tryz.func55, Tryz.ntmps55
    go_wp2_with fail
    refine HE.out.mono ?_
    rintro e w1 ⟨rfl, rfl⟩
    go_wp2_with fail
    refine HA.out.mono ?_
    rintro e w2 ⟨rfl, rfl⟩
    go_wp2_with fail
    refine HB.out.mono ?_
    rintro e w3 ⟨rfl, rfl⟩
    go_wp2_with fail
    refine HS.out.mono ?_
    rintro e w4 ⟨rfl, hb4⟩
    have HX4 := mkH (HX.out.below hb4)
    have S4 : Hid (Step F F w3 w4) := Step.of_below hb4
    have HC4 := mkH (HC.out _ HX4.out)
    obtain ⟨c8, hla, hlb⟩ := NZ.out _ _ _ _ HX4.out.drew rfl
    clear hb4 HX HC HE HA HB HS
    go_wp2_with fail
    go_region_held3 (fun w' => w'.cell? ⟨B, 8, none⟩ = some mx ∧ (Instr.lookup 84 mx (.int .i64 a) false).run Tryz.prog w' = .ok (.int .i64 za) w' ∧ (Instr.lookup 84 mx (.int .i64 b) false).run Tryz.prog w' = .ok (.int .i64 zb) w')
      (first | go_keep | with_reducible exact NZ.out _ _ _ _ hT3 HW.out)
      (first | (go_at_call 29; refine HC4.out.mono ?_; rintro e w5 ⟨F5, G5, rfl, hT3, hS3⟩) | fail)
    all_goals
      have H5 : Hid (Fd w5 F5 B G5 f1) := ⟨_, _, _, _, hT3⟩
      have S5 := mkH (S4.out.trans hS3)
      clear hT3 hS3 HC4 NZ c8 hla hlb HX4 S4
      go_wp2_with fail
      refine (HP.out _ _ _ H5.out).mono ?_
      rintro e w6 ⟨F6, rfl, hT6, hS6⟩
      have H6 := mkH hT6
      have S6 := mkH (S5.out.trans hS6)
      clear hT6 hS6 H5 S5 HP
      go_wp2
      go_ret
      exact ⟨_, _, rfl, H6.out, S6.out⟩
theorem fonew_any (d : Option Addr) (w : World) : Calls Tryz.prog 14 #[.pointer d] w fun e w' => ∃ B, e = .returned (.pointer (some ⟨B, 0, none⟩)) ∧ w.heap.size ≤ B ∧ Blk w' B 133 #[.slice none 0 0, .slice none 0 0, .pointer d, .slice none 0 0, .slice none 0 0, .slice none 0 0, .slice none 0 0, .map none, .map none, .map none, .map none, .map none] ∧ Below w.heap.size w w' := by
  go_enter Tryz.func14, Tryz.ntmps14
  go_wp2_with fail
  refine (fnew_any d w).mono ?_
  rintro e w1 ⟨B, rfl, hB, hK, hb⟩
  have k0 := hK.at (j := 0) rfl
  have k1 := hK.at (j := 1) rfl
  have k2 := hK.at (j := 2) rfl
  have k3 := hK.at (j := 3) rfl
  have k4 := hK.at (j := 4) rfl
  have k5 := hK.at (j := 5) rfl
  have k6 := hK.at (j := 6) rfl
  have k7 := hK.at (j := 7) rfl
  have HB1 := mkH (hb.alloc hb.size (.cells #[.slice none 0 0, .slice none 0 0, .pointer d, .slice none 0 0, .slice none 0 0, .slice none 0 0, .slice none 0 0, .map none, .map none, .map none, .map none, .map none] 133))
  have HK := mkH (Blk.new w1 133 #[.slice none 0 0, .slice none 0 0, .pointer d, .slice none 0 0, .slice none 0 0, .slice none 0 0, .slice none 0 0, .map none, .map none, .map none, .map none, .map none])
  have hs := hb.size
  clear hK hb
  go_wp2
  go_ret
  exact ⟨_, rfl, hs, HK.out, HB1.out⟩
end
theorem cut_filter {α : Type} (key : α → Int) {l : List α} (hn : (l.map key).Nodup) {i : Nat} {x : α} (hx : l[i]? = some x) : l.take i ++ l.drop (i + 1) = l.filter (fun y => decide (key y ≠ key x)) := by
  induction l generalizing i with
  | nil => cases hx
  | cons y l ih =>
    have hn' := List.nodup_cons.1 hn
    cases i with
    | zero =>
      simp at hx; subst hx
      rw [List.filter_cons_of_neg (by simp)]
      show l = _
      refine (List.filter_eq_self.2 fun q hq => ?_).symm
      exact decide_eq_true fun e => hn'.1 (by rw [← e]; exact List.mem_map.2 ⟨q, hq, rfl⟩)
    | succ i =>
      have hx' : l[i]? = some x := by simpa using hx
      have hne : key y ≠ key x := fun e => hn'.1 (by rw [e]; exact List.mem_map.2 ⟨x, List.mem_of_getElem? hx', rfl⟩)
      rw [List.filter_cons_of_pos (by simpa using hne), ← ih hn'.2 hx']
      rfl
section
variable {w : World} {F : Nat → Prop} {R : Nat} {vs : List Vx} {es : List Ex}
end
end Go.Proofs.YtabgplniaiehpaaGreat
