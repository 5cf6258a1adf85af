/- Lemmas. -/
import Derived.Test.YtlmdjghcmofdlaaGreatS19
import Derived.Deep.RegionHeld3
import Derived.Test.YtlmdjghcmofdlaaGreatS05
set_option maxRecDepth 100000
set_option maxHeartbeats 64000000
namespace Go.Proofs.YtlmdjghcmofdlaaGreat
open Go.RowKit
set_option linter.unusedVariables false
theorem fb1 : ∀ e : Fin 16, ∀ b : Fin 256, hasB (emk (e.val : Int)) (vmk (b.val : Int)) = false := by decide +kernel
theorem fb2 : ∀ m : Fin 16, ∀ b : Fin 256, hasB (m.val : Int) (vmk (b.val : Int)) = hasB (m.val : Int) (b.val : Int) := by decide +kernel
theorem fb3 : ∀ m : Fin 16, ∀ b : Fin 256, hasB (m.val : Int) (emk (b.val : Int)) = false := by decide +kernel
theorem fb4 : ∀ e : Fin 16, ∀ b : Fin 256, hasB (emk (e.val : Int)) (emk (b.val : Int)) = hasB (e.val : Int) (b.val : Int) := by decide +kernel
theorem toF {n : Nat} {x : Int} (h : 0 ≤ x ∧ x < n) : ∃ k : Fin n, x = (k.val : Int) := ⟨⟨x.toNat, by omega⟩, by simp; omega⟩
section
variable {e b : Int}
theorem hb1 (he : 0 ≤ e ∧ e ≤ 15) (hb : 0 ≤ b ∧ b ≤ 255) : hasB (emk e) (vmk b) = false := by
  obtain ⟨e, rfl⟩ := toF (n := 16) (x := e) (by omega); obtain ⟨b, rfl⟩ := toF (n := 256) (x := b) (by omega); exact fb1 e b
theorem hb2 (he : 0 ≤ e ∧ e ≤ 15) (hb : 0 ≤ b ∧ b ≤ 255) : hasB e (vmk b) = hasB e b := by
  obtain ⟨e, rfl⟩ := toF (n := 16) (x := e) (by omega); obtain ⟨b, rfl⟩ := toF (n := 256) (x := b) (by omega); exact fb2 e b
theorem hb3 (he : 0 ≤ e ∧ e ≤ 15) (hb : 0 ≤ b ∧ b ≤ 255) : hasB e (emk b) = false := by
  obtain ⟨e, rfl⟩ := toF (n := 16) (x := e) (by omega); obtain ⟨b, rfl⟩ := toF (n := 256) (x := b) (by omega); exact fb3 e b
theorem hb4 (he : 0 ≤ e ∧ e ≤ 15) (hb : 0 ≤ b ∧ b ≤ 255) : hasB (emk e) (emk b) = hasB e b := by
  obtain ⟨e, rfl⟩ := toF (n := 16) (x := e) (by omega); obtain ⟨b, rfl⟩ := toF (n := 256) (x := b) (by omega); exact fb4 e b
end
section
variable {f : Fo} {vs : List Vx} {es : List Ex}
theorem Rel.mOf (h : Rel f vs es) {v : Int} {T : List Int} (hT : Trv vs es v T) {u : Int} (hu : u ∈ T) : (f.t.s.V (f.t.item (f.vi u))).m = (vat vs u).m ∧ 0 ≤ (vat vs u).m ∧ (vat vs u).m ≤ 15 := by
  obtain ⟨k1, k2⟩ := vat_in ((hT.mem u).1 hu).1
  obtain ⟨_, _, k3, k4⟩ := h.vin _ k1
  rw [k2] at k3
  exact ⟨by rw [k3], k4⟩
theorem Rel.findV (hB : Tb f.t) (h : Rel f vs es) {v : Int} (hv : v ∈ vs.map Vx.v) {T : List Int} (hT : Trv vs es v T) {b : Int} (hb : 0 ≤ b ∧ b ≤ 255) :
    (f.findV v b ≠ 0 ∧ ∃ u, u ∈ T ∧ hasB (vat vs u).m b = true ∧ f.vo (f.findV v b) = u) ∨ (f.findV v b = 0 ∧ ∀ u, u ∈ T → hasB (vat vs u).m b = false) := by
  obtain ⟨t1, t2, t3⟩ := h.tour hB hv hT
  obtain ⟨v1, v2⟩ := h.isv hv
  have hi := h.eu.ne0 hB v1
  have hf : f.findV v b = (f.t.p (fdS f.t.s.V (f.t.s.S (f.t.item (f.vi v))) (vmk b))).1 := by unfold Fo.findV To.find; rw [if_neg hi]
  rw [hf]
  unfold fdS
  cases hq : (f.t.s.S (f.t.item (f.vi v))).find? fun j => hasB (f.t.s.V j).m (vmk b) with
  | some z =>
    have hz := List.mem_of_find?_eq_some hq
    have hh : hasB (f.t.s.V z).m (vmk b) = true := by have := List.find?_some hq; simpa using this
    simp only [Option.getD_some]
    rcases t3 z hz with ⟨u, hu, rfl⟩ | ⟨n, hn, k⟩
    · have hm := ((hT.mem u).1 hu).1
      obtain ⟨u1, u2⟩ := h.isv hm
      obtain ⟨m1, m2⟩ := h.mOf hT hu
      rw [(h.eu.iv _ u1).2.1]
      rw [m1, hb2 m2 hb] at hh
      exact .inl ⟨h.mem.2 hm, u, hu, hh, u2⟩
    · obtain ⟨y, hy, rfl⟩ := h.eall n hn
      obtain ⟨_, _, _, _, _, _, k7, k8, k9⟩ := h.ein y hy
      rcases k with rfl | rfl
      · rw [k7, hb1 k9 hb] at hh; cases hh
      · rw [k8, hb2 ⟨Int.le_refl 0, by decide⟩ hb] at hh
        have : hasB 0 b = false := by have := hb3 (e := 0) (b := 0) ⟨Int.le_refl 0, by decide⟩ ⟨Int.le_refl 0, by decide⟩; obtain ⟨b, rfl⟩ := toF (n := 256) (x := b) (by omega); exact (by decide +kernel : ∀ b : Fin 256, hasB 0 (b.val : Int) = false) b
        rw [this] at hh; cases hh
  | none =>
    simp only [Option.getD_none]
    rw [h.z.2.2]
    refine .inr ⟨rfl, fun u hu => ?_⟩
    obtain ⟨m1, m2⟩ := h.mOf hT hu
    have := List.find?_eq_none.1 hq _ (t1 u hu)
    rw [m1, hb2 m2 hb] at this
    simpa using this
theorem Rel.eTour (hB : Tb f.t) (h : Rel f vs es) {v : Int} (hv : v ∈ vs.map Vx.v) {T : List Int} (hT : Trv vs es v T) {y : Ex} (hy : y ∈ es) : (f.t.edge (f.ei y.e)).x ∈ f.t.s.S (f.t.item (f.vi v)) ↔ y.a ∈ T := by
  obtain ⟨k1, k2, k3, k4, k5, k6, _⟩ := h.ein y hy
  obtain ⟨e1, e2, e3, e4, _⟩ := h.eu.ends hB k1
  rw [k3] at e3
  have hx := hB.fam.mem _ (h.eu.ev _ k1).1
  have hs := hB.fam.same _ _ e3
  constructor
  · intro hm
    refine (hT.mem _).2 ⟨k5, ?_⟩
    have : f.same v y.a = true := To.same_iff.2 (by rw [← hB.fam.same _ _ hm]; exact e3)
    exact ((h.same hB).1 this).2.2
  · intro ha
    have h1 : f.t.same (f.vi v) (f.vi y.a) = true := (h.same hB).2 ⟨hv, k5, ((hT.mem _).1 ha).2⟩
    have := hB.fam.same _ _ (To.same_iff.1 h1)
    rw [← this, hs]; exact hx
theorem Rel.findE (hB : Tb f.t) (h : Rel f vs es) {v : Int} (hv : v ∈ vs.map Vx.v) {T : List Int} (hT : Trv vs es v T) {b : Int} (hb : 0 ≤ b ∧ b ≤ 255) :
    (f.findE v b ≠ 0 ∧ ∃ y, y ∈ es ∧ y.a ∈ T ∧ hasB y.m b = true ∧ f.eo (f.findE v b) = y.e) ∨ (f.findE v b = 0 ∧ ∀ y, y ∈ es → y.a ∈ T → hasB y.m b = false) := by
  obtain ⟨t1, t2, t3⟩ := h.tour hB hv hT
  obtain ⟨v1, v2⟩ := h.isv hv
  have hi := h.eu.ne0 hB v1
  have hf : f.findE v b = (f.t.p (fdS f.t.s.V (f.t.s.S (f.t.item (f.vi v))) (emk b))).2 := by unfold Fo.findE To.find; rw [if_neg hi]
  rw [hf]
  unfold fdS
  cases hq : (f.t.s.S (f.t.item (f.vi v))).find? fun j => hasB (f.t.s.V j).m (emk b) with
  | some z =>
    have hz := List.mem_of_find?_eq_some hq
    have hh : hasB (f.t.s.V z).m (emk b) = true := by have := List.find?_some hq; simpa using this
    simp only [Option.getD_some]
    rcases t3 z hz with ⟨u, hu, rfl⟩ | ⟨n, hn, k⟩
    · obtain ⟨m1, m2⟩ := h.mOf hT hu
      rw [m1, hb3 m2 hb] at hh; cases hh
    · obtain ⟨y, hy, rfl⟩ := h.eall n hn
      obtain ⟨k1, k2, _, _, _, _, k7, k8, k9⟩ := h.ein y hy
      rcases k with rfl | rfl
      · rw [k7, hb4 k9 hb] at hh
        rw [(h.eu.ev _ k1).2.2.1]
        exact .inl ⟨h.memE.2 (List.mem_map.2 ⟨y, hy, rfl⟩), y, hy, (h.eTour hB hv hT hy).1 hz, hh, k2⟩
      · rw [k8, hb3 ⟨Int.le_refl 0, by decide⟩ hb] at hh; cases hh
  | none =>
    simp only [Option.getD_none]
    rw [h.z.2.2]
    refine .inr ⟨rfl, fun y hy ha => ?_⟩
    obtain ⟨k1, k2, _, _, _, _, k7, k8, k9⟩ := h.ein y hy
    have := List.find?_eq_none.1 hq _ ((h.eTour hB hv hT hy).2 ha)
    rw [k7, hb4 k9 hb] at this
    simpa using this
end
theorem NmB_some {b c k : Nat} (h : NmB (.map (some b)) (.map (some c)) k) : k = b ∨ k = c := h.imp (fun e => (by cases e; rfl)) (fun e => (by cases e; rfl))
theorem IM.gone {W W' : World} {b c n : Nat} {p : Int → Int} (h : IM W b n p) (hg : W.grownBy W' (some c)) (hne : b ≠ c) : IM W' b n p := h.kept (hg.block b h.lt (fun e => hne (Option.some.inj e)))
section
variable {w : World} {B o : Nat} {φ : Value → Value → List Value} {T : TypeId} {x y : Value} {p q : Int → Int} {n : Nat}
theorem nput_any (ok : Hole φ o (o + 1)) (hb : Blk w B T (φ x y).toArray) (hn : NmOk w x y p q n) (hB : ∀ k, NmB x y k → k ≠ B) (hle : n ≤ 30000) {a i : Int} (ha : B64 a) (hi : B64 i) :
    Calls Tryz.prog 46 #[.pointer (some ⟨B, o, none⟩), .int .i64 a, .int .i64 i] w fun e w' => ∃ x' y', e = .returned (.tuple #[]) ∧ Blk w' B T (φ x' y').toArray ∧ NmOk w' x' y' (updI p a i) (updI q i a) (n + 1) ∧ (∀ k, NmB x' y' k → NmB x y k ∨ w.heap.size ≤ k) ∧ Only (fun k => k = B ∨ NmB x y k) w w' := by
  have HO := mkH ok
  obtain ⟨c0, c1⟩ := ok.cells hb
  have f0 := hb.frozen o
  have f1 := hb.frozen (o + 1)
  have hBl := hb.lt
  have hmm := @run_makeMap Tryz.prog
  rcases hn with ⟨rfl, rfl, rfl, rfl, rfl⟩ | ⟨b, c, rfl, rfl, hbc, hp, hq⟩
  · have hz := mapI_none
    have f2 := (ok.set0 hb (.map (some w.heap.size))).frozen (o + 1)
    have c2 := (ok.cells (ok.set0 hb (.map (some w.heap.size)))).2
    have hs1 : ((w.setCell ⟨B, o, none⟩ (.map (some w.heap.size))).setCell ⟨B, o + 1, none⟩ (.map (some (w.heap.size + 1)))).heap.size = w.heap.size := by rw [size_setCell, size_setCell]
    have hk2 := ok.set1 (ok.set0 hb (.map (some w.heap.size))) (.map (some (w.heap.size + 1)))
    have hN2 : Only (fun k => k = B ∨ NmB (.map none) (.map none) k) w ((w.setCell ⟨B, o, none⟩ (.map (some w.heap.size))).setCell ⟨B, o + 1, none⟩ (.map (some (w.heap.size + 1)))) := ((Only.refl _ w).set (.inl (.inl rfl)) o _).set (.inl (.inl rfl)) (o + 1) _
    have HK : Hid (Blk ((((w.setCell ⟨B, o, none⟩ (.map (some w.heap.size))).setCell ⟨B, o + 1, none⟩ (.map (some (w.heap.size + 1)))).alloc (.map #[] 0)).alloc (.map #[] 0)) B T (φ (.map (some w.heap.size)) (.map (some (w.heap.size + 1)))).toArray) := (hk2.alloc _).alloc _
    have HM1 : Hid (IM ((((w.setCell ⟨B, o, none⟩ (.map (some w.heap.size))).setCell ⟨B, o + 1, none⟩ (.map (some (w.heap.size + 1)))).alloc (.map #[] 0)).alloc (.map #[] 0)) w.heap.size 0 n0) := by
      have := IM.made ((w.setCell ⟨B, o, none⟩ (.map (some w.heap.size))).setCell ⟨B, o + 1, none⟩ (.map (some (w.heap.size + 1))))
      rw [hs1] at this
      exact this.kept (heap_alloc_old _ _ _ this.lt)
    have HM2 : Hid (IM ((((w.setCell ⟨B, o, none⟩ (.map (some w.heap.size))).setCell ⟨B, o + 1, none⟩ (.map (some (w.heap.size + 1)))).alloc (.map #[] 0)).alloc (.map #[] 0)) (w.heap.size + 1) 0 n0) := by
      have := IM.made (((w.setCell ⟨B, o, none⟩ (.map (some w.heap.size))).setCell ⟨B, o + 1, none⟩ (.map (some (w.heap.size + 1)))).alloc (.map #[] 0))
      rw [show (((w.setCell ⟨B, o, none⟩ (.map (some w.heap.size))).setCell ⟨B, o + 1, none⟩ (.map (some (w.heap.size + 1)))).alloc (.map #[] 0)).heap.size = w.heap.size + 1 by rw [← hs1]; simp] at this
      exact this
    have HN : Hid (Only (fun k => k = B ∨ NmB (.map none) (.map none) k) w ((((w.setCell ⟨B, o, none⟩ (.map (some w.heap.size))).setCell ⟨B, o + 1, none⟩ (.map (some (w.heap.size + 1)))).alloc (.map #[] 0)).alloc (.map #[] 0))) := (hN2.alloc _).alloc _
    have c4 := (ok.cells HK.out).1
    clear hb ok hk2 hN2
    go_enter Tryz.func46, Tryz.ntmps46
    have hne1 : w.heap.size + 1 ≠ w.heap.size := Nat.succ_ne_self _
    go_wp2_with (at_mapUpdate; (first
      | (refine wpList_num_store rfl _ _ _ rfl rfl HM1.out (by omega) rfl ha i rfl ?_; intro w3 hP hg; have hB3 := HK.out.kept hg (fun e => by have := Option.some.inj e; omega); have HM3 := mkH (HM2.out.gone hg hne1); have c5 := (HO.out.cells hB3).2)
      | (refine wpList_num_store rfl _ _ _ rfl rfl HM3.out (by omega) rfl hi a rfl ?_; intro w4 hP4 hg4)))
    try simp only [Act.put]
    have HK4 := mkH (hB3.kept hg4 (fun e => by have := Option.some.inj e; omega))
    have HP4 := mkH hP4
    have HPa := mkH (hP.gone hg4 hne1.symm)
    have HN4 := mkH ((HN.out.grown hg (fun k e => .inr (by have := Option.some.inj e; omega))).grown hg4 (fun k e => .inr (by have := Option.some.inj e; omega)))
    clear hP4 hg4 hP hg hB3 HM3 HM1 HM2 HN HK c0 c1 c2 c4 c5 f0 f1 f2 hs1
    go_wp2
    go_returns
    refine ⟨rfl, _, _, HK4.out, .inr ⟨_, _, rfl, rfl, hne1.symm, HPa.out, HP4.out⟩, fun k hk => .inr ?_, HN4.out⟩
    rcases NmB_some hk with h | h <;> omega
  · have hz := mapI_some
    have HP := mkH hp
    have HQ := mkH hq
    have HK := mkH hb
    have hbB := hB b (.inl rfl)
    have hcB := hB c (.inr rfl)
    clear hb ok hp hq hB
    go_enter Tryz.func46, Tryz.ntmps46
    go_wp2_with (at_mapUpdate; (first
      | (refine wpList_num_store rfl _ _ _ rfl rfl HP.out (by omega) rfl ha i rfl ?_; intro w3 hP hg; have hB3 := HK.out.kept hg (fun e => hbB (Option.some.inj e).symm); have HQ3 := mkH (HQ.out.gone hg (Ne.symm hbc)); have c5 := (HO.out.cells hB3).2)
      | (refine wpList_num_store rfl _ _ _ rfl rfl HQ3.out (by omega) rfl hi a rfl ?_; intro w4 hP4 hg4)))
    try simp only [Act.put]
    have HK4 := mkH (hB3.kept hg4 (fun e => hcB (Option.some.inj e).symm))
    have HP4 := mkH hP4
    have HPa := mkH (hP.gone hg4 hbc)
    have HN4 := mkH (((Only.refl (fun k => k = B ∨ NmB (.map (some b)) (.map (some c)) k) w).grown hg (fun k e => .inl (.inr (.inl (by rw [← e]))))).grown hg4 (fun k e => .inl (.inr (.inr (by rw [← e])))))
    clear hP4 hg4 hP hg hB3 HQ3 HP HQ HK c0 c1 c5 f0 f1
    go_wp2
    go_returns
    exact ⟨rfl, _, _, HK4.out, .inr ⟨_, _, rfl, rfl, hbc, HPa.out, HP4.out⟩, fun k hk => .inl hk, HN4.out⟩
theorem ntake_any (ok : Hole φ o (o + 1)) (hb : Blk w B T (φ x y).toArray) (hn : NmOk w x y p q n) (hB : ∀ k, NmB x y k → k ≠ B) {a : Int} (ha : B64 a) (hi : B64 (p a)) (h0 : p a ≠ 0) :
    Calls Tryz.prog 51 #[.pointer (some ⟨B, o, none⟩), .int .i64 a] w fun e w' => e = .returned (.tuple #[]) ∧ Blk w' B T (φ x y).toArray ∧ NmOk w' x y (updI p a 0) (updI q (p a) 0) n ∧ Only (fun k => k = B ∨ NmB x y k) w w' := by
  have HO := mkH ok
  obtain ⟨c0, c1⟩ := ok.cells hb
  have hBl := hb.lt
  rcases hn with ⟨rfl, rfl, rfl, rfl, rfl⟩ | ⟨b, c, rfl, rfl, hbc, hp, hq⟩
  · exact absurd rfl h0
  · have HP := mkH hp
    have HQ := mkH hq
    have HK := mkH hb
    have hbB := hB b (.inl rfl)
    have hcB := hB c (.inr rfl)
    have hl : ∀ g : Grow w, (Instr.lookup 95 (.map (some b)) (.int .i64 a) false).run Tryz.prog g.w = .ok (.int .i64 (p a)) g.w := fun g => (hp.kept (g.h.block b hp.lt)).look ha
    have HL := mkH hl
    have g0 := fun g => Grow.cell (X := w) hBl c0 g
    have g1 := fun g => Grow.cell (X := w) hBl c1 g
    generalize p a = z at *
    clear hb ok hp hq hB hl
    go_enter Tryz.func51, Tryz.ntmps51
    have gl := HL.out
    have hne := Grow.ne w
    go_wp2_with fail
    try simp only [Act.put]
    refine wp_region_tail 10 (by kernel_rfl) (by kernel_rfl) (by kernel_rfl) ?_
    simp only [stillAt, stillOp, List.set_cons_succ, List.set_cons_zero, List.getElem?_cons_succ, List.getElem?_cons_zero, Option.getD_some, List.drop_succ_cons, List.drop_zero]
    repeat (go_big_quiet_step (fail))
    refine wpQuiet_nil ?_
    rintro w3 ⟨⟨_, hb3⟩, rfl⟩
    have HP1 := mkH (HP.out.kept (hb3.block b HP.out.lt))
    have HQ1 := mkH (HQ.out.kept (hb3.block c HQ.out.lt))
    have HK1 := mkH (HK.out.below hb3)
    have HN1 : Hid (Only (fun k => k = B ∨ NmB (.map (some b)) (.map (some c)) k) w w3) := ⟨hb3.os, hb3.tape, hb3.output, hb3.size, fun k hk _ => hb3.block k hk⟩
    clear hb3 g0 g1 gl hne HL HP HQ HK c0 c1
    go_wp2_with (at_delete; (first
      | (refine wpList_num_drop rfl _ _ rfl rfl HQ1.out rfl hi ?_; intro w4 hP hg; have hK4 := HK1.out.kept hg (fun e => hcB (Option.some.inj e).symm); have c0 := (HO.out.cells hK4).1; have HP4 := mkH (HP1.out.gone hg hbc))
      | (refine wpList_num_drop rfl _ _ rfl rfl HP4.out rfl ha ?_; intro w5 hP5 hg5)))
    try simp only [Act.put]
    have HP5 := mkH hP5
    have HQ5 := mkH (hP.gone hg5 (Ne.symm hbc))
    have HK5 := mkH (hK4.kept hg5 (fun e => hbB (Option.some.inj e).symm))
    have HN5 := mkH ((HN1.out.grown hg (fun k e => .inl (.inr (.inr (by rw [← e]))))).grown hg5 (fun k e => .inl (.inr (.inl (by rw [← e])))))
    clear hP5 hg5 hP hg hK4 HP4 HQ1 HP1 HK1 HN1 c0
    go_wp2
    go_returns
    exact ⟨rfl, HK5.out, .inr ⟨_, _, rfl, rfl, hbc, HP5.out, HQ5.out⟩, HN5.out⟩
end
section
variable {w : World} {F : Nat → Prop} {B G : Nat} {f : Fo}
theorem fvput_any (h : Fd w F B G f) {a i : Int} (ha : B64 a) (hi : B64 i) (hle : f.nv ≤ 30000) : Calls Tryz.prog 46 #[.pointer (some ⟨B, 8, none⟩), .int .i64 a, .int .i64 i] w fun e w' => ∃ F', e = .returned (.tuple #[]) ∧ Fd w' F' B G (f.wv (updI f.vi a i) (updI f.vo i a) (f.nv + 1)) ∧ Step F F' w w' := by
  obtain ⟨x, y, u, v, h⟩ := h
  obtain ⟨φ, ok, hb, hn, hB, hup⟩ := h.vnames
  exact (nput_any ok hb hn hB hle ha hi).mono fun e w' ⟨x', y', h1, h2, h3, h4, h5⟩ => let ⟨F', a, b⟩ := hup _ _ _ _ _ _ h2 h3 h4 h5; ⟨F', h1, a, b⟩
theorem fvtake_any (h : Fd w F B G f) {a : Int} (ha : B64 a) (hi : B64 (f.vi a)) (h0 : f.vi a ≠ 0) : Calls Tryz.prog 51 #[.pointer (some ⟨B, 8, none⟩), .int .i64 a] w fun e w' => ∃ F', e = .returned (.tuple #[]) ∧ Fd w' F' B G (f.wv (updI f.vi a 0) (updI f.vo (f.vi a) 0) f.nv) ∧ Step F F' w w' := by
  obtain ⟨x, y, u, v, h⟩ := h
  obtain ⟨φ, ok, hb, hn, hB, hup⟩ := h.vnames
  exact (ntake_any ok hb hn hB ha hi h0).mono fun e w' ⟨h1, h2, h3, h5⟩ => let ⟨F', a, b⟩ := hup _ _ _ _ _ _ h2 h3 (fun k hk => .inl hk) h5; ⟨F', h1, a, b⟩
theorem feput_any (h : Fd w F B G f) {a i : Int} (ha : B64 a) (hi : B64 i) (hle : f.ne ≤ 30000) : Calls Tryz.prog 46 #[.pointer (some ⟨B, 10, none⟩), .int .i64 a, .int .i64 i] w fun e w' => ∃ F', e = .returned (.tuple #[]) ∧ Fd w' F' B G (f.we (updI f.ei a i) (updI f.eo i a) (f.ne + 1)) ∧ Step F F' w w' := by
  obtain ⟨x, y, u, v, h⟩ := h
  obtain ⟨φ, ok, hb, hn, hB, hup⟩ := h.enames
  exact (nput_any ok hb hn hB hle ha hi).mono fun e w' ⟨x', y', h1, h2, h3, h4, h5⟩ => let ⟨F', a, b⟩ := hup _ _ _ _ _ _ h2 h3 h4 h5; ⟨F', h1, a, b⟩
theorem fetake_any (h : Fd w F B G f) {a : Int} (ha : B64 a) (hi : B64 (f.ei a)) (h0 : f.ei a ≠ 0) : Calls Tryz.prog 51 #[.pointer (some ⟨B, 10, none⟩), .int .i64 a] w fun e w' => ∃ F', e = .returned (.tuple #[]) ∧ Fd w' F' B G (f.we (updI f.ei a 0) (updI f.eo (f.ei a) 0) f.ne) ∧ Step F F' w w' := by
  obtain ⟨x, y, u, v, h⟩ := h
  obtain ⟨φ, ok, hb, hn, hB, hup⟩ := h.enames
  exact (ntake_any ok hb hn hB ha hi h0).mono fun e w' ⟨h1, h2, h3, h5⟩ => let ⟨F', a, b⟩ := hup _ _ _ _ _ _ h2 h3 (fun k hk => .inl hk) h5; ⟨F', h1, a, b⟩
theorem fohas_any (h : Fd w F B G f) (v : Int) (hb : B64 v) : Calls Tryz.prog 34 #[.pointer (some ⟨B, 0, none⟩), .int .i64 v] w fun e w' => e = .returned (.bool (f.vi v != 0)) ∧ w' = w := by
  obtain ⟨x, y, u, v', h⟩ := h
  have c8 := h.cells.1
  have hl := (h.vlook hb).1
  generalize f.vi v = z at *
  clear h
  go_enter Tryz.func34, Tryz.ntmps34
  go_wp2
  go_ret
  exact ⟨rfl, rfl⟩
theorem fohasE_any (h : Fd w F B G f) (v : Int) (hb : B64 v) : Calls Tryz.prog 99 #[.pointer (some ⟨B, 0, none⟩), .int .i64 v] w fun e w' => e = .returned (.bool (f.ei v != 0)) ∧ w' = w := by
  obtain ⟨x, y, u, v', h⟩ := h
  have c8 := h.cells.2.2.1
  have hl := (h.elook hb).1
  generalize f.ei v = z at *
  clear h
  go_enter Tryz.func99, Tryz.ntmps99
  go_wp2
  go_ret
  exact ⟨rfl, rfl⟩
theorem foright_any (a b : Int) (w : World) : Calls Tryz.prog 45 #[.int .i64 a, .int .i64 b] w fun e w' => e = .returned (.bool (okSL a b)) ∧ w' = w := by
  have hR : ∀ (p : Bool), p = okSL a b → (.returned (.bool p) : Ending) = .returned (.bool (okSL a b)) := fun p hp => by rw [hp]
  have HR := mkH hR
  clear hR
  by_cases h1 : 0 ≤ a
  · by_cases h2 : a ≤ 1099511627776
    · by_cases h3 : 0 ≤ b
      · have hv : okSL a b = decide (b ≤ 1099511627776) := by unfold okSL; simp [h1, h2, h3]
        go_enter Tryz.func45, Tryz.ntmps45
        go_wp2
        go_ret
        refine ⟨ret_of ?_, rfl⟩
        first | rfl | (rw [hv]; rfl)
      · have hv : okSL a b = false := by unfold okSL; simp [h1, h2, h3]
        go_enter Tryz.func45, Tryz.ntmps45
        go_wp2
        go_ret
        exact ⟨ret_of (by first | rfl | (rw [hv]; rfl)), rfl⟩
    · have hv : okSL a b = false := by unfold okSL; simp [h1, h2]
      go_enter Tryz.func45, Tryz.ntmps45
      go_wp2
      go_ret
      exact ⟨ret_of (by first | rfl | (rw [hv]; rfl)), rfl⟩
  · have hv : okSL a b = false := by unfold okSL; simp [h1]
    go_enter Tryz.func45, Tryz.ntmps45
    go_wp2
    go_ret
    exact ⟨ret_of (by first | rfl | (rw [hv]; rfl)), rfl⟩
theorem fosize_any (h : Fd w F B G f) (v : Int) (hbv : B64 v) {k : Nat} (hw : f.Wf k) (hk : k ≤ 30000) : Calls Tryz.prog 36 #[.pointer (some ⟨B, 0, none⟩), .int .i64 v] w fun e w' => e = .returned (.int .i64 (f.total v).c) ∧ Below w.heap.size w w' := by
  unfold Fo.total
  obtain ⟨mx, my, mu, mv, h⟩ := h
  obtain ⟨Ft, hT, _⟩ := h.trees
  have hBl := hT.lt B hT.fb
  have glv : ∀ g : Grow w, (Instr.lookup 95 mx (.int .i64 v) false).run Tryz.prog g.w = .ok (.int .i64 (f.vi v)) g.w := fun g => ((h.below g.h).vlook hbv).1
  have g8 : ∀ g : Grow w, g.w.cell? ⟨B, 8, none⟩ = some mx := fun g => Grow.cell hBl h.cells.1 g
  have HC : Hid (∀ g : Grow w, Calls Tryz.prog 66 #[.pointer (some ⟨B, 0, none⟩), .int .i64 (f.vi v)] g.w fun e w' => e = .returned (.int .i64 (f.t.total (f.vi v)).c) ∧ Below g.w.heap.size g.w w') := fun g => fsize_any (hT.below g.h) _ hw.t.le hk
  generalize (f.t.total (f.vi v)).c = r at *
  generalize f.vi v = z at *
  clear h hT hw
  go_enter Tryz.func36, Tryz.ntmps36
  go_wp2_with fail
  have hne := Grow.ne w
  refine wp_region_grow (by kernel_rfl) (by kernel_rfl) ?_
  repeat (go_big_quiet_step ((go_at_call 66; exact grow_call (HC.out _))))
  refine wpQuiet_nil ?_
  rintro w7 ⟨⟨_, hb7⟩, rfl⟩
  have HB7 := mkH hb7
  clear hb7 g8 glv hne HC
  go_wp2
  go_ret
  exact ⟨rfl, HB7.out⟩
theorem fosum_any (h : Fd w F B G f) (v : Int) (hbv : B64 v) {k : Nat} (hw : f.Wf k) (hk : k ≤ 30000) : Calls Tryz.prog 37 #[.pointer (some ⟨B, 0, none⟩), .int .i64 v] w fun e w' => e = .returned (.int .i64 (f.total v).s) ∧ Below w.heap.size w w' := by
  unfold Fo.total
  obtain ⟨mx, my, mu, mv, h⟩ := h
  obtain ⟨Ft, hT, _⟩ := h.trees
  have hBl := hT.lt B hT.fb
  have glv : ∀ g : Grow w, (Instr.lookup 95 mx (.int .i64 v) false).run Tryz.prog g.w = .ok (.int .i64 (f.vi v)) g.w := fun g => ((h.below g.h).vlook hbv).1
  have g8 : ∀ g : Grow w, g.w.cell? ⟨B, 8, none⟩ = some mx := fun g => Grow.cell hBl h.cells.1 g
  have HC : Hid (∀ g : Grow w, Calls Tryz.prog 67 #[.pointer (some ⟨B, 0, none⟩), .int .i64 (f.vi v)] g.w fun e w' => e = .returned (.int .i64 (f.t.total (f.vi v)).s) ∧ Below g.w.heap.size g.w w') := fun g => fsum_any (hT.below g.h) _ hw.t.le hk
  generalize (f.t.total (f.vi v)).s = r at *
  generalize f.vi v = z at *
  clear h hT hw
  go_enter Tryz.func37, Tryz.ntmps37
  go_wp2_with fail
  have hne := Grow.ne w
  refine wp_region_grow (by kernel_rfl) (by kernel_rfl) ?_
  repeat (go_big_quiet_step ((go_at_call 67; exact grow_call (HC.out _))))
  refine wpQuiet_nil ?_
  rintro w7 ⟨⟨_, hb7⟩, rfl⟩
  have HB7 := mkH hb7
  clear hb7 g8 glv hne HC
  go_wp2
  go_ret
  exact ⟨rfl, HB7.out⟩
theorem fosame_any (h : Fd w F B G f) (a : Int) (b : Int) (hba : B64 a) (hbb : B64 b) {k : Nat} (hw : f.Wf k) (hk : k ≤ 30000) : Calls Tryz.prog 35 #[.pointer (some ⟨B, 0, none⟩), .int .i64 a, .int .i64 b] w fun e w' => e = .returned (.bool (f.same a b)) ∧ Below w.heap.size w w' := by
  unfold Fo.same
  obtain ⟨mx, my, mu, mv, h⟩ := h
  obtain ⟨Ft, hT, _⟩ := h.trees
  have hBl := hT.lt B hT.fb
  have gla : ∀ g : Grow w, (Instr.lookup 95 mx (.int .i64 a) false).run Tryz.prog g.w = .ok (.int .i64 (f.vi a)) g.w := fun g => ((h.below g.h).vlook hba).1
  have glb : ∀ g : Grow w, (Instr.lookup 95 mx (.int .i64 b) false).run Tryz.prog g.w = .ok (.int .i64 (f.vi b)) g.w := fun g => ((h.below g.h).vlook hbb).1
  have g8 : ∀ g : Grow w, g.w.cell? ⟨B, 8, none⟩ = some mx := fun g => Grow.cell hBl h.cells.1 g
  have HC : Hid (∀ g : Grow w, Calls Tryz.prog 65 #[.pointer (some ⟨B, 0, none⟩), .int .i64 (f.vi a), .int .i64 (f.vi b)] g.w fun e w' => e = .returned (.bool (f.t.same (f.vi a) (f.vi b))) ∧ Below g.w.heap.size g.w w') := fun g => fsame_any (hT.below g.h) _ _ hw.t.le hk
  generalize f.t.same (f.vi a) (f.vi b) = r at *
  generalize f.vi a = za at *
  generalize f.vi b = zb at *
  clear h hT hw
  go_enter Tryz.func35, Tryz.ntmps35
  go_wp2_with fail
  have hne := Grow.ne w
  refine wp_region_grow (by kernel_rfl) (by kernel_rfl) ?_
  repeat (go_big_quiet_step ((go_at_call 65; exact grow_call (HC.out _))))
  refine wpQuiet_nil ?_
  rintro w7 ⟨⟨_, hb7⟩, rfl⟩
  have HB7 := mkH hb7
  clear hb7 g8 gla glb hne HC
  go_wp2
  go_ret
  exact ⟨ret_of rfl, HB7.out⟩
theorem foleast_any (h : Fd w F B G f) (v : Int) (hbv : B64 v) {k : Nat} (hw : f.Wf k) (hk : k ≤ 30000) : Calls Tryz.prog 38 #[.pointer (some ⟨B, 0, none⟩), .int .i64 v] w fun e w' => e = .returned (.int .i64 (f.least v)) ∧ Below w.heap.size w w' := by
  have HH := mkH (fohas_any h v hbv)
  unfold Fo.least Fo.total
  by_cases hz : f.vi v = 0
  · rw [if_neg (by simp [hz])]
    rw [hz] at HH
    clear h hw hz
    go_enter Tryz.func38, Tryz.ntmps38
    go_wp2_with fail
    refine HH.out.mono ?_
    rintro e w1 ⟨rfl, rfl⟩
    go_wp2
    go_ret
    exact ⟨rfl, Below.refl _ _⟩
  rw [if_pos hz]
  have hz1 : (f.vi v != 0) = true := by simpa using hz
  obtain ⟨mx, my, mu, mv, h⟩ := h
  obtain ⟨Ft, hT, _⟩ := h.trees
  have hBl := hT.lt B hT.fb
  have GLV : Hid (∀ g : Grow w, (Instr.lookup 95 mx (.int .i64 v) false).run Tryz.prog g.w = .ok (.int .i64 (f.vi v)) g.w) := fun g => ((h.below g.h).vlook hbv).1
  have g8 : ∀ g : Grow w, g.w.cell? ⟨B, 8, none⟩ = some mx := fun g => Grow.cell hBl h.cells.1 g
  have HC : Hid (∀ g : Grow w, Calls Tryz.prog 68 #[.pointer (some ⟨B, 0, none⟩), .int .i64 (f.vi v)] g.w fun e w' => e = .returned (.int .i64 (f.t.total (f.vi v)).l) ∧ Below g.w.heap.size g.w w') := fun g => fleast_any (hT.below g.h) _ hw.t.le hk
  generalize (f.t.total (f.vi v)).l = r at *
  generalize f.vi v = z at *
  clear h hT hw
  go_enter Tryz.func38, Tryz.ntmps38
  go_wp2_with fail
  refine HH.out.mono ?_
  rintro e w1 ⟨rfl, rfl⟩
  rw [hz1]
  go_wp2_with fail
  have hne := Grow.ne w1
  have glv := GLV.out
  refine wp_region_grow (by kernel_rfl) (by kernel_rfl) ?_
  repeat (go_big_quiet_step ((go_at_call 68; exact grow_call (HC.out _))))
  refine wpQuiet_nil ?_
  rintro w7 ⟨⟨_, hb7⟩, rfl⟩
  have HB7 := mkH hb7
  clear hb7 g8 glv GLV hne HC HH
  go_wp2
  go_ret
  exact ⟨rfl, HB7.out⟩
theorem fofindV_any (h : Fd w F B G f) (v : Int) (b : Int) (hbv : B64 v) {k : Nat} (hw : f.Wf k) (hk : k ≤ 30000) : Calls Tryz.prog 56 #[.pointer (some ⟨B, 0, none⟩), .int .i64 v, .int .u8 b] w fun e w' => e = .returned (.tuple #[.int .i64 (f.vo (f.findV v b)), .bool (decide (f.findV v b ≠ 0))]) ∧ Below w.heap.size w w' := by
  obtain ⟨mx, my, mu, mv, h⟩ := h
  obtain ⟨Ft, hT, _⟩ := h.trees
  have hBl := hT.lt B hT.fb
  have glv : ∀ g : Grow w, (Instr.lookup 95 mx (.int .i64 v) false).run Tryz.prog g.w = .ok (.int .i64 (f.vi v)) g.w := fun g => ((h.below g.h).vlook hbv).1
  have g8 : ∀ g : Grow w, g.w.cell? ⟨B, 8, none⟩ = some mx := fun g => Grow.cell hBl h.cells.1 g
  have HC : Hid (∀ g : Grow w, Calls Tryz.prog 85 #[.pointer (some ⟨B, 0, none⟩), .int .i64 (f.vi v), .int .u8 b] g.w fun e w' => e = .returned (.tuple #[.int .i64 (f.findV v b), .bool (decide (f.findV v b ≠ 0))]) ∧ Below g.w.heap.size g.w w') := fun g => ffindV_any (hT.below g.h) _ b (vmk_bd b) (hw.findV hk v b) hw.t.le hk
  have GLU : Hid (∀ g : Grow w, (Instr.lookup 95 my (.int .i64 (f.findV v b)) false).run Tryz.prog g.w = .ok (.int .i64 (f.vo (f.findV v b))) g.w) := fun g => ((h.below g.h).vlook (by have := hw.findV hk v b; unfold B64; omega)).2
  have g9 : ∀ g : Grow w, g.w.cell? ⟨B, 9, none⟩ = some my := fun g => Grow.cell hBl h.cells.2.1 g
  generalize decide (f.findV v b ≠ 0) = rb at *
  generalize f.vo (f.findV v b) = r2 at *
  generalize f.findV v b = r at *
  generalize f.vi v = z at *
  clear h hT hw
  go_enter Tryz.func56, Tryz.ntmps56
  go_wp2_with fail
  have hne := Grow.ne w
  refine wp_region_grow (by kernel_rfl) (by kernel_rfl) ?_
  repeat (go_big_quiet_step ((go_at_call 85; exact grow_call (HC.out _))))
  refine wpQuiet_nil ?_
  rintro w7 ⟨⟨_, hb7⟩, rfl⟩
  have HB7 := mkH hb7
  have c9 := g9 ⟨w7, hb7⟩
  have hlu := GLU.out ⟨w7, hb7⟩
  simp only at c9 hlu
  clear hb7 g8 g9 glv GLU hne HC
  go_wp2
  go_ret2
  exact ⟨ret_of rfl, HB7.out⟩
theorem fofindE_any (h : Fd w F B G f) (v : Int) (b : Int) (hbv : B64 v) {k : Nat} (hw : f.Wf k) (hk : k ≤ 30000) : Calls Tryz.prog 83 #[.pointer (some ⟨B, 0, none⟩), .int .i64 v, .int .u8 b] w fun e w' => e = .returned (.tuple #[.int .i64 (f.eo (f.findE v b)), .bool (decide (f.findE v b ≠ 0))]) ∧ Below w.heap.size w w' := by
  obtain ⟨mx, my, mu, mv, h⟩ := h
  obtain ⟨Ft, hT, _⟩ := h.trees
  have hBl := hT.lt B hT.fb
  have glv : ∀ g : Grow w, (Instr.lookup 95 mx (.int .i64 v) false).run Tryz.prog g.w = .ok (.int .i64 (f.vi v)) g.w := fun g => ((h.below g.h).vlook hbv).1
  have g8 : ∀ g : Grow w, g.w.cell? ⟨B, 8, none⟩ = some mx := fun g => Grow.cell hBl h.cells.1 g
  have HC : Hid (∀ g : Grow w, Calls Tryz.prog 111 #[.pointer (some ⟨B, 0, none⟩), .int .i64 (f.vi v), .int .u8 b] g.w fun e w' => e = .returned (.tuple #[.int .i64 (f.findE v b), .bool (decide (f.findE v b ≠ 0))]) ∧ Below g.w.heap.size g.w w') := fun g => ffindE_any (hT.below g.h) _ b (emk_bd b) (hw.findE hk v b) hw.t.le hk
  have GLU : Hid (∀ g : Grow w, (Instr.lookup 95 mv (.int .i64 (f.findE v b)) false).run Tryz.prog g.w = .ok (.int .i64 (f.eo (f.findE v b))) g.w) := fun g => ((h.below g.h).elook (by have := hw.findE hk v b; unfold B64; omega)).2
  have g9 : ∀ g : Grow w, g.w.cell? ⟨B, 11, none⟩ = some mv := fun g => Grow.cell hBl h.cells.2.2.2 g
  generalize decide (f.findE v b ≠ 0) = rb at *
  generalize f.eo (f.findE v b) = r2 at *
  generalize f.findE v b = r at *
  generalize f.vi v = z at *
  clear h hT hw
  go_enter Tryz.func83, Tryz.ntmps83
  go_wp2_with fail
  have hne := Grow.ne w
  refine wp_region_grow (by kernel_rfl) (by kernel_rfl) ?_
  repeat (go_big_quiet_step ((go_at_call 111; exact grow_call (HC.out _))))
  refine wpQuiet_nil ?_
  rintro w7 ⟨⟨_, hb7⟩, rfl⟩
  have HB7 := mkH hb7
  have c9 := g9 ⟨w7, hb7⟩
  have hlu := GLU.out ⟨w7, hb7⟩
  simp only at c9 hlu
  clear hb7 g8 g9 glv GLU hne HC
  go_wp2
  go_ret2
  exact ⟨ret_of rfl, HB7.out⟩
theorem fomark_any (h : Fd w F B G f) (v b : Int) (hbv : B64 v) {k : Nat} (hw : f.Wf k) (hk : k ≤ 30000) : Calls Tryz.prog 64 #[.pointer (some ⟨B, 0, none⟩), .int .i64 v, .int .u8 b] w fun e w' => ∃ F', e = .returned (.int .i64 (f.markR v b)) ∧ Fd w' F' B G (f.mark v b) ∧ Step F F' w w' := by
  unfold Fo.markR Fo.mark
  obtain ⟨mx, my, mu, mv, h⟩ := h
  obtain ⟨Ft, hT, hup⟩ := h.trees
  have c8 := h.cells.1
  have hl := (h.drew.vlook hbv).1
  have NZ : Hid (∀ w' F' G' t', FdX mx my mu mv w' F' B G' (f.wt t') → w'.cell? ⟨B, 8, none⟩ = some mx ∧ (Instr.lookup 95 mx (.int .i64 v) false).run Tryz.prog w' = .ok (.int .i64 (f.vi v)) w') := fun w' F' G' t' h' => ⟨h'.cells.1, (h'.vlook hbv).1⟩
  have HC : Hid (Calls Tryz.prog 91 #[.pointer (some ⟨B, 0, none⟩), .int .i64 (f.vi v), .int .u8 b] w.drew fun e w' => ∃ F', e = .returned (.int .i64 (f.t.markR (f.vi v) b)) ∧ FdX mx my mu mv w' F' B G (f.wt (f.t.mark (f.vi v) b)) ∧ Step F F' w w') := (fmark_any (hT.kept (W' := w.drew) (fun _ _ => rfl) (Nat.le_refl _)) _ b hw.t.le hk).mono fun e w' ⟨Ft', h1, h2, h3⟩ => let ⟨F', a, b⟩ := hup _ _ _ _ h2 (Step.undrew h3); ⟨F', h1, a, b⟩
  generalize f.t.mark (f.vi v) b = t' at *
  generalize f.t.markR (f.vi v) b = r at *
  generalize f.vi v = z at *
  clear h hT hup hw
  go_enter Tryz.func64, Tryz.ntmps64
  go_wp2_with fail
  go_region_held3 (fun w' => w'.cell? ⟨B, 8, none⟩ = some mx ∧ (Instr.lookup 95 mx (.int .i64 v) false).run Tryz.prog w' = .ok (.int .i64 z) w')
    (first | go_keep | with_reducible exact NZ.out _ _ _ _ hT3)
    (first | (go_at_call 91; refine HC.out.mono ?_; rintro e w3 ⟨F3, rfl, hT3, hS3⟩) | fail)
  have H3 : Hid (Fd w3 F3 B G (f.wt t')) := ⟨_, _, _, _, hT3⟩
  have S3 := mkH hS3
  clear hT3 hS3 HC NZ c8 hl
  go_wp2
  go_ret
  exact ⟨_, rfl, H3.out, S3.out⟩
theorem foemark_any (h : Fd w F B G f) (v b : Int) (hbv : B64 v) {k : Nat} (hw : f.Wf k) (hk : k ≤ 30000) : Calls Tryz.prog 76 #[.pointer (some ⟨B, 0, none⟩), .int .i64 v, .int .u8 b] w fun e w' => ∃ F', e = .returned (.int .i64 (f.emarkR v b)) ∧ Fd w' F' B G (f.emark v b) ∧ Step F F' w w' := by
  unfold Fo.emarkR Fo.emark
  obtain ⟨mx, my, mu, mv, h⟩ := h
  obtain ⟨Ft, hT, hup⟩ := h.trees
  have c8 := h.cells.2.2.1
  have hl := (h.drew.elook hbv).1
  have NZ : Hid (∀ w' F' G' t', FdX mx my mu mv w' F' B G' (f.wt t') → w'.cell? ⟨B, 10, none⟩ = some mu ∧ (Instr.lookup 95 mu (.int .i64 v) false).run Tryz.prog w' = .ok (.int .i64 (f.ei v)) w') := fun w' F' G' t' h' => ⟨h'.cells.2.2.1, (h'.elook hbv).1⟩
  have HC : Hid (Calls Tryz.prog 101 #[.pointer (some ⟨B, 0, none⟩), .int .i64 (f.ei v), .int .u8 b] w.drew fun e w' => ∃ F', e = .returned (.int .i64 (f.t.emarkR (f.ei v) b)) ∧ FdX mx my mu mv w' F' B G (f.wt (f.t.emark (f.ei v) b)) ∧ Step F F' w w') := (femark_any (hT.kept (W' := w.drew) (fun _ _ => rfl) (Nat.le_refl _)) _ b hw.t.le hk).mono fun e w' ⟨Ft', h1, h2, h3⟩ => let ⟨F', a, b⟩ := hup _ _ _ _ h2 (Step.undrew h3); ⟨F', h1, a, b⟩
  generalize f.t.emark (f.ei v) b = t' at *
  generalize f.t.emarkR (f.ei v) b = r at *
  generalize f.ei v = z at *
  clear h hT hup hw
  go_enter Tryz.func76, Tryz.ntmps76
  go_wp2_with fail
  go_region_held3 (fun w' => w'.cell? ⟨B, 10, none⟩ = some mu ∧ (Instr.lookup 95 mu (.int .i64 v) false).run Tryz.prog w' = .ok (.int .i64 z) w')
    (first | go_keep | with_reducible exact NZ.out _ _ _ _ hT3)
    (first | (go_at_call 101; refine HC.out.mono ?_; rintro e w3 ⟨F3, rfl, hT3, hS3⟩) | fail)
  have H3 : Hid (Fd w3 F3 B G (f.wt t')) := ⟨_, _, _, _, hT3⟩
  have S3 := mkH hS3
  clear hT3 hS3 HC NZ c8 hl
  go_wp2
  go_ret
  exact ⟨_, rfl, H3.out, S3.out⟩
theorem fodrop_any (h : Fd w F B G f) (v : Int) (hbv : B64 v) {k : Nat} (hw : f.Wf k) (hk : k ≤ 30000) : Calls Tryz.prog 27 #[.pointer (some ⟨B, 0, none⟩), .int .i64 v] w fun e w' => ∃ F', e = .returned (.int .i64 (f.dropR v)) ∧ Fd w' F' B G (f.drop v) ∧ Step F F' w w' := by
  have HT : Hid (∀ w' F', Fd w' F' B G (f.wt (f.t.drop (f.vi v))) → f.dropR v = 0 → Calls Tryz.prog 51 #[.pointer (some ⟨B, 8, none⟩), .int .i64 v] w' fun e w2 => ∃ F2, e = .returned (.tuple #[]) ∧ Fd w2 F2 B G (f.drop v) ∧ Step F' F2 w' w2) := fun w' F' h' h0 => by
    have hz : f.vi v ≠ 0 := fun e => by unfold Fo.dropR To.dropR at h0; rw [e] at h0; simp [isA] at h0
    have := fvtake_any h' hbv (hw.v64 v) hz
    rw [show f.drop v = (f.wt (f.t.drop (f.vi v))).wv (updI f.vi v 0) (updI f.vo (f.vi v) 0) f.nv by unfold Fo.drop; rw [if_pos h0]]
    exact this
  have HE : Hid (f.dropR v ≠ 0 → f.wt (f.t.drop (f.vi v)) = f.drop v) := fun h0 => by
    have e1 : f.t.drop (f.vi v) = f.t := by
      unfold Fo.dropR To.dropR at h0
      unfold To.drop
      split
      · rename_i h1; rw [if_pos h1] at h0
        split
        · rename_i h2; rw [if_pos h2] at h0; exact absurd rfl h0
        · rfl
      · rfl
    unfold Fo.drop; rw [if_neg h0, e1]; rfl
  obtain ⟨mx, my, mu, mv, h⟩ := h
  obtain ⟨Ft, hT, hup⟩ := h.trees
  have c8 := h.cells.1
  have hl := (h.drew.vlook hbv).1
  have NZ : Hid (∀ w' F' G' t', FdX mx my mu mv w' F' B G' (f.wt t') → w'.cell? ⟨B, 8, none⟩ = some mx ∧ (Instr.lookup 95 mx (.int .i64 v) false).run Tryz.prog w' = .ok (.int .i64 (f.vi v)) w') := fun w' F' G' t' h' => ⟨h'.cells.1, (h'.vlook hbv).1⟩
  have HC : Hid (Calls Tryz.prog 50 #[.pointer (some ⟨B, 0, none⟩), .int .i64 (f.vi v)] w.drew fun e w' => ∃ F', e = .returned (.int .i64 (f.dropR v)) ∧ FdX mx my mu mv w' F' B G (f.wt (f.t.drop (f.vi v))) ∧ Step F F' w w') := (fdrop_any (hT.kept (W' := w.drew) (fun _ _ => rfl) (Nat.le_refl _)) _ hw.t.le hk).mono fun e w' ⟨Ft', h1, h2, h3⟩ => let ⟨F', a, b⟩ := hup _ _ _ _ h2 (Step.undrew h3); ⟨F', h1, a, b⟩
  generalize f.t.drop (f.vi v) = t' at *
  generalize f.drop v = f' at *
  generalize f.dropR v = r at *
  generalize f.vi v = z at *
  clear h hT hup hw
  by_cases hr : r = 0
  · subst hr
    go_enter Tryz.func27, Tryz.ntmps27
    go_wp2_with fail
    go_region_held3 (fun w' => w'.cell? ⟨B, 8, none⟩ = some mx ∧ (Instr.lookup 95 mx (.int .i64 v) false).run Tryz.prog w' = .ok (.int .i64 z) w')
      (first | go_keep | with_reducible exact NZ.out _ _ _ _ hT3)
      (first | (go_at_call 50; refine HC.out.mono ?_; rintro e w3 ⟨F3, rfl, hT3, hS3⟩) | fail)
    have H3 : Hid (Fd w3 F3 B G (f.wt t')) := ⟨_, _, _, _, hT3⟩
    have S3 := mkH hS3
    clear hT3 hS3 HC NZ c8 hl
    go_wp2_with fail
    refine (HT.out _ _ H3.out (by first | rfl | trivial)).mono ?_
    rintro e w4 ⟨F4, rfl, hT4, hS4⟩
    have H4 := mkH hT4
    have S4 := mkH (S3.out.trans hS4)
    clear hT4 hS4 H3 S3
    go_wp2
    go_ret
    exact ⟨_, rfl, H4.out, S4.out⟩
  · have hr1 : (r == 0) = false := by simpa using hr
    go_enter Tryz.func27, Tryz.ntmps27
    go_wp2_with fail
    go_region_held3 (fun w' => w'.cell? ⟨B, 8, none⟩ = some mx ∧ (Instr.lookup 95 mx (.int .i64 v) false).run Tryz.prog w' = .ok (.int .i64 z) w')
      (first | go_keep | with_reducible exact NZ.out _ _ _ _ hT3)
      (first | (go_at_call 50; refine HC.out.mono ?_; rintro e w3 ⟨F3, rfl, hT3, hS3⟩) | fail)
    have H3 : Hid (Fd w3 F3 B G f') := by rw [← HE.out hr]; exact ⟨_, _, _, _, hT3⟩
    have S3 := mkH hS3
    clear hT3 hS3 HC NZ c8 hl HE
    go_wp2
    go_ret
    exact ⟨_, rfl, H3.out, S3.out⟩
theorem focut_any (h : Fd w F B G f) (v : Int) (hbv : B64 v) {k : Nat} (hw : f.Wf k) (hk : k ≤ 30000) : Calls Tryz.prog 53 #[.pointer (some ⟨B, 0, none⟩), .int .i64 v] w fun e w' => ∃ F', e = .returned (.int .i64 (f.cutR v)) ∧ Fd w' F' B G (f.cut v) ∧ Step F F' w w' := by
  have HT : Hid (∀ w' F', Fd w' F' B G (f.wt (f.t.cut (f.ei v))) → f.cutR v = 0 → Calls Tryz.prog 51 #[.pointer (some ⟨B, 10, none⟩), .int .i64 v] w' fun e w2 => ∃ F2, e = .returned (.tuple #[]) ∧ Fd w2 F2 B G (f.cut v) ∧ Step F' F2 w' w2) := fun w' F' h' h0 => by
    have hz : f.ei v ≠ 0 := fun e => by unfold Fo.cutR To.cutR at h0; rw [e] at h0; simp [isA] at h0
    have := fetake_any h' hbv (hw.e64 v) hz
    rw [show f.cut v = (f.wt (f.t.cut (f.ei v))).we (updI f.ei v 0) (updI f.eo (f.ei v) 0) f.ne by unfold Fo.cut; rw [if_pos h0]]
    exact this
  have HE : Hid (f.cutR v ≠ 0 → f.wt (f.t.cut (f.ei v)) = f.cut v) := fun h0 => by
    have e1 : f.t.cut (f.ei v) = f.t := by
      unfold Fo.cutR To.cutR at h0
      unfold To.cut
      split
      · rename_i h1; rw [if_pos h1] at h0; exact absurd rfl h0
      · rfl
    unfold Fo.cut; rw [if_neg h0, e1]; rfl
  obtain ⟨mx, my, mu, mv, h⟩ := h
  obtain ⟨Ft, hT, hup⟩ := h.trees
  have c8 := h.cells.2.2.1
  have hl := (h.drew.elook hbv).1
  have NZ : Hid (∀ w' F' G' t', FdX mx my mu mv w' F' B G' (f.wt t') → w'.cell? ⟨B, 10, none⟩ = some mu ∧ (Instr.lookup 95 mu (.int .i64 v) false).run Tryz.prog w' = .ok (.int .i64 (f.ei v)) w') := fun w' F' G' t' h' => ⟨h'.cells.2.2.1, (h'.elook hbv).1⟩
  have HC : Hid (Calls Tryz.prog 82 #[.pointer (some ⟨B, 0, none⟩), .int .i64 (f.ei v)] w.drew fun e w' => ∃ F', e = .returned (.int .i64 (f.cutR v)) ∧ FdX mx my mu mv w' F' B G (f.wt (f.t.cut (f.ei v))) ∧ Step F F' w w') := (fcut_any (hT.kept (W' := w.drew) (fun _ _ => rfl) (Nat.le_refl _)) _ hw.t.le hk).mono fun e w' ⟨Ft', h1, h2, h3⟩ => let ⟨F', a, b⟩ := hup _ _ _ _ h2 (Step.undrew h3); ⟨F', h1, a, b⟩
  generalize f.t.cut (f.ei v) = t' at *
  generalize f.cut v = f' at *
  generalize f.cutR v = r at *
  generalize f.ei v = z at *
  clear h hT hup hw
  by_cases hr : r = 0
  · subst hr
    go_enter Tryz.func53, Tryz.ntmps53
    go_wp2_with fail
    go_region_held3 (fun w' => w'.cell? ⟨B, 10, none⟩ = some mu ∧ (Instr.lookup 95 mu (.int .i64 v) false).run Tryz.prog w' = .ok (.int .i64 z) w')
      (first | go_keep | with_reducible exact NZ.out _ _ _ _ hT3)
      (first | (go_at_call 82; refine HC.out.mono ?_; rintro e w3 ⟨F3, rfl, hT3, hS3⟩) | fail)
    have H3 : Hid (Fd w3 F3 B G (f.wt t')) := ⟨_, _, _, _, hT3⟩
    have S3 := mkH hS3
    clear hT3 hS3 HC NZ c8 hl
    go_wp2_with fail
    refine (HT.out _ _ H3.out (by first | rfl | trivial)).mono ?_
    rintro e w4 ⟨F4, rfl, hT4, hS4⟩
    have H4 := mkH hT4
    have S4 := mkH (S3.out.trans hS4)
    clear hT4 hS4 H3 S3
    go_wp2
    go_ret
    exact ⟨_, rfl, H4.out, S4.out⟩
  · have hr1 : (r == 0) = false := by simpa using hr
    go_enter Tryz.func53, Tryz.ntmps53
    go_wp2_with fail
    go_region_held3 (fun w' => w'.cell? ⟨B, 10, none⟩ = some mu ∧ (Instr.lookup 95 mu (.int .i64 v) false).run Tryz.prog w' = .ok (.int .i64 z) w')
      (first | go_keep | with_reducible exact NZ.out _ _ _ _ hT3)
      (first | (go_at_call 82; refine HC.out.mono ?_; rintro e w3 ⟨F3, rfl, hT3, hS3⟩) | fail)
    have H3 : Hid (Fd w3 F3 B G f') := by rw [← HE.out hr]; exact ⟨_, _, _, _, hT3⟩
    have S3 := mkH hS3
    clear hT3 hS3 HC NZ c8 hl HE
    go_wp2
    go_ret
    exact ⟨_, rfl, H3.out, S3.out⟩
theorem foadd_any (h : Fd w F B G f) (v a b : Int) (hbv : B64 v) {k : Nat} (hw : f.Wf k) (hk : k ≤ 30000) : Calls Tryz.prog 25 #[.pointer (some ⟨B, 0, none⟩), .int .i64 v, .int .i64 a, .int .i64 b] w fun e w' => ∃ F', e = .returned (.int .i64 (f.addR v a b)) ∧ Fd w' F' B G (f.add v a b) ∧ Step F F' w w' := by
  have HH := mkH (fohas_any h v hbv)
  have HR := mkH (foright_any a b)
  have H0 := mkH h
  by_cases hz : f.vi v = 0
  · rw [hz] at HH
    cases hok : okSL a b with
    | false =>
      have e1 : f.addR v a b = 1 := by unfold Fo.addR; rw [if_neg (by simp [hz]), if_neg (by simp [hok])]
      have e2 : f.add v a b = f := by unfold Fo.add; rw [if_neg (by rw [e1]; omega)]
      rw [e1, e2]
      rw [hok] at HR
      clear h hw hz e1 e2 hok
      go_enter Tryz.func25, Tryz.ntmps25
      go_wp2_with fail
      refine HH.out.mono ?_
      rintro e w1 ⟨rfl, rfl⟩
      go_wp2_with fail
      refine (HR.out _).mono ?_
      rintro e w2 ⟨rfl, rfl⟩
      go_wp2
      go_ret
      exact ⟨_, rfl, H0.out, Step.refl _ _⟩
    | true =>
      have e1 : f.addR v a b = 0 := by unfold Fo.addR; rw [if_neg (by simp [hz]), if_pos hok]
      have e2 : f.add v a b = (f.wt (f.t.addV a b)).wv (updI f.vi v f.newV) (updI f.vo f.newV v) (f.nv + 1) := by unfold Fo.add; rw [if_pos e1]
      rw [e1, e2]
      rw [hok] at HR
      have hnv := hw.newV hk
      have HP : Hid (∀ w' F', Fd w' F' B G (f.wt (f.t.addV a b)) → Calls Tryz.prog 46 #[.pointer (some ⟨B, 8, none⟩), .int .i64 v, .int .i64 f.newV] w' fun e w2 => ∃ F2, e = .returned (.tuple #[]) ∧ Fd w2 F2 B G ((f.wt (f.t.addV a b)).wv (updI f.vi v f.newV) (updI f.vo f.newV v) (f.nv + 1)) ∧ Step F' F2 w' w2) := fun w' F' h' => fvput_any h' hbv (by unfold B64; omega) (Nat.le_trans hw.nv hk)
      obtain ⟨mx, my, mu, mv, h⟩ := h
      obtain ⟨Ft, hT, hup⟩ := h.trees
      have HC : Hid (Calls Tryz.prog 47 #[.pointer (some ⟨B, 0, none⟩), .int .i64 a, .int .i64 b] w.drew fun e w' => ∃ F', e = .returned (.int .i64 f.newV) ∧ Fd w' F' B G (f.wt (f.t.addV a b)) ∧ Step F F' w w') := (fvertex_any (hT.kept (W' := w.drew) (fun _ _ => rfl) (Nat.le_refl _)) a b hw.t.le hk).mono fun e w' ⟨Ft', h1, h2, h3⟩ => let ⟨F', a, b⟩ := hup _ _ _ _ h2 (Step.undrew h3); ⟨F', h1, ⟨_, _, _, _, a⟩, b⟩
      generalize (f.wt (f.t.addV a b)).wv (updI f.vi v f.newV) (updI f.vo f.newV v) (f.nv + 1) = f2 at *
      generalize f.wt (f.t.addV a b) = f1 at *
      generalize f.newV = r at *
      clear h hT hup hw hz e1 e2 hok H0 hnv
      go_enter Tryz.func25, Tryz.ntmps25
      go_wp2_with fail
      refine HH.out.mono ?_
      rintro e w1 ⟨rfl, rfl⟩
      go_wp2_with fail
      refine (HR.out _).mono ?_
      rintro e w2 ⟨rfl, rfl⟩
      go_wp2_with fail
      go_region_held3 (fun w' => True) (first | go_keep | trivial)
        (first
          | (go_at_call 46; refine (HP.out _ _ H3.out).mono ?_; rintro e w4 ⟨F4, rfl, hT4, hS4⟩)
          | (go_at_call 47; refine HC.out.mono ?_; rintro e w3 ⟨F3, rfl, hT3, hS3⟩; have H3 := mkH hT3)
          | fail)
      have H4 := mkH hT4
      have S4 := mkH (hS3.trans hS4)
      clear hT3 hS3 hT4 hS4 HC HP H3 HH HR
      go_wp2
      go_ret
      exact ⟨_, rfl, H4.out, S4.out⟩
  · have hz1 : (f.vi v != 0) = true := by simpa using hz
    have e1 : f.addR v a b = 5 := by unfold Fo.addR; rw [if_pos hz]
    have e2 : f.add v a b = f := by unfold Fo.add; rw [if_neg (by rw [e1]; omega)]
    rw [e1, e2]
    rw [hz1] at HH
    clear h hw hz hz1 e1 e2
    go_enter Tryz.func25, Tryz.ntmps25
    go_wp2_with fail
    refine HH.out.mono ?_
    rintro e w1 ⟨rfl, rfl⟩
    go_wp2
    go_ret
    exact ⟨_, rfl, H0.out, Step.refl _ _⟩
end
section
variable {w : World} {F : Nat → Prop} {B G : Nat} {f : Fo}
theorem Fo.link_no {f : Fo} {n a b : Int} (h : f.linkR n a b ≠ 0) : f.link n a b = f := by unfold Fo.link; rw [if_neg h]
theorem folink_any (h : Fd w F B G f) (n a b : Int) (hbn : B64 n) (hba : B64 a) (hbb : B64 b) {k : Nat} (hw : f.Wf k) (hk : k ≤ 30000) : Calls Tryz.prog 75 #[.pointer (some ⟨B, 0, none⟩), .int .i64 n, .int .i64 a, .int .i64 b] w fun e w' => ∃ F' G', e = .returned (.int .i64 (f.linkR n a b)) ∧ Fd w' F' B G' (f.link n a b) ∧ Step F F' w w' := by
  have H0 := mkH h
  have HE := mkH (fohasE_any h n hbn)
  have HA := mkH (fohas_any h a hba)
  have HB := mkH (fohas_any h b hbb)
  have HS := mkH (fosame_any h a b hba hbb hw hk)
  by_cases hn : n < 1
  · have e1 : f.linkR n a b = 1 := by unfold Fo.linkR; rw [if_pos hn]
    rw [Fo.link_no (by rw [e1]; omega), e1]
    clear h hw e1
    go_enter Tryz.func75, Tryz.ntmps75
    go_wp2
    go_ret
    exact ⟨_, _, rfl, H0.out, Step.refl _ _⟩
  by_cases hE : f.ei n = 0
  case neg =>
    have e1 : f.linkR n a b = 5 := by unfold Fo.linkR; rw [if_neg hn, if_pos hE]
    rw [Fo.link_no (by rw [e1]; omega), e1]
    rw [show (f.ei n != 0) = true by simpa using hE] at HE
    clear h hw e1 hE
    go_enter Tryz.func75, Tryz.ntmps75
    go_wp2_with fail
    refine HE.out.mono ?_
    rintro e w1 ⟨rfl, rfl⟩
    go_wp2
    go_ret
    exact ⟨_, _, rfl, H0.out, Step.refl _ _⟩
  rw [hE] at HE
  by_cases hA : f.vi a = 0
  · have e1 : f.linkR n a b = 4 := by unfold Fo.linkR; rw [if_neg hn, if_neg (by simp [hE]), if_neg (by simp [hA])]
    rw [Fo.link_no (by rw [e1]; omega), e1]
    rw [hA] at HA
    clear h hw e1 hE hA
    go_enter Tryz.func75, Tryz.ntmps75
    go_wp2_with fail
    refine HE.out.mono ?_
    rintro e w1 ⟨rfl, rfl⟩
    go_wp2_with fail
    refine HA.out.mono ?_
    rintro e w2 ⟨rfl, rfl⟩
    go_wp2
    go_ret
    exact ⟨_, _, rfl, H0.out, Step.refl _ _⟩
  have hA1 : (f.vi a != 0) = true := by simpa using hA
  rw [hA1] at HA
  by_cases hB : f.vi b = 0
  · have e1 : f.linkR n a b = 4 := by unfold Fo.linkR; rw [if_neg hn, if_neg (by simp [hE]), if_neg (by simp [hB])]
    rw [Fo.link_no (by rw [e1]; omega), e1]
    rw [hB] at HB
    clear h hw e1 hE hB hA hA1
    go_enter Tryz.func75, Tryz.ntmps75
    go_wp2_with fail
    refine HE.out.mono ?_
    rintro e w1 ⟨rfl, rfl⟩
    go_wp2_with fail
    refine HA.out.mono ?_
    rintro e w2 ⟨rfl, rfl⟩
    go_wp2_with fail
    refine HB.out.mono ?_
    rintro e w3 ⟨rfl, rfl⟩
    go_wp2
    go_ret
    exact ⟨_, _, rfl, H0.out, Step.refl _ _⟩
  have hB1 : (f.vi b != 0) = true := by simpa using hB
  rw [hB1] at HB
  cases hs : f.same a b with
  | true =>
    have e1 : f.linkR n a b = 13 := by unfold Fo.linkR; rw [if_neg hn, if_neg (by simp [hE]), if_pos ⟨hA, hB⟩, if_pos (show f.t.same (f.vi a) (f.vi b) = true from hs)]
    rw [Fo.link_no (by rw [e1]; omega), e1]
    rw [hs] at HS
    clear h hw e1 hE hB hA hA1 hB1 hs
    go_enter Tryz.func75, Tryz.ntmps75
    go_wp2_with fail
    refine HE.out.mono ?_
    rintro e w1 ⟨rfl, rfl⟩
    go_wp2_with fail
    refine HA.out.mono ?_
    rintro e w2 ⟨rfl, rfl⟩
    go_wp2_with fail
    refine HB.out.mono ?_
    rintro e w3 ⟨rfl, rfl⟩
    go_wp2_with fail
    refine HS.out.mono ?_
    rintro e w4 ⟨rfl, hb4⟩
    have HB4 := mkH hb4
    clear hb4
    go_wp2
    go_ret
    exact ⟨_, _, rfl, H0.out.below HB4.out, Step.of_below HB4.out⟩
  | false =>
    have e1 : f.linkR n a b = 0 := by unfold Fo.linkR; rw [if_neg hn, if_neg (by simp [hE]), if_pos ⟨hA, hB⟩, if_neg (by rw [show f.t.same (f.vi a) (f.vi b) = false from hs]; simp)]
    have e2 : f.link n a b = (f.wt (f.t.linked (f.vi a) (f.vi b))).we (updI f.ei n (f.t.linkN (f.vi a) (f.vi b))) (updI f.eo (f.t.linkN (f.vi a) (f.vi b)) n) (f.ne + 1) := by unfold Fo.link; rw [if_pos e1]
    rw [e1, e2]
    rw [hs] at HS
    have hnN := hw.newE hk (f.vi a) (f.vi b)
    have HP : Hid (∀ w' F' G', Fd w' F' B G' (f.wt (f.t.linked (f.vi a) (f.vi b))) → Calls Tryz.prog 46 #[.pointer (some ⟨B, 10, none⟩), .int .i64 n, .int .i64 (f.t.linkN (f.vi a) (f.vi b))] w' fun e w2 => ∃ F2, e = .returned (.tuple #[]) ∧ Fd w2 F2 B G' ((f.wt (f.t.linked (f.vi a) (f.vi b))).we (updI f.ei n (f.t.linkN (f.vi a) (f.vi b))) (updI f.eo (f.t.linkN (f.vi a) (f.vi b)) n) (f.ne + 1)) ∧ Step F' F2 w' w2) := fun w' F' G' h' => feput_any h' hbn (by unfold B64; omega) (Nat.le_trans hw.ne hk)
    obtain ⟨mx, my, mu, mv, h⟩ := h
    have HX := mkH h
    have NZ : Hid (∀ w' F' G' f', FdX mx my mu mv w' F' B G' f' → f'.vi = f.vi → w'.cell? ⟨B, 8, none⟩ = some mx ∧ (Instr.lookup 95 mx (.int .i64 a) false).run Tryz.prog w' = .ok (.int .i64 (f.vi a)) w' ∧ (Instr.lookup 95 mx (.int .i64 b) false).run Tryz.prog w' = .ok (.int .i64 (f.vi b)) w') := fun w' F' G' f' h' e => ⟨h'.cells.1, by rw [← e]; exact (h'.vlook hba).1, by rw [← e]; exact (h'.vlook hbb).1⟩
    have HC : Hid (∀ wx, FdX mx my mu mv wx F B G f → Calls Tryz.prog 100 #[.pointer (some ⟨B, 0, none⟩), .int .i64 (f.vi a), .int .i64 (f.vi b)] wx.drew fun e w' => ∃ F' G', e = .returned (.tuple #[.int .i64 (f.t.linkN (f.vi a) (f.vi b)), .int .i64 (f.t.linkR (f.vi a) (f.vi b))]) ∧ FdX mx my mu mv w' F' B G' (f.wt (f.t.linked (f.vi a) (f.vi b))) ∧ Step F F' wx w') := fun wx hx => by
      obtain ⟨Ft, hT, hup⟩ := hx.trees
      exact (flink_any (hT.kept (W' := wx.drew) (fun _ _ => rfl) (Nat.le_refl _)) _ _ (hw.t.mv _) hw.t.le hk).mono fun e w' ⟨Ft', G2, h1, h2, h3⟩ => let ⟨F', a, b⟩ := hup _ _ _ _ h2 (Step.undrew h3); ⟨F', G2, h1, a, b⟩
    have HW : Hid ((f.wt (f.t.linked (f.vi a) (f.vi b))).vi = f.vi) := rfl
    generalize (f.wt (f.t.linked (f.vi a) (f.vi b))).we (updI f.ei n (f.t.linkN (f.vi a) (f.vi b))) (updI f.eo (f.t.linkN (f.vi a) (f.vi b)) n) (f.ne + 1) = f2 at *
    generalize f.wt (f.t.linked (f.vi a) (f.vi b)) = f1 at *
    generalize f.t.linkN (f.vi a) (f.vi b) = r at *
    generalize f.t.linkR (f.vi a) (f.vi b) = q at *
    obtain ⟨za, hza⟩ : ∃ za, za = f.vi a := ⟨_, rfl⟩
    obtain ⟨zb, hzb⟩ : ∃ zb, zb = f.vi b := ⟨_, rfl⟩
    rw [← hza, ← hzb] at HC NZ
    clear h hw hE hB hA hA1 hB1 hs e1 e2 hnN H0 hza hzb
    go_enter Tryz.func75, Tryz.ntmps75
    go_wp2_with fail
    refine HE.out.mono ?_
    rintro e w1 ⟨rfl, rfl⟩
    go_wp2_with fail
    refine HA.out.mono ?_
    rintro e w2 ⟨rfl, rfl⟩
    go_wp2_with fail
    refine HB.out.mono ?_
    rintro e w3 ⟨rfl, rfl⟩
    go_wp2_with fail
    refine HS.out.mono ?_
    rintro e w4 ⟨rfl, hb4⟩
    have HX4 := mkH (HX.out.below hb4)
    have S4 : Hid (Step F F w3 w4) := Step.of_below hb4
    have HC4 := mkH (HC.out _ HX4.out)
    obtain ⟨c8, hla, hlb⟩ := NZ.out _ _ _ _ HX4.out.drew rfl
    clear hb4 HX HC HE HA HB HS
    go_wp2_with fail
    go_region_held3 (fun w' => w'.cell? ⟨B, 8, none⟩ = some mx ∧ (Instr.lookup 95 mx (.int .i64 a) false).run Tryz.prog w' = .ok (.int .i64 za) w' ∧ (Instr.lookup 95 mx (.int .i64 b) false).run Tryz.prog w' = .ok (.int .i64 zb) w')
      (first | go_keep | with_reducible exact NZ.out _ _ _ _ hT3 HW.out)
      (first | (go_at_call 100; refine HC4.out.mono ?_; rintro e w5 ⟨F5, G5, rfl, hT3, hS3⟩) | fail)
    all_goals
      have H5 : Hid (Fd w5 F5 B G5 f1) := ⟨_, _, _, _, hT3⟩
      have S5 := mkH (S4.out.trans hS3)
      clear hT3 hS3 HC4 NZ c8 hla hlb HX4 S4
      go_wp2_with fail
      refine (HP.out _ _ _ H5.out).mono ?_
      rintro e w6 ⟨F6, rfl, hT6, hS6⟩
      have H6 := mkH hT6
      have S6 := mkH (S5.out.trans hS6)
      clear hT6 hS6 H5 S5 HP
      go_wp2
      go_ret
      exact ⟨_, _, rfl, H6.out, S6.out⟩
theorem fonew_any (d : Option Addr) (w : World) : Calls Tryz.prog 42 #[.pointer d] w fun e w' => ∃ B, e = .returned (.pointer (some ⟨B, 0, none⟩)) ∧ w.heap.size ≤ B ∧ Blk w' B 99 #[.slice none 0 0, .slice none 0 0, .pointer d, .slice none 0 0, .slice none 0 0, .slice none 0 0, .slice none 0 0, .map none, .map none, .map none, .map none, .map none] ∧ Below w.heap.size w w' := by
  go_enter Tryz.func42, Tryz.ntmps42
  go_wp2_with fail
  refine (fnew_any d w).mono ?_
  rintro e w1 ⟨B, rfl, hB, hK, hb⟩
  have k0 := hK.at (j := 0) rfl
  have k1 := hK.at (j := 1) rfl
  have k2 := hK.at (j := 2) rfl
  have k3 := hK.at (j := 3) rfl
  have k4 := hK.at (j := 4) rfl
  have k5 := hK.at (j := 5) rfl
  have k6 := hK.at (j := 6) rfl
  have k7 := hK.at (j := 7) rfl
  have HB1 := mkH (hb.alloc hb.size (.cells #[.slice none 0 0, .slice none 0 0, .pointer d, .slice none 0 0, .slice none 0 0, .slice none 0 0, .slice none 0 0, .map none, .map none, .map none, .map none, .map none] 99))
  have HK := mkH (Blk.new w1 99 #[.slice none 0 0, .slice none 0 0, .pointer d, .slice none 0 0, .slice none 0 0, .slice none 0 0, .slice none 0 0, .map none, .map none, .map none, .map none, .map none])
  have hs := hb.size
  clear hK hb
  go_wp2
  go_ret
  exact ⟨_, rfl, hs, HK.out, HB1.out⟩
end
end Go.Proofs.YtlmdjghcmofdlaaGreat
