/- Layer 8 (forest): the contracts of its functions. -/
import Derived.Test.YtcbgeahcnjamdabGreatForestOps
import Derived.Deep.RegionHeld3
namespace Go.Proofs.YtcbgeahcnjamdabGreat
open Go.RowKit
set_option linter.unusedVariables false

theorem NmB_some {b c k : Nat} (h : NmB (.map (some b)) (.map (some c)) k) : k = b ∨ k = c := h.imp (fun e => (by cases e; rfl)) (fun e => (by cases e; rfl))
theorem IM.gone {W W' : World} {b c n : Nat} {p : Int → Int} (h : IM W b n p) (hg : W.grownBy W' (some c)) (hne : b ≠ c) : IM W' b n p := h.kept (hg.block b h.lt (fun e => hne (Option.some.inj e)))
section
variable {w : World} {B o : Nat} {φ : Value → Value → List Value} {T : TypeId} {x y : Value} {p q : Int → Int} {n : Nat}
set_option maxRecDepth 100000 in
set_option maxHeartbeats 1600000 in
theorem nput_any (ok : Hole φ o (o + 1)) (hb : Blk w B T (φ x y).toArray) (hn : NmOk w x y p q n) (hB : ∀ k, NmB x y k → k ≠ B) (hle : n ≤ 30000) {a i : Int} (ha : B64 a) (hi : B64 i) :
    Calls Tryz.prog 47 #[.pointer (some ⟨B, o, none⟩), .int .i64 a, .int .i64 i] w fun e w' => ∃ x' y', e = .returned (.tuple #[]) ∧ Blk w' B T (φ x' y').toArray ∧ NmOk w' x' y' (updI p a i) (updI q i a) (n + 1) ∧ (∀ k, NmB x' y' k → NmB x y k ∨ w.heap.size ≤ k) ∧ Only (fun k => k = B ∨ NmB x y k) w w' := by
  have HO := hid_mk ok
  obtain ⟨c0, c1⟩ := ok.cells hb
  have f0 := hb.frozen o
  have f1 := hb.frozen (o + 1)
  have hBl := hb.lt
  have hmm := @run_makeMap Tryz.prog
  rcases hn with ⟨rfl, rfl, rfl, rfl, rfl⟩ | ⟨b, c, rfl, rfl, hbc, hp, hq⟩
  · have hz := mapI_none
    have f2 := (ok.set0 hb (.map (some w.heap.size))).frozen (o + 1)
    have c2 := (ok.cells (ok.set0 hb (.map (some w.heap.size)))).2
    have hs1 : ((w.setCell ⟨B, o, none⟩ (.map (some w.heap.size))).setCell ⟨B, o + 1, none⟩ (.map (some (w.heap.size + 1)))).heap.size = w.heap.size := by rw [size_setCell, size_setCell]
    have hk2 := ok.set1 (ok.set0 hb (.map (some w.heap.size))) (.map (some (w.heap.size + 1)))
    have hN2 : Only (fun k => k = B ∨ NmB (.map none) (.map none) k) w ((w.setCell ⟨B, o, none⟩ (.map (some w.heap.size))).setCell ⟨B, o + 1, none⟩ (.map (some (w.heap.size + 1)))) := ((Only.refl _ w).set (.inl (.inl rfl)) o _).set (.inl (.inl rfl)) (o + 1) _
    have HK : Hid (Blk ((((w.setCell ⟨B, o, none⟩ (.map (some w.heap.size))).setCell ⟨B, o + 1, none⟩ (.map (some (w.heap.size + 1)))).alloc (.map #[] 0)).alloc (.map #[] 0)) B T (φ (.map (some w.heap.size)) (.map (some (w.heap.size + 1)))).toArray) := (hk2.alloc _).alloc _
    have HM1 : Hid (IM ((((w.setCell ⟨B, o, none⟩ (.map (some w.heap.size))).setCell ⟨B, o + 1, none⟩ (.map (some (w.heap.size + 1)))).alloc (.map #[] 0)).alloc (.map #[] 0)) w.heap.size 0 n0) := by
      have := IM.made ((w.setCell ⟨B, o, none⟩ (.map (some w.heap.size))).setCell ⟨B, o + 1, none⟩ (.map (some (w.heap.size + 1))))
      rw [hs1] at this
      exact this.kept (heap_alloc_old _ _ _ this.lt)
    have HM2 : Hid (IM ((((w.setCell ⟨B, o, none⟩ (.map (some w.heap.size))).setCell ⟨B, o + 1, none⟩ (.map (some (w.heap.size + 1)))).alloc (.map #[] 0)).alloc (.map #[] 0)) (w.heap.size + 1) 0 n0) := by
      have := IM.made (((w.setCell ⟨B, o, none⟩ (.map (some w.heap.size))).setCell ⟨B, o + 1, none⟩ (.map (some (w.heap.size + 1)))).alloc (.map #[] 0))
      rw [show (((w.setCell ⟨B, o, none⟩ (.map (some w.heap.size))).setCell ⟨B, o + 1, none⟩ (.map (some (w.heap.size + 1)))).alloc (.map #[] 0)).heap.size = w.heap.size + 1 by rw [← hs1]; simp] at this
      exact this
    have HN : Hid (Only (fun k => k = B ∨ NmB (.map none) (.map none) k) w ((((w.setCell ⟨B, o, none⟩ (.map (some w.heap.size))).setCell ⟨B, o + 1, none⟩ (.map (some (w.heap.size + 1)))).alloc (.map #[] 0)).alloc (.map #[] 0))) := (hN2.alloc _).alloc _
    have c4 := (ok.cells HK.out).1
    clear hb ok hk2 hN2
    go_enter Tryz.func47, Tryz.ntmps47
    have hne1 : w.heap.size + 1 ≠ w.heap.size := Nat.succ_ne_self _
    go_wp2_with (at_mapUpdate; (first
      | (refine wpList_num_store rfl _ _ _ rfl rfl HM1.out (by omega) rfl ha i rfl ?_; intro w3 hP hg; have hB3 := HK.out.kept hg (fun e => by have := Option.some.inj e; omega); have HM3 := hid_mk (HM2.out.gone hg hne1); have c5 := (HO.out.cells hB3).2)
      | (refine wpList_num_store rfl _ _ _ rfl rfl HM3.out (by omega) rfl hi a rfl ?_; intro w4 hP4 hg4)))
    try simp only [Act.put]
    have HK4 := hid_mk (hB3.kept hg4 (fun e => by have := Option.some.inj e; omega))
    have HP4 := hid_mk hP4
    have HPa := hid_mk (hP.gone hg4 hne1.symm)
    have HN4 := hid_mk ((HN.out.grown hg (fun k e => .inr (by have := Option.some.inj e; omega))).grown hg4 (fun k e => .inr (by have := Option.some.inj e; omega)))
    clear hP4 hg4 hP hg hB3 HM3 HM1 HM2 HN HK c0 c1 c2 c4 c5 f0 f1 f2 hs1
    go_wp2
    go_returns
    refine ⟨rfl, _, _, HK4.out, .inr ⟨_, _, rfl, rfl, hne1.symm, HPa.out, HP4.out⟩, fun k hk => .inr ?_, HN4.out⟩
    rcases NmB_some hk with h | h <;> omega
  · have hz := mapI_some
    have HP := hid_mk hp
    have HQ := hid_mk hq
    have HK := hid_mk hb
    have hbB := hB b (.inl rfl)
    have hcB := hB c (.inr rfl)
    clear hb ok hp hq hB
    go_enter Tryz.func47, Tryz.ntmps47
    go_wp2_with (at_mapUpdate; (first
      | (refine wpList_num_store rfl _ _ _ rfl rfl HP.out (by omega) rfl ha i rfl ?_; intro w3 hP hg; have hB3 := HK.out.kept hg (fun e => hbB (Option.some.inj e).symm); have HQ3 := hid_mk (HQ.out.gone hg (Ne.symm hbc)); have c5 := (HO.out.cells hB3).2)
      | (refine wpList_num_store rfl _ _ _ rfl rfl HQ3.out (by omega) rfl hi a rfl ?_; intro w4 hP4 hg4)))
    try simp only [Act.put]
    have HK4 := hid_mk (hB3.kept hg4 (fun e => hcB (Option.some.inj e).symm))
    have HP4 := hid_mk hP4
    have HPa := hid_mk (hP.gone hg4 hbc)
    have HN4 := hid_mk (((Only.refl (fun k => k = B ∨ NmB (.map (some b)) (.map (some c)) k) w).grown hg (fun k e => .inl (.inr (.inl (by rw [← e]))))).grown hg4 (fun k e => .inl (.inr (.inr (by rw [← e])))))
    clear hP4 hg4 hP hg hB3 HQ3 HP HQ HK c0 c1 c5 f0 f1
    go_wp2
    go_returns
    exact ⟨rfl, _, _, HK4.out, .inr ⟨_, _, rfl, rfl, hbc, HPa.out, HP4.out⟩, fun k hk => .inl hk, HN4.out⟩
set_option maxHeartbeats 1600000 in
theorem ntake_any (ok : Hole φ o (o + 1)) (hb : Blk w B T (φ x y).toArray) (hn : NmOk w x y p q n) (hB : ∀ k, NmB x y k → k ≠ B) {a : Int} (ha : B64 a) (hi : B64 (p a)) (h0 : p a ≠ 0) :
    Calls Tryz.prog 50 #[.pointer (some ⟨B, o, none⟩), .int .i64 a] w fun e w' => e = .returned (.tuple #[]) ∧ Blk w' B T (φ x y).toArray ∧ NmOk w' x y (updI p a 0) (updI q (p a) 0) n ∧ Only (fun k => k = B ∨ NmB x y k) w w' := by
  have HO := hid_mk ok
  obtain ⟨c0, c1⟩ := ok.cells hb
  have hBl := hb.lt
  rcases hn with ⟨rfl, rfl, rfl, rfl, rfl⟩ | ⟨b, c, rfl, rfl, hbc, hp, hq⟩
  · exact absurd rfl h0
  · have HP := hid_mk hp
    have HQ := hid_mk hq
    have HK := hid_mk hb
    have hbB := hB b (.inl rfl)
    have hcB := hB c (.inr rfl)
    have hl : ∀ g : Grow w, (Instr.lookup 98 (.map (some b)) (.int .i64 a) false).run Tryz.prog g.w = .ok (.int .i64 (p a)) g.w := fun g => (hp.kept (g.h.block b hp.lt)).look ha
    have HL := hid_mk hl
    have g0 := fun g => Grow.cell (X := w) hBl c0 g
    have g1 := fun g => Grow.cell (X := w) hBl c1 g
    generalize p a = z at *
    clear hb ok hp hq hB hl
    go_enter Tryz.func50, Tryz.ntmps50
    have gl := HL.out
    have hne := Grow.ne w
    go_wp2_with fail
    try simp only [Act.put]
    refine wp_region_tail 10 (by kernel_rfl) (by kernel_rfl) (by kernel_rfl) ?_
    simp only [stillAt, stillOp, List.set_cons_succ, List.set_cons_zero, List.getElem?_cons_succ, List.getElem?_cons_zero, Option.getD_some, List.drop_succ_cons, List.drop_zero]
    repeat (go_big_quiet_step (fail))
    refine wpQuiet_nil ?_
    rintro w3 ⟨⟨_, hb3⟩, rfl⟩
    have HP1 := hid_mk (HP.out.kept (hb3.block b HP.out.lt))
    have HQ1 := hid_mk (HQ.out.kept (hb3.block c HQ.out.lt))
    have HK1 := hid_mk (HK.out.below hb3)
    have HN1 : Hid (Only (fun k => k = B ∨ NmB (.map (some b)) (.map (some c)) k) w w3) := ⟨hb3.os, hb3.tape, hb3.output, hb3.size, fun k hk _ => hb3.block k hk⟩
    clear hb3 g0 g1 gl hne HL HP HQ HK c0 c1
    go_wp2_with (at_delete; (first
      | (refine wpList_num_drop rfl _ _ rfl rfl HQ1.out rfl hi ?_; intro w4 hP hg; have hK4 := HK1.out.kept hg (fun e => hcB (Option.some.inj e).symm); have c0 := (HO.out.cells hK4).1; have HP4 := hid_mk (HP1.out.gone hg hbc))
      | (refine wpList_num_drop rfl _ _ rfl rfl HP4.out rfl ha ?_; intro w5 hP5 hg5)))
    try simp only [Act.put]
    have HP5 := hid_mk hP5
    have HQ5 := hid_mk (hP.gone hg5 (Ne.symm hbc))
    have HK5 := hid_mk (hK4.kept hg5 (fun e => hbB (Option.some.inj e).symm))
    have HN5 := hid_mk ((HN1.out.grown hg (fun k e => .inl (.inr (.inr (by rw [← e]))))).grown hg5 (fun k e => .inl (.inr (.inl (by rw [← e])))))
    clear hP5 hg5 hP hg hK4 HP4 HQ1 HP1 HK1 HN1 c0
    go_wp2
    go_returns
    exact ⟨rfl, HK5.out, .inr ⟨_, _, rfl, rfl, hbc, HP5.out, HQ5.out⟩, HN5.out⟩
end
end Go.Proofs.YtcbgeahcnjamdabGreat
