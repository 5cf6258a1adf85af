/- The document's machine of layer 5 (tidewalkref05): lists. -/
import Derived.Test.YtklkbjfdejpdpaaProg
import Derived.Test.YtklkbjfdejpdpaaArenaWorld
import Derived.Test.YtklkbjfdejpdpaaTail
import Derived.Deep.AppendLies
namespace Go.Proofs.Ytklkbjfdejpdpaa
open Go.RowKit
set_option linter.unusedVariables false

def strs (xs : List ByteArray) : List Value := xs.map Value.string
def bls (ts : List Bool) : List Value := ts.map Value.bool
def lints (fs : List Int) : List Value := fs.map (Value.int .i64)
structure Rf (W : World) (F : Nat → Prop) (R : Nat) (xs : List ByteArray) (ts : List Bool) (fs : List Int) : Prop where
  ex : ∃ vs, Rcd W F R 40 vs [Fld.row 9 1 xs.length (strs xs), .row 4 1 ts.length (bls ts), .row 3 1 fs.length (lints fs)]
  len : ts.length = xs.length
  fr : ∀ f ∈ fs, 1 ≤ f ∧ f ≤ xs.length
section
variable {W W' : World} {F F' F1 : Nat → Prop} {R : Nat} {xs : List ByteArray} {ts : List Bool} {fs : List Int}
theorem Rf.below (h : Rf W F R xs ts fs) (hb : Below W.heap.size W W') : Rf W' F R xs ts fs := by
  obtain ⟨vs, h1⟩ := h.ex
  exact ⟨⟨vs, h1.below hb⟩, h.len, h.fr⟩
theorem Rf.drewN (h : Rf W F R xs ts fs) (n : Nat) : Rf (W.drewN n) F R xs ts fs := by
  obtain ⟨vs, h1⟩ := h.ex
  exact ⟨⟨vs, h1.drewN n⟩, h.len, h.fr⟩
theorem Rf.step (h : Rf W F R xs ts fs) (hb : Step F' F1 W W') (hd : ∀ k, F k → ¬ F' k) : Rf W' F R xs ts fs := by
  obtain ⟨vs, h1⟩ := h.ex
  exact ⟨⟨vs, h1.step hb hd⟩, h.len, h.fr⟩
theorem Rf.lt (h : Rf W F R xs ts fs) : ∀ k, F k → k < W.heap.size := by
  obtain ⟨vs, h1⟩ := h.ex
  exact h1.lt
/-- The row of texts. -/
theorem Rf.texts (h : Rf W F R xs ts fs) : ∃ ao cap, W.cell? ⟨R, 0, none⟩ = some (.slice ao xs.length cap) := by
  obtain ⟨vs, h1⟩ := h.ex
  obtain ⟨v, hv, hr, _⟩ := h1.get 0 _ _ _ _ rfl
  obtain ⟨ao, cap, rfl⟩ := hr.form
  exact ⟨ao, cap, h1.cell hv⟩
theorem Rf.text (h : Rf W F R xs ts fs) {k : Nat} {x : ByteArray} (hk : xs[k]? = some x) : ∃ g cap, W.cell? ⟨R, 0, none⟩ = some (.slice (some ⟨g, 0, none⟩) xs.length cap) ∧ W.cell? ⟨g, k, none⟩ = some (.string x) ∧ W.frozen? ⟨g, k, none⟩ = false ∧ F g ∧
    ∀ y, Rf (W.setCell ⟨g, k, none⟩ (.string y)) F R (xs.set k y) ts fs ∧ Step F F W (W.setCell ⟨g, k, none⟩ (.string y)) := by
  obtain ⟨vs, h1⟩ := h.ex
  obtain ⟨v, hv, hr, hF⟩ := h1.get 0 _ _ _ _ rfl
  have hlt := (List.getElem?_eq_some_iff.1 hk).1
  obtain ⟨g, cap, rfl⟩ := hr.led (by omega)
  refine ⟨g, cap, h1.cell hv, hr.cell (by unfold strs; rw [List.getElem?_map, hk]; rfl), hr.frozen k, (hF g rfl).1, fun y => ?_⟩
  obtain ⟨h2, h3⟩ := h1.put rfl hv (i := k) (by omega) (.string y)
  refine ⟨⟨⟨vs, ?_⟩, by rw [List.length_set]; exact h.len, by rw [List.length_set]; exact h.fr⟩, h3⟩
  rw [List.length_set, show strs (xs.set k y) = (strs xs).set k (.string y) from by unfold strs; rw [List.map_set]]
  exact h2
theorem Rf.bool (h : Rf W F R xs ts fs) {k : Nat} {x : Bool} (hk : ts[k]? = some x) : ∃ g cap, W.cell? ⟨R, 1, none⟩ = some (.slice (some ⟨g, 0, none⟩) ts.length cap) ∧ W.cell? ⟨g, k, none⟩ = some (.bool x) ∧ W.frozen? ⟨g, k, none⟩ = false ∧ F g ∧
    ∀ y, Rf (W.setCell ⟨g, k, none⟩ (.bool y)) F R xs (ts.set k y) fs ∧ Step F F W (W.setCell ⟨g, k, none⟩ (.bool y)) := by
  obtain ⟨vs, h1⟩ := h.ex
  obtain ⟨v, hv, hr, hF⟩ := h1.get 1 _ _ _ _ rfl
  have hlt := (List.getElem?_eq_some_iff.1 hk).1
  obtain ⟨g, cap, rfl⟩ := hr.led (by omega)
  refine ⟨g, cap, h1.cell hv, hr.cell (by unfold bls; rw [List.getElem?_map, hk]; rfl), hr.frozen k, (hF g rfl).1, fun y => ?_⟩
  obtain ⟨h2, h3⟩ := h1.put rfl hv (i := k) (by omega) (.bool y)
  refine ⟨⟨⟨vs, ?_⟩, by rw [List.length_set]; exact h.len, h.fr⟩, h3⟩
  rw [List.length_set, show bls (ts.set k y) = (bls ts).set k (.bool y) from by unfold bls; rw [List.map_set]]
  exact h2
/-- The last free number. -/
theorem Rf.last {f : Int} (h : Rf W F R xs ts (fs ++ [f])) : ∃ g cap, W.cell? ⟨R, 2, none⟩ = some (.slice (some ⟨g, 0, none⟩) (fs.length + 1) cap) ∧ W.frozen? ⟨R, 2, none⟩ = false ∧ W.cell? ⟨g, fs.length, none⟩ = some (.int .i64 f) ∧ fs.length + 1 ≤ cap ∧ cap ≤ maxLen ∧
    Rf (W.setCell ⟨R, 2, none⟩ (.slice (some ⟨g, 0, none⟩) fs.length cap)) F R xs ts fs ∧ Step F F W (W.setCell ⟨R, 2, none⟩ (.slice (some ⟨g, 0, none⟩) fs.length cap)) := by
  obtain ⟨vs, h1⟩ := h.ex
  rw [List.length_append] at h1
  obtain ⟨v, hv, hr, hF⟩ := h1.get 2 _ _ _ _ rfl
  obtain ⟨g, cap, rfl⟩ := hr.led (by simp)
  have hcap : fs.length + 1 ≤ cap ∧ cap ≤ maxLen := by
    rcases hr.2 with ⟨e, _⟩ | ⟨g', cap', cur, e, _, e1, e2, _⟩
    · cases e
    · cases e; exact ⟨e1, e2⟩
  obtain ⟨h2, h3⟩ := h1.cut rfl hv (k := fs.length) (by simp)
  refine ⟨g, cap, h1.cell hv, h1.frozen 2, hr.cell (by unfold lints; rw [List.getElem?_map, List.getElem?_append_right (Nat.le_refl _), Nat.sub_self]; rfl), hcap.1, hcap.2, ⟨⟨vs.set 2 (.slice (some ⟨g, 0, none⟩) fs.length cap), ?_⟩, h.len, fun x hx => h.fr x (by simp [hx])⟩, h3⟩
  have e : (lints (fs ++ [f])).take (fs.length * 1) = lints fs := by unfold lints; rw [List.map_append, Nat.mul_one]; exact (by simp)
  rw [e] at h2
  exact h2
end
/-- Is the number i taken? -/
def isR (ts : List Bool) (i : Int) : Bool := decide (1 ≤ i) && ts.getD (i - 1).toNat false
theorem infoSt : (Try.prog.info? 9).map (fun i => (i.zero, i.size, i.bytes)) = some (some (.string ⟨#[]⟩), 1, 16) := by kernel_rfl
theorem infoBo : (Try.prog.info? 4).map (fun i => (i.zero, i.size, i.bytes)) = some (some (.bool false), 1, 1) := by kernel_rfl
theorem infoI : (Try.prog.info? 3).map (fun i => (i.zero, i.size, i.bytes)) = some (some (.int .i64 0), 1, 8) := by kernel_rfl

set_option maxHeartbeats 800000 in
theorem ris_any {w : World} {F : Nat → Prop} {R : Nat} {xs : List ByteArray} {ts : List Bool} {fs : List Int} (h : Rf w F R xs ts fs) (i : Int) (hi : -9223372036854775808 ≤ i ∧ i ≤ 9223372036854775807) (hL : xs.length ≤ 2147483647) :
    Calls Try.prog 21 #[.pointer (some ⟨R, 0, none⟩), .int .i64 i] w fun e w' => e = .returned (.bool (isR ts i)) ∧ w' = w := by
  have hlen := h.len
  obtain ⟨ao, c0, h0⟩ := h.texts
  by_cases hlo : 1 ≤ i
  · by_cases hhi : i ≤ xs.length
    · obtain ⟨k, rfl⟩ : ∃ k : Nat, i = (k : Int) + 1 := ⟨(i - 1).toNat, by omega⟩
      have hb : ts[k]? = some (isR ts ((k : Int) + 1)) := by
        unfold isR
        rw [show ((k : Int) + 1 - 1).toNat = k by omega, List.getD_eq_getElem?_getD, List.getElem?_eq_getElem (by omega)]
        simp; omega
      obtain ⟨g, c1, h1, h2, _⟩ := h.bool hb
      clear h hb
      generalize isR ts ((k : Int) + 1) = b at *
      rw [hlen] at h1
      generalize xs.length = n at *
      clear hlen
      go_enter Try.func21, Try.ntmps21
      go_wp2
      go_ret
      exact ⟨rfl, rfl⟩
    · have e : isR ts i = false := by unfold isR; rw [List.getD_eq_getElem?_getD, List.getElem?_eq_none (by omega)]; simp
      rw [e]
      clear h e
      generalize xs.length = n at *
      clear hlen
      go_enter Try.func21, Try.ntmps21
      go_wp2
      go_ret
      exact ⟨rfl, rfl⟩
  · have e : isR ts i = false := by unfold isR; simp [hlo]
    rw [e]
    clear h e
    go_enter Try.func21, Try.ntmps21
    go_wp2
    go_ret
    exact ⟨rfl, rfl⟩
theorem strs_snoc (xs : List ByteArray) (x : ByteArray) : strs (xs ++ [x]) = strs xs ++ [.string x] := by simp [strs]
theorem bls_snoc (xs : List Bool) (x : Bool) : bls (xs ++ [x]) = bls xs ++ [.bool x] := by simp [bls]
theorem lints_snoc (xs : List Int) (x : Int) : lints (xs ++ [x]) = lints xs ++ [.int .i64 x] := by simp [lints]

set_option maxHeartbeats 1600000 in
theorem rtake_new (x : ByteArray) {w : World} {F : Nat → Prop} {R : Nat} {xs : List ByteArray} {ts : List Bool} (h : Rf w F R xs ts []) (hL : xs.length < 2147483647) :
    Calls Try.prog 17 #[.pointer (some ⟨R, 0, none⟩), .string x] w fun e w' => ∃ F', e = .returned (.int .i64 ((xs.length : Int) + 1)) ∧ Rf w' F' R (xs ++ [x]) (ts ++ [true]) [] ∧ Step F F' w w' := by
  have hlen := h.len
  obtain ⟨vs, h1⟩ := h.ex
  obtain ⟨i0, hi, hz0, hz1, hz2⟩ := info_parts infoSt
  obtain ⟨j0, ji, jz0, jz1, jz2⟩ := info_parts infoBo
  obtain ⟨v0, hv0, hr0, hF0⟩ := h1.get 0 _ _ _ _ rfl
  obtain ⟨v2, hv2, hr2, _⟩ := h1.get 2 _ _ _ _ rfl
  obtain ⟨ao2, c2, rfl⟩ := hr2.form
  have e0 := h1.cell hv0
  have e2 := h1.cell hv2
  have z0 := h1.frozen 0
  have z1 := h1.frozen 1
  obtain ⟨n, hn⟩ : ∃ n, n = xs.length := ⟨_, rfl⟩
  have H0 : Hid (RowW (w.alloc (.cells #[.string x] 9)) 9 1 v0 n (strs xs)) := by rw [hn]; exact hr0.kept fun k hk => heap_alloc_old w _ k (hr0.lt hk)
  rw [hlen, ← hn] at h1
  have H1 : Hid (Rcd w F R 40 vs [Fld.row 9 1 n (strs xs), .row 4 1 n (bls ts), .row 3 1 ([] : List Int).length (lints [])]) := h1
  have HN : Hid (n = xs.length) := hn
  have HL : Hid (ts.length = xs.length) := hlen
  have HV : Hid (vs[0]? = some v0) := hv0
  rw [← hn] at hL ⊢
  clear h h1 hn hr0 hr2 hv0 hv2 hlen hF0
  go_enter Try.func17, Try.ntmps17
  go_wp2_with (at_builtin; refine wpList_append_row _ rfl _ _ 36 rfl 9 i0 (.string ⟨#[]⟩) 1 16 Try.underlying36 hi hz0 hz1 hz2 rfl _ _ _ rfl H0.out ⟨w.heap.size, 0, none⟩ 1 1 [.string x] rfl rfl (World.news_of_block (Blk.new w _ _)) (by simp [Value.oneCell']) (by omega) (by unfold maxLen; omega) (by omega) ?_)
  intro g cap wa hown hgrow hat hlt
  obtain ⟨hbA, hA, hSA⟩ := H1.out.regrow rfl HV.out ((Below.refl _ _).alloc (Nat.le_refl _) _) hgrow hown (hat.imp id (fun h => by omega))
  have a0 := (show wa.cell? ⟨R, 0, none⟩ = some v0 from hbA.at (by simpa using HV.out))
  have f0 := hbA.frozen 0
  obtain ⟨v1, hv1, hr1, _⟩ := hA.get 1 _ _ _ _ rfl
  have b1 := hA.cell hv1
  have y1 := hA.frozen 1
  have H2 : Hid (RowW ((wa.setCell ⟨R, 0, none⟩ (.slice (some ⟨g, 0, none⟩) (n + 1) cap)).alloc (.cells #[.bool true] 4)) 4 1 v1 n (bls ts)) := hr1.kept fun k hk => heap_alloc_old _ _ k (hr1.lt hk)
  have HX : Hid (Blk ((wa.setCell ⟨R, 0, none⟩ (.slice (some ⟨g, 0, none⟩) (n + 1) cap)).alloc (.cells #[.bool true] 4)) wa.heap.size 4 #[.bool true]) := by show Blk _ _ _ _; simpa using Blk.new (wa.setCell ⟨R, 0, none⟩ (.slice (some ⟨g, 0, none⟩) (n + 1) cap)) 4 #[.bool true]
  have HA : Hid (Rcd (wa.setCell ⟨R, 0, none⟩ (.slice (some ⟨g, 0, none⟩) (n + 1) cap)) (fun k => F k ∨ k = g) R 40 (vs.set 0 (.slice (some ⟨g, 0, none⟩) (n + 1) cap)) [Fld.row 9 1 (n + 1) (strs xs ++ [.string x]), .row 4 1 n (bls ts), .row 3 1 ([] : List Int).length (lints [])]) := hA
  have HSA : Hid (Step F (fun k => F k ∨ k = g) w (wa.setCell ⟨R, 0, none⟩ (.slice (some ⟨g, 0, none⟩) (n + 1) cap))) := hSA
  have HV1 : Hid ((vs.set 0 (.slice (some ⟨g, 0, none⟩) (n + 1) cap))[1]? = some v1) := hv1
  clear hbA hA hSA hv1 hr1 hown hgrow hat H0 H1 HV
  go_wp2_with (at_builtin; refine wpList_append_row _ rfl _ _ 37 rfl 4 j0 (.bool false) 1 1 Try.underlying37 ji jz0 jz1 jz2 rfl _ _ _ rfl H2.out ⟨wa.heap.size, 0, none⟩ 1 1 [.bool true] rfl rfl (World.news_of_block HX.out) (by simp [Value.oneCell']) (by omega) (by unfold maxLen; omega) (by omega) ?_)
  intro g2 cap2 wb hown hgrow hat hlt2
  obtain ⟨hbA, hA, hSA⟩ := HA.out.regrow rfl HV1.out ((Below.refl _ _).alloc (Nat.le_refl _) _) hgrow hown (hat.imp id (fun h => by simp; omega))
  have q1 := (show wb.cell? ⟨R, 1, none⟩ = some v1 from hbA.at (by simpa using HV1.out))
  have f1 := hbA.frozen 1
  obtain ⟨u0, hu0, hr0, _⟩ := hA.get 0 _ _ _ _ rfl
  obtain ⟨aw, cw, rfl⟩ := hr0.form
  have q0 := hA.cell hu0
  have HE : Hid (Rf (wb.setCell ⟨R, 1, none⟩ (.slice (some ⟨g2, 0, none⟩) (n + 1) cap2)) (fun k => (F k ∨ k = g) ∨ k = g2) R (xs ++ [x]) (ts ++ [true]) []) := by
    refine ⟨⟨(vs.set 0 (.slice (some ⟨g, 0, none⟩) (n + 1) cap)).set 1 (.slice (some ⟨g2, 0, none⟩) (n + 1) cap2), ?_⟩, by simp; exact HL.out, fun f hf => (by cases hf)⟩
    rw [strs_snoc, bls_snoc, List.length_append, List.length_append, HL.out, ← HN.out]
    exact hA
  have HS2 : Hid (Step F (fun k => (F k ∨ k = g) ∨ k = g2) w (wb.setCell ⟨R, 1, none⟩ (.slice (some ⟨g2, 0, none⟩) (n + 1) cap2))) := HSA.out.trans hSA
  clear hbA hA hSA hr0 hu0 hown hgrow hat HA HSA
  go_wp2
  go_ret
  exact ⟨_, ret_of (by go_num), HE.out, HS2.out⟩

set_option maxHeartbeats 1600000 in
theorem rtake_old (x : ByteArray) {w : World} {F : Nat → Prop} {R : Nat} {xs : List ByteArray} {ts : List Bool} {fs : List Int} {f : Int} (h : Rf w F R xs ts (fs ++ [f])) (hl : fs.length < 2147483647) (hL : xs.length ≤ 2147483647) :
    Calls Try.prog 17 #[.pointer (some ⟨R, 0, none⟩), .string x] w fun e w' => e = .returned (.int .i64 f) ∧ Rf w' F R (xs.set (f - 1).toNat x) (ts.set (f - 1).toNat true) fs ∧ Step F F w w' := by
  obtain ⟨hf1, hf2⟩ := h.fr f (by simp)
  obtain ⟨k, rfl⟩ : ∃ k : Nat, f = (k : Int) + 1 := ⟨(f - 1).toNat, by omega⟩
  rw [show ((k : Int) + 1 - 1).toNat = k by omega]
  obtain ⟨g, cap, c2, z2, c3, hc1, hc2, hR, hS⟩ := h.last
  have hB : R < w.heap.size := cell_lt c2
  have hgl : g < w.heap.size := cell_lt c3
  have HR : Hid (Rf w F R xs ts (fs ++ [(k : Int) + 1])) := h
  obtain ⟨n, hn⟩ : ∃ n, n = fs.length := ⟨_, rfl⟩
  have HN : Hid (n = fs.length) := hn
  rw [← hn] at c2 c3 hc1 hl
  have hlen := h.len
  have hkx : k < xs.length := by omega
  have HK : Hid (k < xs.length) := hkx
  have HL : Hid (ts.length = xs.length) := hlen
  have HXL : Hid (xs.length ≤ 2147483647) := hL
  have hk9 : k < 2147483647 := by omega
  clear h hR hS hn hf1 hf2 hlen hkx hL
  go_enter Try.func17, Try.ntmps17
  go_wp2
  go_quiet (fail)
  have g2 : ∀ q : Grow (w.drewN nq), q.w.cell? ⟨R, 2, none⟩ = some (.slice (some ⟨g, 0, none⟩) (n + 1) cap) := fun q => Grow.cell (X := w.drewN nq) hB c2 q
  have hne := Grow.ne (w.drewN nq)
  go_wp2
  refine wp_region_tail 14 (by kernel_rfl) (by kernel_rfl) (by kernel_rfl) ?_
  simp only [stillAt, stillOp, List.set_cons_succ, List.set_cons_zero, List.getElem?_cons_succ, List.getElem?_cons_zero, Option.getD_some, List.drop_succ_cons, List.drop_zero]
  repeat (go_big_quiet_step (fail))
  refine wpQuiet_nil ?_
  rintro w3 ⟨⟨_, hb3⟩, rfl⟩
  have h3 := (HR.out.drewN nq).below hb3
  have S3 : Step F F w w3 := ((Step.refl F w).drewN nq).trans (Step.of_below hb3)
  obtain ⟨g', cap', c2', z2', c3', _, _, hR, hS⟩ := h3.last
  rw [← HN.out] at c2' c3' hR hS
  have e1 : w3.cell? ⟨R, 2, none⟩ = some (.slice (some ⟨g, 0, none⟩) (n + 1) cap) := g2 ⟨w3, hb3⟩
  rw [e1] at c2'
  cases c2'
  have hR4 : Rf (w3.setCell ⟨R, 2, none⟩ (.slice (some ⟨g, 0, none⟩) n cap)) F R xs ts fs := hR
  have hS4 := S3.trans hS
  obtain ⟨xo, hxo⟩ : ∃ y, xs[k]? = some y := ⟨_, List.getElem?_eq_getElem HK.out⟩
  obtain ⟨to, hto⟩ : ∃ y, ts[k]? = some y := ⟨_, List.getElem?_eq_getElem (by rw [HL.out]; exact HK.out)⟩
  obtain ⟨gx, cx, x1, x2, x3, hgx, hX⟩ := hR4.text hxo
  obtain ⟨hR5, hS5⟩ := hX x
  obtain ⟨gt, ct, t1, t2, t3, hgt, hY⟩ := hR5.bool hto
  obtain ⟨hR6, hS6⟩ := hY true
  have H6 : Hid (Rf (((w3.setCell ⟨R, 2, none⟩ (.slice (some ⟨g, 0, none⟩) n cap)).setCell ⟨gx, k, none⟩ (.string x)).setCell ⟨gt, k, none⟩ (.bool true)) F R (xs.set k x) (ts.set k true) fs) := hR6
  have HS6 : Hid (Step F F w (((w3.setCell ⟨R, 2, none⟩ (.slice (some ⟨g, 0, none⟩) n cap)).setCell ⟨gx, k, none⟩ (.string x)).setCell ⟨gt, k, none⟩ (.bool true))) := (hS4.trans hS5).trans hS6
  rw [HL.out] at t1
  have hkn := HK.out
  have hLn := HXL.out
  generalize hxl : xs.length = nx at *
  clear hxo hto hX hY hR hS hR4 hS4 hR5 hS5 hR6 hS6 h3 S3 hb3 g2 hne HR HL HK HXL hxl c3'
  go_wp2
  go_ret
  exact ⟨rfl, H6.out, HS6.out⟩

theorem rdrop_no {w : World} {F : Nat → Prop} {R : Nat} {xs : List ByteArray} {ts : List Bool} {fs : List Int} (h : Rf w F R xs ts fs) (i : Int) (hi : -9223372036854775808 ≤ i ∧ i ≤ 9223372036854775807) (hT : isR ts i = false) (hL : xs.length ≤ 2147483647) :
    Calls Try.prog 18 #[.pointer (some ⟨R, 0, none⟩), .int .i64 i] w fun e w' => e = .returned (.bool false) ∧ w' = w := by
  have HV := ris_any h i hi hL
  rw [hT] at HV
  clear h hT
  go_enter Try.func18, Try.ntmps18
  go_wp2_with fail
  refine HV.mono ?_
  rintro e w0 ⟨rfl, rfl⟩
  clear HV
  go_wp2
  go_ret
  exact ⟨rfl, rfl⟩
theorem isR_iff {ts : List Bool} {i : Int} : isR ts i = true ↔ ∃ k : Nat, i = k + 1 ∧ ts[k]? = some true := by
  constructor
  · intro h
    unfold isR at h
    simp only [Bool.and_eq_true, decide_eq_true_eq] at h
    obtain ⟨h1, h2⟩ := h
    rw [List.getD_eq_getElem?_getD] at h2
    cases hq : ts[(i - 1).toNat]? with
    | none => rw [hq] at h2; cases h2
    | some b => rw [hq] at h2; simp at h2; subst h2; exact ⟨_, by omega, hq⟩
  · rintro ⟨k, rfl, h⟩
    unfold isR
    rw [show ((k : Int) + 1 - 1).toNat = k by omega, List.getD_eq_getElem?_getD, h]
    simp; omega

set_option maxHeartbeats 1600000 in
theorem rdrop_yes {w : World} {F : Nat → Prop} {R : Nat} {xs : List ByteArray} {ts : List Bool} {fs : List Int} (h : Rf w F R xs ts fs) (i : Int) (hT : isR ts i = true) (hL : xs.length ≤ 2147483647) (hl : fs.length ≤ 2147483647) :
    Calls Try.prog 18 #[.pointer (some ⟨R, 0, none⟩), .int .i64 i] w fun e w' => ∃ F', e = .returned (.bool true) ∧ Rf w' F' R xs (ts.set (i - 1).toNat false) (fs ++ [i]) ∧ Step F F' w w' := by
  obtain ⟨k, rfl, hk⟩ := isR_iff.1 hT
  rw [show ((k : Int) + 1 - 1).toNat = k by omega]
  have hkt := (List.getElem?_eq_some_iff.1 hk).1
  have hlen := h.len
  have HV := ris_any h ((k : Int) + 1) (by omega) hL
  rw [hT] at HV
  obtain ⟨i0, hi, hz0, hz1, hz2⟩ := info_parts infoI
  obtain ⟨g, cap, c1, c2, z2, hFg, hX⟩ := h.bool hk
  obtain ⟨hR, hS⟩ := hX false
  obtain ⟨vs, h1⟩ := hR.ex
  rw [List.length_set] at h1
  obtain ⟨v2, hv2, hr2, _⟩ := h1.get 2 _ _ _ _ rfl
  have e2 := h1.cell hv2
  have H0 : Hid (RowW ((w.setCell ⟨g, k, none⟩ (.bool false)).alloc (.cells #[.int .i64 ((k : Int) + 1)] 3)) 3 1 v2 fs.length (lints fs)) := hr2.kept fun q hq => heap_alloc_old _ _ q (hr2.lt hq)
  have HX : Hid (Blk ((w.setCell ⟨g, k, none⟩ (.bool false)).alloc (.cells #[.int .i64 ((k : Int) + 1)] 3)) w.heap.size 3 #[.int .i64 ((k : Int) + 1)]) := by show Blk _ _ _ _; simpa using Blk.new (w.setCell ⟨g, k, none⟩ (.bool false)) 3 #[.int .i64 ((k : Int) + 1)]
  have H1 : Hid (Rcd (w.setCell ⟨g, k, none⟩ (.bool false)) F R 40 vs [Fld.row 9 1 xs.length (strs xs), .row 4 1 ts.length (bls (ts.set k false)), .row 3 1 fs.length (lints fs)]) := h1
  have HV2 : Hid (vs[2]? = some v2) := hv2
  have HS : Hid (Step F F w (w.setCell ⟨g, k, none⟩ (.bool false))) := hS
  obtain ⟨n, hn⟩ : ∃ n, n = fs.length := ⟨_, rfl⟩
  have HN : Hid (n = fs.length) := hn
  have HFr : Hid (∀ f ∈ fs, 1 ≤ f ∧ f ≤ xs.length) := h.fr
  have HL : Hid (ts.length = xs.length) := hlen
  have Hkt : Hid (k < ts.length) := hkt
  rw [← hn] at hl H0
  generalize hnt : ts.length = nt at c1 hkt
  have hnt2 : nt ≤ 2147483647 := by omega
  clear h hT hk hlen hX hR hS h1 hr2 hv2 hn hL hnt
  go_enter Try.func18, Try.ntmps18
  go_wp2_with fail
  refine HV.mono ?_
  rintro e w0 ⟨rfl, rfl⟩
  clear HV
  go_wp2_with (at_builtin; refine wpList_append_row _ rfl _ _ 38 rfl 3 i0 (.int .i64 0) 1 8 Try.underlying38 hi hz0 hz1 hz2 rfl _ _ _ rfl H0.out ⟨w0.heap.size, 0, none⟩ 1 1 [.int .i64 ((k : Int) + 1)] rfl rfl (World.news_of_block HX.out) (by simp [Value.oneCell']) (by omega) (by unfold maxLen; omega) (by omega) ?_)
  intro g2 cap2 wa hown hgrow hat hlt
  rw [HN.out] at hown
  obtain ⟨hbA, hA, hSA⟩ := H1.out.regrow rfl HV2.out ((Below.refl _ _).alloc (Nat.le_refl _) _) hgrow hown (hat.imp id (fun h => by simp; omega))
  have a0 := (show wa.cell? ⟨R, 2, none⟩ = some v2 from hbA.at (by simpa using HV2.out))
  have f0 := hbA.frozen 2
  rw [← HN.out] at hA hSA
  have HE : Hid (Rf (wa.setCell ⟨R, 2, none⟩ (.slice (some ⟨g2, 0, none⟩) (n + 1) cap2)) (fun k => F k ∨ k = g2) R xs (ts.set k false) (fs ++ [(k : Int) + 1])) := by
    refine ⟨⟨vs.set 2 (.slice (some ⟨g2, 0, none⟩) (n + 1) cap2), ?_⟩, by rw [List.length_set]; exact HL.out, fun f hf => ?_⟩
    · rw [lints_snoc, List.length_append, List.length_set, ← HN.out]
      exact hA
    · rcases List.mem_append.1 hf with h | h
      · exact HFr.out f h
      · simp at h
        have h1 := Hkt.out
        have h2 := HL.out
        omega
  have HS2 : Hid (Step F (fun k => F k ∨ k = g2) w0 (wa.setCell ⟨R, 2, none⟩ (.slice (some ⟨g2, 0, none⟩) (n + 1) cap2))) := HS.out.trans hSA
  clear hbA hA hSA hown hgrow hat H0 H1 HS
  go_wp2
  go_ret
  exact ⟨_, rfl, HE.out, HS2.out⟩
end Go.Proofs.Ytklkbjfdejpdpaa
