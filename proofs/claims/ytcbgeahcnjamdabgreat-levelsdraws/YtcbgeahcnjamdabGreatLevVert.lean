/- Layer 10: Vertex, Drop; Insert where it is refused. -/
import Derived.Test.YtcbgeahcnjamdabGreatLevDel
namespace Go.Proofs.YtcbgeahcnjamdabGreat
open Go.RowKit
set_option linter.unusedVariables false
def okR (n : Int) : Bool := decide (0 ≤ n) && decide (n ≤ 1099511627776)
theorem okR_SL (s l : Int) : okSL s l = (okR s && okR l) := by
  unfold okSL okR
  rw [← Bool.decide_and, ← Bool.decide_and, ← Bool.decide_and]
  exact decide_eq_decide.2 (by omega)
set_option maxHeartbeats 400000 in
theorem right_any (n : Int) (w : World) : Calls Tryz.prog 25 #[.int .i64 n] w fun e w' => e = .returned (.bool (okR n)) ∧ w' = w := by
  by_cases c1 : 0 ≤ n
  · go_enter Tryz.func25, Tryz.ntmps25
    go_wp2
    go_ret
    exact ⟨ret_of (congrArg Value.bool (by simp [okR, c1])), rfl⟩
  · have hd : decide (0 ≤ n) = false := by simpa using c1
    go_enter Tryz.func25, Tryz.ntmps25
    go_wp2
    go_ret
    exact ⟨ret_of (congrArg Value.bool (show _ = okR n from by unfold okR; rw [hd]; rfl)), rfl⟩
set_option maxHeartbeats 400000 in
theorem vertex_nil (s l : Int) (w : World) : Calls Tryz.prog 8 #[.pointer none, .int .i64 s, .int .i64 l] w fun r w' => r = .returned (.tuple #[.int .i64 0, .int .i64 2]) ∧ w' = w := by
  go_enter Tryz.func8, Tryz.ntmps8
  go_wp2
  go_ret2
  exact ⟨rfl, rfl⟩
set_option maxHeartbeats 400000 in
theorem drop_nil (v : Int) (w : World) : Calls Tryz.prog 9 #[.pointer none, .int .i64 v] w fun r w' => r = .returned (.int .i64 2) ∧ w' = w := by
  go_enter Tryz.func9, Tryz.ntmps9
  go_wp2
  go_ret
  exact ⟨rfl, rfl⟩
set_option maxHeartbeats 400000 in
theorem insert_nil (a b : Int) (w : World) : Calls Tryz.prog 10 #[.pointer none, .int .i64 a, .int .i64 b] w fun r w' => r = .returned (.tuple #[.int .i64 0, .int .i64 2]) ∧ w' = w := by
  go_enter Tryz.func10, Tryz.ntmps10
  go_wp2
  go_ret2
  exact ⟨rfl, rfl⟩
section
variable {p : Gp} {w : World} {F : Nat → Prop} {B : Nat} {g : Gs} {K : Nat}
set_option maxRecDepth 100000 in
set_option maxHeartbeats 1600000 in
theorem vertex_any (h : Gm p w F B g K) (hK : K ≤ 30000) (hm : 1 ≤ g.m) (s l : Int) (hl : g.vl ≤ 100000) (hx : g.vb.length ≤ 100000) (hn : g.n ≤ 4194304 ∧ 1 ≤ g.n) :
    Calls Tryz.prog 8 #[.pointer (some ⟨B, 0, none⟩), .int .i64 s, .int .i64 l] w fun e w' =>
      (g.n ≤ g.vl - g.vb.length ∧ e = .returned (.tuple #[.int .i64 0, .int .i64 6]) ∧ Below w.heap.size w w') ∨
      (g.vl - g.vb.length < g.n ∧ okSL s l = false ∧ e = .returned (.tuple #[.int .i64 0, .int .i64 1]) ∧ Below w.heap.size w w') ∨
      (g.vl - g.vb.length < g.n ∧ okSL s l = true ∧ ∃ r, e = .returned (.tuple #[.int .i64 r, .int .i64 0]) ∧ Least (Tk g.vl g.vb) r ∧ ∃ F' vl' vb', Gm p w' F' B (vertG g vl' vb' r s l) (K + 1) ∧ Step F F' w w' ∧ (∀ t, Tk vl' vb' t ↔ Tk g.vl g.vb t ∨ t = r) ∧ g.vl ≤ vl' ∧ vl' ≤ g.vl + 1 ∧ vl' - vb'.length = g.vl - g.vb.length + 1 ∧ vb'.length ≤ g.vb.length) := by
  obtain ⟨vv, ev, hc⟩ := h.cells
  have c0 := hc.at (j := 0) rfl
  have c1 := hc.at (j := 1) rfl
  simp only [List.getElem_toArray, List.getElem_cons_zero, List.getElem_cons_succ] at c0 c1
  have hBl := hc.lt
  obtain ⟨c, vv', ev', Ff, Fb, hX⟩ := h
  have HN := hX.vn
  have h : Gm p w F B g K := ⟨c, vv', ev', Ff, Fb, hX⟩
  obtain ⟨q, cap, eq1, cq, hql, hcap1, hcap2⟩ := h.ptr (i := 0) (by omega)
  have hgm : (g.m : Int) ≤ 9223372036854775807 := by unfold maxLen at hcap2; omega
  have gn := Grow.ne w
  have g0 : ∀ g' : Grow w, g'.w.cell? ⟨B, 0, none⟩ = some (.int .i64 g.n) := fun g' => Grow.cell hBl c0 g'
  have hv0 := HN.p.l0
  have CM : Hid (∀ g' : Grow w, Calls Tryz.prog 24 #[.pointer (some ⟨B, 4, none⟩)] g'.w fun e w' => e = .returned (.int .i64 (g.vl - g.vb.length)) ∧ Below g'.w.heap.size g'.w w') := fun g' => mmany_any (HN.kept (g'.h.block B hBl) (fun k hk => g'.h.block k (h.lt k (hX.c3 k hk).1))) (by omega) hx
  have HG := hid_mk h
  have HT : Hid (∀ W, Gm p W F B g K → Calls Tryz.prog 26 #[.pointer (some ⟨B, 4, none⟩)] W fun e w' => ∃ r, e = .returned (.int .i64 r) ∧ Least (Tk g.vl g.vb) r ∧ ∃ F' vl' vb', Gm p w' F' B (g.setV vl' vb') K ∧ Step F F' W w' ∧ (∀ t, Tk vl' vb' t ↔ Tk g.vl g.vb t ∨ t = r) ∧ g.vl ≤ vl' ∧ vl' ≤ g.vl + 1 ∧ vl' - vb'.length = g.vl - g.vb.length + 1 ∧ vb'.length ≤ g.vb.length) := fun W k => vtake_any k (by omega) hx
  have HLb : Hid (∀ r, Least (Tk g.vl g.vb) r → B64 r) := fun r hr => by
    unfold B64
    have h1 := hr.1
    have h2 : ¬ g.vl + 1 < r := fun k => (hr.2.2 (g.vl + 1) (by omega) k).2.1 |> fun z => by omega
    omega
  have HA : Hid (∀ W F1 vl' vb' r, B64 r → okSL s l = true → Gm p W F1 B (g.setV vl' vb') K → Calls Tryz.prog 27 #[.pointer (some ⟨p.Bf 0, 0, none⟩), .int .i64 r, .int .i64 s, .int .i64 l] W fun e w' => IsI e ∧ ∃ F', Gm p w' F' B (vertG g vl' vb' r s l) (K + 1) ∧ Step F1 F' W w') := fun W F1 vl' vb' r hb ho k => gadd_any k hK (i := 0) (by show 0 < g.m; omega) r s l hb ho
  clear h hX hc HN cq hql
  generalize hd : g.vl - g.vb.length = d at *
  go_enter Tryz.func8, Tryz.ntmps8
  go_wp2_with fail
  refine wp_region_grow (by kernel_rfl) (by kernel_rfl) ?_
  repeat (go_big_quiet_step ((go_at_call 24; exact grow_call (CM.out _))))
  refine wpQuiet_nil ?_
  rintro w1 ⟨⟨_, hb1⟩, rfl⟩
  have HB1 := hid_mk hb1
  have HG1 := hid_mk (HG.out.below hb1)
  clear hb1 CM gn g0 HG
  by_cases hfull : g.n ≤ d
  · go_wp2
    go_ret2
    exact .inl ⟨hfull, rfl, HB1.out⟩
  · have hlt : d < g.n := by omega
    clear hfull
    go_wp2_with fail
    refine (right_any s _).mono ?_
    rintro e w2 ⟨rfl, rfl⟩
    have hsl := okR_SL s l
    cases hs : okR s with
    | false =>
      rw [hs] at hsl
      simp only [Bool.false_and] at hsl
      have HSL := hid_mk hsl
      clear hs hsl
      go_wp2
      go_ret2
      exact .inr (.inl ⟨hlt, HSL.out, rfl, HB1.out⟩)
    | true =>
    rw [hs] at hsl
    simp only [Bool.true_and] at hsl
    clear hs
    go_wp2_with fail
    refine (right_any l _).mono ?_
    rintro e w2 ⟨rfl, rfl⟩
    cases hl2 : okR l with
    | false =>
      rw [hl2] at hsl
      have HSL := hid_mk hsl
      clear hl2 hsl
      go_wp2
      go_ret2
      exact .inr (.inl ⟨hlt, HSL.out, rfl, HB1.out⟩)
    | true =>
      rw [hl2] at hsl
      have HSL := hid_mk hsl
      have HC2 := hid_mk (HT.out w2 HG1.out)
      have HS1 : Hid (Step F F w w2) := Step.of_below HB1.out
      clear hl2 hsl HT HG1 HB1
      go_wp2_with fail
      refine HC2.out.mono ?_
      rintro e w3 ⟨r, rfl, q1, F3, vl', vb', hG3, hS3, q4⟩
      obtain ⟨vv3, ev3, hc3⟩ := hG3.cells
      have d1 := hc3.at (j := 1) rfl
      simp only [List.getElem_toArray, List.getElem_cons_zero, List.getElem_cons_succ] at d1
      obtain ⟨q', cap', eq', cq', _⟩ := hG3.ptr (i := 0) (by show 0 < g.m; omega)
      rw [eq'] at d1
      have HQ := hid_mk (And.intro q1 q4)
      have HC3 := hid_mk (HA.out w3 F3 vl' vb' r (HLb.out r q1) HSL.out hG3)
      have HS3 := hid_mk (HS1.out.trans hS3)
      have hgm' : ((g.setV vl' vb').m : Int) = g.m := rfl
      have HE := hid_mk eq'
      clear q1 q4 hG3 hS3 hc3 HC2 HA HLb HS1 eq' eq1
      go_wp2_with fail
      refine HC3.out.mono ?_
      rintro e w4 ⟨⟨x, rfl⟩, F4, hG4, hS4⟩
      have HF := hid_mk (show ∃ F' vl' vb', Gm p w4 F' B (vertG g vl' vb' r s l) (K + 1) ∧ Step F F' w w4 ∧ (∀ t, Tk vl' vb' t ↔ Tk g.vl g.vb t ∨ t = r) ∧ g.vl ≤ vl' ∧ vl' ≤ g.vl + 1 ∧ vl' - vb'.length = d + 1 ∧ vb'.length ≤ g.vb.length from ⟨F4, vl', vb', hG4, HS3.out.trans hS4, HQ.out.2⟩)
      have HR := hid_mk HQ.out.1
      clear hG4 hS4 HC3 HS3 HQ
      go_wp2
      go_ret2
      exact .inr (.inr ⟨hlt, HSL.out, r, rfl, HR.out, HF.out⟩)
theorem dropP_has {P : Vx → Prop} {Q : Ex → Prop} {v : Int} (h : Hase Q v) : dropP P Q v = P := funext fun x => propext ⟨fun k => k.1, fun k => ⟨k, .inr h⟩⟩
set_option maxRecDepth 100000 in
set_option maxHeartbeats 1600000 in
theorem drop_any (h : Gm p w F B g K) (hK : K ≤ 30000) (hm : 1 ≤ g.m) (v : Int) (hb : B64 v) (hx : g.vb.length ≤ 100000) (hvk : Vp (g.P 0) v → Tk g.vl g.vb v) :
    Calls Tryz.prog 9 #[.pointer (some ⟨B, 0, none⟩), .int .i64 v] w fun e w' =>
      (¬ Vp (g.P 0) v ∧ e = .returned (.int .i64 4) ∧ Below w.heap.size w w') ∨
      (Vp (g.P 0) v ∧ Hase (g.Q 0) v ∧ e = .returned (.int .i64 13) ∧ ∃ F', Gm p w' F' B g (K + 1) ∧ Step F F' w w') ∨
      (Vp (g.P 0) v ∧ ¬ Hase (g.Q 0) v ∧ e = .returned (.int .i64 0) ∧ ∃ F' vb', Gm p w' F' B (dropG g g.vl vb' v) (K + 1) ∧ Step F F' w w' ∧ (∀ t, Tk g.vl vb' t ↔ Tk g.vl g.vb t ∧ t ≠ v) ∧ vb'.length = g.vb.length + 1) := by
  have HA := hid_mk (rhas_any h hm v hb)
  have HG := hid_mk h
  have HV := hid_mk hvk
  have HD : Hid (∀ W, Gm p W F B g K → Calls Tryz.prog 28 #[.pointer (some ⟨p.Bf 0, 0, none⟩), .int .i64 v] W fun e w' => (∃ r, e = .returned (.int .i64 r) ∧ (¬ Vp (g.P 0) v → r = 4) ∧ (Vp (g.P 0) v → Hase (g.Q 0) v → r = 13) ∧ (Vp (g.P 0) v → ¬ Hase (g.Q 0) v → r = 0)) ∧ ∃ F', Gm p w' F' B (g.setF 0 (dropP (g.P 0) (g.Q 0) v) (g.Q 0)) (K + 1) ∧ Step F F' W w') := fun W k => gdrop_any k hK (i := 0) (by omega) v hb
  have HFr : Hid (∀ W F1, Tk g.vl g.vb v → Gm p W F1 B (g.setF 0 (dropP (g.P 0) (g.Q 0) v) (g.Q 0)) (K + 1) → Calls Tryz.prog 29 #[.pointer (some ⟨B, 4, none⟩), .int .i64 v] W fun e w' => e = .returned (.tuple #[]) ∧ ∃ F' vb', Gm p w' F' B (dropG g g.vl vb' v) (K + 1) ∧ Step F1 F' W w' ∧ (∀ t, Tk g.vl vb' t ↔ Tk g.vl g.vb t ∧ t ≠ v) ∧ vb'.length = g.vb.length + 1) := fun W F1 q k => vfree_any k hx q
  have HS0 : Hid (Hase (g.Q 0) v → g.setF 0 (dropP (g.P 0) (g.Q 0) v) (g.Q 0) = g) := fun q => by rw [dropP_has q, setF_self]
  clear h hvk
  go_enter Tryz.func9, Tryz.ntmps9
  go_wp2_with fail
  refine HA.out.mono ?_
  rintro e w1 ⟨⟨t, rfl, ht⟩, hb1⟩
  cases t with
  | false =>
    have HN : Hid (¬ Vp (g.P 0) v) := fun k => by have := ht.2 k; cases this
    have HB := hid_mk hb1
    clear ht hb1 HA HG HV HD HFr HS0
    go_wp2
    go_ret
    exact .inl ⟨HN.out, rfl, HB.out⟩
  | true =>
    have HY : Hid (Vp (g.P 0) v) := ht.1 rfl
    have hG1 := HG.out.below hb1
    have HS1 : Hid (Step F F w w1) := Step.of_below hb1
    obtain ⟨vv, ev, hc⟩ := hG1.cells
    have c1 := hc.at (j := 1) rfl
    simp only [List.getElem_toArray, List.getElem_cons_zero, List.getElem_cons_succ] at c1
    obtain ⟨q, cap, eq1, cq, hql, hcap1, hcap2⟩ := hG1.ptr (i := 0) (by omega)
    rw [eq1] at c1
    have hgm : (g.m : Int) ≤ 9223372036854775807 := by unfold maxLen at hcap2; omega
    have HC1 := hid_mk (HD.out w1 hG1)
    clear ht hb1 hG1 hc eq1 hql hcap1 hcap2 HA HG HD
    go_wp2_with fail
    refine HC1.out.mono ?_
    rintro e w2 ⟨⟨r, rfl, _, r2, r3⟩, F2, hG2, hS2⟩
    have HS2 := hid_mk (HS1.out.trans hS2)
    by_cases hq : Hase (g.Q 0) v
    · obtain rfl := r2 HY.out hq
      rw [HS0.out hq] at hG2
      have HF := hid_mk (show ∃ F', Gm p w2 F' B g (K + 1) ∧ Step F F' w w2 from ⟨F2, hG2, HS2.out⟩)
      have HQ := hid_mk hq
      clear hG2 hS2 hq r2 r3 HC1 HS1 HS2 HFr HS0 HV cq c1
      go_wp2
      go_ret
      exact .inr (.inl ⟨HY.out, HQ.out, rfl, HF.out⟩)
    · obtain rfl := r3 HY.out hq
      have HC2 := hid_mk (HFr.out w2 F2 (HV.out HY.out) hG2)
      have HQ := hid_mk hq
      clear hG2 hS2 hq r2 r3 HC1 HS1 HFr HS0 HV cq c1
      go_wp2_with fail
      refine HC2.out.mono ?_
      rintro e w3 ⟨rfl, F3, vb', hG3, hS3, q4⟩
      have HF := hid_mk (show ∃ F' vb', Gm p w3 F' B (dropG g g.vl vb' v) (K + 1) ∧ Step F F' w w3 ∧ (∀ t, Tk g.vl vb' t ↔ Tk g.vl g.vb t ∧ t ≠ v) ∧ vb'.length = g.vb.length + 1 from ⟨F3, vb', hG3, HS2.out.trans hS3, q4⟩)
      clear hG3 hS3 q4 HC2 HS2
      go_wp2
      go_ret
      exact .inr (.inr ⟨HY.out, HQ.out, rfl, HF.out⟩)
set_option maxRecDepth 100000 in
set_option maxHeartbeats 1600000 in
theorem insert_no (h : Gm p w F B g K) (hm : 1 ≤ g.m) {a b : Int} (ha : B64 a) (hb : B64 b) (hno : ¬ Vp (g.P 0) a ∨ ¬ Vp (g.P 0) b ∨ a = b) :
    Calls Tryz.prog 10 #[.pointer (some ⟨B, 0, none⟩), .int .i64 a, .int .i64 b] w fun e w' => ((Vp (g.P 0) a ∧ Vp (g.P 0) b → e = .returned (.tuple #[.int .i64 0, .int .i64 1])) ∧ (¬ (Vp (g.P 0) a ∧ Vp (g.P 0) b) → e = .returned (.tuple #[.int .i64 0, .int .i64 4]))) ∧ Below w.heap.size w w' := by
  have HA := hid_mk (rhas_any h hm a ha)
  have HBv : Hid (∀ W, Gm p W F B g K → Calls Tryz.prog 18 #[.pointer (some ⟨B, 0, none⟩), .int .i64 b] W fun e w' => IsBn e (Vp (g.P 0) b) ∧ Below W.heap.size W w') := fun W k => rhas_any k hm b hb
  have HG := hid_mk h
  have HN := hid_mk hno
  clear h hno
  go_enter Tryz.func10, Tryz.ntmps10
  go_wp2_with fail
  refine HA.out.mono ?_
  rintro e w1 ⟨⟨t, rfl, ht⟩, hb1⟩
  cases t with
  | false =>
    have HV : Hid (¬ (Vp (g.P 0) a ∧ Vp (g.P 0) b)) := fun k => by have := ht.2 k.1; cases this
    have HB := hid_mk hb1
    clear ht hb1 HA HG HBv HN
    go_wp2
    go_ret2
    exact ⟨⟨fun k => absurd k HV.out, fun _ => rfl⟩, HB.out⟩
  | true =>
    have HVa : Hid (Vp (g.P 0) a) := ht.1 rfl
    have HC1 := hid_mk (HBv.out w1 (HG.out.below hb1))
    have HB1 := hid_mk hb1
    clear ht hb1 HA HG HBv
    go_wp2_with fail
    refine HC1.out.mono ?_
    rintro e w2 ⟨⟨t, rfl, ht⟩, hb2⟩
    have HB2 := hid_mk (below_step HB1.out hb2 (Nat.le_refl _))
    cases t with
    | false =>
      have HV : Hid (¬ (Vp (g.P 0) a ∧ Vp (g.P 0) b)) := fun k => by have := ht.2 k.2; cases this
      clear ht hb2 HC1 HB1 HN
      go_wp2
      go_ret2
      exact ⟨⟨fun k => absurd k HV.out, fun _ => rfl⟩, HB2.out⟩
    | true =>
      have HVb : Hid (Vp (g.P 0) b) := ht.1 rfl
      have hab : a = b := by
        rcases HN.out with k | k | k
        · exact absurd HVa.out k
        · exact absurd HVb.out k
        · exact k
      clear ht hb2 HC1 HB1 HN
      subst hab
      go_wp2
      go_ret2
      exact ⟨⟨fun _ => rfl, fun k => absurd ⟨HVa.out, HVb.out⟩ k⟩, HB2.out⟩
end
end Go.Proofs.YtcbgeahcnjamdabGreat
