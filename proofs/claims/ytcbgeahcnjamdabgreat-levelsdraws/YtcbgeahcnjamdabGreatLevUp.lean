/- Layer 10: riseLoose, bind. -/
import Derived.Test.YtcbgeahcnjamdabGreatLevInvC
namespace Go.Proofs.YtcbgeahcnjamdabGreat
open Go.RowKit
set_option linter.unusedVariables false
section
variable {p : Gp} {w : World} {F : Nat → Prop} {B : Nat} {g : Gs} {K : Nat} {on : Int → Prop} {sv lv : Int → Int} {S : Int → Prop} {go : Eg} {gl : Int}
theorem Gi.vs (h : Gi g on sv lv S go gl) {i : Nat} (hi : i < g.m) {v : Int} : Vp (g.P i) v ↔ VS on g.E S go gl i v := by rw [h.p i hi, pf_vp]
def riseLooseG (g : Gs) (e : Int) (x : Eg) (i : Nat) : Gs := putG (riseG (takeG g e x i) e x) e x.up (i + 1)
/-- What a loose edge's rise makes of what is held. -/
theorem Gi.upLoose (h : Gi g on sv lv S go gl) {e : Int} {x : Eg} (hS : ¬ S e) (he : g.E e = some x) (ht : x.t = false) {i : Nat} (hi : i + 1 < g.m) (hl : x.l = i) (ha : VS on g.E S go gl i x.a ∧ VS on g.E S go gl i x.b) (hb : VS on g.E S go gl (i + 1) x.a ∧ VS on g.E S go gl (i + 1) x.b) :
    Gi (riseLooseG g e x i) on sv lv S go gl ∧ (e ∈ g.s.L (x.a, (i : Int)) ∧ e ∈ g.s.L (x.b, (i : Int))) ∧ (e ∉ (riseG (takeG g e x i) e x).s.L (x.a, ((i + 1 : Nat) : Int)) ∧ e ∉ (riseG (takeG g e x i) e x).s.L (x.b, ((i + 1 : Nat) : Int))) ∧ (Vp ((riseG (takeG g e x i) e x).P (i + 1)) x.a ∧ Vp ((riseG (takeG g e x i) e x).P (i + 1)) x.b) := by
  obtain ⟨t1, t2, t3⟩ := h.takeL hS he ht (by omega) hl ha.1 ha.2
  obtain ⟨a1, a2, a3, a4, a5, a6⟩ := h.eb e x he
  have r1 : Gi (riseG (takeG g e x i) e x) on sv lv (fun k => S k ∨ k = e) go gl := t1.skipE (.inr rfl) (x := x.up) ⟨a1, a2, a3, a4, by show 0 ≤ x.l + 1; omega, by show x.l + 1 < ((g.m : Nat) : Int); omega⟩ g.ne
  have hE : (riseG (takeG g e x i) e x).E e = some x.up := updQ_at _ _ _
  have hQ : ∀ j : Int, Qd g.E S j = Qd (riseG (takeG g e x i) e x).E S j := fun j => qd_ext fun f y h3 h4 => by
    show _ ↔ (¬ S f ∧ updQ g.E e (some x.up) f = some y)
    by_cases ef : f = e
    · subst ef
      rw [updQ_at, he]
      constructor
      · rintro ⟨_, k⟩; cases k; rw [ht] at h3; cases h3
      · rintro ⟨_, k⟩; cases k; rw [show x.up.t = x.t from rfl, ht] at h3; cases h3
    · rw [updQ_ne ef]
  have hV : VS on g.E S go gl (i + 1) = VS on (riseG (takeG g e x i) e x).E S go gl (i + 1) := vs_ext (fun j _ => hQ j) _
  obtain ⟨u1, u2, u3⟩ := r1.putL hS hE (show x.up.t = false from ht) (i := i + 1) hi (by show x.l + 1 = _; omega) (by rw [← hV]; exact hb.1) (by rw [← hV]; exact hb.2)
  refine ⟨u1, ⟨t2, t3⟩, ⟨u2, u3⟩, ?_⟩
  have hV2 : VS on (riseG (takeG g e x i) e x).E (fun k => S k ∨ k = e) go gl (i + 1) = VS on (riseG (takeG g e x i) e x).E S go gl (i + 1) := vs_ext (fun j _ => (qd_ext fun f y h3 h4 => ⟨fun ⟨k1, k2⟩ => ⟨fun k => k1 (.inl k), k2⟩, fun ⟨k1, k2⟩ => ⟨fun k => k.elim k1 (fun k => by subst k; rw [hE] at k2; cases k2; rw [show x.up.t = x.t from rfl, ht] at h3; cases h3), k2⟩⟩)) _
  rw [r1.vs (show i + 1 < g.m from hi), r1.vs (show i + 1 < g.m from hi), hV2, ← hV]
  exact hb
set_option maxRecDepth 100000 in
set_option maxHeartbeats 3200000 in
theorem riseLoose_any (h : Gm p w F B g K) (hK : K + 4 ≤ 30000) (h' : Gi g on sv lv S go gl) {e : Int} {x : Eg} (hS : ¬ S e) (he : g.E e = some x) (ht : x.t = false) {i : Nat} (hi : i + 1 < g.m) (hl : x.l = i) (ha : VS on g.E S go gl i x.a ∧ VS on g.E S go gl i x.b) (hb : VS on g.E S go gl (i + 1) x.a ∧ VS on g.E S go gl (i + 1) x.b) (hne : g.ne ≤ 1000000) :
    Calls Tryz.prog 61 #[.pointer (some ⟨B, 0, none⟩), .int .i64 e] w fun r w' => r = .returned (.tuple #[]) ∧ ∃ F', Gm p w' F' B (riseLooseG g e x i) (K + 2) ∧ Step F F' w w' := by
  obtain ⟨_, ⟨m1, m2⟩, ⟨n1, n2⟩, ⟨v1, v2⟩⟩ := h'.upLoose hS he ht hi hl ha hb
  obtain ⟨a1, a2, a3, a4, a5, a6⟩ := h'.eb e x he
  have hm := h'.m
  obtain ⟨vv0, ev0, hc0⟩ := h.cells
  have c2 := hc0.at (j := 2) rfl
  simp only [List.getElem_toArray, List.getElem_cons_zero, List.getElem_cons_succ] at c2
  have he64 := h'.e64 he
  have hlk := h.edgeL.1.look KE he64
  simp only [he, Option.map_some, Option.getD_some] at hlk
  have HT := hid_mk (takeLoose_any h (by omega) (i := i) (by omega) (by omega) hl he64 a1.1 (h'.b64 a3) (h'.b64 a4) a2 m1 m2 ((h'.vs (by omega)).2 ha.1) ((h'.vs (by omega)).2 ha.2))
  have HRi : Hid (∀ w1 F1, Gm p w1 F1 B (takeG g e x i) (K + 0) → Calls Tryz.prog 83 #[.pointer (some ⟨B, 0, none⟩), .int .i64 e] w1 fun r w' => r = .returned (egv x.up) ∧ Gm p w' F1 B (riseG (takeG g e x i) e x) (K + 0) ∧ Step F1 F1 w1 w') := fun w1 F1 k => rise_any k he64 he ⟨a5, by omega⟩ hne
  have HPu : Hid (∀ w1 F1, Gm p w1 F1 B (riseG (takeG g e x i) e x) (K + 0) → Calls Tryz.prog 53 #[.pointer (some ⟨B, 0, none⟩), .int .i64 e, egv x.up] w1 fun r w' => r = .returned (.tuple #[]) ∧ ∃ F', Gm p w' F' B (riseLooseG g e x i) (K + 0 + 2) ∧ Step F1 F' w1 w') := fun w1 F1 k =>
    putLoose_any k (by omega) (i := i + 1) hi (by omega) (x := x.up) (by show x.l + 1 = _; omega) he64 a1.1 (h'.b64 a3) (h'.b64 a4) a2 n1 n2 v1 v2
  have HB' := hid_mk hc0
  clear h h' hc0 he m1 m2 n1 n2 v1 v2
  go_enter Tryz.func61, Tryz.ntmps61
  go_wp2_with fail
  refine HT.out.mono ?_
  rintro r w1 ⟨rfl, F1, hG1, hS1⟩
  have HC1 := hid_mk (HRi.out w1 F1 hG1)
  have HS1 := hid_mk hS1
  clear hG1 hS1 HT HRi c2 hlk HB'
  go_wp2_with fail
  refine HC1.out.mono ?_
  rintro r w2 ⟨rfl, hG2, hS2⟩
  have HC2 := hid_mk (HPu.out w2 F1 hG2)
  have HS2 := hid_mk (HS1.out.trans hS2)
  clear hG2 hS2 HPu HS1 HC1
  go_wp2_with fail
  refine HC2.out.mono ?_
  rintro r w3 ⟨rfl, F3, hG3, hS3⟩
  have HF : Hid (∃ F', Gm p w3 F' B (riseLooseG g e x i) (K + 2) ∧ Step F F' w w3) := ⟨F3, hG3, HS2.out.trans hS3⟩
  clear hG3 hS3 HS2 HC2
  go_wp2
  go_returns
  exact ⟨rfl, HF.out⟩
/-- An edge is told anew. -/
theorem Gm.storeE (h : Gm p w F B g K) {e : Int} (he : B64 e) {x0 : Eg} (hx : g.E e = some x0) (hne : g.ne ≤ 1000000) (x : Eg) : ∃ w', (Instr.mapUpdate 49 (.map (some p.bM)) (.int .i64 e) (egv x)).run Tryz.prog w = .ok () w' ∧ Gm p w' F B (g.setE (updQ g.E e (some x)) g.ne) K ∧ w.grownBy w' (some p.bM) ∧ Step F F w w' := by
  obtain ⟨m1, m2, m3⟩ := h.edgeL
  obtain ⟨w', k1, k2, k3⟩ := m1.store KE (by unfold maxLen; omega) he (egv x)
  rw [map_upd, hx] at k2
  simp only [Option.map_some, Option.isSome_some, if_true] at k2
  obtain ⟨q1, q2⟩ := m3 w' _ _ k2 k3
  exact ⟨w', k1, q1, k3, q2⟩
set_option maxRecDepth 100000 in
set_option maxHeartbeats 3200000 in
theorem bind_any (h : Gm p w F B g K) {i : Nat} (hK : K + 3 * (i + 1) + 4 ≤ 30000) (h' : Gi g on sv lv S go gl) {e : Int} {x : Eg} (hS : ¬ S e) (he : g.E e = some x) (ht : x.t = false) (hi : i < g.m) (hl : x.l = i) (hv : ∀ j : Nat, j ≤ i → VS on g.E S go gl j x.a ∧ VS on g.E S go gl j x.b) (hj : ∀ j : Int, 0 ≤ j → j ≤ i → ¬ Jn (Te g.E S j) x.a x.b) (hne : g.ne ≤ 1000000) :
    Calls Tryz.prog 60 #[.pointer (some ⟨B, 0, none⟩), .int .i64 e] w fun r w' => r = .returned (.tuple #[]) ∧ ∃ F' g', Gm p w' F' B g' (K + 3 * (i + 1)) ∧ Step F F' w w' ∧ Gi g' on sv lv S go gl ∧ g' = bindGk ((takeG g e x i).setE (updQ g.E e (some ⟨x.a, x.b, x.l, true⟩)) g.ne) e ⟨x.a, x.b, x.l, true⟩ (i + 1) := by
  obtain ⟨t1, t2, t3⟩ := h'.takeL hS he ht hi hl (hv i (Nat.le_refl _)).1 (hv i (Nat.le_refl _)).2
  obtain ⟨a1, a2, a3, a4, a5, a6⟩ := h'.eb e x he
  have hm := h'.m
  obtain ⟨xa, xb, xl, xt⟩ := x
  simp only at a2 a3 a4 a5 a6 hl ht hv hj t2 t3
  subst ht
  have he64 := h'.e64 he
  -- behind the bag and the map
  obtain ⟨g2, hg2⟩ : ∃ g2, g2 = (takeG g e ⟨xa, xb, xl, false⟩ i).setE (updQ g.E e (some ⟨xa, xb, xl, true⟩)) g.ne := ⟨_, rfl⟩
  have G2 : Gi g2 on sv lv (fun k => S k ∨ k = e) go gl := by rw [hg2]; exact t1.skipE (.inr rfl) (x := ⟨xa, xb, xl, true⟩) ⟨a1, a2, a3, a4, a5, a6⟩ g.ne
  have hE2 : g2.E e = some ⟨xa, xb, xl, true⟩ := by rw [hg2]; exact updQ_at _ _ _
  have hQ : ∀ j : Int, Qd g.E S j = Qd g2.E (fun k => S k ∨ k = e) j := fun j => qd_ext fun f y h3 h4 => by
    rw [hg2]
    show _ ↔ (¬ (S f ∨ f = e) ∧ updQ g.E e (some _) f = some y)
    by_cases ef : f = e
    · subst ef
      rw [updQ_at, he]
      constructor
      · rintro ⟨_, k⟩; cases k; cases h3
      · rintro ⟨k, _⟩; exact absurd (.inr rfl) k
    · rw [updQ_ne ef]; simp [ef]
  have hV : ∀ j : Nat, VS on g2.E (fun k => S k ∨ k = e) go gl j = VS on g.E S go gl j := fun j => vs_ext (fun j _ => (hQ j).symm) j
  have GB := G2.bindG hS hE2 rfl (i := i) (by rw [hg2]; exact hi) hl (fun j hji => by rw [hV]; exact hv j hji)
  have hm2 : g2.m = g.m := by rw [hg2]; rfl
  -- what each link wants
  have LK : ∀ k : Nat, k < i + 1 → ¬ Ep ((bindGk g2 e ⟨xa, xb, xl, true⟩ k).Q k) e ∧ ¬ Jq ((bindGk g2 e ⟨xa, xb, xl, true⟩ k).Q k) xa xb := fun k hk => by
    have e2 : (bindGk g2 e ⟨xa, xb, xl, true⟩ k).Q k = g2.Q k := if_neg (by omega)
    rw [e2, G2.q k (by rw [hm2]; omega)]
    refine ⟨fun q => ?_, fun q => ?_⟩
    · obtain ⟨y, k1, _⟩ := qd_ep.1 q
      exact k1 (.inr rfl)
    · rw [← hQ, qd_jq] at q
      exact hj k (by omega) (by omega) q
  obtain ⟨vv0, ev0, hc0⟩ := h.cells
  have c2 := hc0.at (j := 2) rfl
  simp only [List.getElem_toArray, List.getElem_cons_zero, List.getElem_cons_succ] at c2
  have hlk := h.edgeL.1.look KE he64
  simp only [he, Option.map_some, Option.getD_some] at hlk
  have hbw : Below w.heap.size w (w.alloc (.cells #[.int .i64 xa, .int .i64 xb, .int .i64 xl, .bool false] 69)) := (Below.refl _ _).alloc (Nat.le_refl _) _
  have hX : Bx (w.alloc (.cells #[.int .i64 xa, .int .i64 xb, .int .i64 xl, .bool false] 69)) F w.heap.size 69 #[.int .i64 xa, .int .i64 xb, .int .i64 xl, .bool false] := ⟨Blk.new w _ _, fun k => by have := h.lt _ k; omega⟩
  have HT := hid_mk (takeLoose_any (h.below hbw) (by omega) (i := i) (by omega) (by omega) (x := ⟨xa, xb, xl, false⟩) hl he64 a1.1 (h'.b64 a3) (h'.b64 a4) a2 t2 t3 ((h'.vs (by omega)).2 (hv i (Nat.le_refl _)).1) ((h'.vs (by omega)).2 (hv i (Nat.le_refl _)).2))
  have HS : Hid (Step F F w (w.alloc (.cells #[.int .i64 xa, .int .i64 xb, .int .i64 xl, .bool false] 69))) := Step.of_below hbw
  have HX := hid_mk hX
  have HLK := hid_mk LK
  have HGB := hid_mk GB
  have HE2 := hid_mk hE2
  have HG2 := hid_mk hg2
  have HE := hid_mk he
  have HI := hid_mk hi
  have HM2 := hid_mk hm2
  have HBs := hid_mk (show B64 xa ∧ B64 xb from ⟨h'.b64 a3, h'.b64 a4⟩)
  have hwr : IntKind.i64.wrap (xl + 1) = xl + 1 := by simp [IntKind.wrap, IntKind.bits, IntKind.signed]; omega
  have HL := hid_mk hl
  obtain ⟨M, hM⟩ : ∃ M, M = w.heap.size := ⟨_, rfl⟩
  rw [← hM] at HX
  unfold egv at hlk HT
  clear h h' hc0 he t1 t2 t3 hv hj G2 hE2 hQ hV GB LK hX hbw hg2 hi hm2 hl
  go_enter Tryz.func60, Tryz.ntmps60
  go_wp2_with fail
  refine HT.out.mono ?_
  rintro r w1 ⟨rfl, F1, hG1, hS1⟩
  rw [← hM]
  have hX1 := HX.out.step hS1
  have hS2 := HS.out.trans hS1
  -- the box is told anew
  obtain ⟨w2, hw2⟩ : ∃ w2, w2 = w1.setCell ⟨M, 3, none⟩ (.bool true) := ⟨_, rfl⟩
  have hb2 : ∀ k, k ≠ M → w2.heap[k]? = w1.heap[k]? := fun k hk => by rw [hw2]; exact Below.heap_setCell w1 ⟨M, 3, none⟩ _ k hk
  have hs2 : w2.heap.size = w1.heap.size := by rw [hw2]; exact size_setCell _ _ _
  have hG2 : Gm p w2 F1 B (takeG g e ⟨xa, xb, xl, false⟩ i) (K + 0) := hG1.kept (fun k hk => hb2 k (fun q => hX1.out (q ▸ hk))) (by omega)
  have hX2 : Bx w2 F1 M 69 #[.int .i64 xa, .int .i64 xb, .int .i64 xl, .bool true] := ⟨by rw [hw2]; simpa using hX1.blk.setAt 3 (.bool true), hX1.out⟩
  have hwM : w.heap.size ≤ M := by omega
  have hSw2 : Step F F1 w w2 := ⟨⟨by rw [hw2]; exact hS2.only.os, by rw [hw2]; exact hS2.only.tape, by rw [hw2]; exact hS2.only.output, by rw [hs2]; exact hS2.size, fun k hk hn => (hb2 k (by omega)).trans (hS2.only.block k hk hn)⟩, hS2.ext⟩
  have hd2 := (Below.refl w2.heap.size w2).drew
  obtain ⟨w3, hrun3, hG3, hg3, hS3⟩ := (hG2.below hd2).storeE he64 (x0 := ⟨xa, xb, xl, false⟩) HE.out hne ⟨xa, xb, xl, true⟩
  obtain ⟨vv1, ev1, hc1⟩ := hG2.cells
  have c2b := hc1.at (j := 2) rfl
  obtain ⟨vv3, ev3, hc3⟩ := hG3.cells
  have c2c := hc3.at (j := 2) rfl
  simp only [List.getElem_toArray, List.getElem_cons_zero, List.getElem_cons_succ] at c2b c2c
  have f3 := hX1.blk.frozen 3
  have u3 := hX1.blk.at (j := 3) rfl
  have e0 := hX2.blk.at (j := 0) rfl
  have e1 := hX2.blk.at (j := 1) rfl
  have e2 := hX2.blk.at (j := 2) rfl
  have e3 := hX2.blk.at (j := 3) rfl
  have hX3 := (hX2.below hd2).step hS3
  have k0 := hX3.blk.at (j := 0) rfl
  have k1 := hX3.blk.at (j := 1) rfl
  have k2 := hX3.blk.at (j := 2) rfl
  have k3 := hX3.blk.at (j := 3) rfl
  simp only [List.getElem_toArray, List.getElem_cons_zero, List.getElem_cons_succ] at u3 e0 e1 e2 e3 k0 k1 k2 k3
  unfold egv at hrun3
  have HG3 := hid_mk hG3
  have HX3 := hid_mk hX3
  have HS3 := hid_mk ((hSw2.trans (Step.of_below (F := F1) hd2)).trans hS3)
  clear hG1 hS1 hX1 hS2 hb2 hs2 hG2 hX2 hSw2 hd2 hG3 hg3 hS3 hc1 hc3 hX3 HT HX HS c2 hlk hwM
  subst hw2
  clear hM
  go_wp2_with fail
  go_region_held3 (fun w' => w'.cell? ⟨B, 2, none⟩ = some (.map (some p.bM)) ∧ w'.cell? ⟨M, 0, none⟩ = some (.int .i64 xa) ∧ w'.cell? ⟨M, 1, none⟩ = some (.int .i64 xb) ∧ w'.cell? ⟨M, 2, none⟩ = some (.int .i64 xl) ∧ w'.cell? ⟨M, 3, none⟩ = some (.bool true))
    (first | go_keep | (go_split_ands; refine ⟨?_, ?_, ?_, ?_, ?_⟩ <;> assumption))
    (fail)
  rename_i hHeld
  clear hHeld hrun3 c2b e0 e1 e2 e3 f3 u3
  go_wp2_with fail
  have hG3' : Gm p w3 F1 B g2 (K + 0) := by rw [HG2.out]; exact HG3.out
  have HG3' := hid_mk hG3'
  clear HG3 hG3'
  go_loopw [26] (fun vk wr => ∃ k : Nat, k ≤ i + 1 ∧ vk = .int .i64 k ∧ Hid (∃ F', Gm p wr F' B (bindGk g2 e ⟨xa, xb, xl, true⟩ k) (K + 3 * k) ∧ Step F F' w wr ∧ Bx wr F' M 69 #[.int .i64 xa, .int .i64 xb, .int .i64 xl, .bool true])) (fun vk _ => i + 1 - (intOf vk).toNat)
  case atStart => exact ⟨0, by omega, rfl, F1, by rw [bindGk_zero]; exact HG3'.out, HS3.out, HX3.out⟩
  case round =>
    clear k0 k1 k2 k3 c2c
    obtain ⟨k, hk, rfl, HR⟩ := hrel
    have hxl := HL.out
    by_cases hlt : k < i + 1
    · obtain ⟨F4, hG, hS4, hX⟩ := HR.out
      have k0 := hX.blk.at (j := 0) rfl
      have k1 := hX.blk.at (j := 1) rfl
      have k2 := hX.blk.at (j := 2) rfl
      have k3 := hX.blk.at (j := 3) rfl
      simp only [List.getElem_toArray, List.getElem_cons_zero, List.getElem_cons_succ] at k0 k1 k2 k3
      have hkm : k < (bindGk g2 e ⟨xa, xb, xl, true⟩ k).m := by show k < g2.m; have := HM2.out; have := HI.out; omega
      have HC := hid_mk (link_any hG (by omega) hkm (x := ⟨xa, xb, xl, true⟩) he64 a1.1 HBs.out.1 HBs.out.2 (HLK.out k hlt).1 (HLK.out k hlt).2)
      rw [bindGk_succ] at HC
      unfold egv at HC
      have HS4 := hid_mk hS4
      have HX4 := hid_mk hX
      have hlt' : (k : Int) < xl + 1 := by omega
      clear hG hS4 hX HR hxl
      go_wp2_with fail
      refine HC.out.mono ?_
      rintro r w5 ⟨rfl, F5, hG5, hS5⟩
      have HR2 : Hid (∃ F', Gm p w5 F' B (bindGk g2 e ⟨xa, xb, xl, true⟩ (k + 1)) (K + 3 * (k + 1)) ∧ Step F F' w w5 ∧ Bx w5 F' M 69 #[.int .i64 xa, .int .i64 xb, .int .i64 xl, .bool true]) := ⟨F5, hG5, HS4.out.trans hS5, HX4.out.step hS5⟩
      clear hG5 hS5 HC HS4 HX4 k0 k1 k2 k3
      go_wp2
      go_roundw
      case rel => exact ⟨k + 1, by omega, by go_num, HR2.out⟩
      case measure => simp [intOf]; omega
    · obtain rfl : k = i + 1 := by omega
      obtain ⟨F4, hG, hS4, hX⟩ := HR.out
      have hlt' : ¬ ((i : Int) + 1) < xl + 1 := by omega
      have HF : Hid (∃ F' g', Gm p wr F' B g' (K + 3 * (i + 1)) ∧ Step F F' w wr ∧ Gi g' on sv lv S go gl ∧ g' = bindGk ((takeG g e ⟨xa, xb, xl, false⟩ i).setE (updQ g.E e (some ⟨xa, xb, xl, true⟩)) g.ne) e ⟨xa, xb, xl, true⟩ (i + 1)) := ⟨F4, _, hG, hS4, HGB.out, by rw [HG2.out]⟩
      clear HR hG hS4 hX hxl
      go_wp2
      go_returns
      exact ⟨rfl, HF.out⟩
end
end Go.Proofs.YtcbgeahcnjamdabGreat
