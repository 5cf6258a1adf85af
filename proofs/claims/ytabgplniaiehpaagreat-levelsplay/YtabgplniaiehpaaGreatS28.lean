/- Lemmas. -/
import Derived.Test.YtabgplniaiehpaaGreatS27
import Derived.BigQuiet
import Derived.Test.YtabgplniaiehpaaGreatS08
import Derived.Deep.RegionHeld3
set_option maxRecDepth 100000
set_option maxHeartbeats 64000000
namespace Go.Proofs.YtabgplniaiehpaaGreat
open Go.RowKit
set_option linter.unusedVariables false
structure Rv (x : Gv) (vs : List Vx) (es : List Ex) : Prop where
  v : vs.map Vx.v = x.V
  sl : ∀ y ∈ vs, y.s = x.sv y.v ∧ y.l = x.lv y.v
  e : es.map (fun y => (y.e, y.a, y.b)) = x.M
  en : (es.map Ex.e).Nodup
  ok : Vok vs
  eok : Eok vs es
section
variable {x y : Gv} {vs : List Vx} {es : List Ex}
theorem Rv.len (h : Rv x vs es) : vs.length = x.V.length := by rw [← h.v, List.length_map]
theorem Rv.mem (h : Rv x vs es) {e a b : Int} : (e, a, b) ∈ x.M ↔ ∃ z ∈ es, z.e = e ∧ z.a = a ∧ z.b = b := by
  rw [← h.e, List.mem_map]
  exact ⟨fun ⟨z, hz, k⟩ => by cases k; exact ⟨z, hz, rfl, rfl, rfl⟩, fun ⟨z, hz, h1, h2, h3⟩ => ⟨z, hz, by rw [h1, h2, h3]⟩⟩
theorem Rv.am (h : Rv x vs es) : Ee es = Am x.M := by
  funext a b
  refine propext ⟨fun ⟨z, hz, h1, h2⟩ => ⟨z.e, h.mem.2 ⟨z, hz, rfl, h1, h2⟩⟩, fun ⟨e, k⟩ => ?_⟩
  obtain ⟨z, hz, _, h2, h3⟩ := h.mem.1 k
  exact ⟨z, hz, h2, h3⟩
theorem Rv.edge (h : Rv x vs es) {e : Int} : e ∈ es.map Ex.e ↔ ∃ a b, (e, a, b) ∈ x.M := by
  rw [List.mem_map]
  exact ⟨fun ⟨z, hz, k⟩ => ⟨z.a, z.b, h.mem.2 ⟨z, hz, k, rfl, rfl⟩⟩, fun ⟨a, b, k⟩ => by obtain ⟨z, hz, q, _⟩ := h.mem.1 k; exact ⟨z, hz, q⟩⟩
theorem Rv.hase (h : Rv x vs es) {v : Int} : (∃ e a b, (e, a, b) ∈ x.M ∧ (a = v ∨ b = v)) ↔ ∃ z, z ∈ es ∧ (z.a = v ∨ z.b = v) :=
  ⟨fun ⟨e, a, b, k, q⟩ => by obtain ⟨z, hz, _, rfl, rfl⟩ := h.mem.1 k; exact ⟨z, hz, q⟩, fun ⟨z, hz, q⟩ => ⟨z.e, z.a, z.b, h.mem.2 ⟨z, hz, rfl, rfl, rfl⟩, q⟩⟩
theorem Rv.zero : Rv ⟨[], n0, n0, []⟩ [] [] := ⟨rfl, fun y k => (by cases k), rfl, List.nodup_nil, ⟨List.nodup_nil, fun y k => (by cases k)⟩, fun y k => (by cases k)⟩
theorem Rv.vertex (h : Rv x vs es) {r s l : Int} (hr : r ∉ x.V) (ok : okSL s l = true) : Rv ⟨x.V ++ [r], updI x.sv r s, updI x.lv r l, x.M⟩ (vs ++ [⟨r, s, l, 0⟩]) es := by
  have hk := of_decide_eq_true ok
  have hv : ∀ y ∈ vs, y.v ≠ r := fun y hy e => hr (by rw [← h.v, ← e]; exact List.mem_map.2 ⟨y, hy, rfl⟩)
  refine ⟨by rw [List.map_append, h.v]; rfl, fun y hy => ?_, h.e, h.en, ⟨?_, fun y hy => ?_⟩, fun z hz => ?_⟩
  · rcases List.mem_append.1 hy with hy | hy
    · show y.s = updI x.sv r s y.v ∧ y.l = updI x.lv r l y.v
      rw [updI_ne (hv y hy), updI_ne (hv y hy)]; exact h.sl y hy
    · obtain rfl := List.mem_singleton.1 hy
      exact ⟨(updI_at _ _ _).symm, (updI_at _ _ _).symm⟩
  · rw [List.map_append]
    refine List.nodup_append.2 ⟨h.ok.1, by simp, fun a ha b hb e => ?_⟩
    simp at hb
    subst hb
    subst e
    obtain ⟨y, hy, q⟩ := List.mem_map.1 ha
    exact hv y hy q
  · rcases List.mem_append.1 hy with hy | hy
    · exact h.ok.2 y hy
    · obtain rfl := List.mem_singleton.1 hy
      exact ⟨⟨hk.1, hk.2.1⟩, ⟨hk.2.2.1, hk.2.2.2⟩, by show (0 : Int) ≤ 0; omega, by show (0 : Int) ≤ 15; omega⟩
  · have := h.eok z hz
    rw [List.map_append]
    exact ⟨List.mem_append_left _ this.1, List.mem_append_left _ this.2⟩
theorem Rv.insert (h : Rv x vs es) {r a b : Int} (hr : ¬ ∃ a b, (r, a, b) ∈ x.M) (ha : a ∈ x.V) (hb : b ∈ x.V) : Rv ⟨x.V, x.sv, x.lv, x.M ++ [(r, a, b)]⟩ vs (es ++ [⟨r, a, b, 0⟩]) := by
  refine ⟨h.v, h.sl, by rw [List.map_append, h.e]; rfl, ?_, h.ok, fun z hz => ?_⟩
  · rw [List.map_append]
    refine List.nodup_append.2 ⟨h.en, by simp, fun c hc d hd e => ?_⟩
    simp at hd
    subst hd
    subst e
    exact hr (h.edge.1 hc)
  · rcases List.mem_append.1 hz with hz | hz
    · exact h.eok z hz
    · obtain rfl := List.mem_singleton.1 hz
      rw [h.v]
      exact ⟨ha, hb⟩
theorem Rv.delete (h : Rv x vs es) (d : Int) : Rv ⟨x.V, x.sv, x.lv, x.M.filter fun z => decide (z.1 ≠ d)⟩ vs (es.filter fun y => decide (y.e ≠ d)) := by
  refine ⟨h.v, h.sl, ?_, h.en.sublist (List.filter_sublist.map _), h.ok, fun z hz => h.eok z (List.mem_filter.1 hz).1⟩
  show _ = x.M.filter _
  rw [← h.e, List.filter_map]
  rfl
theorem Rv.drop (h : Rv x vs es) {d : Int} (hd : ¬ ∃ z, z ∈ es ∧ (z.a = d ∨ z.b = d)) : Rv ⟨x.V.filter fun u => decide (u ≠ d), x.sv, x.lv, x.M⟩ (vs.filter fun y => decide (y.v ≠ d)) es := by
  refine ⟨?_, fun y hy => h.sl y (List.mem_filter.1 hy).1, h.e, h.en, ⟨h.ok.1.sublist (List.filter_sublist.map _), fun y hy => h.ok.2 y (List.mem_filter.1 hy).1⟩, fun z hz => ?_⟩
  · show _ = x.V.filter _
    rw [← h.v, List.filter_map]
    rfl
  · obtain ⟨k1, k2⟩ := h.eok z hz
    obtain ⟨p, hp, e1⟩ := List.mem_map.1 k1
    obtain ⟨q, hq, e2⟩ := List.mem_map.1 k2
    exact ⟨List.mem_map.2 ⟨p, List.mem_filter.2 ⟨hp, decide_eq_true fun e => hd ⟨z, hz, .inl (by rw [← e1]; exact e)⟩⟩, e1⟩, List.mem_map.2 ⟨q, List.mem_filter.2 ⟨hq, decide_eq_true fun e => hd ⟨z, hz, .inr (by rw [← e2]; exact e)⟩⟩, e2⟩⟩
theorem joinM_mem {M : List (Int × Int × Int)} {V : List Int} {v u : Int} : u ∈ joinM M V v ↔ v ∈ V ∧ u ∈ V ∧ Jn (Am M) v u := by
  unfold joinM
  by_cases hv : v ∈ V
  · rw [if_pos hv, List.mem_filter]
    have := @decide_eq_true_iff (Jn (Am M) v u) (Classical.propDecidable _)
    rw [this]
    exact ⟨fun k => ⟨hv, k⟩, fun k => k.2⟩
  · rw [if_neg hv]
    exact ⟨fun k => (by cases k), fun k => absurd k.1 hv⟩
theorem joinM_nd {M : List (Int × Int × Int)} {V : List Int} {v : Int} (h : V.Nodup) : (joinM M V v).Nodup := by
  unfold joinM
  split
  · exact h.sublist List.filter_sublist
  · exact List.nodup_nil
theorem Rv.tree (h : Rv x vs es) {v : Int} {T : List Int} (hT : TreeOf vs es v T) : T.Perm (joinM x.M x.V v) := by
  have hnd : x.V.Nodup := by rw [← h.v]; exact h.ok.1
  by_cases hv : v ∈ vs.map Vx.v
  · have ht := hT.1 hv
    refine (List.perm_ext_iff_of_nodup ht.nd (joinM_nd hnd)).2 fun u => ?_
    rw [ht.mem, joinM_mem, h.am, h.v]
    rw [h.v] at hv
    exact ⟨fun k => ⟨hv, k⟩, fun k => k.2⟩
  · rw [hT.2 hv]
    rw [h.v] at hv
    unfold joinM
    rw [if_neg hv]
theorem Rv.vat (h : Rv x vs es) {u : Int} (hu : u ∈ vs.map Vx.v) : (vat vs u).s = x.sv u ∧ (vat vs u).l = x.lv u := by
  obtain ⟨k1, k2⟩ := vat_in hu
  have := h.sl _ k1
  rw [k2] at this
  exact this
theorem sumL_eq {f g : Int → Int} : ∀ {T : List Int}, (∀ u ∈ T, f u = g u) → sumL f T = sumL g T := by
  intro T
  induction T with
  | nil => intro _; rfl
  | cons a T ih => intro h; show f a + _ = g a + _; rw [h a (by simp), ih fun u hu => h u (by simp [hu])]
theorem minL_eq {f g : Int → Int} : ∀ {T : List Int}, (∀ u ∈ T, f u = g u) → minL f T = minL g T := by
  intro T
  induction T with
  | nil => intro _; rfl
  | cons a T ih => intro h; show min (f a) _ = min (g a) _; rw [h a (by simp), ih fun u hu => h u (by simp [hu])]
theorem Rv.sum (h : Rv x vs es) {v : Int} {T : List Int} (hT : TreeOf vs es v T) (hl : T.length ≤ 1000) : sumN' x.sv (joinM x.M x.V v) = sumL (fun u => (Go.Proofs.YtabgplniaiehpaaGreat.vat vs u).s) T := by
  have hp := h.tree hT
  have he : sumL (fun u => (Go.Proofs.YtabgplniaiehpaaGreat.vat vs u).s) T = sumL x.sv (joinM x.M x.V v) := (sumL_eq fun u hu => (h.vat (hT.sub hu)).1).trans (sumL_perm hp)
  have hb := sumL_bd (g := fun u => (Go.Proofs.YtabgplniaiehpaaGreat.vat vs u).s) (c := 1099511627776) (by omega) (T := T) (fun u hu => (h.ok.2 _ (vat_in (hT.sub hu)).1).1)
  have hbd : (T.length : Int) * 1099511627776 ≤ 1000 * 1099511627776 := Int.mul_le_mul_of_nonneg_right (by omega) (by decide)
  rw [he] at hb ⊢
  unfold sumN'
  by_cases k : joinM x.M x.V v = []
  · rw [if_pos k, k]; rfl
  · rw [if_neg k]
    exact wr_id (by omega) (by omega)
theorem Rv.least (h : Rv x vs es) {v : Int} {T : List Int} (hT : TreeOf vs es v T) : minN' x.lv (joinM x.M x.V v) = lsN vs T T.length := by
  have hp := h.tree hT
  unfold minN' lsN
  by_cases k : joinM x.M x.V v = []
  · have : T.length = 0 := by rw [hp.length_eq, k]; rfl
    rw [if_pos k, if_pos this]
  · have : T.length ≠ 0 := fun e => k (List.eq_nil_of_length_eq_zero (by rw [← hp.length_eq]; exact e))
    rw [if_neg k, if_neg this, List.take_length]
    exact (minL_perm hp).symm.trans (minL_eq fun u hu => (h.vat (hT.sub hu)).2.symm)
end
section
variable {p : Gp} {w : World} {F : Nat → Prop} {B : Nat} {g : Gs} {K : Nat}
theorem edge_some (h : Gm p w F B g K) {e : Int} (he : B64 e) {x : Eg} (hx : g.E e = some x) : Calls Tryz.prog 23 #[.pointer (some ⟨B, 0, none⟩), .int .i64 e] w fun r w' => r = .returned (.tuple #[.int .i64 x.a, .int .i64 x.b, .int .i64 x.l, .bool x.t, .bool true]) ∧ Below w.heap.size w w' := by
  obtain ⟨xa, xb, xl, xt⟩ := x
  obtain ⟨vv, ev, hc⟩ := h.cells
  have c2 := hc.at (j := 2) rfl
  simp only [List.getElem_toArray, List.getElem_cons_zero, List.getElem_cons_succ] at c2
  have hlk := h.edgeL.1.look_ok KE he
  simp only [hx, Option.map_some, Option.getD_some, Option.isSome_some] at hlk
  unfold egv at hlk
  have hbw : Below w.heap.size w (w.alloc (.cells #[.int .i64 xa, .int .i64 xb, .int .i64 xl, .bool xt] 155)) := (Below.refl _ _).alloc (Nat.le_refl _) _
  have HB := mkH hbw
  clear h hc hbw hx
  go_enter Tryz.func23, Tryz.ntmps23
  go_wp2
  all_goals (try go_quiet (fail))
  all_goals (try go_wp2)
  all_goals (try simp only [Exit.inBlock, Exit.then])
  all_goals refine bodyPost_ret (results_five rfl _ _ _) rfl ?_
  all_goals exact ⟨rfl, HB.out.os, HB.out.tape, HB.out.output, HB.out.size, HB.out.block⟩
theorem edge_none (h : Gm p w F B g K) {e : Int} (he : B64 e) (hx : g.E e = none) : Calls Tryz.prog 23 #[.pointer (some ⟨B, 0, none⟩), .int .i64 e] w fun r w' => r = .returned (.tuple #[.int .i64 0, .int .i64 0, .int .i64 0, .bool false, .bool false]) ∧ Below w.heap.size w w' := by
  obtain ⟨vv, ev, hc⟩ := h.cells
  have c2 := hc.at (j := 2) rfl
  simp only [List.getElem_toArray, List.getElem_cons_zero, List.getElem_cons_succ] at c2
  have hlk := h.edgeL.1.look_ok KE he
  simp only [hx, Option.map_none, Option.getD_none, Option.isSome_none] at hlk
  unfold eg0 at hlk
  have hbw : Below w.heap.size w (w.alloc (.cells #[.int .i64 0, .int .i64 0, .int .i64 0, .bool false] 155)) := (Below.refl _ _).alloc (Nat.le_refl _) _
  have HB := mkH hbw
  clear h hc hbw hx
  go_enter Tryz.func23, Tryz.ntmps23
  go_wp2
  all_goals (try go_quiet (fail))
  all_goals (try go_wp2)
  all_goals (try simp only [Exit.inBlock, Exit.then])
  all_goals refine bodyPost_ret (results_five rfl _ _ _) rfl ?_
  all_goals exact ⟨rfl, HB.out.os, HB.out.tape, HB.out.output, HB.out.size, HB.out.block⟩
end
theorem glen_any {p : Gp} {w : World} {F : Nat → Prop} {B : Nat} {g : Gs} {K : Nat} (h : Gm p w F B g K) (hl : g.vl ≤ 100000) (hx : g.vb.length ≤ 100000) : Calls Tryz.prog 25 #[.pointer (some ⟨B, 0, none⟩)] w fun e w' => e = .returned (.tuple #[.int .i64 (g.vl - g.vb.length), .int .i64 g.ne]) ∧ Below w.heap.size w w' := by
  obtain ⟨vv, ev, hc⟩ := h.cells
  have c2 := hc.at (j := 2) rfl
  simp only [List.getElem_toArray, List.getElem_cons_zero, List.getElem_cons_succ] at c2
  have hBl := hc.lt
  obtain ⟨c, vv', ev', Ff, Fb, hX⟩ := h
  have HN := hX.vn
  have h : Gm p w F B g K := ⟨c, vv', ev', Ff, Fb, hX⟩
  have gn := Grow.ne w
  have g0 : ∀ g' : Grow w, g'.w.cell? ⟨B, 2, none⟩ = some (.map (some p.bM)) := fun g' => Grow.cell hBl c2 g'
  have hm : ∀ g' : Grow w, (Builtin.len_ #[140] 3 #[.map (some p.bM)]).run Tryz.prog g'.w = .ok (.int .i64 g.ne) g'.w := fun g' => MapV.len KE (h.below g'.h).edgeL.1 _
  have CM : Hid (∀ g' : Grow w, Calls Tryz.prog 103 #[.pointer (some ⟨B, 4, none⟩)] g'.w fun e w' => e = .returned (.int .i64 (g.vl - g.vb.length)) ∧ Below g'.w.heap.size g'.w w') := fun g' => mmany_any (HN.kept (g'.h.block B hBl) (fun k hk => g'.h.block k (h.lt k (hX.c3 k hk).1))) (by omega) hx
  clear h hX hc HN c2
  generalize g.vl - g.vb.length = d at *
  generalize g.ne = ne at *
  go_enter Tryz.func25, Tryz.ntmps25
  go_wp2_with fail
  refine wp_region_grow (by kernel_rfl) (by kernel_rfl) ?_
  repeat (go_big_quiet_step ((go_at_call 103; exact grow_call (CM.out _))))
  refine wpQuiet_nil ?_
  rintro w1 ⟨⟨_, hb1⟩, rfl⟩
  have HB1 := mkH hb1
  clear hb1 CM gn g0 hm
  go_wp2
  go_ret2
  exact ⟨rfl, HB1.out⟩
structure Pl (w0 W : World) (F1 : Nat → Prop) (B : Nat) (x : Gv) (T : Nat) (F2 : Nat → Prop) (R : Nat) (vs : List Vx) (es : List Ex) (n : Int) (m : Nat) : Prop where
  a : Lw F1 W B n m x T
  b : R10 W F2 R n vs es
  r : Rv x vs es
  vl : vs.length ≤ T
  el : es.length ≤ T
  tb : T ≤ 200
  dis : ∀ k, F1 k → ¬ F2 k
  la : ∀ k, F1 k → w0.heap.size ≤ k
  lb : ∀ k, F2 k → w0.heap.size ≤ k
  bl : Below w0.heap.size w0 W
section
variable {w0 W W' : World} {F1 F2 : Nat → Prop} {B R T : Nat} {x : Gv} {vs : List Vx} {es : List Ex} {n : Int} {m : Nat}
theorem Pl.below (h : Pl w0 W F1 B x T F2 R vs es n m) (hb : Below W.heap.size W W') : Pl w0 W' F1 B x T F2 R vs es n m := ⟨h.a.below hb, h.b.below hb, h.r, h.vl, h.el, h.tb, h.dis, h.la, h.lb, below_step h.bl hb (Nat.le_refl _)⟩
theorem con_in (h : Rv x vs es) {v u : Int} {L : List Int} (hT : TreeOf vs es v L) : conM x.M x.V v u = decide (u ∈ L) := by
  rw [Bool.eq_iff_iff, conM_iff, decide_eq_true_iff, (h.tree hT).mem_iff, joinM_mem]
theorem pl_sum (h : Pl w0 W F1 B x T F2 R vs es n m) (v : Int) : Calls Tryz.prog 101 #[.pointer (some ⟨R, 0, none⟩), .int .i64 v] W fun e w' => e = .returned (.int .i64 (sumN' x.sv (joinM x.M x.V v))) ∧ Below W.heap.size W w' := by
  have hv := h.vl
  have he := h.el
  have ht := h.tb
  refine (gsumr_any h.b v (by omega) (by omega) h.r.ok h.r.eok).mono fun e w' H => ?_
  obtain ⟨L, q1, q2, q3⟩ := H
  have hl : L.length ≤ vs.length := by
    have := (h.r.tree q1).length_eq
    have h2 : (joinM x.M x.V v).length ≤ x.V.length := by unfold joinM; split; exact List.length_filter_le ..; exact Nat.zero_le _
    have := h.r.len
    omega
  rw [h.r.sum q1 (by omega)]
  exact ⟨q2, q3⟩
theorem pl_least (h : Pl w0 W F1 B x T F2 R vs es n m) (v : Int) : Calls Tryz.prog 102 #[.pointer (some ⟨R, 0, none⟩), .int .i64 v] W fun e w' => e = .returned (.int .i64 (minN' x.lv (joinM x.M x.V v))) ∧ Below W.heap.size W w' := by
  have hv := h.vl
  have he := h.el
  have ht := h.tb
  refine (gleastr_any h.b v (by omega) (by omega) h.r.ok h.r.eok).mono fun e w' H => ?_
  obtain ⟨L, q1, q2, q3⟩ := H
  rw [h.r.least q1]
  exact ⟨q2, q3⟩
theorem stands10_any (h : Pl w0 W F1 B x T F2 R vs es n m) (v u : Int) (bv : B64 v) (bu : B64 u) : Calls Tryz.prog 22 #[.pointer (some ⟨B, 0, none⟩), .pointer (some ⟨R, 0, none⟩), .int .i64 v, .int .i64 u] W fun e w' => e = .returned (.bool true) ∧ Below W.heap.size W w' := by
  have hv := h.vl
  have he := h.el
  have ht := h.tb
  have CJ := mkH (gjoined_any h.b v (by omega) (by omega) h.r.eok)
  have CH : Hid (∀ X, Below W.heap.size W X → Calls Tryz.prog 98 #[.pointer (some ⟨B, 0, none⟩), .int .i64 v] X fun e w' => e = .returned (.bool (decide (v ∈ x.V))) ∧ Below X.heap.size X w') := fun X hb => lg_has (h.below hb).a v bv
  have CC : Hid (∀ X, Below W.heap.size W X → Calls Tryz.prog 86 #[.pointer (some ⟨B, 0, none⟩), .int .i64 v, .int .i64 u] X fun e w' => e = .returned (.bool (conM x.M x.V v u)) ∧ Below X.heap.size X w') := fun X hb => lg_conn (h.below hb).a v u bv bu
  have CZ : Hid (∀ X, Below W.heap.size W X → Calls Tryz.prog 87 #[.pointer (some ⟨B, 0, none⟩), .int .i64 v] X fun e w' => e = .returned (.int .i64 (joinM x.M x.V v).length) ∧ Below X.heap.size X w') := fun X hb => lg_size (h.below hb).a v bv
  have CS : Hid (∀ X, Below W.heap.size W X → Calls Tryz.prog 88 #[.pointer (some ⟨B, 0, none⟩), .int .i64 v] X fun e w' => e = .returned (.int .i64 (sumN' x.sv (joinM x.M x.V v))) ∧ Below X.heap.size X w') := fun X hb => lg_sum (h.below hb).a v bv
  have CL : Hid (∀ X, Below W.heap.size W X → Calls Tryz.prog 89 #[.pointer (some ⟨B, 0, none⟩), .int .i64 v] X fun e w' => e = .returned (.int .i64 (minN' x.lv (joinM x.M x.V v))) ∧ Below X.heap.size X w') := fun X hb => lg_least (h.below hb).a v bv
  have RS : Hid (∀ X, Below W.heap.size W X → Calls Tryz.prog 101 #[.pointer (some ⟨R, 0, none⟩), .int .i64 v] X fun e w' => e = .returned (.int .i64 (sumN' x.sv (joinM x.M x.V v))) ∧ Below X.heap.size X w') := fun X hb => pl_sum (h.below hb) v
  have RL : Hid (∀ X, Below W.heap.size W X → Calls Tryz.prog 102 #[.pointer (some ⟨R, 0, none⟩), .int .i64 v] X fun e w' => e = .returned (.int .i64 (minN' x.lv (joinM x.M x.V v))) ∧ Below X.heap.size X w') := fun X hb => pl_least (h.below hb) v
  have RV : Hid (∀ X, Below W.heap.size W X → Calls Tryz.prog 99 #[.pointer (some ⟨R, 0, none⟩), .int .i64 v] X fun e w' => e = .returned (.int .i64 (atK (vs.map Vx.v) v)) ∧ w' = X) := fun X hb => gat_any (h.below hb).b v (by omega)
  have RU : Hid (∀ X, Below W.heap.size W X → Calls Tryz.prog 99 #[.pointer (some ⟨R, 0, none⟩), .int .i64 u] X fun e w' => e = .returned (.int .i64 (atK (vs.map Vx.v) u)) ∧ w' = X) := fun X hb => gat_any (h.below hb).b u (by omega)
  have HR := mkH h.r
  have hmv := h.r.v
  clear h
  generalize sumN' x.sv (joinM x.M x.V v) = su at *
  generalize minN' x.lv (joinM x.M x.V v) = mi at *
  have hL0 : ∀ L, TreeOf vs es v L → ((joinM x.M x.V v).length = L.length ∧ conM x.M x.V v u = decide (u ∈ L) ∧ (u ∈ L → u ∈ vs.map Vx.v)) := fun L hT => ⟨(HR.out.tree hT).length_eq.symm, con_in HR.out hT, fun k => hT.sub k⟩
  have HL0 := mkH hL0
  clear hL0
  by_cases hmv2 : v ∈ vs.map Vx.v
  · obtain ⟨jv, ejv, _⟩ := atK_mem hmv2
    rw [ejv] at RV
    rw [decide_eq_true (by rw [← hmv]; exact hmv2)] at CH
    have n1 : ¬ (jv : Int) < 0 := by omega
    have n2 : (0 : Int) ≤ (jv : Int) := by omega
    clear ejv hmv2 hmv
    by_cases hu : u ∈ vs.map Vx.v
    · obtain ⟨ju, eju, _⟩ := atK_mem hu
      rw [eju] at RU
      have n3 : ¬ (ju : Int) < 0 := by omega
      have n4 : (0 : Int) ≤ (ju : Int) := by omega
      clear eju hu
      go_enter Tryz.func22, Tryz.ntmps22
      go_wp2_with fail
      refine CJ.out.mono ?_
      rintro e w1 ⟨L, ao, cap, rfl, hLw, hb, hll, hT⟩
      obtain ⟨l1, l2, l3⟩ := HL0.out L hT
      rw [l1] at CZ
      rw [l2] at CC
      have HLw := mkH hLw
      have B1 := mkH hb
      have hLn : L.length ≤ 10000 := by omega
      have CU : Hid (∀ X, Below w1.heap.size w1 X → Calls Tryz.prog 100 #[.slice ao L.length cap, .int .i64 u] X fun e w' => e = .returned (.bool (decide (u ∈ L))) ∧ w' = X) := fun X hb => grhas_any (HLw.out.1.kept fun k hk => hb.block k (HLw.out.1.lt hk)) u hLn
      generalize L.length = ln at *
      generalize decide (u ∈ L) = cu at *
      clear hLw hb hT l1 l2 l3 CJ HL0 HLw hv he ht hll hLn
      have X1 := mkH (Below.refl w1.heap.size w1)
      go_wp2_with fail
      refine (CH.out _ B1.out).mono ?_
      rintro e w2 ⟨rfl, hb⟩
      have B2 := mkH (below_step B1.out hb (Nat.le_refl _))
      have X2 := mkH (below_step X1.out hb (Nat.le_refl _))
      clear hb B1 X1 CH
      go_wp2_with fail
      refine (RV.out _ B2.out).mono ?_
      rintro e _ ⟨rfl, rfl⟩
      clear RV
      go_wp2_with fail
      refine (CC.out _ B2.out).mono ?_
      rintro e w3 ⟨rfl, hb⟩
      have B3 := mkH (below_step B2.out hb (Nat.le_refl _))
      have X3 := mkH (below_step X2.out hb (Nat.le_refl _))
      clear hb B2 X2 CC
      go_wp2_with fail
      refine (RU.out _ B3.out).mono ?_
      rintro e _ ⟨rfl, rfl⟩
      clear RU
      go_wp2_with fail
      refine (CU.out _ X3.out).mono ?_
      rintro e _ ⟨rfl, rfl⟩
      clear CU
      go_wp2_with fail
      refine (CZ.out _ B3.out).mono ?_
      rintro e w4 ⟨rfl, hb⟩
      have B4 := mkH (below_step B3.out hb (Nat.le_refl _))
      have X4 := mkH (below_step X3.out hb (Nat.le_refl _))
      clear hb B3 X3 CZ
      go_wp2_with fail
      refine (CS.out _ B4.out).mono ?_
      rintro e w5 ⟨rfl, hb⟩
      have B5 := mkH (below_step B4.out hb (Nat.le_refl _))
      have X5 := mkH (below_step X4.out hb (Nat.le_refl _))
      clear hb B4 X4 CS
      go_wp2_with fail
      refine (RS.out _ B5.out).mono ?_
      rintro e w6 ⟨rfl, hb⟩
      have B6 := mkH (below_step B5.out hb (Nat.le_refl _))
      have X6 := mkH (below_step X5.out hb (Nat.le_refl _))
      clear hb B5 X5 RS
      go_wp2_with fail
      refine (CL.out _ B6.out).mono ?_
      rintro e w7 ⟨rfl, hb⟩
      have B7 := mkH (below_step B6.out hb (Nat.le_refl _))
      have X7 := mkH (below_step X6.out hb (Nat.le_refl _))
      clear hb B6 X6 CL
      go_wp2_with fail
      refine (RL.out _ B7.out).mono ?_
      rintro e w8 ⟨rfl, hb⟩
      have B8 := mkH (below_step B7.out hb (Nat.le_refl _))
      have X8 := mkH (below_step X7.out hb (Nat.le_refl _))
      clear hb B7 X7 RL
      go_wp2
      go_ret
      exact ⟨rfl, B8.out⟩
    · rw [atK_no hu] at RU
      go_enter Tryz.func22, Tryz.ntmps22
      go_wp2_with fail
      refine CJ.out.mono ?_
      rintro e w1 ⟨L, ao, cap, rfl, hLw, hb, hll, hT⟩
      obtain ⟨l1, l2, l3⟩ := HL0.out L hT
      rw [l1] at CZ
      rw [l2] at CC
      have HLw := mkH hLw
      have B1 := mkH hb
      have hLn : L.length ≤ 10000 := by omega
      have CU : Hid (∀ X, Below w1.heap.size w1 X → Calls Tryz.prog 100 #[.slice ao L.length cap, .int .i64 u] X fun e w' => e = .returned (.bool (decide (u ∈ L))) ∧ w' = X) := fun X hb => grhas_any (HLw.out.1.kept fun k hk => hb.block k (HLw.out.1.lt hk)) u hLn
      generalize L.length = ln at *
      rw [decide_eq_false (fun k => hu (l3 k))] at CC CU
      clear hLw hb hT l1 l2 l3 CJ HL0 HLw hv he ht hll hLn hu
      have X1 := mkH (Below.refl w1.heap.size w1)
      go_wp2_with fail
      refine (CH.out _ B1.out).mono ?_
      rintro e w2 ⟨rfl, hb⟩
      have B2 := mkH (below_step B1.out hb (Nat.le_refl _))
      have X2 := mkH (below_step X1.out hb (Nat.le_refl _))
      clear hb B1 X1 CH
      go_wp2_with fail
      refine (RV.out _ B2.out).mono ?_
      rintro e _ ⟨rfl, rfl⟩
      clear RV
      go_wp2_with fail
      refine (CC.out _ B2.out).mono ?_
      rintro e w3 ⟨rfl, hb⟩
      have B3 := mkH (below_step B2.out hb (Nat.le_refl _))
      have X3 := mkH (below_step X2.out hb (Nat.le_refl _))
      clear hb B2 X2 CC
      go_wp2_with fail
      refine (RU.out _ B3.out).mono ?_
      rintro e _ ⟨rfl, rfl⟩
      clear RU
      go_wp2_with fail
      refine (CZ.out _ B3.out).mono ?_
      rintro e w4 ⟨rfl, hb⟩
      have B4 := mkH (below_step B3.out hb (Nat.le_refl _))
      have X4 := mkH (below_step X3.out hb (Nat.le_refl _))
      clear hb B3 X3 CZ
      go_wp2_with fail
      refine (CS.out _ B4.out).mono ?_
      rintro e w5 ⟨rfl, hb⟩
      have B5 := mkH (below_step B4.out hb (Nat.le_refl _))
      have X5 := mkH (below_step X4.out hb (Nat.le_refl _))
      clear hb B4 X4 CS
      go_wp2_with fail
      refine (RS.out _ B5.out).mono ?_
      rintro e w6 ⟨rfl, hb⟩
      have B6 := mkH (below_step B5.out hb (Nat.le_refl _))
      have X6 := mkH (below_step X5.out hb (Nat.le_refl _))
      clear hb B5 X5 RS
      go_wp2_with fail
      refine (CL.out _ B6.out).mono ?_
      rintro e w7 ⟨rfl, hb⟩
      have B7 := mkH (below_step B6.out hb (Nat.le_refl _))
      have X7 := mkH (below_step X6.out hb (Nat.le_refl _))
      clear hb B6 X6 CL
      go_wp2_with fail
      refine (RL.out _ B7.out).mono ?_
      rintro e w8 ⟨rfl, hb⟩
      have B8 := mkH (below_step B7.out hb (Nat.le_refl _))
      have X8 := mkH (below_step X7.out hb (Nat.le_refl _))
      clear hb B7 X7 RL
      go_wp2
      go_ret
      exact ⟨rfl, B8.out⟩
  · rw [atK_no hmv2] at RV
    rw [decide_eq_false (by rw [← hmv]; exact hmv2)] at CH
    clear hmv2 hmv
    by_cases hu : u ∈ vs.map Vx.v
    · obtain ⟨ju, eju, _⟩ := atK_mem hu
      rw [eju] at RU
      have n3 : ¬ (ju : Int) < 0 := by omega
      have n4 : (0 : Int) ≤ (ju : Int) := by omega
      clear eju hu
      go_enter Tryz.func22, Tryz.ntmps22
      go_wp2_with fail
      refine CJ.out.mono ?_
      rintro e w1 ⟨L, ao, cap, rfl, hLw, hb, hll, hT⟩
      obtain ⟨l1, l2, l3⟩ := HL0.out L hT
      rw [l1] at CZ
      rw [l2] at CC
      have HLw := mkH hLw
      have B1 := mkH hb
      have hLn : L.length ≤ 10000 := by omega
      have CU : Hid (∀ X, Below w1.heap.size w1 X → Calls Tryz.prog 100 #[.slice ao L.length cap, .int .i64 u] X fun e w' => e = .returned (.bool (decide (u ∈ L))) ∧ w' = X) := fun X hb => grhas_any (HLw.out.1.kept fun k hk => hb.block k (HLw.out.1.lt hk)) u hLn
      generalize L.length = ln at *
      generalize decide (u ∈ L) = cu at *
      clear hLw hb hT l1 l2 l3 CJ HL0 HLw hv he ht hll hLn
      have X1 := mkH (Below.refl w1.heap.size w1)
      go_wp2_with fail
      refine (CH.out _ B1.out).mono ?_
      rintro e w2 ⟨rfl, hb⟩
      have B2 := mkH (below_step B1.out hb (Nat.le_refl _))
      have X2 := mkH (below_step X1.out hb (Nat.le_refl _))
      clear hb B1 X1 CH
      go_wp2_with fail
      refine (RV.out _ B2.out).mono ?_
      rintro e _ ⟨rfl, rfl⟩
      clear RV
      go_wp2_with fail
      refine (CC.out _ B2.out).mono ?_
      rintro e w3 ⟨rfl, hb⟩
      have B3 := mkH (below_step B2.out hb (Nat.le_refl _))
      have X3 := mkH (below_step X2.out hb (Nat.le_refl _))
      clear hb B2 X2 CC
      go_wp2_with fail
      refine (RU.out _ B3.out).mono ?_
      rintro e _ ⟨rfl, rfl⟩
      clear RU
      go_wp2_with fail
      refine (CU.out _ X3.out).mono ?_
      rintro e _ ⟨rfl, rfl⟩
      clear CU
      go_wp2_with fail
      refine (CZ.out _ B3.out).mono ?_
      rintro e w4 ⟨rfl, hb⟩
      have B4 := mkH (below_step B3.out hb (Nat.le_refl _))
      have X4 := mkH (below_step X3.out hb (Nat.le_refl _))
      clear hb B3 X3 CZ
      go_wp2_with fail
      refine (CS.out _ B4.out).mono ?_
      rintro e w5 ⟨rfl, hb⟩
      have B5 := mkH (below_step B4.out hb (Nat.le_refl _))
      have X5 := mkH (below_step X4.out hb (Nat.le_refl _))
      clear hb B4 X4 CS
      go_wp2_with fail
      refine (RS.out _ B5.out).mono ?_
      rintro e w6 ⟨rfl, hb⟩
      have B6 := mkH (below_step B5.out hb (Nat.le_refl _))
      have X6 := mkH (below_step X5.out hb (Nat.le_refl _))
      clear hb B5 X5 RS
      go_wp2_with fail
      refine (CL.out _ B6.out).mono ?_
      rintro e w7 ⟨rfl, hb⟩
      have B7 := mkH (below_step B6.out hb (Nat.le_refl _))
      have X7 := mkH (below_step X6.out hb (Nat.le_refl _))
      clear hb B6 X6 CL
      go_wp2_with fail
      refine (RL.out _ B7.out).mono ?_
      rintro e w8 ⟨rfl, hb⟩
      have B8 := mkH (below_step B7.out hb (Nat.le_refl _))
      have X8 := mkH (below_step X7.out hb (Nat.le_refl _))
      clear hb B7 X7 RL
      go_wp2
      go_ret
      exact ⟨rfl, B8.out⟩
    · rw [atK_no hu] at RU
      go_enter Tryz.func22, Tryz.ntmps22
      go_wp2_with fail
      refine CJ.out.mono ?_
      rintro e w1 ⟨L, ao, cap, rfl, hLw, hb, hll, hT⟩
      obtain ⟨l1, l2, l3⟩ := HL0.out L hT
      rw [l1] at CZ
      rw [l2] at CC
      have HLw := mkH hLw
      have B1 := mkH hb
      have hLn : L.length ≤ 10000 := by omega
      have CU : Hid (∀ X, Below w1.heap.size w1 X → Calls Tryz.prog 100 #[.slice ao L.length cap, .int .i64 u] X fun e w' => e = .returned (.bool (decide (u ∈ L))) ∧ w' = X) := fun X hb => grhas_any (HLw.out.1.kept fun k hk => hb.block k (HLw.out.1.lt hk)) u hLn
      generalize L.length = ln at *
      rw [decide_eq_false (fun k => hu (l3 k))] at CC CU
      clear hLw hb hT l1 l2 l3 CJ HL0 HLw hv he ht hll hLn hu
      have X1 := mkH (Below.refl w1.heap.size w1)
      go_wp2_with fail
      refine (CH.out _ B1.out).mono ?_
      rintro e w2 ⟨rfl, hb⟩
      have B2 := mkH (below_step B1.out hb (Nat.le_refl _))
      have X2 := mkH (below_step X1.out hb (Nat.le_refl _))
      clear hb B1 X1 CH
      go_wp2_with fail
      refine (RV.out _ B2.out).mono ?_
      rintro e _ ⟨rfl, rfl⟩
      clear RV
      go_wp2_with fail
      refine (CC.out _ B2.out).mono ?_
      rintro e w3 ⟨rfl, hb⟩
      have B3 := mkH (below_step B2.out hb (Nat.le_refl _))
      have X3 := mkH (below_step X2.out hb (Nat.le_refl _))
      clear hb B2 X2 CC
      go_wp2_with fail
      refine (RU.out _ B3.out).mono ?_
      rintro e _ ⟨rfl, rfl⟩
      clear RU
      go_wp2_with fail
      refine (CZ.out _ B3.out).mono ?_
      rintro e w4 ⟨rfl, hb⟩
      have B4 := mkH (below_step B3.out hb (Nat.le_refl _))
      have X4 := mkH (below_step X3.out hb (Nat.le_refl _))
      clear hb B3 X3 CZ
      go_wp2_with fail
      refine (CS.out _ B4.out).mono ?_
      rintro e w5 ⟨rfl, hb⟩
      have B5 := mkH (below_step B4.out hb (Nat.le_refl _))
      have X5 := mkH (below_step X4.out hb (Nat.le_refl _))
      clear hb B4 X4 CS
      go_wp2_with fail
      refine (RS.out _ B5.out).mono ?_
      rintro e w6 ⟨rfl, hb⟩
      have B6 := mkH (below_step B5.out hb (Nat.le_refl _))
      have X6 := mkH (below_step X5.out hb (Nat.le_refl _))
      clear hb B5 X5 RS
      go_wp2_with fail
      refine (CL.out _ B6.out).mono ?_
      rintro e w7 ⟨rfl, hb⟩
      have B7 := mkH (below_step B6.out hb (Nat.le_refl _))
      have X7 := mkH (below_step X6.out hb (Nat.le_refl _))
      clear hb B6 X6 CL
      go_wp2_with fail
      refine (RL.out _ B7.out).mono ?_
      rintro e w8 ⟨rfl, hb⟩
      have B8 := mkH (below_step B7.out hb (Nat.le_refl _))
      have X8 := mkH (below_step X7.out hb (Nat.le_refl _))
      clear hb B7 X7 RL
      go_wp2
      go_ret
      exact ⟨rfl, B8.out⟩
end
section
variable {w : World} {F : Nat → Prop} {R : Nat} {n : Int} {x y : Gv} {vs : List Vx} {es : List Ex}
theorem mach_vertex (h : R10 w F R n vs es) (hr : Rv x vs es) (hvl : vs.length ≤ 1000) {s l r er : Int} (k : VxR n x s l r er y) :
    Calls Tryz.prog 92 #[.pointer (some ⟨R, 0, none⟩), .int .i64 s, .int .i64 l] w fun e w' => e = .returned (.tuple #[.int .i64 r, .int .i64 er]) ∧ ∃ F' vs', R10 w' F' R n vs' es ∧ Rv y vs' es ∧ vs'.length ≤ vs.length + 1 ∧ Step F F' w w' := by
  have hl := hr.len
  rcases k with ⟨a, rfl, rfl, rfl⟩ | ⟨a, b, rfl, rfl, rfl⟩ | ⟨a, b, c, rfl, rfl⟩
  · exact (gvertex_full h s l hvl (by omega)).mono fun e w' H => ⟨H.1, F, vs, h.below H.2, hr, by omega, Step.of_below H.2⟩
  · exact (gvertex_arg h s l hvl (by omega) b).mono fun e w' H => ⟨H.1, F, vs, h.below H.2, hr, by omega, Step.of_below H.2⟩
  · have hk := of_decide_eq_true b
    refine (gvertex_ok h s l hvl hr.ok.1 (by omega) ⟨⟨hk.1, hk.2.1⟩, hk.2.2.1, hk.2.2.2⟩).mono fun e w' H => ?_
    obtain ⟨r', F', q1, q2, q3, q4⟩ := H
    rw [hr.v] at q2
    obtain rfl := Least.one q2 c
    exact ⟨q1, F', _, q3, hr.vertex c.2.1 b, by rw [List.length_append]; exact Nat.le_refl _, q4⟩
theorem mach_insert (h : R10 w F R n vs es) (hr : Rv x vs es) (hvl : vs.length ≤ 1000) (hel : es.length ≤ 1000) {a b r er : Int} (k : InR x a b r er y) :
    Calls Tryz.prog 95 #[.pointer (some ⟨R, 0, none⟩), .int .i64 a, .int .i64 b] w fun e w' => e = .returned (.tuple #[.int .i64 r, .int .i64 er]) ∧ ∃ F' es', R10 w' F' R n vs es' ∧ Rv y vs es' ∧ es'.length ≤ es.length + 1 ∧ Step F F' w w' := by
  rcases k with ⟨p, rfl, rfl, rfl⟩ | ⟨p, rfl, rfl, rfl, rfl⟩ | ⟨p, q, c, rfl, rfl⟩
  · exact (ginsert_none h a b hvl (by rw [hr.v]; exact p)).mono fun e w' H => ⟨H.1, F, es, by rw [H.2]; exact h, hr, by omega, by rw [H.2]; exact Step.refl _ _⟩
  · exact (ginsert_arg h a hvl (by rw [hr.v]; exact p.1)).mono fun e w' H => ⟨H.1, F, es, by rw [H.2]; exact h, hr, by omega, by rw [H.2]; exact Step.refl _ _⟩
  · refine (ginsert_ok h a b hvl hel hr.en (by rw [hr.v]; exact p.1) (by rw [hr.v]; exact p.2) q).mono fun e w' H => ?_
    obtain ⟨r', F', q1, q2, q3, q4⟩ := H
    obtain rfl := Least.one (tk_ext (fun t => hr.edge) q2) c
    exact ⟨q1, F', _, q3, hr.insert c.2.1 p.1 p.2, by rw [List.length_append]; exact Nat.le_refl _, q4⟩
theorem mach_drop (h : R10 w F R n vs es) (hr : Rv x vs es) (hvl : vs.length ≤ 1000) (hel : es.length ≤ 1000) {v er : Int} (k : DrR x v er y) :
    Calls Tryz.prog 94 #[.pointer (some ⟨R, 0, none⟩), .int .i64 v] w fun e w' => e = .returned (.int .i64 er) ∧ ∃ F' vs', R10 w' F' R n vs' es ∧ Rv y vs' es ∧ vs'.length ≤ vs.length ∧ Step F F' w w' := by
  rcases k with ⟨p, rfl, rfl⟩ | ⟨p, q, rfl, rfl⟩ | ⟨p, q, rfl, rfl⟩
  · exact (gdrop_none h v hvl (by rw [hr.v]; exact p)).mono fun e w' H => ⟨H.1, F, vs, by rw [H.2]; exact h, hr, by omega, by rw [H.2]; exact Step.refl _ _⟩
  · exact (gdrop_state h v hvl hel (by rw [hr.v]; exact p) (hr.hase.1 q)).mono fun e w' H => ⟨H.1, F, vs, by rw [H.2]; exact h, hr, by omega, by rw [H.2]; exact Step.refl _ _⟩
  · have hq : ¬ ∃ z, z ∈ es ∧ (z.a = v ∨ z.b = v) := fun k => q (hr.hase.2 k)
    refine (gdrop_ok h v hvl hel (fun z hz => ⟨fun k => hq ⟨z, hz, .inl k⟩, fun k => hq ⟨z, hz, .inr k⟩⟩) hr.ok.1 (by rw [hr.v]; exact p)).mono fun e w' H => ?_
    obtain ⟨F', q1, q3, q4⟩ := H
    exact ⟨q1, F', _, q3, hr.drop hq, List.length_filter_le .., q4⟩
theorem mach_delete (h : R10 w F R n vs es) (hr : Rv x vs es) (hel : es.length ≤ 1000) {d er : Int} (k : DeR x d er y) :
    Calls Tryz.prog 96 #[.pointer (some ⟨R, 0, none⟩), .int .i64 d] w fun e w' => e = .returned (.int .i64 er) ∧ ∃ F' es', R10 w' F' R n vs es' ∧ Rv y vs es' ∧ es'.length ≤ es.length ∧ Step F F' w w' := by
  rcases k with ⟨p, rfl, rfl⟩ | ⟨⟨a, b, p⟩, rfl, rfl⟩
  · exact (gdelete_none h d hel (fun k => by obtain ⟨a, b, q⟩ := hr.edge.1 k; exact p a b q)).mono fun e w' H => ⟨H.1, F, es, by rw [H.2]; exact h, hr, by omega, by rw [H.2]; exact Step.refl _ _⟩
  · refine (gdelete_ok h d hel hr.en (hr.edge.2 ⟨a, b, p⟩)).mono fun e w' H => ?_
    obtain ⟨F', q1, q3, q4⟩ := H
    exact ⟨q1, F', _, q3, hr.delete d, List.length_filter_le .., q4⟩
end
structure Pm (w0 W : World) (F1 : Nat → Prop) (B : Nat) (y : Gv) (T : Nat) (F2 : Nat → Prop) (R : Nat) (x : Gv) (vs : List Vx) (es : List Ex) (n : Int) (m : Nat) : Prop where
  a : Lw F1 W B n m y (T + 1)
  b : R10 W F2 R n vs es
  r : Rv x vs es
  vl : vs.length ≤ T
  el : es.length ≤ T
  tb : T + 1 ≤ 200
  dis : ∀ k, F1 k → ¬ F2 k
  la : ∀ k, F1 k → w0.heap.size ≤ k
  lb : ∀ k, F2 k → w0.heap.size ≤ k
  bl : Below w0.heap.size w0 W
section
variable {w0 W W' : World} {F1 F2 F' : Nat → Prop} {B R T : Nat} {x y : Gv} {vs vs' : List Vx} {es es' : List Ex} {n : Int} {m : Nat}
theorem Pl.half (h : Pl w0 W F1 B x T F2 R vs es n m) (hT : T + 1 ≤ 200) (hl : Lw F' W' B n m y (T + 1)) (hs : Step F1 F' W W') : Pm w0 W' F' B y T F2 R x vs es n m :=
  ⟨hl, h.b.step hs (fun k h2 h1 => h.dis k h1 h2), h.r, h.vl, h.el, hT, fun k k1 k2 => (hs.ext k k1).elim (fun k3 => h.dis k k3 k2) (fun k3 => by have := h.b.lt k k2; omega), hs.from h.bl.size h.la, h.lb, hs.start h.bl (Nat.le_refl _) h.la⟩
theorem Pm.whole (h : Pm w0 W F1 B y T F2 R x vs es n m) (hl : R10 W' F' R n vs' es') (hr : Rv y vs' es') (h1 : vs'.length ≤ T + 1) (h2 : es'.length ≤ T + 1) (hs : Step F2 F' W W') : Pl w0 W' F1 B y (T + 1) F' R vs' es' n m :=
  ⟨Lg.step h.a hs h.dis, hl, hr, h1, h2, h.tb, fun k k1 k2 => (hs.ext k k2).elim (fun k3 => h.dis k k1 k3) (fun k3 => by have := Lg.lt h.a k k1; omega), h.la, hs.from h.bl.size h.lb, hs.start h.bl (Nat.le_refl _) h.lb⟩
end
section
variable {w0 W : World} {F1 F2 : Nat → Prop} {B R T : Nat} {x : Gv} {vs : List Vx} {es : List Ex} {n : Int} {m : Nat}
theorem half_vertex (h : Pl w0 W F1 B x T F2 R vs es n m) (hT : T + 1 ≤ 200) (s l : Int) : Calls Tryz.prog 83 #[.pointer (some ⟨B, 0, none⟩), .int .i64 s, .int .i64 l] W fun e w' => ∃ r er y F', e = .returned (.tuple #[.int .i64 r, .int .i64 er]) ∧ VxR n x s l r er y ∧ Pm w0 w' F' B y T F2 R x vs es n m ∧ Step F1 F' W w' := (lw_vertex h.a hT s l).mono fun e w' ⟨r, er, y, F', q1, q2, q3, q4⟩ => ⟨r, er, y, F', q1, q2, h.half hT q3 q4, q4⟩
theorem half_insert (h : Pl w0 W F1 B x T F2 R vs es n m) (hT : T + 1 ≤ 200) (a b : Int) (ha : B64 a) (hb : B64 b) : Calls Tryz.prog 84 #[.pointer (some ⟨B, 0, none⟩), .int .i64 a, .int .i64 b] W fun e w' => ∃ r er y F', e = .returned (.tuple #[.int .i64 r, .int .i64 er]) ∧ InR x a b r er y ∧ Pm w0 w' F' B y T F2 R x vs es n m ∧ Step F1 F' W w' := (lw_insert h.a hT a b ha hb).mono fun e w' ⟨r, er, y, F', q1, q2, q3, q4⟩ => ⟨r, er, y, F', q1, q2, h.half hT q3 q4, q4⟩
theorem half_drop (h : Pl w0 W F1 B x T F2 R vs es n m) (hT : T + 1 ≤ 200) (v : Int) (hb : B64 v) : Calls Tryz.prog 93 #[.pointer (some ⟨B, 0, none⟩), .int .i64 v] W fun e w' => ∃ er y F', e = .returned (.int .i64 er) ∧ DrR x v er y ∧ Pm w0 w' F' B y T F2 R x vs es n m ∧ Step F1 F' W w' := (lw_drop h.a hT v hb).mono fun e w' ⟨er, y, F', q1, q2, q3, q4⟩ => ⟨er, y, F', q1, q2, h.half hT q3 q4, q4⟩
theorem half_delete (h : Pl w0 W F1 B x T F2 R vs es n m) (hT : T + 1 ≤ 200) (v : Int) (hb : B64 v) : Calls Tryz.prog 85 #[.pointer (some ⟨B, 0, none⟩), .int .i64 v] W fun e w' => ∃ er y F', e = .returned (.int .i64 er) ∧ DeR x v er y ∧ Pm w0 w' F' B y T F2 R x vs es n m ∧ Step F1 F' W w' := (lw_delete h.a hT v hb).mono fun e w' ⟨er, y, F', q1, q2, q3, q4⟩ => ⟨er, y, F', q1, q2, h.half hT q3 q4, q4⟩
theorem rest_vertex {y : Gv} {s l r er : Int} (h : Pm w0 W F1 B y T F2 R x vs es n m) (k : VxR n x s l r er y) : Calls Tryz.prog 92 #[.pointer (some ⟨R, 0, none⟩), .int .i64 s, .int .i64 l] W fun e w' => e = .returned (.tuple #[.int .i64 r, .int .i64 er]) ∧ ∃ F' vs' es', Pl w0 w' F1 B y (T + 1) F' R vs' es' n m ∧ Step F2 F' W w' := (mach_vertex h.b h.r (by have := h.vl; have := h.tb; omega) k).mono fun e w' ⟨q1, F', vs', q2, q3, q4, q5⟩ => ⟨q1, F', vs', es, h.whole q2 q3 (by have := h.vl; omega) (by have := h.el; omega) q5, q5⟩
theorem rest_insert {y : Gv} {s l r er : Int} (h : Pm w0 W F1 B y T F2 R x vs es n m) (k : InR x s l r er y) : Calls Tryz.prog 95 #[.pointer (some ⟨R, 0, none⟩), .int .i64 s, .int .i64 l] W fun e w' => e = .returned (.tuple #[.int .i64 r, .int .i64 er]) ∧ ∃ F' vs' es', Pl w0 w' F1 B y (T + 1) F' R vs' es' n m ∧ Step F2 F' W w' := (mach_insert h.b h.r (by have := h.vl; have := h.tb; omega) (by have := h.el; have := h.tb; omega) k).mono fun e w' ⟨q1, F', es', q2, q3, q4, q5⟩ => ⟨q1, F', vs, es', h.whole q2 q3 (by have := h.vl; omega) (by have := h.el; omega) q5, q5⟩
theorem rest_drop {y : Gv} {v er : Int} (h : Pm w0 W F1 B y T F2 R x vs es n m) (k : DrR x v er y) : Calls Tryz.prog 94 #[.pointer (some ⟨R, 0, none⟩), .int .i64 v] W fun e w' => e = .returned (.int .i64 er) ∧ ∃ F' vs' es', Pl w0 w' F1 B y (T + 1) F' R vs' es' n m ∧ Step F2 F' W w' := (mach_drop h.b h.r (by have := h.vl; have := h.tb; omega) (by have := h.el; have := h.tb; omega) k).mono fun e w' ⟨q1, F', vs', q2, q3, q4, q5⟩ => ⟨q1, F', vs', es, h.whole q2 q3 (by have := h.vl; omega) (by have := h.el; omega) q5, q5⟩
theorem rest_delete {y : Gv} {v er : Int} (h : Pm w0 W F1 B y T F2 R x vs es n m) (k : DeR x v er y) : Calls Tryz.prog 96 #[.pointer (some ⟨R, 0, none⟩), .int .i64 v] W fun e w' => e = .returned (.int .i64 er) ∧ ∃ F' vs' es', Pl w0 w' F1 B y (T + 1) F' R vs' es' n m ∧ Step F2 F' W w' := (mach_delete h.b h.r (by have := h.el; have := h.tb; omega) k).mono fun e w' ⟨q1, F', es', q2, q3, q4, q5⟩ => ⟨q1, F', vs, es', h.whole q2 q3 (by have := h.vl; omega) (by have := h.el; omega) q5, q5⟩
end
def KeepC (W : World) (F1 F2 : Nat → Prop) (W' : World) : Prop := ∀ b o v, b < W.heap.size → ¬ F1 b → ¬ F2 b → W.cell? ⟨b, o, none⟩ = some v → W'.cell? ⟨b, o, none⟩ = some v
def KeepA (W : World) (F1 : Nat → Prop) (W' : World) : Prop := W.heap.size ≤ W'.heap.size ∧ ∀ b o v, b < W.heap.size → ¬ F1 b → W.cell? ⟨b, o, none⟩ = some v → W'.cell? ⟨b, o, none⟩ = some v
theorem KeepA.then {W W2 W3 : World} {F1 F2 F' : Nat → Prop} (h : KeepA W F1 W2) (hs : Step F2 F' W2 W3) : KeepC W F1 F2 W3 := fun b o v hb n1 n2 hc => (hs.cell (Nat.lt_of_lt_of_le hb h.1) n2).trans (h.2 b o v hb n1 hc)
theorem KeepA.then' {W W2 W3 : World} {F1 F2 : Nat → Prop} (h : KeepA W F1 W2) (hs : KeepA W2 F2 W3) : KeepC W F1 F2 W3 := fun b o v hb n1 n2 hc => hs.2 b o v (Nat.lt_of_lt_of_le hb h.1) n2 (h.2 b o v hb n1 hc)
theorem KeepA.of {W W1 W2 : World} {F1 F' : Nat → Prop} (hb : Below W.heap.size W W1) (hs : Step F1 F' W1 W2) : KeepA W F1 W2 := ⟨Nat.le_trans hb.size hs.size, fun b o v hl n1 hc => (hs.cell (Nat.lt_of_lt_of_le hl hb.size) n1).trans ((hb.cell (p := ⟨b, o, none⟩) hl).trans hc)⟩
theorem do10_any {w0 W : World} {F1 F2 : Nat → Prop} {B R T : Nat} {x : Gv} {vs : List Vx} {es : List Ex} {n : Int} {m : Nat} (h : Pl w0 W F1 B x T F2 R vs es n m) (hT : T + 1 ≤ 200) (d e a b x0 y0 : Int) (be : B64 e) (ba : B64 a) (bb : B64 b) :
    Calls Tryz.prog 21 #[.pointer (some ⟨B, 0, none⟩), .pointer (some ⟨R, 0, none⟩), .agg #[.int .u8 d, .int .i64 e, .int .i64 a, .int .i64 b, .int .i64 x0, .int .i64 y0]] W fun r w' => (r = .returned (.bool true) ∧ ∃ F1' x' F2' vs' es', Pl w0 w' F1' B x' (T + 1) F2' R vs' es' n m) ∧ KeepC W F1 F2 w' := by
  obtain ⟨K, hK⟩ : ∃ K, K = W.heap.size := ⟨_, rfl⟩
  obtain ⟨W1, hW1⟩ : ∃ W1, W1 = (W.alloc (.cells #[.int .u8 d, .int .i64 e, .int .i64 a, .int .i64 b, .int .i64 x0, .int .i64 y0] 72)) := ⟨_, rfl⟩
  have hA : Blk W1 W.heap.size 72 #[.int .u8 d, .int .i64 e, .int .i64 a, .int .i64 b, .int .i64 x0, .int .i64 y0] := by rw [hW1]; exact Blk.new W _ _
  have HP : Hid (Pl w0 W1 F1 B x T F2 R vs es n m) := by
    show Pl w0 W1 F1 B x T F2 R vs es n m
    rw [hW1]
    exact h.below ((Below.refl _ _).alloc (Nat.le_refl _) _)
  have hl1 : ∀ k, F1 k → k < W.heap.size := Lg.lt h.a
  have HA := mkH hA
  have HAB : Hid (Below W.heap.size W W1) := by rw [hW1]; exact (Below.refl _ _).alloc (Nat.le_refl _) _
  have HL1 := mkH hl1
  have HL2 : Hid (∀ k, F2 k → k < W.heap.size) := h.b.lt
  have HTe := mkH be
  have HTa := mkH ba
  have HTb := mkH bb
  have c0 := hA.at (j := 0) rfl
  have c1 := hA.at (j := 1) rfl
  have c2 := hA.at (j := 2) rfl
  have c3 := hA.at (j := 3) rfl
  have c4 := hA.at (j := 4) rfl
  have c5 := hA.at (j := 5) rfl
  simp only [List.getElem_toArray, List.getElem_cons_zero, List.getElem_cons_succ] at c0 c1 c2 c3 c4 c5
  have HO : Hid (∀ X Y F', Below W1.heap.size W1 X → Step F1 F' X Y → ∀ j, Y.cell? ⟨W.heap.size, j, none⟩ = W1.cell? ⟨W.heap.size, j, none⟩) := fun X Y F' hb hs j => (hs.cell (Nat.lt_of_lt_of_le hA.lt hb.size) (fun k => by have := hl1 _ k; omega)).trans (hb.cell (p := ⟨W.heap.size, j, none⟩) hA.lt)
  clear h hA hl1 be ba bb hK K
  by_cases d0 : d = 0
  · subst d0
    subst hW1
    go_enter Tryz.func21, Tryz.ntmps21
    go_wp2_with fail
    refine (half_vertex HP.out hT x0 y0).mono ?_
    rintro r2 w2 ⟨r, er, y, F', rfl, hR, hM, hS⟩
    have z4 := (HO.out _ w2 F' (Below.refl _ _) hS 4).trans c4
    have z5 := (HO.out _ w2 F' (Below.refl _ _) hS 5).trans c5
    have HM := mkH hM
    have HR := mkH hR
    have HKA := mkH (KeepA.of HAB.out hS)
    clear c0 c1 c2 c3 c4 c5 hM hR hS HP HO
    go_wp2_with fail
    refine (rest_vertex HM.out HR.out).mono ?_
    rintro r3 w3 ⟨rfl, G2, vs2, es2, hP2, hS2⟩
    have HKC := mkH (HKA.out.then hS2)
    clear hS2 HKA HM HR z4 z5
    have HF := mkH hP2
    clear hP2
    go_wp2
    go_ret
    exact ⟨⟨rfl, _, _, _, _, _, HF.out⟩, HKC.out⟩
  by_cases d1 : d = 1
  · subst d1
    have CU := mkH (half_drop (HP.out.below (Below.refl W1.heap.size W1).drew) hT a HTa.out)
    have z2 : W1.drew.cell? ⟨W.heap.size, 2, none⟩ = some (.int .i64 a) := c2
    have HO2 : Hid (∀ Y F', Step F1 F' W1.drew Y → Y.cell? ⟨W.heap.size, 2, none⟩ = some (.int .i64 a)) := fun Y F' hs => (HO.out W1.drew Y F' (Below.refl _ _).drew hs 2).trans c2
    have HD : Hid (∀ (X : World) G y T2 er, Pm w0 X G B y T F2 R x vs es n m → DrR x a er y → Calls Tryz.prog 94 #[.pointer (some ⟨R, 0, none⟩), .int .i64 a] X fun e w' => e = .returned (.int .i64 er) ∧ (∃ F' vs' es', Pl w0 w' G B y (T + 1) F' R vs' es' n m ∧ Step F2 F' X w') ∧ (∀ v, W.heap.size < X.heap.size → X.cell? ⟨W.heap.size, 2, none⟩ = some v → w'.cell? ⟨W.heap.size, 2, none⟩ = some v) ∧ KeepA X F2 w') := fun X G y (_ : Nat) er k1 k2 => (rest_drop k1 k2).mono fun e w' ⟨q1, F', vs', es', q2, q3⟩ => ⟨q1, ⟨F', vs', es', q2, q3⟩, fun v hl hc => (q3.cell hl (fun k => Nat.lt_irrefl _ (HL2.out _ k))).trans hc, KeepA.of (Below.refl _ _) q3⟩
    clear HP HO
    subst hW1
    go_enter Tryz.func21, Tryz.ntmps21
    go_wp2
    go_region_held3 (fun w' => w'.cell? ⟨W.heap.size, 2, none⟩ = some (.int .i64 a))
      (first | go_keep | exact HO2.out _ _ hS | exact hC3 _ (by have := hS.size; simp at this; omega) (HO2.out _ _ hS) | trivial)
      (first | (go_at_call 94; refine (HD.out _ _ _ 0 _ hM hR).mono ?_; rintro r3 w3 ⟨rfl, hP, hC3, hK3⟩) | (go_at_call 93; refine CU.out.mono ?_; rintro r2 w2 ⟨er, y, F', rfl, hR, hM, hS⟩) | fail)
    obtain ⟨G2, vs2, es2, hP2, _⟩ := hP
    have HKC := mkH (KeepA.then' (KeepA.of (HAB.out.trans ((Below.refl _ _).drew.mono HAB.out.size)) hS) hK3)
    clear hR hM hS hC3 hK3 CU HO2 HD
    have HF := mkH hP2
    clear hP2
    go_wp2
    go_ret
    exact ⟨⟨rfl, _, _, _, _, _, HF.out⟩, HKC.out⟩
  by_cases d2 : d = 2
  · subst d2
    subst hW1
    go_enter Tryz.func21, Tryz.ntmps21
    go_wp2_with fail
    refine (half_insert HP.out hT a b HTa.out HTb.out).mono ?_
    rintro r2 w2 ⟨r, er, y, F', rfl, hR, hM, hS⟩
    have z2 := (HO.out _ w2 F' (Below.refl _ _) hS 2).trans c2
    have z3 := (HO.out _ w2 F' (Below.refl _ _) hS 3).trans c3
    have HM := mkH hM
    have HR := mkH hR
    have HKA := mkH (KeepA.of HAB.out hS)
    clear c0 c1 c2 c3 c4 c5 hM hR hS HP HO
    go_wp2_with fail
    refine (rest_insert HM.out HR.out).mono ?_
    rintro r3 w3 ⟨rfl, G2, vs2, es2, hP2, hS2⟩
    have HKC := mkH (HKA.out.then hS2)
    clear hS2 HKA HM HR z2 z3
    have HF := mkH hP2
    clear hP2
    go_wp2
    go_ret
    exact ⟨⟨rfl, _, _, _, _, _, HF.out⟩, HKC.out⟩
  have e0 : (d == 0) = false := by simpa using d0
  have e1 : (d == 1) = false := by simpa using d1
  have e2 : (d == 2) = false := by simpa using d2
  have CU := mkH (half_delete (HP.out.below (Below.refl W1.heap.size W1).drew) hT e HTe.out)
  have z1 : W1.drew.cell? ⟨W.heap.size, 1, none⟩ = some (.int .i64 e) := c1
  have HO2 : Hid (∀ Y F', Step F1 F' W1.drew Y → Y.cell? ⟨W.heap.size, 1, none⟩ = some (.int .i64 e)) := fun Y F' hs => (HO.out W1.drew Y F' (Below.refl _ _).drew hs 1).trans c1
  have HD : Hid (∀ (X : World) G y T2 er, Pm w0 X G B y T F2 R x vs es n m → DeR x e er y → Calls Tryz.prog 96 #[.pointer (some ⟨R, 0, none⟩), .int .i64 e] X fun e w' => e = .returned (.int .i64 er) ∧ (∃ F' vs' es', Pl w0 w' G B y (T + 1) F' R vs' es' n m ∧ Step F2 F' X w') ∧ (∀ v, W.heap.size < X.heap.size → X.cell? ⟨W.heap.size, 1, none⟩ = some v → w'.cell? ⟨W.heap.size, 1, none⟩ = some v) ∧ KeepA X F2 w') := fun X G y (_ : Nat) er k1 k2 => (rest_delete k1 k2).mono fun e w' ⟨q1, F', vs', es', q2, q3⟩ => ⟨q1, ⟨F', vs', es', q2, q3⟩, fun v hl hc => (q3.cell hl (fun k => Nat.lt_irrefl _ (HL2.out _ k))).trans hc, KeepA.of (Below.refl _ _) q3⟩
  clear HP HO
  subst hW1
  go_enter Tryz.func21, Tryz.ntmps21
  go_wp2
  go_region_held3 (fun w' => w'.cell? ⟨W.heap.size, 1, none⟩ = some (.int .i64 e))
    (first | go_keep | exact HO2.out _ _ hS | exact hC3 _ (by have := hS.size; simp at this; omega) (HO2.out _ _ hS) | trivial)
    (first | (go_at_call 96; refine (HD.out _ _ _ 0 _ hM hR).mono ?_; rintro r3 w3 ⟨rfl, hP, hC3, hK3⟩) | (go_at_call 85; refine CU.out.mono ?_; rintro r2 w2 ⟨er, y, F', rfl, hR, hM, hS⟩) | fail)
  obtain ⟨G2, vs2, es2, hP2, _⟩ := hP
  have HKC := mkH (KeepA.then' (KeepA.of (HAB.out.trans ((Below.refl _ _).drew.mono HAB.out.size)) hS) hK3)
  clear hR hM hS hC3 hK3 CU HO2 HD
  have HF := mkH hP2
  clear hP2
  go_wp2
  go_ret
  exact ⟨⟨rfl, _, _, _, _, _, HF.out⟩, HKC.out⟩
theorem tk_count {last : Int} {xs l : List Int} (h : Np last xs) (hl : l.Nodup) (hm : ∀ t, t ∈ l ↔ Tk last xs t) : (l.length : Int) = last - xs.length := by
  obtain ⟨_, nd, rg, l0⟩ := h
  have sn : ((List.range last.toNat).map fun k : Nat => (k : Int) + 1).Nodup :=
    List.pairwise_map.2 (List.nodup_range.imp fun h e => h (by omega))
  have sm : ∀ t, t ∈ ((List.range last.toNat).map fun k : Nat => (k : Int) + 1) ↔ 1 ≤ t ∧ t ≤ last := fun t => by
    simp only [List.mem_map, List.mem_range]
    exact ⟨fun ⟨k, hk, e⟩ => by omega, fun ⟨h1, h2⟩ => ⟨(t - 1).toNat, by omega, by omega⟩⟩
  have sl : ((List.range last.toNat).map fun k : Nat => (k : Int) + 1).length = last.toNat := by simp
  generalize ((List.range last.toNat).map fun k : Nat => (k : Int) + 1) = S at *
  have hp : (xs ++ l).Perm S := by
    refine (List.perm_ext_iff_of_nodup (List.nodup_append.2 ⟨nd, hl, fun a ha b hb e => ?_⟩) sn).2 fun t => ?_
    · subst e
      exact ((hm a).1 hb).2.2 ha
    · rw [List.mem_append, sm, hm]
      unfold Tk
      constructor
      · rintro (k | k)
        · exact rg t k
        · exact ⟨k.1, k.2.1⟩
      · rintro ⟨k1, k2⟩
        by_cases k : t ∈ xs
        · exact .inl k
        · exact .inr ⟨k1, k2, k⟩
  have := hp.length_eq
  rw [List.length_append, sl] at this
  omega
section
variable {w0 W W' : World} {F1 F2 : Nat → Prop} {B R T : Nat} {x : Gv} {vs : List Vx} {es : List Ex} {n : Int} {m : Nat}
theorem pl_len (h : Pl w0 W F1 B x T F2 R vs es n m) : Calls Tryz.prog 25 #[.pointer (some ⟨B, 0, none⟩)] W fun e w' => e = .returned (.tuple #[.int .i64 vs.length, .int .i64 es.length]) ∧ Below W.heap.size W w' := by
  obtain ⟨p, g, ⟨K, D, q⟩, hE, _⟩ := h.a
  have hb := q.bd
  have ht := q.tb
  refine (glen_any q.gm (by omega) (by omega)).mono fun e w' H => ?_
  have hv : g.vl - (g.vb.length : Int) = vs.length := by rw [q.vc, h.r.len]
  have he : (es.length : Int) = g.ne := by
    have hn : Np g.el g.eb := by obtain ⟨c, vv, ev, Ff, Fb, hX⟩ := q.gm; exact hX.en.p
    have := tk_count hn h.r.en (fun t => by rw [h.r.edge, q.et, hE.isS])
    rw [List.length_map] at this
    rw [this, q.ec]
  rw [← hv, he]
  exact H
theorem pl_edge_no (h : Pl w0 W F1 B x T F2 R vs es n m) {e : Int} (he : B64 e) (hno : e ∉ es.map Ex.e) : Calls Tryz.prog 23 #[.pointer (some ⟨B, 0, none⟩), .int .i64 e] W fun r w' => r = .returned (.tuple #[.int .i64 0, .int .i64 0, .int .i64 0, .bool false, .bool false]) ∧ Below W.heap.size W w' := by
  obtain ⟨p, g, ⟨K, D, q⟩, hE, _⟩ := h.a
  exact edge_none q.gm he (hE.isN fun a b k => hno (h.r.edge.2 ⟨a, b, k⟩))
theorem pl_edge (h : Pl w0 W F1 B x T F2 R vs es n m) {e : Int} {i : Nat} {z : Ex} (he : B64 e) (hi : es[i]? = some z) (hz : z.e = e) : Calls Tryz.prog 23 #[.pointer (some ⟨B, 0, none⟩), .int .i64 e] W fun r w' => (∃ l t, r = .returned (.tuple #[.int .i64 z.a, .int .i64 z.b, .int .i64 l, .bool t, .bool true])) ∧ Below W.heap.size W w' := by
  obtain ⟨p, g, ⟨K, D, q⟩, hE, _⟩ := h.a
  obtain ⟨y, k1, k2, k3⟩ := (hE e z.a z.b).2 (h.r.mem.2 ⟨z, List.mem_of_getElem? hi, hz, rfl, rfl⟩)
  refine (edge_some q.gm he k1).mono fun r w' H => ⟨⟨y.l, y.t, ?_⟩, H.2⟩
  rw [← k2, ← k3]
  exact H.1
end
theorem r10_new (W : World) (n : Int) : R10 (W.alloc (.cells #[.int .i64 n, .slice none 0 0, .slice none 0 0] 70)) (fun k => k = W.heap.size) W.heap.size n [] [] :=
  ⟨⟨_, _, Blk.new W _ _, RowW.empty _ _ _, RowW.empty _ _ _, (fun k hk => by cases hk), (fun k hk => by cases hk)⟩, rfl, fun k hk => by subst hk; simp⟩
theorem levplay_walk (ao : Option Addr) (ca : Nat) (xs : List Int) (n : Int) (co : Option Addr) (cc : Nat) (qs : List A10.Ac) (w : World) (hka : UAt w ao xs) (hwa : Wu xs) (hla : xs.length ≤ 9223372036854775807) (hkq : A10.AcAt w co qs) (hlq : qs.length ≤ 9223372036854775807) :
    Calls Tryz.prog 5 #[.slice ao xs.length ca, .int .i64 n, .slice co qs.length cc] w fun e w' => e = .returned (.bool true) ∧ Below w.heap.size w w' := by
  have HA : Hid (UAt w ao xs ∧ Wu xs) := ⟨hka, hwa⟩
  have HQ := mkH hkq
  clear hka hwa hkq
  obtain ⟨na, hna⟩ : ∃ na, na = xs.length := ⟨_, rfl⟩
  obtain ⟨c, hm⟩ : ∃ c, c = qs.length := ⟨_, rfl⟩
  rw [← hna, ← hm]
  rw [← hna] at hla
  rw [← hm] at hlq
  have HNA := mkH hna
  have HM := mkH hm
  clear hna hm
  have wake : ∀ wx : World, Below w.heap.size w wx → Calls Tryz.prog 19 #[] wx fun e w' => e = .returned (.bool true) ∧ Below w.heap.size w w' := fun wx hb => (wakes10_any wx).mono fun e w' ⟨h1, h2⟩ => ⟨h1, hb.trans (h2.mono hb.size)⟩
  have WK := mkH wake
  clear wake
  by_cases hq : (150 : Int) < (c : Int)
  · go_enter Tryz.func5, Tryz.ntmps5
    go_wp2_with fail
    refine (WK.out _ (Below.refl _ _)).mono ?_
    rintro e w1 ⟨rfl, hb⟩
    have HB1 := mkH hb
    clear hb
    go_wp2
    go_ret
    exact ⟨rfl, HB1.out⟩
  by_cases ha : (60 : Int) < (na : Int)
  · go_enter Tryz.func5, Tryz.ntmps5
    go_wp2_with fail
    refine (WK.out _ (Below.refl _ _)).mono ?_
    rintro e w1 ⟨rfl, hb⟩
    have HB1 := mkH hb
    clear hb
    go_wp2
    go_ret
    exact ⟨rfl, HB1.out⟩
  have hN1 := dnew_yes ao xs.length ca xs w rfl HA.out.1 HA.out.2 (by have := HNA.out; omega)
  rw [← HNA.out] at hN1
  have HN1 := mkH hN1
  clear hN1 HA
  go_enter Tryz.func5, Tryz.ntmps5
  go_wp2_with fail
  refine HN1.out.mono ?_
  rintro e w1 ⟨D1, E1, rfl, hd1, he1, hD1, hb1⟩
  have HD1 := mkH hD1
  have HB1 := mkH hb1
  have s1 := hb1.size
  have t1 := hD1.lt
  have u1 := hD1.gl
  clear hD1 hb1 HN1
  by_cases hn : n < 1 ∨ 4194304 < n
  · have HNo := mkH (fun d : Option Addr => lnew_no d n w1 hn)
    by_cases hn1 : n < 1
    · have hnb : n < 1 := hn1
      clear hn HD1 s1 t1 u1 hd1 he1 hn1
      go_wp2_with fail
      refine (HNo.out _).mono ?_
      rintro e _ ⟨rfl, rfl⟩
      go_wp2_with fail
      refine (WK.out _ HB1.out).mono ?_
      rintro e w3 ⟨rfl, hb⟩
      have HB3 := mkH hb
      clear hb
      go_wp2
      go_ret
      exact ⟨rfl, HB3.out⟩
    · have hnb : 4194304 < n := by omega
      clear hn HD1 s1 t1 u1 hd1 he1
      go_wp2_with fail
      refine (HNo.out _).mono ?_
      rintro e _ ⟨rfl, rfl⟩
      go_wp2_with fail
      refine (WK.out _ HB1.out).mono ?_
      rintro e w3 ⟨rfl, hb⟩
      have HB3 := mkH hb
      clear hb
      go_wp2
      go_ret
      exact ⟨rfl, HB3.out⟩
  obtain ⟨N, rfl⟩ : ∃ N : Nat, n = (N : Int) := ⟨n.toNat, by omega⟩
  have hN0 : 1 ≤ N ∧ N ≤ 4194304 := by omega
  have hN1 : ¬ (N : Int) < 1 := by omega
  have hN2 : ¬ (4194304 : Int) < (N : Int) := by omega
  clear hn
  obtain ⟨m, hmm⟩ : ∃ m, m = bitLen N := ⟨_, rfl⟩
  have HC1 := mkH (lg_new (some ⟨D1, 0, none⟩) (some (D1, E1, xs)) N w1 hN0.1 hN0.2 (.inr ⟨D1, E1, xs, rfl, rfl, HD1.out⟩))
  rw [← hmm] at HC1
  clear hmm hN0
  go_wp2_with fail
  refine HC1.out.mono ?_
  rintro e w3 ⟨B1, F1, rfl, hL, hF, hb3⟩
  have hF1 : ∀ k, F1 k → w1.heap.size ≤ k ∨ k = D1 ∨ k = E1 := fun k hk => (hF k hk).imp id fun ⟨D, Dg, zs, e, h⟩ => by cases e; exact h
  have hF1l := hL.lt
  have s3 := hb3.size
  obtain ⟨w4, hw4⟩ : ∃ w4, w4 = w3.alloc (.cells #[.int .i64 (N : Int), .slice none 0 0, .slice none 0 0] 70) := ⟨_, rfl⟩
  obtain ⟨R, hR⟩ : ∃ R, R = w3.heap.size := ⟨_, rfl⟩
  have hb4 : Below w3.heap.size w3 w4 := by rw [hw4]; exact (Below.refl _ _).alloc (Nat.le_refl _) _
  have hr4 : R10 w4 (fun k => k = R) R N [] [] := by rw [hw4, hR]; exact r10_new w3 N
  have HT0 : Hid (Pl w w4 F1 B1 ⟨[], n0, n0, []⟩ 0 (fun k => k = R) R [] [] N m) := by
    refine ⟨Lg.below hL hb4, hr4, Rv.zero, Nat.le_refl _, Nat.le_refl _, by omega, fun k k1 k2 => ?_, fun k k1 => ?_, fun k k2 => ?_, below_step (below_step HB1.out hb3 (Nat.le_refl _)) hb4 (Nat.le_refl _)⟩
    · have := hF1l k k1; omega
    · have := hF1 k k1; omega
    · have := HB1.out.size; omega
  clear hL hF hb3 hb4 hF1 hF1l HB1 HC1 HD1 s1 s3 t1 u1 hd1 he1 hr4
  go_wp2
  rw [← hR, ← hw4]
  clear hR hw4
  go_loopw [12] (fun vk wr => ∃ (k : Nat) (x : Gv) (F1 F2 : Nat → Prop) (vs : List Vx) (es : List Ex), vk = .int .i64 k ∧ k ≤ c ∧ Hid (Pl w wr F1 B1 x k F2 R vs es N m)) (fun vk _ => c - (intOf vk).toNat)
  case atStart => exact ⟨0, _, _, _, _, _, rfl, Nat.zero_le _, HT0.out⟩
  case round =>
    clear HT0
    obtain ⟨k, x, F1, F2, vs, es, rfl, hkm, HT⟩ := hrel
    by_cases hlt : k < c
    · rcases HQ.out with h | ⟨b, off, rfl, hbl, hc⟩
      · have := HM.out; rw [h] at this; simp at this; omega
      · have hok := (hc k (by rw [← HM.out]; exact hlt)).2
        have CL : Hid (∀ wx, Below w.heap.size w wx → A10.AcIn wx b (off + k * 6) (A10.aAt qs k)) := fun wx hb => (hc k (by rw [← HM.out]; exact hlt)).1.below hb hbl
        obtain ⟨ob1, oe, oa, ob, ox, oy⟩ := hok
        have hbe : B64 (A10.aAt qs k).e := oe
        have hba : B64 (A10.aAt qs k).a := oa
        have hbb : B64 (A10.aAt qs k).b := ob
        clear hc ob1 oe oa ob ox oy
        have hlti : (k : Int) < (c : Int) := by omega
        have hT1 : k + 1 ≤ 200 := by omega
        generalize A10.aAt qs k = q at *
        obtain ⟨qd, qe, qa, qb, qx, qy⟩ := q
        simp only at hbe hba hbb
        have hTe := mkH hbe
        have hTa := mkH hba
        have hTb := mkH hbb
        clear hbe hba hbb hbl
        obtain ⟨c0, c1, c2, c3, c4, c5⟩ := CL.out _ HT.out.bl
        obtain ⟨w5, hw5⟩ : ∃ w5, w5 = wr.alloc (.cells #[.int .u8 qd, .int .i64 qe, .int .i64 qa, .int .i64 qb, .int .i64 qx, .int .i64 qy] 72) := ⟨_, rfl⟩
        have hA : Blk w5 wr.heap.size 72 #[.int .u8 qd, .int .i64 qe, .int .i64 qa, .int .i64 qb, .int .i64 qx, .int .i64 qy] := by rw [hw5]; exact Blk.new wr _ _
        have hb5 : Below wr.heap.size wr w5 := by rw [hw5]; exact (Below.refl _ _).alloc (Nat.le_refl _) _
        have HT5 := mkH (HT.out.below hb5)
        have hnA : ¬ F1 wr.heap.size := fun k1 => Nat.lt_irrefl _ (Lg.lt HT.out.a _ k1)
        have hnB : ¬ F2 wr.heap.size := fun k1 => Nat.lt_irrefl _ (HT.out.b.lt _ k1)
        have HAC := mkH hA
        have HNN : Hid (¬ F1 wr.heap.size ∧ ¬ F2 wr.heap.size) := ⟨hnA, hnB⟩
        have a0 := hA.at (j := 0) rfl
        have a1 := hA.at (j := 1) rfl
        have a2 := hA.at (j := 2) rfl
        have a3 := hA.at (j := 3) rfl
        have a4 := hA.at (j := 4) rfl
        have a5 := hA.at (j := 5) rfl
        simp only [List.getElem_toArray, List.getElem_cons_zero, List.getElem_cons_succ] at a0 a1 a2 a3 a4 a5
        have HDO := mkH (do10_any HT5.out hT1 qd qe qa qb qx qy hTe.out hTa.out hTb.out)
        generalize hbx : wr.heap.size = bx at *
        clear hA hb5 hnA hnB HT CL
        go_wp2_with fail
        rw [← hw5]
        clear hw5 hbx
        refine HDO.out.mono ?_
        rintro e w6 ⟨⟨rfl, F1', x', F2', vs', es', hP⟩, hK⟩
        have HP6 := mkH hP
        have d1 : w6.cell? ⟨bx, 1, none⟩ = some (.int .i64 qe) := hK bx 1 _ HAC.out.lt HNN.out.1 HNN.out.2 a1
        have d2 : w6.cell? ⟨bx, 2, none⟩ = some (.int .i64 qa) := hK bx 2 _ HAC.out.lt HNN.out.1 HNN.out.2 a2
        have d3 : w6.cell? ⟨bx, 3, none⟩ = some (.int .i64 qb) := hK bx 3 _ HAC.out.lt HNN.out.1 HNN.out.2 a3
        have dl := cell_lt d1
        clear hP hK a0 a1 a2 a3 a4 a5 c0 c1 c2 c3 c4 c5 HDO HT5 HAC HNN
        go_wp2_with fail
        refine (stands10_any HP6.out qa qb hTa.out hTb.out).mono ?_
        rintro e w7 ⟨rfl, hb⟩
        replace d1 := (hb.cell (p := ⟨bx, 1, none⟩) dl).trans d1
        replace d2 := (hb.cell (p := ⟨bx, 2, none⟩) dl).trans d2
        replace d3 := (hb.cell (p := ⟨bx, 3, none⟩) dl).trans d3
        replace dl := cell_lt d1
        have HP7 := mkH (HP6.out.below hb)
        clear hb HP6
        go_wp2_with fail
        refine (stands10_any HP7.out qb qa hTb.out hTa.out).mono ?_
        rintro e w8 ⟨rfl, hb⟩
        replace d1 := (hb.cell (p := ⟨bx, 1, none⟩) dl).trans d1
        replace d2 := (hb.cell (p := ⟨bx, 2, none⟩) dl).trans d2
        replace d3 := (hb.cell (p := ⟨bx, 3, none⟩) dl).trans d3
        replace dl := cell_lt d1
        have HP8 := mkH (HP7.out.below hb)
        clear hb HP7
        have hvl := HP8.out.vl
        have hel := HP8.out.el
        by_cases hin : qe ∈ es'.map Ex.e
        · obtain ⟨i, ei, hi⟩ := atK_mem hin
          rw [List.getElem?_map] at hi
          obtain ⟨z, hz, hze⟩ := Option.map_eq_some_iff.1 hi
          have HED := mkH (pl_edge HP8.out hTe.out hz hze)
          have hil : i < es'.length := (List.getElem?_eq_some_iff.1 hz).1
          have HZ := mkH hz
          have HEI := mkH ei
          clear hin hi hze hz ei
          go_wp2_with fail
          refine HED.out.mono ?_
          rintro e w9 ⟨⟨lz, tz, rfl⟩, hb⟩
          replace d1 := (hb.cell (p := ⟨bx, 1, none⟩) dl).trans d1
          replace d2 := (hb.cell (p := ⟨bx, 2, none⟩) dl).trans d2
          replace d3 := (hb.cell (p := ⟨bx, 3, none⟩) dl).trans d3
          replace dl := cell_lt d1
          have HP9 := mkH (HP8.out.below hb)
          clear hb HP8
          have HGE := mkH (gedge_any HP9.out.b qe (by omega))
          rw [HEI.out] at HGE
          go_wp2_with fail
          refine HGE.out.mono ?_
          rintro e _ ⟨rfl, rfl⟩
          obtain ⟨mo, mc, k2, kz⟩ := HP9.out.b.ehead
          obtain ⟨g, rfl, _, z1, z2⟩ := kz i z HZ.out
          have hge : ¬ (i : Int) < 0 := by omega
          have hge2 : (0 : Int) ≤ (i : Int) := by omega
          have hili : (i : Int) < (es'.length : Int) := by omega
          have HLN := mkH (pl_len HP9.out)
          obtain ⟨nel, hnel⟩ : ∃ nel, nel = es'.length := ⟨_, rfl⟩
          rw [← hnel] at k2 hili HLN hel hil
          clear HED HGE HEI kz HZ
          obtain ⟨vo, vc, k1, _⟩ := HP9.out.b.vhead
          obtain ⟨nvl, hnvl⟩ : ∃ nvl, nvl = vs'.length := ⟨_, rfl⟩
          rw [← hnvl] at k1 HLN hvl
          have HNV := mkH hnvl
          have HNE := mkH hnel
          clear hnvl hnel k1
          generalize z.a = za at *
          generalize z.b = zb at *
          go_wp2_with fail
          refine HLN.out.mono ?_
          rintro e w10 ⟨rfl, hb⟩
          replace d1 := (hb.cell (p := ⟨bx, 1, none⟩) dl).trans d1
          replace d2 := (hb.cell (p := ⟨bx, 2, none⟩) dl).trans d2
          replace d3 := (hb.cell (p := ⟨bx, 3, none⟩) dl).trans d3
          replace dl := cell_lt d1
          have HP10 := mkH (HP9.out.below hb)
          clear hb HP9
          obtain ⟨mo', mc', k2', _⟩ := HP10.out.b.ehead
          obtain ⟨vo', vc', k1', _⟩ := HP10.out.b.vhead
          rw [← HNE.out] at k2'
          rw [← HNV.out] at k1'
          clear HLN d1 d2 d3 dl
          go_wp2
          go_roundw
          case rel => exact ⟨k + 1, x', _, _, _, _, by go_num, by omega, HP10.out⟩
          case measure => simp [intOf]; omega
        · have HED := mkH (pl_edge_no HP8.out hTe.out hin)
          have HIN := mkH (atK_no hin)
          clear hin
          go_wp2_with fail
          refine HED.out.mono ?_
          rintro e w9 ⟨rfl, hb⟩
          replace d1 := (hb.cell (p := ⟨bx, 1, none⟩) dl).trans d1
          replace d2 := (hb.cell (p := ⟨bx, 2, none⟩) dl).trans d2
          replace d3 := (hb.cell (p := ⟨bx, 3, none⟩) dl).trans d3
          replace dl := cell_lt d1
          have HP9 := mkH (HP8.out.below hb)
          clear hb HP8
          have HGE := mkH (gedge_any HP9.out.b qe (by omega))
          rw [HIN.out] at HGE
          go_wp2_with fail
          refine HGE.out.mono ?_
          rintro e _ ⟨rfl, rfl⟩
          have HLN := mkH (pl_len HP9.out)
          obtain ⟨nel, hnel⟩ : ∃ nel, nel = es'.length := ⟨_, rfl⟩
          rw [← hnel] at HLN hel
          clear HED HGE HIN
          obtain ⟨vo, vc, k1, _⟩ := HP9.out.b.vhead
          obtain ⟨nvl, hnvl⟩ : ∃ nvl, nvl = vs'.length := ⟨_, rfl⟩
          rw [← hnvl] at k1 HLN hvl
          have HNV := mkH hnvl
          have HNE := mkH hnel
          clear hnvl hnel k1
          skip
          skip
          go_wp2_with fail
          refine HLN.out.mono ?_
          rintro e w10 ⟨rfl, hb⟩
          replace d1 := (hb.cell (p := ⟨bx, 1, none⟩) dl).trans d1
          replace d2 := (hb.cell (p := ⟨bx, 2, none⟩) dl).trans d2
          replace d3 := (hb.cell (p := ⟨bx, 3, none⟩) dl).trans d3
          replace dl := cell_lt d1
          have HP10 := mkH (HP9.out.below hb)
          clear hb HP9
          obtain ⟨mo', mc', k2', _⟩ := HP10.out.b.ehead
          obtain ⟨vo', vc', k1', _⟩ := HP10.out.b.vhead
          rw [← HNE.out] at k2'
          rw [← HNV.out] at k1'
          clear HLN d1 d2 d3 dl
          go_wp2
          go_roundw
          case rel => exact ⟨k + 1, x', _, _, _, _, by go_num, by omega, HP10.out⟩
          case measure => simp [intOf]; omega
    · have hlti : ¬ (k : Int) < (c : Int) := by omega
      obtain ⟨nvl, hnvl⟩ : ∃ nvl, nvl = vs.length := ⟨_, rfl⟩
      have HNV := mkH hnvl
      have hvl : nvl ≤ 150 := by have := HT.out.vl; omega
      clear hnvl
      go_wp2
      generalize wr = wo at *
      go_loopw [22] (fun vj wr => ∃ j : Nat, vj = .int .i64 j ∧ j ≤ nvl ∧ Hid (Pl w wr F1 B1 x k F2 R vs es N m)) (fun vj _ => nvl - (intOf vj).toNat)
      case atStart => exact ⟨0, rfl, Nat.zero_le _, HT.out⟩
      case round =>
        clear HT
        obtain ⟨j, rfl, hjm, HT⟩ := hrel
        obtain ⟨vo, vc, k1, kv⟩ := HT.out.b.vhead
        rw [← HNV.out] at k1
        by_cases hj : j < nvl
        · have hjl : j < vs.length := by rw [← HNV.out]; exact hj
          obtain ⟨g, rfl, y1, u1, u2⟩ := kv j _ (List.getElem?_eq_getElem hjl)
          obtain ⟨g', e', y2, u3, u4⟩ := kv 0 _ (List.getElem?_eq_getElem (show 0 < vs.length by omega))
          cases e'
          clear u1 u2 u3 u4
          have hgl := cell_lt y1
          have hRl := cell_lt k1
          rw [Nat.zero_mul] at y2
          have hvV : ∀ y ∈ vs, B64 y.v := fun y hy => Lg.b64 HT.out.a (by rw [← HT.out.r.v]; exact List.mem_map.2 ⟨y, hy, rfl⟩)
          have hB1 := hvV _ (List.getElem_mem hjl)
          have hB2 := hvV _ (List.getElem_mem (show 0 < vs.length by omega))
          have HST : Hid (∀ g : Grow wr, Calls Tryz.prog 22 #[.pointer (some ⟨B1, 0, none⟩), .pointer (some ⟨R, 0, none⟩), .int .i64 (vs[j]).v, .int .i64 (vs[0]).v] g.w fun e w' => e = .returned (.bool true) ∧ Below g.w.heap.size g.w w') := fun g => stands10_any (HT.out.below g.h) _ _ hB1 hB2
          have gn := Grow.ne wr
          have g1 : ∀ g' : Grow wr, g'.w.cell? ⟨R, 1, none⟩ = some (.slice (some ⟨g, 0, none⟩) nvl vc) := fun g' => Grow.cell hRl k1 g'
          have g2 : ∀ g' : Grow wr, g'.w.cell? ⟨g, j * 3, none⟩ = some (.int .i64 (vs[j]).v) := fun g' => Grow.cell hgl y1 g'
          have g3 : ∀ g' : Grow wr, g'.w.cell? ⟨g, 0, none⟩ = some (.int .i64 (vs[0]).v) := fun g' => Grow.cell hgl y2 g'
          have hji : (j : Int) < (nvl : Int) := by omega
          have h0i : (0 : Int) < (nvl : Int) := by omega
          have h0n : 0 < nvl := by omega
          generalize (vs[j]).v = vj at *
          generalize (vs[0]).v = v0 at *
          clear kv hB1 hB2 hvV y1 y2 hjl
          go_wp2_with fail
          refine wp_region_grow (by kernel_rfl) (by kernel_rfl) ?_
          repeat (go_big_quiet_step ((go_at_call 22; exact grow_call (HST.out _))))
          refine wpQuiet_nil ?_
          rintro w1' ⟨⟨_, hb1⟩, rfl⟩
          have HT1 := mkH (HT.out.below hb1)
          clear hb1 g1 g2 g3 gn HST HT
          go_wp2
          go_roundw
          case rel => exact ⟨j + 1, by go_num, by omega, HT1.out⟩
          case measure => simp [intOf]; omega
        · obtain rfl : j = nvl := by omega
          have HBk := mkH HT.out.bl
          have hji : ¬ (j : Int) < (j : Int) := by omega
          clear kv HT
          go_wp2_with fail
          refine (WK.out _ HBk.out).mono ?_
          rintro e w9 ⟨rfl, hb⟩
          have HB9 := mkH hb
          clear hb HBk
          go_wp2
          go_ret
          exact ⟨rfl, HB9.out⟩
end Go.Proofs.YtabgplniaiehpaaGreat
