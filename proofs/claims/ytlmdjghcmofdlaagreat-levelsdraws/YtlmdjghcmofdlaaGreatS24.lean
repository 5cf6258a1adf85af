/- Lemmas. -/
import Derived.Test.YtlmdjghcmofdlaaGreatS23
import Derived.Sort.LoopGhostIn
import Derived.Shelf.RegionOpen
import Derived.Shelf.Abstract
import Derived.Scope
import Derived.Deep.RegionHeld3
import Derived.WalkMore
set_option maxRecDepth 100000
set_option maxHeartbeats 64000000
namespace Go.Proofs.YtlmdjghcmofdlaaGreat
open Go.RowKit Go.Shelf
attribute [local go_sem] Oper.semAt_some
set_option linter.unusedVariables false
def rbs (r : Rk) (M2 M3 M4 : Nat) (i : Int) : List (Nat × TypeId × Array Value) := [(M2, 24, #[.pointer (some ⟨r.B, 0, none⟩)]), (M3, 63, #[.int .i64 r.go.a, .int .i64 r.go.b, .int .i64 r.go.l, .bool r.go.t]), (M4, 3, #[.int .i64 i])]
def I1 (r : Rk) (M2 M3 : Nat) (ga gb gl0 : Int) (gt : Bool) (k : Nat) (a : Act) (W : World) : Prop :=
  ∃ (i : Int) (M4 : Nat) (Ds : List Nat) (t4 u5 u6 u7 u8 u9 u10 u11 u12 u13 u14 u15 u16 u17 u18 u19 u20 u21 u22 u23 u24 u25 u26 u27 u28 u29 u30 u31 u32 u33 u34 u35 u36 u37 u38 u39 u40 u41 u42 u43 u44 u45 u46 u47 u48 u49 u50 u51 u52 u53 u54 u55 : Value), (-1 ≤ i ∧ i ≤ r.gl ∧ k = (i + 1).toNat) ∧ t4 = .pointer (some ⟨M4, 0, none⟩) ∧ a = ⟨#[.pointer (some ⟨r.B, 0, none⟩), .agg #[.int .i64 ga, .int .i64 gb, .int .i64 gl0, .bool gt], .pointer (some ⟨M2, 0, none⟩), .pointer (some ⟨M3, 0, none⟩), t4, u5, u6, u7, u8, u9, u10, u11, u12, u13, u14, u15, u16, u17, u18, u19, u20, u21, u22, u23, u24, u25, u26, u27, u28, u29, u30, u31, u32, u33, u34, u35, u36, u37, u38, u39, u40, u41, u42, u43, u44, u45, u46, u47, u48, u49, u50, u51, u52, u53, u54, u55], marks Ds⟩ ∧ Hid (∃ F g K, Jm r.p r.B r.w0 r.F0 (rbs r M2 M3 M4 i) Ds W F g K ∧ So r.on r.sv r.lv r.S r.go r.gl r.n r.D r.C i r.g0 g K)
def I2 (r : Rk) (M2 M3 M4 : Nat) (i : Nat) (v : Int) (ga gb gl0 : Int) (gt : Bool) (k : Nat) (a : Act) (W : World) : Prop :=
  ∃ (Ds : List Nat) (u6 u7 u8 u9 u10 u11 u12 u13 u14 u15 u16 u17 u18 u19 u20 u21 u22 u23 u24 u25 u26 u27 u28 u29 u30 u31 u32 u33 u34 u35 u36 u37 u38 u39 u40 u41 u42 u43 u44 u45 u46 u47 u48 u49 u50 u51 u52 u53 u54 u55 : Value), a = ⟨#[.pointer (some ⟨r.B, 0, none⟩), .agg #[.int .i64 ga, .int .i64 gb, .int .i64 gl0, .bool gt], .pointer (some ⟨M2, 0, none⟩), .pointer (some ⟨M3, 0, none⟩), .pointer (some ⟨M4, 0, none⟩), .int .i64 v, u6, u7, u8, u9, u10, u11, u12, u13, u14, u15, u16, u17, u18, u19, u20, u21, u22, u23, u24, u25, u26, u27, u28, u29, u30, u31, u32, u33, u34, u35, u36, u37, u38, u39, u40, u41, u42, u43, u44, u45, u46, u47, u48, u49, u50, u51, u52, u53, u54, u55], marks Ds⟩ ∧ Hid (∃ F g K, potL g.E g.m r.D = k ∧ Jm r.p r.B r.w0 r.F0 (rbs r M2 M3 M4 i) Ds W F g K ∧ Sg r.on r.sv r.lv r.S r.go r.gl r.n r.D r.C i v r.g0 g K ∧ NoTree g.E r.S i v)
def Rf (r : Rk) (W : World) : Prop := ∃ F g K, Gm r.p W F r.B g K ∧ Step r.F0 F r.w0 W ∧ Sf r.on r.sv r.lv r.S r.go r.gl r.n r.D r.C r.g0 g K
theorem rbs_cells {r : Rk} {M2 M3 M4 : Nat} {i : Int} {Ds : List Nat} {W : World} {F : Nat → Prop} {g : Gs} {K : Nat} (hj : Jm r.p r.B r.w0 r.F0 (rbs r M2 M3 M4 i) Ds W F g K) :
    W.cell? ⟨M2, 0, none⟩ = some (.pointer (some ⟨r.B, 0, none⟩)) ∧ W.cell? ⟨M3, 0, none⟩ = some (.int .i64 r.go.a) ∧ W.cell? ⟨M3, 1, none⟩ = some (.int .i64 r.go.b) ∧ W.cell? ⟨M3, 2, none⟩ = some (.int .i64 r.go.l) ∧ W.cell? ⟨M3, 3, none⟩ = some (.bool r.go.t) ∧ W.cell? ⟨M4, 0, none⟩ = some (.int .i64 i) := by
  have b1 := (hj.bx _ (List.mem_cons_self ..)).blk
  have b2 := (hj.bx _ (List.mem_cons_of_mem _ (List.mem_cons_self ..))).blk
  have b3 := (hj.bx _ (List.mem_cons_of_mem _ (List.mem_cons_of_mem _ (List.mem_cons_self ..)))).blk
  exact ⟨b1.cell1, b2.at (j := 0) rfl, b2.at (j := 1) rfl, b2.at (j := 2) rfl, b2.at (j := 3) rfl, b3.cell1⟩
theorem rej_leave {r : Rk} {bs : List (Nat × TypeId × Array Value)} {Ds : List Nat} {W : World} {F : Nat → Prop} {g : Gs} {K : Nat} {tmps : Array Value} (h : Jm r.p r.B r.w0 r.F0 bs Ds W F g K) (hs : Sf r.on r.sv r.lv r.S r.go r.gl r.n r.D r.C r.g0 g K) :
    LeavesInM Fence.wide 12 Tryz.prog Tryz.f30 tmps (fun e W => e = .returned (.tuple #[]) ∧ Rf r W) (marks Ds) .returning W := by
  refine marks_leave (by simp) Ds (fun W => Gm r.p W F r.B g K ∧ Step r.F0 F r.w0 W) (fun W D hD hj hm => Jm.taken hj (h.ms D hD).2.1 (h.ms D hD).2.2) (fun W hj => ?_) W h.nd (fun D hD => (h.ms D hD).1) ⟨h.gm, h.st⟩
  refine ⟨.tuple #[], ?_, rfl, F, g, K, hj.1, hj.2, hs⟩
  simp [results, Tryz.f30, go_sem]
theorem rejoin_any {r : Rk} (ok : RkOk r) {K : Nat} (h : Gm r.p r.w0 r.F0 r.B r.g0 K) (hs : So r.on r.sv r.lv r.S r.go r.gl r.n r.D r.C r.gl r.g0 r.g0 K) (hl : r.go.l = r.gl) (h0 : 0 ≤ r.gl) : Calls Tryz.prog 30 #[.pointer (some ⟨r.B, 0, none⟩), egv r.go] r.w0 fun e W => e = .returned (.tuple #[]) ∧ Rf r W := by
  unfold egv
  obtain ⟨W0, hW0⟩ : ∃ W0, W0 = ((r.w0.alloc (.cells #[.pointer (some ⟨r.B, 0, none⟩)] 24)).alloc (.cells #[.int .i64 r.go.a, .int .i64 r.go.b, .int .i64 r.go.l, .bool r.go.t] 63)).alloc (.cells #[.int .i64 r.go.l] 3) := ⟨_, rfl⟩
  have HM : Hid (Jm r.p r.B r.w0 r.F0 (rbs r r.w0.heap.size (r.w0.heap.size + 1) (r.w0.heap.size + 1 + 1) r.gl) [] W0 r.F0 r.g0 K) := by
    have hb : Below r.w0.heap.size r.w0 W0 := by
      rw [hW0]
      exact below_new (below_new ((Below.refl _ _).alloc (Nat.le_refl _) _) (Nat.le_refl _) _) (Nat.le_refl _) _
    have k1 : Blk W0 r.w0.heap.size 24 #[.pointer (some ⟨r.B, 0, none⟩)] := by
      rw [hW0]; exact ((Blk.new r.w0 _ _).alloc _).alloc _
    have k2 : Blk W0 (r.w0.heap.size + 1) 63 #[.int .i64 r.go.a, .int .i64 r.go.b, .int .i64 r.go.l, .bool r.go.t] := by
      have := Blk.new (r.w0.alloc (.cells #[.pointer (some ⟨r.B, 0, none⟩)] 24)) 63 #[.int .i64 r.go.a, .int .i64 r.go.b, .int .i64 r.go.l, .bool r.go.t]
      rw [World.size_alloc] at this
      rw [hW0]; exact this.alloc _
    have k3 : Blk W0 (r.w0.heap.size + 1 + 1) 3 #[.int .i64 r.gl] := by
      have := Blk.new ((r.w0.alloc (.cells #[.pointer (some ⟨r.B, 0, none⟩)] 24)).alloc (.cells #[.int .i64 r.go.a, .int .i64 r.go.b, .int .i64 r.go.l, .bool r.go.t] 63)) 3 #[.int .i64 r.go.l]
      rw [World.size_alloc, World.size_alloc] at this
      rw [hW0, ← hl]; exact this
    have lt : ∀ k, r.F0 k → k < r.w0.heap.size := h.lt
    refine ⟨h.below hb, Step.of_below hb, fun b hb' => ?_, List.nodup_nil, fun D hD => by cases hD⟩
    rcases List.mem_cons.1 hb' with rfl | hb'
    · exact ⟨k1, fun k => by have := lt _ k; omega⟩
    · rcases List.mem_cons.1 hb' with rfl | hb'
      · exact ⟨k2, fun k => by have := lt _ k; omega⟩
      · rcases List.mem_cons.1 hb' with rfl | hb'
        · exact ⟨k3, fun k => by have := lt _ k; omega⟩
        · cases hb'
  obtain ⟨ga, hga⟩ : ∃ ga, ga = r.go.a := ⟨_, rfl⟩
  obtain ⟨gb, hgb⟩ : ∃ gb, gb = r.go.b := ⟨_, rfl⟩
  obtain ⟨gl0, hgl0⟩ : ∃ gl0, gl0 = r.go.l := ⟨_, rfl⟩
  obtain ⟨gt, hgt⟩ : ∃ gt, gt = r.go.t := ⟨_, rfl⟩
  rw [← hga, ← hgb, ← hgl0, ← hgt] at hW0
  rw [← hga, ← hgb, ← hgl0, ← hgt]
  obtain ⟨M2, hM2⟩ : ∃ M2, M2 = r.w0.heap.size := ⟨_, rfl⟩
  obtain ⟨M3, hM3⟩ : ∃ M3, M3 = r.w0.heap.size + 1 := ⟨_, rfl⟩
  refine (callsIn_wide (n := 12)).1 ?_
  refine callsIn_of_wp_marks Tryz.func30 rfl trivial ?_ rfl
  simp only [Tryz.ntmps30, List.size_toArray, List.length_cons, List.length_nil, Nat.reduceAdd, Nat.reduceSub, Array.replicate_succ, Array.replicate_zero, List.push_toArray, List.append_toArray, List.nil_append, List.cons_append]
  have HSo := mkH hs
  clear hga hgb hgl0 hgt hl hs h hM2 hM3 M2 M3
  gi_wp2_with fail
  refine (wpIn_wide (n := 12)).2 (wp_scope_straight ((wpIn_wide (n := 12)).1 ?_))
  refine wpIn_seq (wpIn_label ?_)
  gi_wp2_with fail
  rw [← hW0]
  refine wpIn_loop_ghost_k (I1 r r.w0.heap.size (r.w0.heap.size + 1) ga gb gl0 gt) (r.gl + 1).toNat ?_ ?_
  · refine ⟨r.gl, r.w0.heap.size + 1 + 1, [], ?_⟩
    (repeat apply Exists.intro)
    exact ⟨⟨by omega, by omega, rfl⟩, rfl, rfl, r.F0, r.g0, K, HM.out, HSo.out⟩
  clear HM hW0 W0
  intro gk _ wr hI J Kk hJ hK
  obtain ⟨i, M4, Ds, t4, u5, u6, u7, u8, u9, u10, u11, u12, u13, u14, u15, u16, u17, u18, u19, u20, u21, u22, u23, u24, u25, u26, u27, u28, u29, u30, u31, u32, u33, u34, u35, u36, u37, u38, u39, u40, u41, u42, u43, u44, u45, u46, u47, u48, u49, u50, u51, u52, u53, u54, u55, ⟨hi1, hi2, hk⟩, rfl, rfl, HI⟩ := hI
  obtain ⟨c2, c30, c31, c32, c33, c4⟩ := (show ∃ F g K, _ from HI.out).elim fun F h => h.elim fun g h => h.elim fun K h => rbs_cells h.1
  by_cases hneg : i < 0
  · have HE := mkH (show i = -1 by omega)
    clear hJ hK hk hi1 hi2
    gi_wp2_with fail
    rw [HE.out] at HI
    obtain ⟨F, g, K', hj, hs⟩ := HI.out
    exact rej_leave hj hs.done
  · obtain ⟨j, rfl⟩ : ∃ j : Nat, i = j := ⟨i.toNat, by omega⟩
    obtain ⟨F, g, K', hj, hs⟩ := HI.out
    have hpk := hs.pk
    have hc := ok.c
    have hjm : j < g.m := by have := ok.gl; rw [hs.ck.m]; omega
    have HL := mkH (lesser_any hj.gm (by omega) hjm (x := r.go) (hs.gi.b64 ok.on.1) (hs.gi.b64 ok.on.2))
    have HJ := mkH hj
    have HS := mkH hs
    have HJM := mkH hjm
    have HG := mkH hi2
    have HK := mkH hk
    clear HI hj hs hpk hc hjm hk hi1 hi2 hneg
    gi_wp2_with fail
    refine ⟨trivial, ?_⟩
    gi_at_call 54
    refine (callsIn_wide.2 HL.out).mono ?_
    rintro e w1 ⟨⟨v, rfl, hv⟩, hb1⟩
    have hj1 := HJ.out.below hb1
    obtain ⟨hsg, hvs, hvv⟩ := HS.out.half HJM.out HG.out ok.on hv
    have hm : g.m = r.g0.m := hsg.ck.m
    have hv64 : B64 v := by
      rcases hvv with e | e
      · rw [e]; exact hsg.gi.b64 ok.on.1
      · rw [e]; exact hsg.gi.b64 ok.on.2
    have HT := mkH (riseTree_any ok.d hj1.gm hsg (by have := ok.c; omega) HJM.out (by rw [hm]; exact ok.n) hvs hv64 (by rw [hsg.ck.ne]; exact ok.ne))
    have HJ1 := mkH hj1
    have HVV := mkH hvv
    have HV64 := mkH hv64
    clear c2 c30 c31 c32 c33 c4
    obtain ⟨c2, c30, c31, c32, c33, c4⟩ := rbs_cells hj1
    clear hj1 hsg hvs hvv hm hv64 hv hb1 HL HS HJ
    gi_wp2_with fail
    refine ⟨trivial, ?_⟩
    gi_at_call 55
    refine (callsIn_wide.2 HT.out).mono ?_
    rintro e w2 ⟨rfl, F2, g2, K2, hG2, hS2, hSg2, hN2⟩
    have hj2 := HJ1.out.step hG2 hS2
    have HR2 : Hid (∃ F g K, potL g.E g.m r.D = potL g2.E g2.m r.D ∧ Jm r.p r.B r.w0 r.F0 (rbs r r.w0.heap.size (r.w0.heap.size + 1) M4 j) Ds w2 F g K ∧ Sg r.on r.sv r.lv r.S r.go r.gl r.n r.D r.C j v r.g0 g K ∧ NoTree g.E r.S j v) := ⟨F2, g2, K2, rfl, hj2, hSg2, hN2⟩
    have HM2 : Hid (j < r.g0.m) := by show j < r.g0.m; rw [← hSg2.ck.m]; rw [hSg2.ck.m]; have := HJM.out; have := ok.gl; have := HG.out; omega
    clear hG2 hS2 hSg2 hN2 hj2 HT HJ1 HJM c2 c30 c31 c32 c33 c4
    gi_wp2_with fail
    refine wpIn_loop_ghost_k (I2 r r.w0.heap.size (r.w0.heap.size + 1) M4 j v ga gb gl0 gt) (potL g2.E g2.m r.D) ?_ ?_
    · refine ⟨Ds, ?_⟩
      (repeat apply Exists.intro)
      exact ⟨rfl, HR2.out⟩
    clear HR2
    intro gk2 _ wr2 hI2 J2 Kk2 hJ2 hK2
    obtain ⟨Ds2, u6, u7, u8, u9, u10, u11, u12, u13, u14, u15, u16, u17, u18, u19, u20, u21, u22, u23, u24, u25, u26, u27, u28, u29, u30, u31, u32, u33, u34, u35, u36, u37, u38, u39, u40, u41, u42, u43, u44, u45, u46, u47, u48, u49, u50, u51, u52, u53, u54, u55, rfl, HI2⟩ := hI2
    obtain ⟨F3, g3, K3, hp3, hj3, hs3, hN3⟩ := HI2.out
    have hm3 : g3.m = r.g0.m := hs3.ck.m
    have hvs3 : VS r.on g3.E r.S r.go r.gl j v := vs_go HG.out ok.on HVV.out
    obtain ⟨u, okk, hfv, hcv⟩ := gfindV_val hj3.gm (by have := hs3.pk; have := ok.c; omega) (i := j) (by rw [hm3]; exact HM2.out) v HV64.out ((hs3.gi.vs (by rw [hm3]; exact HM2.out)).2 hvs3) (hs3.gi.mk01 (by rw [hm3]; exact HM2.out))
    obtain ⟨c2, c30, c31, c32, c33, c4⟩ := rbs_cells hj3
    have l2 := (hj3.bx _ (List.mem_cons_self ..)).blk.lt
    have l4 := (hj3.bx _ (List.mem_cons_of_mem _ (List.mem_cons_of_mem _ (List.mem_cons_self ..)))).blk.lt
    have g2' : ∀ g' : Grow wr2, g'.w.cell? ⟨r.w0.heap.size, 0, none⟩ = some (.pointer (some ⟨r.B, 0, none⟩)) := fun g' => Grow.cell l2 c2 g'
    have g4' : ∀ g' : Grow wr2, g'.w.cell? ⟨M4, 0, none⟩ = some (.int .i64 j) := fun g' => Grow.cell l4 c4 g'
    obtain ⟨vv0, ev0, hc0⟩ := hj3.gm.cells
    have d1 := hc0.at (j := 1) rfl
    have d3 := hc0.at (j := 3) rfl
    simp only [List.getElem_toArray, List.getElem_cons_zero, List.getElem_cons_succ] at d1 d3
    obtain ⟨qq, cap, e1, cq, hql, hcap1, hcap2⟩ := hj3.gm.ptr (i := j) (by rw [hm3]; exact HM2.out)
    rw [e1] at d1
    have gc1 : ∀ g' : Grow wr2, g'.w.cell? ⟨r.B, 1, none⟩ = some (.slice (some ⟨qq, 0, none⟩) g3.m cap) := fun g' => Grow.cell hc0.lt d1 g'
    have gc3 : ∀ g' : Grow wr2, g'.w.cell? ⟨r.B, 3, none⟩ = some (.pointer (some ⟨r.p.bB, 0, none⟩)) := fun g' => Grow.cell hc0.lt d3 g'
    have gq : ∀ g' : Grow wr2, g'.w.cell? ⟨qq, j, none⟩ = some (.pointer (some ⟨r.p.Bf j, 0, none⟩)) := fun g' => Grow.cell hql cq g'
    have hne := Grow.ne wr2
    have HFV := mkH hfv
    have HCV := mkH hcv
    have HJ3 := mkH hj3
    have HS3 := mkH hs3
    have HN3 := mkH hN3
    have HP3 := mkH hp3
    have hjm3 : (j : Int) < (g3.m : Int) := by rw [hm3]; have := HM2.out; omega
    have hm64 : (g3.m : Int) ≤ 9223372036854775807 := by unfold maxLen at hcap2; omega
    clear HI2 hp3 hj3 hs3 hN3 hm3 hvs3 hfv hcv hc0 e1 cq c2 c30 c31 c32 c33 c4 d1 d3
    gi_wp2_with fail
    refine (wpIn_wide (n := 12)).2 ?_
    refine wp_region_grow (by kernel_rfl) (by kernel_rfl) ?_
    repeat (go_big_quiet_step ((go_at_call 56; exact grow_call (HCV.out _))))
    refine wpQuiet_nil ?_
    rintro w7 ⟨⟨_, hb7⟩, rfl⟩
    have hj7 := HJ3.out.below hb7
    obtain ⟨c2, c30, c31, c32, c33, c4⟩ := rbs_cells hj7
    clear hb7 g2' g4' gc1 gc3 gq hne HCV HJ3 l2 l4
    cases okk with
    | false =>
      have hso := HS3.out.fail (by rw [HS3.out.ck.m]; exact HM2.out) HG.out ok.on HVV.out HFV.out
      have HF : Hid (∃ F g K, Jm r.p r.B r.w0 r.F0 (rbs r r.w0.heap.size (r.w0.heap.size + 1) w7.heap.size ((j : Int) - 1)) Ds2 (w7.alloc (.cells #[.int .i64 ((j : Int) - 1)] 3)) F g K ∧ So r.on r.sv r.lv r.S r.go r.gl r.n r.D r.C ((j : Int) - 1) r.g0 g K) := by
        have hj8 := hj7.below ((Below.refl w7.heap.size w7).alloc (Nat.le_refl _) (.cells #[.int .i64 ((j : Int) - 1)] 3))
        have hbx := (hj8.bx_of (bs' := []) (fun b hb => by cases hb)).box (M := w7.heap.size) (Blk.new w7 3 #[.int .i64 ((j : Int) - 1)]) (fun k => by have := hj7.gm.lt _ k; omega)
        refine ⟨_, _, _, hj8.bx_of (fun b hb => ?_), hso⟩
        rcases List.mem_cons.1 hb with rfl | hb
        · exact hj8.bx _ (List.mem_cons_self ..)
        · rcases List.mem_cons.1 hb with rfl | hb
          · exact hj8.bx _ (List.mem_cons_of_mem _ (List.mem_cons_self ..))
          · rcases List.mem_cons.1 hb with rfl | hb
            · exact hbx.bx _ (List.mem_cons_self ..)
            · cases hb
      have HW : Hid (-1 ≤ (j : Int) - 1 ∧ (j : Int) - 1 ≤ r.gl ∧ ((j : Int) - 1 + 1).toNat < gk) := ⟨by omega, by have := HG.out; omega, by rw [HK.out]; omega⟩
      have hwr : IntKind.i64.wrap ((j : Int) - 1) = (j : Int) - 1 := by simp [IntKind.wrap, IntKind.bits, IntKind.signed]; omega
      clear hj7 hso HS3 HFV HN3 HP3 hK2 hJ2
      gi_wp2_with fail
      refine Handed.intro ((j : Int) - 1 + 1).toNat HW.out.2.2 ?_
      refine hJ _ _ _ ⟨(j : Int) - 1, w7.heap.size, Ds2, ?_⟩
      (repeat apply Exists.intro)
      exact ⟨⟨HW.out.1, HW.out.2.1, rfl⟩, rfl, rfl, HF.out⟩
    | true =>
      obtain ⟨x, hx1, hx2, hx3, rfl⟩ := HFV.out.1 rfl
      obtain ⟨vv0, ev0, hc0⟩ := hj7.gm.cells
      have d3 := hc0.at (j := 3) rfl
      simp only [List.getElem_toArray, List.getElem_cons_zero, List.getElem_cons_succ] at d3
      have HJ7 := mkH hj7
      clear hc0 hj7 HFV c30 c31 c32 c33
      gi_wp2_with fail
      refine (wpIn_wide (n := 12)).2 ?_
      refine wp_region_noPanic ?_
      go_region_held3 (fun w' => w'.cell? ⟨r.w0.heap.size, 0, none⟩ = some (.pointer (some ⟨r.B, 0, none⟩)) ∧ w'.cell? ⟨r.B, 3, none⟩ = some (.pointer (some ⟨r.p.bB, 0, none⟩)) ∧ w'.cell? ⟨M4, 0, none⟩ = some (.int .i64 (j : Int)))
        (first | go_keep | (go_split_ands; refine ⟨?_, ?_, ?_⟩ <;> assumption))
        (first
          | (go_at_call 57; refine (bof_ab _ _ _ _).mono ?_; rintro e w8 ⟨a1, b1, e1, rfl, hbx, _, _, _, hb8⟩; have hj8 := (HJ7.out.below ((Below.refl w7.heap.size w7).drew)).below hb8; obtain ⟨k2, _, _, _, _, k4⟩ := rbs_cells hj8; have k3 : w8.cell? ⟨r.B, 3, none⟩ = some (.pointer (some ⟨r.p.bB, 0, none⟩)) := (by obtain ⟨vv, ev, hc⟩ := hj8.gm.cells; exact hc.at (j := 3) rfl))
          | fail)
      rename_i hHeld
      have hSg := HS3.out
      have hm3 : g3.m = r.g0.m := hSg.ck.m
      obtain ⟨Fb, hbag, hbF, _⟩ := hj8.gm.bagL
      obtain ⟨L, hL⟩ : ∃ L, L = g3.s.L (x.v, (j : Int)) := ⟨_, rfl⟩
      have hjx : Jn (Te g3.E r.S j) v x.v := by
        have := hx2
        rw [hSg.gi.q j (by rw [hm3]; exact HM2.out), qd_jq] at this
        exact this
      have hLne : L ≠ [] := by
        rw [hSg.gi.p j (by rw [hm3]; exact HM2.out)] at hx1
        have h1 : x.m = mkS g3.s j x.v := hx1.2.2.2
        rw [hx3] at h1
        unfold mkS at h1
        intro k
        rw [← hL, if_pos k] at h1
        cases h1
      have hon : r.on x.v := by
        obtain ⟨e, he⟩ := List.exists_mem_of_ne_nil _ hLne
        rw [hL] at he
        obtain ⟨y, y1, y2, y3, y4, y5⟩ := (hSg.gi.lo _ _ _).1 he
        obtain ⟨_, _, a3, a4, _⟩ := hSg.gi.eb e y y2
        rcases y5 with k | k
        · rw [← k]; exact a3
        · rw [← k]; exact a4
      have hR0 : ∀ Z, Rr r (rbs r r.w0.heap.size (r.w0.heap.size + 1) M4 j) Ds2 w8.heap.size j v x.v L (potL g3.E g3.m r.D) Z [] w8 := fun Z => ⟨_, g3, K3, Jz.start hj8 rfl, hSg, HN3.out, hjx, by simp, fun f => by rw [hL]; simp⟩
      have hSQ := of1_y 11 (by omega) a1 b1 e1 (v := x.v) (l := (j : Int)) (by have := hSg.gi.ob _ hon; have := hSg.gi.m; have := HM2.out; unfold okP; simp; omega) hbag (by have := hSg.pk; have := ok.c; omega) hbx
      rw [← hL] at hSQ
      have hLnd : L.Nodup := by rw [hL]; exact hSg.gi.nd _
      obtain ⟨Q0, hQ0⟩ : ∃ Q0, Q0 = potL g3.E g3.m r.D := ⟨_, rfl⟩
      have HQ0 : Hid (Q0 = gk2) := by show Q0 = gk2; rw [hQ0]; exact HP3.out
      rw [← hQ0] at hR0
      have HSQ := mkH hSQ
      have HR0 := mkH hR0
      have HLnd := mkH hLnd
      have HLne := mkH hLne
      clear hHeld hSg hm3 hbag hbF hL hjx hLne hon hR0 hSQ hLnd hbx hj8 hb8 k2 k3 k4 c2 c4 d3 HJ7 HS3 HN3 HP3 hx1 hx2 hx3 hQ0
      refine NoPanic.normal ?_
      gi_wp2_with fail
      refine range_ownY rfl (by omega) (gf := 86) (lb := #[.pointer (some ⟨a1, 0, none⟩), .pointer (some ⟨b1, 0, none⟩), .pointer (some ⟨e1, 0, none⟩)]) rfl trivial (enters_of Tryz.func86 (by kernel_rfl) rfl) HSQ.out (Below.refl _ _) (fun _ => rfl)
        (fun Z pre A => Rr r (rbs r r.w0.heap.size (r.w0.heap.size + 1) M4 j) Ds2 w8.heap.size j v x.v L Q0 Z pre A) (fun Z cc pre A => cc = .exit 0 ∧ Rz r (rbs r r.w0.heap.size (r.w0.heap.size + 1) M4 j) Ds2 w8.heap.size Z A)
        (fun Z => Rr.own r _ Ds2 w8.heap.size j v x.v L Q0 Z) (fun Z cc s A A' row hs hg hr => ⟨hs.1, Rz.own r _ Ds2 w8.heap.size Z s A A' row hs.2 hg hr⟩)
        (fun Z => HR0.out Z) (fun _ _ _ _ => trivial) ?a1 ?assign ?body ?done ?stop
      case assign =>
        intro lq y A K9 hK9
        gi_wp2
        exact hK9
      case body =>
        rintro lq Z pre y A hZ0 hZ1 hR ⟨hpl, hpx⟩
        have HN := mkH (hR.next ok HM2.out HG.out HLnd.out hZ1 hpx)
        obtain ⟨F9, g9, K9, h9, _⟩ := hR
        obtain ⟨c2, _, _, _, _, c4⟩ := rbs_cells h9.j
        clear h9 hpl hpx
        gi_wp2_with fail
        refine ⟨trivial, ?_⟩
        gi_at_call 58
        refine (CallsIn.inRound lq (callsIn_wide.2 HN.out)).mono ?_
        rintro e W ⟨t, rfl, hRW, hZW, ht, hf⟩
        clear c2 c4 HN
        obtain ⟨F9, g9, K9, h9, _⟩ := hRW.out.1
        obtain ⟨c2, _, _, _, _, c4⟩ := rbs_cells h9.j
        clear h9
        cases t with
        | true =>
          have HB := ht rfl
          clear ht hf hRW hZW
          gi_wp2_with fail
          refine ⟨trivial, ?_⟩
          gi_at_call 59
          refine (CallsIn.inRound lq (callsIn_wide.2 HB.out)).mono ?_
          rintro e W' ⟨rfl, hz, hbk⟩
          have HZ := mkH hz
          have HBK := mkH hbk
          clear hz hbk HB c2 c4
          gi_wp2
          exact ⟨HBK.out, rfl, HZ.out⟩
        | false =>
          have HB := hf rfl
          clear ht hf hRW hZW
          gi_wp2_with fail
          refine ⟨trivial, ?_⟩
          gi_at_call 60
          refine (CallsIn.inRound lq (callsIn_wide.2 HB.out)).mono ?_
          rintro e W' ⟨rfl, hz, hbk⟩
          have HZ := mkH hz
          have HBK := mkH hbk
          clear hz hbk HB c2 c4
          gi_wp2
          exact ⟨HBK.out, HZ.out⟩
      case stop =>
        rintro D Z cc pre A hD hDZ hpre ⟨rfl, F9, g9, K9, h9, hsf⟩ hMk
        have HL : Hid (∃ F g K, Jm r.p r.B r.w0 r.F0 (rbs r r.w0.heap.size (r.w0.heap.size + 1) M4 j) (D :: Ds2) A F g K ∧ Sf r.on r.sv r.lv r.S r.go r.gl r.n r.D r.C r.g0 g K) :=
          ⟨F9, g9, K9, h9.j.mark hMk (fun k => by have := h9.f D k; omega) (by have := h9.x; omega) (fun k => by have := h9.d D k; omega), hsf⟩
        clear h9 hsf hMk
        gi_wp2_with fail
        obtain ⟨F9, g9, K9, h9, hsf⟩ := HL.out
        exact rej_leave h9 hsf
      case done =>
        rintro D Z ys A hD hDZ hys ⟨F9, g9, K9, h9, hsg, hN, hj9, hp9, hl9⟩ hMk
        have hys' : ys = L := hys
        have hlen : 1 ≤ L.length := by
          have := HLne.out
          cases hc : L with
          | nil => exact absurd hc this
          | cons a b => simp
        have HL : Hid (potL g9.E g9.m r.D < gk2 ∧ ∃ F g K, potL g.E g.m r.D = potL g9.E g9.m r.D ∧ Jm r.p r.B r.w0 r.F0 (rbs r r.w0.heap.size (r.w0.heap.size + 1) M4 j) (D :: Ds2) A F g K ∧ Sg r.on r.sv r.lv r.S r.go r.gl r.n r.D r.C j v r.g0 g K ∧ NoTree g.E r.S j v) :=
          ⟨by have := HQ0.out; rw [hys'] at hp9; omega, F9, g9, K9, rfl, h9.j.mark hMk (fun k => by have := h9.f D k; omega) (by have := h9.x; omega) (fun k => by have := h9.d D k; omega), hsg, hN⟩
        clear h9 hsg hN hj9 hp9 hl9 hMk hys' hys hlen
        gi_wp2_with fail
        refine Handed.intro (potL g9.E g9.m r.D) HL.out.1 ?_
        refine hJ2 _ _ _ ⟨D :: Ds2, ?_⟩
        (repeat apply Exists.intro)
        exact ⟨rfl, HL.out.2⟩
end Go.Proofs.YtlmdjghcmofdlaaGreat
