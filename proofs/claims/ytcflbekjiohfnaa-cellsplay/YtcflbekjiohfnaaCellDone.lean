/- The statements' helper done: one act, of both machines. -/
import Derived.Test.YtcflbekjiohfnaaCellActs
namespace Go.Proofs.Ytcflbekjiohfnaa
open Go.RowKit
set_option linter.unusedVariables false

theorem errB_one (nk nc c k : Int) : errB nk nc [(c, k)] = errS nk nc c k := by
  rw [errB_eq]
  unfold errS
  simp only [List.any_cons, List.any_nil, Bool.or_false]
  cases hasN nk k <;> cases hasN nc c <;> simp
theorem batL_one (nk : Int) (L : List Int) (c k : Int) : batL nk L [(c, k)] = setL nk L c k := by
  unfold batL setL
  rw [errB_one]
  rfl
/-- What an act makes of the cells; what it tells. -/
def actL (nk zw zh : Int) (L : List Int) (q : Ac) : List Int := if q.d = 0 then batL nk L q.es else if q.d = 1 then fillL nk zw zh L q.x q.y q.a q.b q.k else setL nk L q.x q.k
theorem actL_len (nk zw zh : Int) (L : List Int) (q : Ac) : (actL nk zw zh L q).length = L.length := by
  unfold actL
  split
  · exact batL_len _ _ _
  · split
    · exact fillL_len _ _ _ _ _ _ _ _ _
    · exact setL_len _ _ _ _

theorem results_four {fn : Func} {t u v z : Tmp} (h : fn.results = #[.tmp t, .tmp u, .tmp v, .tmp z]) (tmps : Array Value) (P : Program) (w : World) :
    (results fn tmps).run P w = .ok (.tuple #[tmps.getD t undef, tmps.getD u undef, tmps.getD v undef, tmps.getD z undef]) w := by
  simp [results, h]

set_option maxRecDepth 100000 in
set_option maxHeartbeats 4000000 in
theorem done_any {w : World} {F : Nat → Prop} {B K T base RB kc n : Nat} {zw zh cl : Int} {ao : Option Addr} {ks : List Kd} {L : List Int} (h : Own w F B K T zw zh ks cl L) (hg : RG w base RB zw zh (.slice ao ks.length kc) cl L) (hKb : K < base) (hBb : B < base) (hFb : ∀ b, F b → b < base) (hb : base ≤ w.heap.size)
    (q : Ac) (he : EAt w q.eo q.es) (hq : q.es.length ≤ 60000) (hoK : EOff q.eo q.es K) (hoR : EOff q.eo q.es RB) (hn : n ≤ w.heap.size) (hnK : n ≤ K) (hnR : n ≤ RB) :
    Calls Try.prog 20 #[.pointer (some ⟨B, 0, none⟩), .pointer (some ⟨RB, 0, none⟩), acv q] w fun e w' => ∃ v1 v2 er D, e = .returned (.tuple #[v1, v2, .int .i64 er, .int .i64 er]) ∧ Hid (IAt w' v1 D) ∧ Hid (IAt w' v2 D) ∧ D.length ≤ 4194304 ∧
      Hid (Own w' F B K T zw zh ks cl (actL ks.length zw zh L q)) ∧ Hid (RG w' base RB zw zh (.slice ao ks.length kc) cl (actL ks.length zw zh L q)) ∧ Below n w w' := by
  have hRb := hg.rb
  have hRlt := hg.lt
  have hl2 := h.l1.1
  have hks := h.tab.n1
  have HRt : Hid (Pl.rt zw zh = true) := h.rt
  have HNF : Hid (¬ F RB) := fun hh => by have := hFb _ hh; omega
  have HLn : Hid ((L.length : Int) = zw * zh) := h.len
  obtain ⟨X, hX⟩ : ∃ X, X = w.alloc (.cells #[.int .i64 q.d, .slice q.eo q.es.length q.ec, .int .i64 q.x, .int .i64 q.y, .int .i64 q.a, .int .i64 q.b, .int .i64 q.k] 50) := ⟨_, rfl⟩
  have hXb : Below w.heap.size w X := by rw [hX]; exact (Below.refl _ _).alloc (Nat.le_refl _) _
  have hXs : X.heap.size = w.heap.size + 1 := by rw [hX]; simp
  have hXB : Blk X w.heap.size 50 #[.int .i64 q.d, .slice q.eo q.es.length q.ec, .int .i64 q.x, .int .i64 q.y, .int .i64 q.a, .int .i64 q.b, .int .i64 q.k] := by rw [hX]; exact Blk.new _ _ _
  have HO : Hid (Own X F B K T zw zh ks cl L) := h.below hXb
  have HG : Hid (RG X base RB zw zh (.slice ao ks.length kc) cl L) := hg.below hXb
  have HE : Hid (EAt X q.eo q.es) := he.below hXb
  have hKlt : K < w.heap.size := h.row.lt
  obtain ⟨A, hA⟩ : ∃ A, A = w.heap.size := ⟨_, rfl⟩
  have hAB : Blk X A 50 #[.int .i64 q.d, .slice q.eo q.es.length q.ec, .int .i64 q.x, .int .i64 q.y, .int .i64 q.a, .int .i64 q.b, .int .i64 q.k] := by rw [hA]; exact hXB
  have HAB : Hid (Blk X A 50 #[.int .i64 q.d, .slice q.eo q.es.length q.ec, .int .i64 q.x, .int .i64 q.y, .int .i64 q.a, .int .i64 q.b, .int .i64 q.k]) := hAB
  have HXn : Hid (Below n w X) := hXb.mono hn
  have x0 := hAB.at (j := 0) rfl
  have x1 := hAB.at (j := 1) rfl
  have x2 := hAB.at (j := 2) rfl
  have x3 := hAB.at (j := 3) rfl
  have x4 := hAB.at (j := 4) rfl
  have x5 := hAB.at (j := 5) rfl
  have x6 := hAB.at (j := 6) rfl
  have hnX : n ≤ X.heap.size := by omega
  have hbX : base ≤ X.heap.size := by omega
  have hRX : RB < X.heap.size := by omega
  have hKX : K < X.heap.size := by omega
  have hAK : A ≠ K := by omega
  have HoK : Hid (EOff q.eo q.es K) := hoK
  have HoR : Hid (EOff q.eo q.es RB) := hoR
  clear h hg he hoK hoR hXb hXB hAB hXs hFb
  obtain ⟨d, eo, ec, es, x, y, a, b, k⟩ := q
  simp only at *
  by_cases hd0 : d = 0
  · subst hd0
    have HL : Hid (actL ks.length zw zh L ⟨0, eo, ec, es, x, y, a, b, k⟩ = batL ks.length L es) := by show _ = _; unfold actL; rw [if_pos rfl]
    go_enter Try.func20, Try.ntmps20
    go_wp2_with fail
    rw [← hX, ← hA]
    clear hX hA
    refine (batch_any HO.out eo ec es.length es rfl (by omega) HE.out HoK.out).mono ?_
    rintro e w1 ⟨v1, rfl, hI, hO, hU⟩
    have I1 : Hid (IS w1 X.heap.size v1 (diffs L (batL ks.length L es))) := hI
    have O1 : Hid (Own w1 F B K T zw zh ks cl (batL ks.length L es)) := hO
    have G1 : Hid (RG w1 base RB zw zh (.slice ao ks.length kc) cl L) := HG.out.but hU hKb
    have E1 : Hid (EAt w1 eo es) := HE.out.but (n := 0) hU HoK.out
    have V1 : Below n w w1 := v_step HXn.out hU hn hnK
    have y1 := (HAB.out.but hU HAB.out.lt hAK).at (j := 1) rfl
    have hs1 := hU.size
    have hRO : RB ≠ K := by omega
    clear hI hO hU
    go_wp2_with fail
    refine (rbatch_any G1.out eo ec es.length es rfl hq E1.out HoR.out (by omega) hks).mono ?_
    rintro e w2 ⟨v2, rfl, hI, hG, hU⟩
    have J1 : Hid (IAt w2 v1 (diffs L (batL ks.length L es))) := (I1.out.but hU hRX).iat
    have J2 : Hid (IAt w2 v2 (diffs L (batL ks.length L es))) := hI.iat
    have O2 : Hid (Own w2 F B K T zw zh ks cl (batL ks.length L es)) := O1.out.but hU (by omega) hRO (fun hh => HNF.out hh)
    have G2 : Hid (RG w2 base RB zw zh (.slice ao ks.length kc) cl (batL ks.length L es)) := hG
    have V2 : Below n w w2 := v_step V1 hU hn hnR
    have hdl := diffs_len L (batL ks.length L es)
    clear hI hG hU I1 O1 G1
    go_wp2
    (try simp only [Exit.inBlock, Exit.then])
    refine bodyPost_ret (results_four rfl _ _ _) rfl ?_
    exact ⟨v1, v2, _, _, rfl, J1, J2, by omega, by rw [HL.out]; exact O2, by rw [HL.out]; exact G2, V2⟩
  · by_cases hd1 : d = 1
    · subst hd1
      have HL : Hid (actL ks.length zw zh L ⟨1, eo, ec, es, x, y, a, b, k⟩ = fillL ks.length zw zh L x y a b k) := by show _ = _; unfold actL; rw [if_neg hd0, if_pos rfl]
      go_enter Try.func20, Try.ntmps20
      go_wp2_with fail
      rw [← hX, ← hA]
      clear hX hA
      refine (fill_any HO.out x y a b k).mono ?_
      rintro e w1 ⟨v1, rfl, hI, hO, hU⟩
      have I1 : Hid (IS w1 X.heap.size v1 (diffs L (fillL ks.length zw zh L x y a b k))) := hI
      have O1 : Hid (Own w1 F B K T zw zh ks cl (fillL ks.length zw zh L x y a b k)) := hO
      have G1 : Hid (RG w1 base RB zw zh (.slice ao ks.length kc) cl L) := HG.out.but hU hKb
      have V1 : Below n w w1 := v_step HXn.out hU hn hnK
      have hA1 := HAB.out.but hU HAB.out.lt hAK
      have y2 := hA1.at (j := 2) rfl
      have y3 := hA1.at (j := 3) rfl
      have y4 := hA1.at (j := 4) rfl
      have y5 := hA1.at (j := 5) rfl
      have y6 := hA1.at (j := 6) rfl
      have hs1 := hU.size
      have hRO : RB ≠ K := by omega
      clear hI hO hU hA1
      go_wp2_with fail
      refine (rfill_any G1.out HRt.out HLn.out x y a b k (by omega) hks).mono ?_
      rintro e w2 ⟨v2, rfl, hI, hG, hU⟩
      have J1 : Hid (IAt w2 v1 (diffs L (fillL ks.length zw zh L x y a b k))) := (I1.out.but hU hRX).iat
      have J2 : Hid (IAt w2 v2 (diffs L (fillL ks.length zw zh L x y a b k))) := hI.iat
      have O2 : Hid (Own w2 F B K T zw zh ks cl (fillL ks.length zw zh L x y a b k)) := O1.out.but hU (by omega) hRO (fun hh => HNF.out hh)
      have G2 : Hid (RG w2 base RB zw zh (.slice ao ks.length kc) cl (fillL ks.length zw zh L x y a b k)) := hG
      have V2 : Below n w w2 := v_step V1 hU hn hnR
      have hdl := diffs_len L (fillL ks.length zw zh L x y a b k)
      clear hI hG hU I1 O1 G1
      go_wp2
      (try simp only [Exit.inBlock, Exit.then])
      refine bodyPost_ret (results_four rfl _ _ _) rfl ?_
      exact ⟨v1, v2, _, _, rfl, J1, J2, by omega, by rw [HL.out]; exact O2, by rw [HL.out]; exact G2, V2⟩
    · have HL : Hid (actL ks.length zw zh L ⟨d, eo, ec, es, x, y, a, b, k⟩ = setL ks.length L x k) := by show _ = _; unfold actL; rw [if_neg hd0, if_neg hd1]
      have d0 : (d == 0) = false := by simpa using hd0
      have d1 : (d == 1) = false := by simpa using hd1
      go_enter Try.func20, Try.ntmps20
      go_wp2_with fail
      rw [← hX, ← hA]
      clear hX hA
      refine (set_any HO.out x k).mono ?_
      rintro e w1 ⟨v1, rfl, hI, hO, hU⟩
      have I1 : Hid (IS w1 X.heap.size v1 (diffs L (setL ks.length L x k))) := hI
      have O1 : Hid (Own w1 F B K T zw zh ks cl (setL ks.length L x k)) := hO
      have G1 : Hid (RG w1 base RB zw zh (.slice ao ks.length kc) cl L) := HG.out.but hU hKb
      have V1 : Below n w w1 := v_step HXn.out hU hn hnK
      have hA1 := HAB.out.but hU HAB.out.lt hAK
      have y2 := hA1.at (j := 2) rfl
      have y6 := hA1.at (j := 6) rfl
      have hs1 := hU.size
      have hRO : RB ≠ K := by omega
      have hal : Below w1.heap.size w1 (w1.alloc (.cells #[.int .i64 x, .int .i64 k] 36)) := (Below.refl _ _).alloc (Nat.le_refl _) _
      have E1 : Hid (EAt (w1.alloc (.cells #[.int .i64 x, .int .i64 k] 36)) (some ⟨w1.heap.size, 0, none⟩) [(x, k)]) := EAt.blk (t := 36) (Blk.new w1 36 (eRow [(x, k)]))
      have V1' : Below n w (w1.alloc (.cells #[.int .i64 x, .int .i64 k] 36)) := below_new V1 hn _
      have hAlt : A < w1.heap.size := cell_lt y2
      clear hI hO hU hA1
      go_wp2_with fail
      refine (rbatch_any (G1.out.below hal) (some ⟨w1.heap.size, 0, none⟩) 1 1 [(x, k)] rfl (by omega) E1.out (.inr (fun a ha => by cases ha; show w1.heap.size ≠ RB; omega)) (by simp; omega) hks).mono ?_
      rintro e w2 ⟨v2, rfl, hI, hG, hU⟩
      rw [errB_one]
      rw [batL_one] at hI hG
      have J1 : Hid (IAt w2 v1 (diffs L (setL ks.length L x k))) := ((I1.out.below hal).but hU hRX).iat
      have J2 : Hid (IAt w2 v2 (diffs L (setL ks.length L x k))) := hI.iat
      have O2 : Hid (Own w2 F B K T zw zh ks cl (setL ks.length L x k)) := (O1.out.below hal).but hU (by omega) hRO (fun hh => HNF.out hh)
      have G2 : Hid (RG w2 base RB zw zh (.slice ao ks.length kc) cl (setL ks.length L x k)) := hG
      have V2 : Below n w w2 := v_step V1' hU hn hnR
      have hdl := diffs_len L (setL ks.length L x k)
      clear hI hG hU I1 O1 G1
      go_wp2
      (try simp only [Exit.inBlock, Exit.then])
      refine bodyPost_ret (results_four rfl _ _ _) rfl ?_
      exact ⟨v1, v2, _, _, rfl, J1, J2, by omega, by rw [HL.out]; exact O2, by rw [HL.out]; exact G2, V2⟩
end Go.Proofs.Ytcflbekjiohfnaa
