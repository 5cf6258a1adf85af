/- Layer 7 (tour): the contracts of its functions. -/
import Derived.Test.YtcbgeahcnjamdabGreatTourFun
import Derived.Test.YtcbgeahcnjamdabGreatDrawNew
namespace Go.Proofs.YtcbgeahcnjamdabGreat
open Go.RowKit
set_option linter.unusedVariables false
variable {Yh : Hx}
section
variable {w : World} {F : Nat → Prop} {B G : Nat} {t : To}
theorem fvertex_nil (a b : Int) (w : World) : Calls Tryz.prog 48 #[.pointer none, .int .i64 a, .int .i64 b] w fun e w' => e = .returned (.int .i64 0) ∧ w' = w := by
  go_enter Tryz.func48, Tryz.ntmps48
  go_wp2
  go_ret
  exact ⟨rfl, rfl⟩
theorem map_some (bm : Nat) (w : World) : (binOp BinOp.eql 93 (.map (some bm)) (.map none)).run Tryz.prog w = .ok (.bool false) w := by kernel_rfl
theorem map_none (w : World) : (binOp BinOp.eql 93 (.map none) (.map none)).run Tryz.prog w = .ok (.bool true) w := by kernel_rfl
set_option maxRecDepth 100000 in
set_option maxHeartbeats 1600000 in
theorem fvertex_any (h : Tf Yh w F B G t) (sum least : Int) {k : Nat} (hle : t.le k) (hk : k ≤ 30000) : Calls Tryz.prog 48 #[.pointer (some ⟨B, 0, none⟩), .int .i64 sum, .int .i64 least] w fun e w' => ∃ F', e = .returned (.int .i64 (tkI t.v t.fv)) ∧ Tf Yh w' F' B G (t.addV sum least) ∧ Step F F' w w' := by
  have hfv := h.frs.1
  obtain ⟨mp, c7, f7, hmp⟩ := h.map
  have hlv := hle.v
  have hlm := hle.m
  have hmm := @run_makeMap Tryz.prog
  have hms := map_some
  have hmn := map_none
  have BI := hid_mk (h.newBd hle.s (by omega))
  have hvb := tkI_bd hfv
  obtain ⟨i, hi⟩ : ∃ i, i = newI t.s.K t.s.fr := ⟨_, rfl⟩
  obtain ⟨v, hv⟩ : ∃ v, v = tkI t.v t.fv := ⟨_, rfl⟩
  have HV := hid_mk hv
  rw [← hi] at BI
  rw [← hv] at hvb
  have hib := BI.out.i32
  have hw64 : IntKind.i64.wrap v = v := by simp [IntKind.wrap, IntKind.bits, IntKind.signed]; omega
  obtain ⟨tm, htm⟩ : ∃ tm, tm = t.wp t.p (t.m + 1) := ⟨_, rfl⟩
  have CM : Hid (∀ wx Fx, Tf Yh wx Fx B G tm → Calls Tryz.prog 72 #[.pointer (some ⟨B, 0, none⟩), vlc ⟨1, sum, least, 0⟩] wx fun e w' => ∃ F', e = .returned (.int .i32 i) ∧ Tf Yh w' F' B G (tm.ws (t.s.make ⟨1, sum, least, 0⟩)) ∧ Step Fx F' wx w') := fun wx Fx hx => by rw [hi]; rw [htm] at hx ⊢; exact tf_make hx _ hle.s (by omega)
  have CT : Hid (∀ wx Fx, Tf Yh wx Fx B G (tm.ws (t.s.make ⟨1, sum, least, 0⟩)) → Calls Tryz.prog 73 #[.pointer (some ⟨B, 3, none⟩), .int .i32 i] wx fun e w' => ∃ F', e = .returned (.int .i32 v) ∧ Tf Yh w' F' B G ((tm.ws (t.s.make ⟨1, sum, least, 0⟩)).wv (tkL t.v t.fv i) t.fv.dropLast) ∧ Step Fx F' wx w') := fun wx Fx hx => by rw [hv]; rw [htm] at hx ⊢; exact tf_vtake hx i BI.out (Nat.le_trans hle.fv (by omega)) (Nat.le_trans hle.v (by omega))
  have FIN : Hid (∀ wx Fx, Tf Yh wx Fx B G (((tm.ws (t.s.make ⟨1, sum, least, 0⟩)).wv (tkL t.v t.fv i) t.fv.dropLast).wp (updP tm.p i (v, 0)) (tm.m + 1)) → Tf Yh wx Fx B G (t.addV sum least)) := fun wx Fx hx => by rw [htm, hi, hv] at hx; exact hx
  have HTM : Hid (tm.m = t.m + 1) := by rw [htm]; rfl
  have hT0 : Hid (∃ F0, (∃ bm, mp = .map (some bm) ∧ Tf Yh w F0 B G tm ∧ Step F F0 w w) ∨ (mp = .map none ∧ Tf Yh ((w.alloc (.map #[] 0)).setCell ⟨B, 7, none⟩ (.map (some w.heap.size))) F0 B G tm ∧ Step F F0 w ((w.alloc (.map #[] 0)).setCell ⟨B, 7, none⟩ (.map (some w.heap.size))))) := by
    rcases hmp with ⟨rfl, hp, hm⟩ | ⟨bm, rfl, hbm, hP, hup⟩
    · obtain ⟨F0, a1, a2⟩ := h.mkmap hp
      refine ⟨F0, .inr ⟨rfl, ?_, a2⟩⟩
      rw [htm, hp]; exact a1
    · obtain ⟨a1, a2⟩ := hup w t.p (t.m + 1) (hP.mono (Nat.le_succ _)) ⟨rfl, rfl, rfl, Nat.le_refl _, fun _ _ _ => rfl⟩
      refine ⟨F, .inl ⟨bm, rfl, ?_, a2⟩⟩
      rw [htm]; exact a1
  have hba := (Below.refl w.heap.size w).alloc (Nat.le_refl _) (.map #[] 0)
  have c8 := ((bcell hba).1 B 7 (h.lt B h.fb)).trans c7
  have f8 := ((bcell hba).2 B 7 (h.lt B h.fb)).trans f7
  clear hle hi hv hfv htm h hmp hba
  obtain ⟨F0, hT0⟩ := hT0.out
  rcases hT0 with ⟨bm, rfl, hT, hS⟩ | ⟨rfl, hT, hS⟩
  · have H0 := hid_mk hT
    have S0 := hid_mk hS
    clear hT hS
    go_enter Tryz.func48, Tryz.ntmps48
    go_wp2_with fail
    refine (CM.out _ _ H0.out).mono ?_
    rintro e w1 ⟨F1, rfl, hT, hS⟩
    have H1 := hid_mk hT
    have S1 := hid_mk (S0.out.trans hS)
    clear hT hS H0 S0 c7 f7 c8 f8
    go_wp2_with fail
    refine (CT.out _ _ H1.out).mono ?_
    rintro e w2 ⟨F2, rfl, hT, hS⟩
    have H2 := hid_mk hT
    have S2 := hid_mk (S1.out.trans hS)
    clear hT hS H1 S1 CM CT
    obtain ⟨mp, c7, f7, hmp⟩ := H2.out.map
    rcases hmp with ⟨rfl, hp, hm⟩ | ⟨bm2, rfl, hbm, hP, hup⟩
    · exact absurd ((HTM.out.symm.trans hm)) (Nat.succ_ne_zero _)
    have HP := hid_mk hP
    have HU := hid_mk hup
    clear hP hup
    go_wp2_with (at_mapUpdate; refine wpList_part_store rfl _ _ _ rfl rfl HP.out (by show tm.m ≤ 100000; rw [HTM.out]; omega) rfl hib (v, 0) rfl ?_; intro w3 hPs hgs)
    obtain ⟨hTs, hSs⟩ := HU.out _ _ _ hPs hgs
    have H3 := hid_mk (FIN.out _ _ hTs)
    have S3 := hid_mk (S2.out.trans hSs)
    clear hTs hSs hPs hgs HP HU FIN H2 S2
    go_wp2
    go_ret
    exact ⟨_, ret_of (by rw [← HV.out]; go_num), H3.out, S3.out⟩
  · have H0 := hid_mk hT
    have S0 := hid_mk hS
    clear hT hS
    go_enter Tryz.func48, Tryz.ntmps48
    go_wp2_with fail
    refine (CM.out _ _ H0.out).mono ?_
    rintro e w1 ⟨F1, rfl, hT, hS⟩
    have H1 := hid_mk hT
    have S1 := hid_mk (S0.out.trans hS)
    clear hT hS H0 S0 c7 f7 c8 f8
    go_wp2_with fail
    refine (CT.out _ _ H1.out).mono ?_
    rintro e w2 ⟨F2, rfl, hT, hS⟩
    have H2 := hid_mk hT
    have S2 := hid_mk (S1.out.trans hS)
    clear hT hS H1 S1 CM CT
    obtain ⟨mp, c7, f7, hmp⟩ := H2.out.map
    rcases hmp with ⟨rfl, hp, hm⟩ | ⟨bm2, rfl, hbm, hP, hup⟩
    · exact absurd ((HTM.out.symm.trans hm)) (Nat.succ_ne_zero _)
    have HP := hid_mk hP
    have HU := hid_mk hup
    clear hP hup
    go_wp2_with (at_mapUpdate; refine wpList_part_store rfl _ _ _ rfl rfl HP.out (by show tm.m ≤ 100000; rw [HTM.out]; omega) rfl hib (v, 0) rfl ?_; intro w3 hPs hgs)
    obtain ⟨hTs, hSs⟩ := HU.out _ _ _ hPs hgs
    have H3 := hid_mk (FIN.out _ _ hTs)
    have S3 := hid_mk (S2.out.trans hSs)
    clear hTs hSs hPs hgs HP HU FIN H2 S2
    go_wp2
    go_ret
    exact ⟨_, ret_of (by rw [← HV.out]; go_num), H3.out, S3.out⟩
end
end Go.Proofs.YtcbgeahcnjamdabGreat

namespace Go.Proofs.YtcbgeahcnjamdabGreat
open Go.RowKit
set_option linter.unusedVariables false
variable {Yh : Hx}
def To.dropR (t : To) (v : Int) : Int := if isA t.v v = true then (if t.s.lone (t.item v) = true then 0 else 13) else 4
def To.drop (t : To) (v : Int) : To := if isA t.v v = true then (if t.s.lone (t.item v) = true then t.dropV v else t) else t
def To.linkR (t : To) (a b : Int) : Int := if isA t.v a = true ∧ isA t.v b = true then (if t.same a b = true then 5 else 0) else 4
def To.linkN (t : To) (a b : Int) : Int := if t.linkR a b = 0 then t.newE else 0
def To.linked (t : To) (a b : Int) : To := if t.linkR a b = 0 then t.link a b else t
def To.cutR (t : To) (n : Int) : Int := if isA t.e n = true then 0 else 4
def To.cut (t : To) (n : Int) : To := if isA t.e n = true then t.cutE n else t
section
variable {w : World} {F : Nat → Prop} {B G : Nat} {t : To}
theorem fdrop_nil (v : Int) (w : World) : Calls Tryz.prog 49 #[.pointer none, .int .i64 v] w fun e w' => e = .returned (.int .i64 2) ∧ w' = w := by
  go_enter Tryz.func49, Tryz.ntmps49
  go_wp2
  go_ret
  exact ⟨rfl, rfl⟩
theorem flink_nil (a b : Int) (w : World) : Calls Tryz.prog 103 #[.pointer none, .int .i64 a, .int .i64 b] w fun e w' => e = .returned (.tuple #[.int .i64 0, .int .i64 2]) ∧ w' = w := by
  go_enter Tryz.func103, Tryz.ntmps103
  go_wp2
  go_ret2
  exact ⟨rfl, rfl⟩
theorem fcut_nil (v : Int) (w : World) : Calls Tryz.prog 81 #[.pointer none, .int .i64 v] w fun e w' => e = .returned (.int .i64 2) ∧ w' = w := by
  go_enter Tryz.func81, Tryz.ntmps81
  go_wp2
  go_ret
  exact ⟨rfl, rfl⟩
theorem Sq.free_no {s : Sq} {i : Int} (h : s.lone i = false) : s.free i = s := by unfold Sq.free; rw [if_neg (by rw [h]; simp)]
set_option maxHeartbeats 1600000 in
theorem fdrop_any (h : Tf Yh w F B G t) (v : Int) {k : Nat} (hle : t.le k) (hk : k ≤ 30000) : Calls Tryz.prog 49 #[.pointer (some ⟨B, 0, none⟩), .int .i64 v] w fun e w' => ∃ F', e = .returned (.int .i64 (t.dropR v)) ∧ Tf Yh w' F' B G (t.drop v) ∧ Step F F' w w' := by
  have hI := fitem_any h v (Nat.le_trans hle.v (by omega))
  have HI := hid_mk hI
  have H0 := hid_mk h
  rcases h.bd.item v with ⟨hv, hb⟩ | ⟨hv, h0⟩
  · have hvb := isA_bd hv
    have hw := wrap32_in (n := v) (by have := hle.v; omega)
    have HV := hid_mk hv
    have hib := hb.i32
    have hi0 : ¬ t.item v = 0 := by unfold Bd at hb; omega
    have hF := tf_free h (t.item v) hib
    unfold To.dropR To.drop
    rw [if_pos hv, if_pos hv]
    have LE := hid_mk hle
    obtain ⟨i, hi⟩ : ∃ i, i = t.item v := ⟨_, rfl⟩
    have HII := hid_mk hi
    rw [← hi] at HI hI hib hi0 hF ⊢
    have HF := hid_mk hF
    cases hl : t.s.lone i with
    | false =>
      rw [if_neg (by simp), if_neg (by simp)]
      rw [hl] at HF
      have hfn := Sq.free_no hl
      rw [hfn] at HF
      clear h hv hb hI hle hF hi hl hfn
      go_enter Tryz.func49, Tryz.ntmps49
      go_wp2_with fail
      refine HI.out.mono ?_
      rintro e w1 ⟨rfl, rfl⟩
      go_wp2_with fail
      refine HF.out.mono ?_
      rintro e w2 ⟨F2, rfl, hT, hS⟩
      have H2 := hid_mk hT
      have S2 := hid_mk hS
      clear hT hS HF HI H0
      go_wp2
      go_ret
      exact ⟨_, rfl, H2.out, S2.out⟩
    | true =>
      rw [if_pos rfl, if_pos rfl]
      rw [hl] at HF
      have FIN : Hid (∀ wx Fx, Tf Yh wx Fx B G (((t.ws (t.s.free i)).wp (updP t.p i (0, 0)) t.m).wv (frL 0 t.v v) (t.fv ++ [v])) → Tf Yh wx Fx B G (t.dropV v)) := fun wx Fx hx => by rw [hi] at hx; exact hx
      have hdn := fun (wx : World) (ty : TypeId) => Go.Maps.drop_nil (P := Tryz.prog) (w := wx) keyP mapP (keyP_mk hib) ty
      clear h hv hb hI hle hF hi hl
      go_enter Tryz.func49, Tryz.ntmps49
      go_wp2_with fail
      refine HI.out.mono ?_
      rintro e w1 ⟨rfl, rfl⟩
      go_wp2_with fail
      refine HF.out.mono ?_
      rintro e w2 ⟨F2, rfl, hT, hS⟩
      have H2 := hid_mk hT
      have S2 := hid_mk hS
      clear hT hS HF HI H0
      obtain ⟨mp, c7, f7, hmp⟩ := H2.out.map
      have C3 : Hid (∀ wx Fx, Tf Yh wx Fx B G ((t.ws (t.s.free i)).wp (updP t.p i (0, 0)) t.m) → Calls Tryz.prog 76 #[.pointer (some ⟨B, 3, none⟩), .int .i32 v] wx fun e w' => ∃ F', e = .returned (.bool true) ∧ Tf Yh w' F' B G (((t.ws (t.s.free i)).wp (updP t.p i (0, 0)) t.m).wv (frL 0 t.v v) (t.fv ++ [v])) ∧ Step Fx F' wx w') := fun wx Fx hx => tf_vfree hx v HV.out (Nat.le_trans LE.out.fv (by omega)) (Nat.le_trans LE.out.v (by omega))
      rcases hmp with ⟨rfl, hp, hm⟩ | ⟨bm, rfl, hbm, hP, hup⟩
      · have H3 : Hid (Tf Yh w2 F2 B G ((t.ws (t.s.free i)).wp (updP t.p i (0, 0)) t.m)) := by
          have hp' : t.p = p0 := hp
          show Tf Yh _ _ _ _ _
          rw [hp', updP_p0]
          exact H2.out.eqp hp rfl
        clear hp hm H2
        go_wp2_with fail
        refine (C3.out _ _ H3.out).mono ?_
        rintro e w4 ⟨F4, rfl, hT, hS⟩
        have H4 := hid_mk (FIN.out _ _ hT)
        have S4 := hid_mk (S2.out.trans hS)
        clear hT hS H3 S2 C3 FIN c7 f7
        go_wp2
        go_ret
        exact ⟨_, rfl, H4.out, S4.out⟩
      · have HP := hid_mk hP
        have HU := hid_mk hup
        clear hP hup
        go_wp2_with (at_delete; refine wpList_part_drop rfl _ _ rfl rfl HP.out rfl hib ?_; intro w3 hP0 hg0)
        obtain ⟨hT0, hS0⟩ := HU.out _ _ _ hP0 hg0
        have H3 : Hid (Tf Yh w3 F2 B G ((t.ws (t.s.free i)).wp (updP t.p i (0, 0)) t.m)) := hT0
        have S3 := hid_mk (S2.out.trans hS0)
        clear hT0 hS0 hP0 hg0 HP HU H2 S2
        go_wp2_with fail
        refine (C3.out _ _ H3.out).mono ?_
        rintro e w4 ⟨F4, rfl, hT, hS⟩
        have H4 := hid_mk (FIN.out _ _ hT)
        have S4 := hid_mk (S3.out.trans hS)
        clear hT hS H3 S3 C3 FIN c7 f7
        go_wp2
        go_ret
        exact ⟨_, rfl, H4.out, S4.out⟩
  · unfold To.dropR To.drop
    rw [if_neg (by rw [hv]; simp), if_neg (by rw [hv]; simp)]
    rw [h0] at HI
    clear h hv h0 hI hle
    go_enter Tryz.func49, Tryz.ntmps49
    go_wp2_with fail
    refine HI.out.mono ?_
    rintro e w1 ⟨rfl, rfl⟩
    go_wp2
    go_ret
    exact ⟨_, rfl, H0.out, Step.refl _ _⟩
set_option maxHeartbeats 1600000 in
theorem flink_any (h : Tf Yh w F B G t) (a b : Int) (hm : isA t.v a = true → t.m ≠ 0) {k : Nat} (hle : t.le k) (hk : k ≤ 30000) : Calls Tryz.prog 103 #[.pointer (some ⟨B, 0, none⟩), .int .i64 a, .int .i64 b] w fun e w' => ∃ F' G', e = .returned (.tuple #[.int .i64 (t.linkN a b), .int .i64 (t.linkR a b)]) ∧ Tf Yh w' F' B G' (t.linked a b) ∧ Step F F' w w' := by
  have H0 := hid_mk h
  have HA := hid_mk (fitem_any h a (Nat.le_trans hle.v (by omega)))
  have HB := hid_mk (fitem_any h b (Nat.le_trans hle.v (by omega)))
  have no : ¬ (isA t.v a = true ∧ isA t.v b = true) → Hid (t.linkN a b = 0 ∧ t.linkR a b = 4 ∧ t.linked a b = t) := fun hno => by
    have e1 : t.linkR a b = 4 := by unfold To.linkR; rw [if_neg hno]
    exact ⟨by unfold To.linkN; rw [e1, if_neg (by omega)], e1, by unfold To.linked; rw [e1, if_neg (by omega)]⟩
  rcases h.bd.item a with ⟨ha, hab⟩ | ⟨ha, ha0⟩
  · rcases h.bd.item b with ⟨hb, hbb⟩ | ⟨hb, hb0⟩
    · have hai := hab.i32
      have hbi := hbb.i32
      have HS := hid_mk (tf_same h (t.item a) (t.item b) hai hbi)
      have ha0 : ¬ t.item a = 0 := by unfold Bd at hab; omega
      have hb0 : ¬ t.item b = 0 := by unfold Bd at hbb; omega
      cases hs : t.same a b with
      | true =>
        have e1 : t.linkR a b = 5 := by unfold To.linkR; rw [if_pos ⟨ha, hb⟩, if_pos hs]
        rw [show t.linkN a b = 0 by unfold To.linkN; rw [e1, if_neg (by omega)], e1, show t.linked a b = t by unfold To.linked; rw [e1, if_neg (by omega)]]
        rw [show decide (t.item b ∈ t.s.S (t.item a)) = true from hs] at HS
        clear h ha hb hab hbb hle hm no hs e1
        generalize t.item a = i at *
        generalize t.item b = j at *
        have ha1 : (i == 0) = false := by simpa using ha0
        have hb1 : (j == 0) = false := by simpa using hb0
        go_enter Tryz.func103, Tryz.ntmps103
        go_wp2_with fail
        refine HA.out.mono ?_
        rintro e w1 ⟨rfl, rfl⟩
        go_wp2_with fail
        refine HB.out.mono ?_
        rintro e w1 ⟨rfl, rfl⟩
        go_wp2_with fail
        refine HS.out.mono ?_
        rintro e w1 ⟨rfl, rfl⟩
        go_wp2
        go_ret2
        exact ⟨_, _, rfl, H0.out, Step.refl _ _⟩
      | false =>
        have e1 : t.linkR a b = 0 := by unfold To.linkR; rw [if_pos ⟨ha, hb⟩, if_neg (by rw [hs]; simp)]
        rw [show t.linkN a b = t.newE by unfold To.linkN; rw [e1, if_pos rfl], e1, show t.linked a b = t.link a b by unfold To.linked; rw [e1, if_pos rfl]]
        rw [show decide (t.item b ∈ t.s.S (t.item a)) = false from hs] at HS
        have hfe := h.frs.2
        have hnb := tkI_bd hfe
        have HNE := hid_mk (fnewEdge_any h a b (hm ha) hle hk)
        have hA1 : isA (t.addE a b).e t.newE = true := by show isA (tkL t.e t.fe _) _ = true; rw [isA_tkL hfe]; exact if_pos rfl
        have hE1 : (t.addE a b).edge t.newE = ⟨a, b, t.newX, t.newY⟩ := by show atA zeE (tkL t.e t.fe _) _ = _; rw [atA_tkL hfe _ _ (show 1 ≤ t.newE from hnb.1)]; exact if_pos rfl
        have hlen : (t.addE a b).e.length ≤ 100000 := Nat.le_trans (tkL_len _ _ _) (by have := hle.e; omega)
        have C1 : Hid (∀ wx Fx Gx, Tf Yh wx Fx B Gx (t.addE a b) → Calls Tryz.prog 126 #[.pointer (some ⟨B, 5, none⟩), .int .i32 t.newE] wx fun e w' => e = .returned (.pointer (some ⟨Gx, eloc t.newE, none⟩)) ∧ w' = wx) := fun wx Fx Gx hx => tf_eat hx t.newE hA1 hlen
        have C2 : Hid (∀ wx Fx Gx, Tf Yh wx Fx B Gx (t.addE a b) → Calls Tryz.prog 125 #[.pointer (some ⟨B, 0, none⟩), .int .i32 (t.item a), .int .i32 (t.item b), .pointer (some ⟨Gx, eloc t.newE, none⟩)] wx fun e w' => ∃ F', e = .returned (.tuple #[]) ∧ Tf Yh w' F' B Gx (t.link a b) ∧ Step Fx F' wx w') := fun wx Fx Gx hx => by
          have := fsplice_any hx (t.item a) (t.item b) t.newE hA1 hai hbi
          rw [hE1] at this
          exact this
        have hnE : 1 ≤ t.newE ∧ t.newE ≤ 100000 := by have := hle.e; show 1 ≤ tkI t.e t.fe ∧ tkI t.e t.fe ≤ 100000; omega
        clear h ha hb hab hbb hle hm no hs e1 hA1 hE1 hlen hfe hnb
        generalize t.item a = i at *
        generalize t.item b = j at *
        have ha1 : (i == 0) = false := by simpa using ha0
        have hb1 : (j == 0) = false := by simpa using hb0
        obtain ⟨E, hE⟩ : ∃ E, E = t.newE := ⟨_, rfl⟩
        have HEE := hid_mk hE
        rw [← hE] at hnE C1 C2 HNE
        clear hE
        have hw64 : IntKind.i64.wrap E = E := by simp [IntKind.wrap, IntKind.bits, IntKind.signed]; omega
        generalize eloc E = o at *
        go_enter Tryz.func103, Tryz.ntmps103
        go_wp2_with fail
        refine HA.out.mono ?_
        rintro e w1 ⟨rfl, rfl⟩
        go_wp2_with fail
        refine HB.out.mono ?_
        rintro e w1 ⟨rfl, rfl⟩
        go_wp2_with fail
        refine HS.out.mono ?_
        rintro e w1 ⟨rfl, rfl⟩
        go_wp2_with fail
        refine HNE.out.mono ?_
        rintro e w2 ⟨F2, G2, rfl, hT, hS⟩
        have H2 := hid_mk hT
        have S2 := hid_mk hS
        clear hT hS HNE HS HA HB H0
        go_wp2_with fail
        refine (C1.out _ _ _ H2.out).mono ?_
        rintro e w3 ⟨rfl, rfl⟩
        go_wp2_with fail
        refine (C2.out _ _ _ H2.out).mono ?_
        rintro e w4 ⟨F4, rfl, hT, hS⟩
        have H4 := hid_mk hT
        have S4 := hid_mk (S2.out.trans hS)
        clear hT hS H2 S2 C1 C2
        go_wp2
        go_ret2
        exact ⟨_, _, ret_of (by rw [← HEE.out]; go_num), H4.out, S4.out⟩
    · obtain ⟨e1, e2, e3⟩ := (no (by rw [hb]; simp)).out
      rw [e1, e2, e3]
      have ha0 : ¬ t.item a = 0 := by unfold Bd at hab; omega
      rw [hb0] at HB
      clear h ha hb hab hb0 hle hm no e1 e2 e3
      generalize t.item a = i at *
      have ha1 : (i == 0) = false := by simpa using ha0
      go_enter Tryz.func103, Tryz.ntmps103
      go_wp2_with fail
      refine HA.out.mono ?_
      rintro e w1 ⟨rfl, rfl⟩
      go_wp2_with fail
      refine HB.out.mono ?_
      rintro e w1 ⟨rfl, rfl⟩
      go_wp2
      go_ret2
      exact ⟨_, _, rfl, H0.out, Step.refl _ _⟩
  · obtain ⟨e1, e2, e3⟩ := (no (by rw [ha]; simp)).out
    rw [e1, e2, e3]
    rw [ha0] at HA
    clear h ha ha0 hle hm no e1 e2 e3
    generalize t.item b = j at *
    go_enter Tryz.func103, Tryz.ntmps103
    go_wp2_with fail
    refine HA.out.mono ?_
    rintro e w1 ⟨rfl, rfl⟩
    go_wp2_with fail
    refine HB.out.mono ?_
    rintro e w1 ⟨rfl, rfl⟩
    go_wp2
    go_ret2
    exact ⟨_, _, rfl, H0.out, Step.refl _ _⟩
end
end Go.Proofs.YtcbgeahcnjamdabGreat

namespace Go.Proofs.YtcbgeahcnjamdabGreat
open Go.RowKit
set_option linter.unusedVariables false
variable {Yh : Hx}
theorem To.ws_e (t : To) (s : Sq) : (t.ws s).e = t.e ∧ (t.ws s).fe = t.fe := ⟨rfl, rfl⟩
theorem To.dropI_e (t : To) (i : Int) : (t.dropI i).e = t.e ∧ (t.dropI i).fe = t.fe := by
  obtain ⟨a, b, c, d, e, f, g⟩ := t
  exact ⟨rfl, rfl⟩
section
variable {w : World} {F : Nat → Prop} {B G : Nat} {t : To}
set_option maxHeartbeats 1600000 in
theorem fcut_any (h : Tf Yh w F B G t) (n : Int) {k : Nat} (hle : t.le k) (hk : k ≤ 30000) : Calls Tryz.prog 81 #[.pointer (some ⟨B, 0, none⟩), .int .i64 n] w fun e w' => ∃ F', e = .returned (.int .i64 (t.cutR n)) ∧ Tf Yh w' F' B G (t.cut n) ∧ Step F F' w w' := by
  have H0 := hid_mk h
  cases hn : isA t.e n with
  | false =>
    have HE := hid_mk (fedge_no h n hn (Nat.le_trans hle.e (by omega)))
    unfold To.cutR To.cut
    rw [if_neg (by rw [hn]; simp), if_neg (by rw [hn]; simp)]
    clear h hn hle
    go_enter Tryz.func81, Tryz.ntmps81
    go_wp2_with fail
    refine HE.out.mono ?_
    rintro e w1 ⟨rfl, rfl⟩
    go_wp2
    go_ret
    exact ⟨_, rfl, H0.out, Step.refl _ _⟩
  | true =>
    have HE := hid_mk (fedge_yes h n hn (Nat.le_trans hle.e (by omega)))
    unfold To.cutR To.cut
    rw [if_pos hn, if_pos hn]
    have hx := h.bd.x n hn
    have hnb := isA_bd hn
    have hw := wrap32_in (n := n) (by have := hle.e; omega)
    obtain ⟨x, ex⟩ : ∃ x, x = (t.edge n).x := ⟨_, rfl⟩
    obtain ⟨y, ey⟩ : ∃ y, y = (t.edge n).y := ⟨_, rfl⟩
    have HC : Hid (∀ w' F' t', Tf Yh w' F' B G t' → t'.e = t.e → w'.cell? ⟨G, eloc n + 2, none⟩ = some (.int .i32 x) ∧ w'.cell? ⟨G, eloc n + 3, none⟩ = some (.int .i32 y)) := fun w' F' t' h' he => by
      have hn' : isA t'.e n = true := by rw [he]; exact hn
      have := h'.ecell (i := n) hn'
      rw [ex, ey, show t.edge n = t'.edge n by unfold To.edge; rw [he]]
      exact ⟨this.2.2.1, this.2.2.2.1⟩
    have HU := hid_mk (funsplice_any h n hn)
    obtain ⟨t3, ht3⟩ : ∃ t3, t3 = ((t.ws (t.s.unsplice x y)).dropI x).dropI y := ⟨_, rfl⟩
    have he3 : t3.e = t.e ∧ t3.fe = t.fe := by rw [ht3, (To.dropI_e _ _).1, (To.dropI_e _ _).2, (To.dropI_e _ _).1, (To.dropI_e _ _).2]; exact To.ws_e _ _
    have hfin : t3.we (frL zeE t3.e n) (t3.fe ++ [n]) = t.cutE n := by rw [he3.1, he3.2, ht3]; unfold To.cutE; rw [← ex, ← ey]
    have FIN : Hid (∀ wx Fx, Tf Yh wx Fx B G (t3.we (frL zeE t3.e n) (t3.fe ++ [n])) → Tf Yh wx Fx B G (t.cutE n)) := fun wx Fx hx => by rw [hfin] at hx; exact hx
    rw [← ex, ← ey] at HU hx
    have hxb := hx.1.i32
    have hyb := hx.2.i32
    have C4 : Hid (∀ wx Fx, Tf Yh wx Fx B G t3 → Calls Tryz.prog 108 #[.pointer (some ⟨B, 5, none⟩), .int .i32 n] wx fun e w' => ∃ F', e = .returned (.bool true) ∧ Tf Yh w' F' B G (t3.we (frL zeE t3.e n) (t3.fe ++ [n])) ∧ Step Fx F' wx w') := fun wx Fx hx => tf_efree hx n (by rw [he3.1]; exact hn) (by rw [he3.2]; exact Nat.le_trans hle.fe (by omega)) (by rw [he3.1]; exact Nat.le_trans hle.e (by omega))
    have HT3 := hid_mk ht3
    clear hfin he3 ht3
    clear h hn hle hx ex ey hnb
    generalize eloc n = o at *
    go_enter Tryz.func81, Tryz.ntmps81
    go_wp2_with fail
    refine HE.out.mono ?_
    rintro e w1 ⟨rfl, rfl⟩
    go_wp2_with fail
    refine HU.out.mono ?_
    rintro e w2 ⟨F2, rfl, hT, hS⟩
    have H2 := hid_mk hT
    have S2 := hid_mk hS
    obtain ⟨q1, q2⟩ := HC.out _ _ _ hT (To.ws_e _ _).1
    clear hT hS HE HU H0 q2
    go_wp2_with fail
    refine (fdropItem_any H2.out x hxb).mono ?_
    rintro e w3 ⟨F3, rfl, hT, hS⟩
    have H3 := hid_mk hT
    have S3 := hid_mk (S2.out.trans hS)
    replace q1 := (HC.out _ _ _ hT (((To.dropI_e _ _).1).trans (To.ws_e _ _).1)).2
    clear hT hS H2 S2
    go_wp2_with fail
    refine (fdropItem_any H3.out y hyb).mono ?_
    rintro e w4 ⟨F4, rfl, hT, hS⟩
    have H4 : Hid (Tf Yh w4 F4 B G t3) := by show Tf Yh _ _ _ _ _; rw [HT3.out]; exact hT
    have S4 := hid_mk (S3.out.trans hS)
    clear hT hS H3 S3 q1
    go_wp2_with fail
    refine (C4.out _ _ H4.out).mono ?_
    rintro e w5 ⟨F5, rfl, hT, hS⟩
    have H5 := hid_mk (FIN.out _ _ hT)
    have S5 := hid_mk (S4.out.trans hS)
    clear hT hS H4 S4 FIN C4
    go_wp2
    go_ret
    exact ⟨_, rfl, H5.out, S5.out⟩
end
end Go.Proofs.YtcbgeahcnjamdabGreat

namespace Go.Proofs.YtcbgeahcnjamdabGreat
open Go.RowKit
set_option linter.unusedVariables false
variable {Yh : Hx}
/-- Marks of vertices, of edges, among an item's bits. -/
def vmk (b : Int) : Int := bits BinOp.and IntKind.u8 b 15
def emk (b : Int) : Int := b * 16 % 256
theorem vertexMark_any (b : Int) (w : World) : Calls Tryz.prog 111 #[.int .u8 b] w fun e w' => e = .returned (.int .u8 (vmk b)) ∧ w' = w := by
  go_enter Tryz.func111, Tryz.ntmps111
  go_wp2
  go_ret
  exact ⟨rfl, rfl⟩
theorem edgeMark_any (b : Int) (w : World) : Calls Tryz.prog 127 #[.int .u8 b] w fun e w' => e = .returned (.int .u8 (emk b)) ∧ w' = w := by
  go_enter Tryz.func127, Tryz.ntmps127
  go_wp2
  go_ret
  exact ⟨rfl, rfl⟩
section
variable {w : World} {F : Nat → Prop} {B G : Nat} {t : To}
set_option maxHeartbeats 800000 in
theorem fsame_any (h : Tf Yh w F B G t) (a b : Int) {k : Nat} (hle : t.le k) (hk : k ≤ 30000) : Calls Tryz.prog 66 #[.pointer (some ⟨B, 0, none⟩), .int .i64 a, .int .i64 b] w fun e w' => e = .returned (.bool (t.same a b)) ∧ Below w.heap.size w w' := by
  have HI : Hid (∀ (g : Grow w) (v : Int), Calls Tryz.prog 74 #[.pointer (some ⟨B, 0, none⟩), .int .i64 v] g.w fun e w' => e = .returned (.int .i32 (t.item v)) ∧ Below g.w.heap.size g.w w') := fun g v => (fitem_any (h.below g.h) v (Nat.le_trans hle.v (by omega))).mono fun e w' ⟨h1, h2⟩ => ⟨h1, by rw [h2]; exact Below.refl _ _⟩
  have bd : ∀ v, -2147483648 ≤ t.item v ∧ t.item v ≤ 2147483647 := fun v => by
    rcases h.bd.item v with ⟨_, h1⟩ | ⟨_, h1⟩
    · exact h1.i32
    · rw [h1]; omega
  have HS : Hid (∀ g : Grow w, Calls Tryz.prog 91 #[.pointer (some ⟨B, 0, none⟩), .int .i32 (t.item a), .int .i32 (t.item b)] g.w fun e w' => e = .returned (.bool (t.same a b)) ∧ Below g.w.heap.size g.w w') := fun g => (tf_same (h.below g.h) _ _ (bd a) (bd b)).mono fun e w' ⟨h1, h2⟩ => ⟨h1, by rw [h2]; exact Below.refl _ _⟩
  have hne := Grow.ne w
  clear h hle bd
  generalize t.same a b = r at *
  generalize t.item = fi at *
  go_enter Tryz.func66, Tryz.ntmps66
  go_wp2_with fail
  refine wp_region_grow (by kernel_rfl) (by kernel_rfl) ?_
  repeat (go_big_quiet_step (first | (go_at_call 74; exact grow_call (HI.out _ _)) | (go_at_call 91; exact grow_call (HS.out _))))
  refine wpQuiet_nil ?_
  rintro w7 ⟨⟨_, hb7⟩, rfl⟩
  go_wp2
  go_ret
  exact ⟨rfl, hb7⟩
theorem fsame_nil (a b : Int) (w : World) : Calls Tryz.prog 66 #[.pointer none, .int .i64 a, .int .i64 b] w fun e w' => e = .returned (.bool false) ∧ Below w.heap.size w w' := by
  have hne := Grow.ne w
  go_enter Tryz.func66, Tryz.ntmps66
  go_wp2_with fail
  refine wp_region_grow (by kernel_rfl) (by kernel_rfl) ?_
  repeat (go_big_quiet_step (fail))
  refine wpQuiet_nil ?_
  rintro w7 ⟨⟨_, hb7⟩, rfl⟩
  go_wp2
  go_ret
  exact ⟨rfl, hb7⟩
set_option maxHeartbeats 800000 in
theorem ftotal_any (h : Tf Yh w F B G t) (v : Int) {k : Nat} (hle : t.le k) (hk : k ≤ 30000) : Calls Tryz.prog 92 #[.pointer (some ⟨B, 0, none⟩), .int .i64 v] w fun e w' => e = .returned (vlc (t.total v)) ∧ Below w.heap.size w w' := by
  have hb1 := (Below.refl w.heap.size w).alloc (Nat.le_refl _) (.cells #[.int .i64 0, .int .i64 0, .int .i64 0, .int .u8 0] 128)
  have hK := Blk.new w 128 #[.int .i64 0, .int .i64 0, .int .i64 0, .int .u8 0]
  have HI := hid_mk (fitem_any (h.below hb1) v (Nat.le_trans hle.v (by omega)))
  have HB := hid_mk hb1
  have HK := hid_mk hK
  rcases h.bd.item v with ⟨hv, hb⟩ | ⟨hv, h0⟩
  · have hi0 : ¬ t.item v = 0 := by unfold Bd at hb; omega
    have HT := hid_mk (tf_total (h.below hb1) (t.item v) hb.i32)
    unfold To.total
    rw [if_neg hi0]
    generalize hZ : sumV ((t.s.S (t.item v)).map t.s.V) = Z at *
    clear hZ
    generalize t.item v = i at *
    have hi1 : (i == 0) = false := by simpa using hi0
    clear h hle hv hb hb1 hK
    go_enter Tryz.func92, Tryz.ntmps92
    go_wp2_with fail
    refine HI.out.mono ?_
    rintro e w1 ⟨rfl, rfl⟩
    go_wp2_with fail
    refine HT.out.mono ?_
    rintro e w2 ⟨rfl, hb2⟩
    have hK2 := HK.out.below hb2
    have HB2 := hid_mk (HB.out.trans (hb2.mono (by simp)))
    have c0 := hK2.at (j := 0) rfl
    have c1 := hK2.at (j := 1) rfl
    have c2 := hK2.at (j := 2) rfl
    have c3 := hK2.at (j := 3) rfl
    have f0 := hK2.frozen 0
    have f1 := hK2.frozen 1
    have f2 := hK2.frozen 2
    have f3 := hK2.frozen 3
    have HK2 := hid_mk hK2
    clear hb2 hK2 HI HT HB HK
    go_wp2
    refine bodyPost_ret (results_cell_row rfl _ _ w.heap.size 128 _ (0, 0) _ rfl (Blk.store4 HK2.out _ _ _ _) Tryz.underlying128 rfl (by kernel_rfl)) rfl ?_
    exact ⟨rfl, ((((HB2.out.setCell (Nat.le_refl _) _).setCell (Nat.le_refl _) _).setCell (Nat.le_refl _) _).setCell (Nat.le_refl _) _)⟩
  · unfold To.total
    rw [if_pos h0]
    rw [h0] at HI
    clear h hle hv h0 hb1 hK
    go_enter Tryz.func92, Tryz.ntmps92
    go_wp2_with fail
    refine HI.out.mono ?_
    rintro e w1 ⟨rfl, rfl⟩
    go_wp2
    refine bodyPost_ret (results_cell_row rfl _ _ w.heap.size 128 _ (0, 0) _ rfl HK.out Tryz.underlying128 rfl (by kernel_rfl)) rfl ?_
    exact ⟨rfl, HB.out⟩
theorem ftotal_nil (v : Int) (w : World) : Calls Tryz.prog 92 #[.pointer none, .int .i64 v] w fun e w' => e = .returned (vlc zeV) ∧ Below w.heap.size w w' := by
  have hb1 := (Below.refl w.heap.size w).alloc (Nat.le_refl _) (.cells #[.int .i64 0, .int .i64 0, .int .i64 0, .int .u8 0] 128)
  have HB := hid_mk hb1
  have HK := hid_mk (Blk.new w 128 #[.int .i64 0, .int .i64 0, .int .i64 0, .int .u8 0])
  clear hb1
  go_enter Tryz.func92, Tryz.ntmps92
  go_wp2_with fail
  refine (fitem_nil v _).mono ?_
  rintro e w1 ⟨rfl, rfl⟩
  go_wp2
  refine bodyPost_ret (results_cell_row rfl _ _ w.heap.size 128 _ (0, 0) _ rfl HK.out Tryz.underlying128 rfl (by kernel_rfl)) rfl ?_
  exact ⟨rfl, HB.out⟩
theorem fldX (Z : Vl) (w : World) : Sem.run Tryz.prog (Instr.field 128 (vlc Z) 0) w = .ok (.int .i64 Z.c) w ∧ Sem.run Tryz.prog (Instr.field 128 (vlc Z) 1) w = .ok (.int .i64 Z.s) w ∧ Sem.run Tryz.prog (Instr.field 128 (vlc Z) 2) w = .ok (.int .i64 Z.l) w := by
  obtain ⟨a, b, c, d⟩ := Z
  exact ⟨by kernel_rfl, by kernel_rfl, by kernel_rfl⟩
theorem fsize_any (h : Tf Yh w F B G t) (v : Int) {k : Nat} (hle : t.le k) (hk : k ≤ 30000) : Calls Tryz.prog 67 #[.pointer (some ⟨B, 0, none⟩), .int .i64 v] w fun e w' => e = .returned (.int .i64 (t.total v).c) ∧ Below w.heap.size w w' := by
  have HT := hid_mk (ftotal_any h v hle hk)
  have hfl := fldX
  clear h hle
  generalize t.total v = Z at *
  go_enter Tryz.func67, Tryz.ntmps67
  go_wp2_with fail
  refine HT.out.mono ?_
  rintro e w1 ⟨rfl, hb⟩
  go_wp2
  go_ret
  exact ⟨rfl, hb⟩
theorem fsize_nil (v : Int) (w : World) : Calls Tryz.prog 67 #[.pointer none, .int .i64 v] w fun e w' => e = .returned (.int .i64 0) ∧ Below w.heap.size w w' := by
  have HT := hid_mk (ftotal_nil v w)
  have hfl := fldX
  go_enter Tryz.func67, Tryz.ntmps67
  go_wp2_with fail
  refine HT.out.mono ?_
  rintro e w1 ⟨rfl, hb⟩
  go_wp2
  go_ret
  exact ⟨rfl, hb⟩
theorem fsum_any (h : Tf Yh w F B G t) (v : Int) {k : Nat} (hle : t.le k) (hk : k ≤ 30000) : Calls Tryz.prog 68 #[.pointer (some ⟨B, 0, none⟩), .int .i64 v] w fun e w' => e = .returned (.int .i64 (t.total v).s) ∧ Below w.heap.size w w' := by
  have HT := hid_mk (ftotal_any h v hle hk)
  have hfl := fldX
  clear h hle
  generalize t.total v = Z at *
  go_enter Tryz.func68, Tryz.ntmps68
  go_wp2_with fail
  refine HT.out.mono ?_
  rintro e w1 ⟨rfl, hb⟩
  go_wp2
  go_ret
  exact ⟨rfl, hb⟩
theorem fsum_nil (v : Int) (w : World) : Calls Tryz.prog 68 #[.pointer none, .int .i64 v] w fun e w' => e = .returned (.int .i64 0) ∧ Below w.heap.size w w' := by
  have HT := hid_mk (ftotal_nil v w)
  have hfl := fldX
  go_enter Tryz.func68, Tryz.ntmps68
  go_wp2_with fail
  refine HT.out.mono ?_
  rintro e w1 ⟨rfl, hb⟩
  go_wp2
  go_ret
  exact ⟨rfl, hb⟩
theorem fleast_any (h : Tf Yh w F B G t) (v : Int) {k : Nat} (hle : t.le k) (hk : k ≤ 30000) : Calls Tryz.prog 69 #[.pointer (some ⟨B, 0, none⟩), .int .i64 v] w fun e w' => e = .returned (.int .i64 (t.total v).l) ∧ Below w.heap.size w w' := by
  have HT := hid_mk (ftotal_any h v hle hk)
  have hfl := fldX
  clear h hle
  generalize t.total v = Z at *
  go_enter Tryz.func69, Tryz.ntmps69
  go_wp2_with fail
  refine HT.out.mono ?_
  rintro e w1 ⟨rfl, hb⟩
  go_wp2
  go_ret
  exact ⟨rfl, hb⟩
theorem fleast_nil (v : Int) (w : World) : Calls Tryz.prog 69 #[.pointer none, .int .i64 v] w fun e w' => e = .returned (.int .i64 0) ∧ Below w.heap.size w w' := by
  have HT := hid_mk (ftotal_nil v w)
  have hfl := fldX
  go_enter Tryz.func69, Tryz.ntmps69
  go_wp2_with fail
  refine HT.out.mono ?_
  rintro e w1 ⟨rfl, hb⟩
  go_wp2
  go_ret
  exact ⟨rfl, hb⟩
end
end Go.Proofs.YtcbgeahcnjamdabGreat

namespace Go.Proofs.YtcbgeahcnjamdabGreat
open Go.RowKit
set_option linter.unusedVariables false
variable {Yh : Hx}
def To.setR (t : To) (v : Int) : Int := if isA t.v v = true then 0 else 4
def To.set (t : To) (v sum least : Int) : To := if isA t.v v = true then t.setV v sum least else t
def To.markR (t : To) (v b : Int) : Int := if b > 15 then 1 else if isA t.v v = true then 0 else 4
def To.mark (t : To) (v b : Int) : To := if b > 15 then t else if isA t.v v = true then t.markI (t.item v) (vmk b) else t
def To.emarkR (t : To) (n b : Int) : Int := if b > 15 then 1 else if isA t.e n = true then 0 else 4
def To.emark (t : To) (n b : Int) : To := if b > 15 then t else if isA t.e n = true then t.markI (t.edge n).x (emk b) else t
def To.endA (t : To) (n : Int) : Int := if isA t.e n = true then (t.edge n).a else 0
def To.endB (t : To) (n : Int) : Int := if isA t.e n = true then (t.edge n).b else 0
section
variable {w : World} {F : Nat → Prop} {B G : Nat} {t : To}
theorem fmark_nil (v b : Int) (w : World) : Calls Tryz.prog 90 #[.pointer none, .int .i64 v, .int .u8 b] w fun e w' => e = .returned (.int .i64 2) ∧ w' = w := by
  go_enter Tryz.func90, Tryz.ntmps90
  go_wp2
  go_ret
  exact ⟨rfl, rfl⟩
theorem femark_nil (v b : Int) (w : World) : Calls Tryz.prog 104 #[.pointer none, .int .i64 v, .int .u8 b] w fun e w' => e = .returned (.int .i64 2) ∧ w' = w := by
  go_enter Tryz.func104, Tryz.ntmps104
  go_wp2
  go_ret
  exact ⟨rfl, rfl⟩
set_option maxHeartbeats 1600000 in
theorem fmarkItem_any (h : Tf Yh w F B G t) (i m : Int) (hb : -2147483648 ≤ i ∧ i ≤ 2147483647) : Calls Tryz.prog 113 #[.pointer (some ⟨B, 0, none⟩), .int .i32 i, .int .u8 m] w fun e w' => ∃ F', e = .returned (.tuple #[]) ∧ Tf Yh w' F' B G (t.markI i m) ∧ Step F F' w w' := by
  have HG := hid_mk (tf_get h i hb)
  have H0 := hid_mk h
  have FIN : Hid (∀ wx Fx, Tf Yh wx Fx B G (t.ws (t.s.set i ⟨(t.val i).c, (t.val i).s, (t.val i).l, m⟩)) → Tf Yh wx Fx B G (t.markI i m)) := fun wx Fx hx => hx
  rcases hz : t.val i with ⟨zc, zs, zl, zm⟩
  rw [hz] at HG FIN
  clear h hz
  go_enter Tryz.func113, Tryz.ntmps113
  go_wp2_with fail
  refine HG.out.mono ?_
  rintro e w1 ⟨rfl, hb1⟩
  have H1 := hid_mk (H0.out.below hb1)
  have S1 : Hid (Step F F w w1) := Step.of_below hb1
  clear hb1 HG H0
  have hba := (Below.refl w1.heap.size w1).alloc (Nat.le_refl _) (.cells #[.int .i64 zc, .int .i64 zs, .int .i64 zl, .int .u8 m] 128)
  have hX2 : Blk (w1.alloc (.cells #[.int .i64 zc, .int .i64 zs, .int .i64 zl, .int .u8 m] 128)) w1.heap.size 128 #[.int .i64 zc, .int .i64 zs, .int .i64 zl, .int .u8 m] := Blk.new w1 _ _
  have nX : ¬ F w1.heap.size := fun hf => Nat.lt_irrefl _ (H1.out.lt _ hf)
  have H2 := hid_mk (H1.out.below hba)
  have S2 := hid_mk (S1.out.trans (Step.of_below hba))
  clear hba H1 S1
  go_wp2_with fail
  generalize w1.alloc (.cells #[.int .i64 zc, .int .i64 zs, .int .i64 zl, .int .u8 m] 128) = w2 at *
  generalize w1.heap.size = M at *
  have C2 : Hid (Calls Tryz.prog 134 #[.pointer (some ⟨B, 0, none⟩), .int .i32 i, vlc ⟨zc, zs, zl, m⟩] w2.drew fun e w' => ∃ F', e = .returned (.bool (isK t.s.K i)) ∧ Tf Yh w' F' B G (t.ws (t.s.set i ⟨zc, zs, zl, m⟩)) ∧ Step F F' w2.drew w' ∧ Kpt F F' w2.drew w') := (tf_set H2.out.drew i ⟨zc, zs, zl, m⟩ hb).mono fun e w' ⟨F', h1, h2, h3⟩ => ⟨F', h1, h2, h3, h3.kpt⟩
  have nz : Hid (∀ wx, Blk wx M 128 #[.int .i64 zc, .int .i64 zs, .int .i64 zl, .int .u8 m] → wx.cell? ⟨M, 0, none⟩ = some (.int .i64 zc) ∧ wx.cell? ⟨M, 1, none⟩ = some (.int .i64 zs) ∧ wx.cell? ⟨M, 2, none⟩ = some (.int .i64 zl) ∧ wx.cell? ⟨M, 3, none⟩ = some (.int .u8 m)) := fun wx hx => ⟨hx.at rfl, hx.at rfl, hx.at rfl, hx.at rfl⟩
  obtain ⟨x0, x1, x2, x3⟩ := nz.out _ hX2
  have HX2 : Hid (Blk w2.drew M 128 #[.int .i64 zc, .int .i64 zs, .int .i64 zl, .int .u8 m]) := hX2
  clear hX2
  go_region_held3 (fun w' => w'.cell? ⟨M, 0, none⟩ = some (.int .i64 zc) ∧ w'.cell? ⟨M, 1, none⟩ = some (.int .i64 zs) ∧ w'.cell? ⟨M, 2, none⟩ = some (.int .i64 zl) ∧ w'.cell? ⟨M, 3, none⟩ = some (.int .u8 m))
    (first
      | go_keep
      | with_reducible exact nz.out _ hB3)
    (first
      | (go_at_call 134; refine C2.out.mono ?_; rintro e w3 ⟨F3, rfl, hT, hS, hK3⟩; have hB3 := (hK3 M _ _ HX2.out nX).1)
      | fail)
  have H3 := hid_mk (FIN.out _ _ hT)
  have S3 := hid_mk (S2.out.trans (Step.undrew hS))
  clear hT hS hK3 hB3 H2 S2 C2 x0 x1 x2 x3 HX2 nz
  go_wp2
  go_returns
  exact ⟨_, rfl, H3.out, S3.out⟩
set_option maxHeartbeats 800000 in
theorem fmark_any (h : Tf Yh w F B G t) (v b : Int) {k : Nat} (hle : t.le k) (hk : k ≤ 30000) : Calls Tryz.prog 90 #[.pointer (some ⟨B, 0, none⟩), .int .i64 v, .int .u8 b] w fun e w' => ∃ F', e = .returned (.int .i64 (t.markR v b)) ∧ Tf Yh w' F' B G (t.mark v b) ∧ Step F F' w w' := by
  have HI := hid_mk (fitem_any h v (Nat.le_trans hle.v (by omega)))
  have H0 := hid_mk h
  unfold To.markR To.mark
  by_cases hb15 : b > 15
  · rw [if_pos hb15, if_pos hb15]
    clear h hle HI
    go_enter Tryz.func90, Tryz.ntmps90
    go_wp2
    go_ret
    exact ⟨_, rfl, H0.out, Step.refl _ _⟩
  · rw [if_neg hb15, if_neg hb15]
    rcases h.bd.item v with ⟨hv, hb⟩ | ⟨hv, h0⟩
    · rw [if_pos hv, if_pos hv]
      have hi0 : ¬ t.item v = 0 := by unfold Bd at hb; omega
      have HM := hid_mk (fmarkItem_any h (t.item v) (vmk b) hb.i32)
      have HVM := hid_mk (vertexMark_any b)
      clear h hv hle hb
      generalize t.item v = i at *
      generalize vmk b = m at *
      have hi1 : (i == 0) = false := by simpa using hi0
      go_enter Tryz.func90, Tryz.ntmps90
      go_wp2_with fail
      refine HI.out.mono ?_
      rintro e w0 ⟨rfl, rfl⟩
      go_wp2_with fail
      refine (HVM.out _).mono ?_
      rintro e w1 ⟨rfl, rfl⟩
      go_wp2_with fail
      refine HM.out.mono ?_
      rintro e w2 ⟨F2, rfl, hT, hS⟩
      have H2 := hid_mk hT
      have S2 := hid_mk hS
      clear hT hS HM
      go_wp2
      go_ret
      exact ⟨_, rfl, H2.out, S2.out⟩
    · rw [if_neg (by rw [hv]; simp), if_neg (by rw [hv]; simp)]
      rw [h0] at HI
      clear h hv h0 hle
      go_enter Tryz.func90, Tryz.ntmps90
      go_wp2_with fail
      refine HI.out.mono ?_
      rintro e w0 ⟨rfl, rfl⟩
      go_wp2
      go_ret
      exact ⟨_, rfl, H0.out, Step.refl _ _⟩
set_option maxHeartbeats 800000 in
theorem femark_any (h : Tf Yh w F B G t) (n b : Int) {k : Nat} (hle : t.le k) (hk : k ≤ 30000) : Calls Tryz.prog 104 #[.pointer (some ⟨B, 0, none⟩), .int .i64 n, .int .u8 b] w fun e w' => ∃ F', e = .returned (.int .i64 (t.emarkR n b)) ∧ Tf Yh w' F' B G (t.emark n b) ∧ Step F F' w w' := by
  have H0 := hid_mk h
  unfold To.emarkR To.emark
  by_cases hb15 : b > 15
  · rw [if_pos hb15, if_pos hb15]
    clear h hle
    go_enter Tryz.func104, Tryz.ntmps104
    go_wp2
    go_ret
    exact ⟨_, rfl, H0.out, Step.refl _ _⟩
  · rw [if_neg hb15, if_neg hb15]
    cases hn : isA t.e n with
    | true =>
      have HE := hid_mk (fedge_yes h n hn (Nat.le_trans hle.e (by omega)))
      rw [if_pos rfl, if_pos rfl]
      obtain ⟨_, _, c2, _, hG⟩ := h.ecell hn
      rw [show (n - 1).toNat * 5 = eloc n from rfl] at c2
      have hxb := (h.bd.x n hn).1.i32
      have HC : Hid (∀ w' F' m, Tf Yh w' F' B G (t.markI (t.edge n).x m) → w'.cell? ⟨G, eloc n + 2, none⟩ = some (.int .i32 (t.edge n).x)) := fun w' F' m h' => (h'.ecell (i := n) hn).2.2.1
      have HM := hid_mk (fmarkItem_any h.drew (t.edge n).x (emk b) hxb)
      have HVM := hid_mk (edgeMark_any b)
      clear h hn hle
      generalize (t.edge n).x = x at *
      generalize emk b = m at *
      generalize eloc n = o at *
      go_enter Tryz.func104, Tryz.ntmps104
      go_wp2_with fail
      refine HE.out.mono ?_
      rintro e w0 ⟨rfl, rfl⟩
      go_wp2_with fail
      go_region_held3 (fun w' => w'.cell? ⟨G, o + 2, none⟩ = some (.int .i32 x))
        (first | go_keep | exact HC.out _ _ _ hT)
        (first
          | (go_at_call 127; refine (HVM.out _).mono ?_; rintro e w1 ⟨rfl, rfl⟩)
          | (go_at_call 113; refine HM.out.mono ?_; rintro e w2 ⟨F2, rfl, hT, hS⟩)
          | fail)
      have H2 := hid_mk hT
      have S2 := hid_mk (Step.undrew hS)
      clear hT hS HM
      go_wp2
      go_ret
      exact ⟨_, rfl, H2.out, S2.out⟩
    | false =>
      have HE := hid_mk (fedge_no h n hn (Nat.le_trans hle.e (by omega)))
      rw [if_neg (by simp), if_neg (by simp)]
      clear h hn hle
      go_enter Tryz.func104, Tryz.ntmps104
      go_wp2_with fail
      refine HE.out.mono ?_
      rintro e w0 ⟨rfl, rfl⟩
      go_wp2
      go_ret
      exact ⟨_, rfl, H0.out, Step.refl _ _⟩
end
end Go.Proofs.YtcbgeahcnjamdabGreat

namespace Go.Proofs.YtcbgeahcnjamdabGreat
open Go.RowKit
set_option linter.unusedVariables false
variable {Yh : Hx}
theorem Blk.store2 {W : World} {B : Nat} {t : TypeId} {a b : Value} (h : Blk W B t #[a, b]) (a' b' : Value) : Blk ((W.setCell ⟨B, 0, none⟩ a').setCell ⟨B, 1, none⟩ b') B t #[a', b'] := by simpa using (h.setAt 0 a').setAt 1 b'
section
variable {w : World} {F : Nat → Prop} {B G : Nat} {t : To}
theorem Tf.fd (h : Tf Yh w F B G t) (i m : Int) : -2147483648 ≤ fdS t.s.V (t.s.S i) m ∧ fdS t.s.V (t.s.S i) m ≤ 2147483647 := by
  unfold fdS
  cases hf : (t.s.S i).find? fun j => hasB (t.s.V j).m m with
  | none => simp
  | some a => exact (h.mems (i := i) (j := a) (List.mem_of_find?_eq_some hf)).i32
/-- The map is asked, in every world that has grown. -/
theorem Tf.asks (h : Tf Yh w F B G t) {q : Int} (hq : -2147483648 ≤ q ∧ q ≤ 2147483647) : ∃ mp, w.cell? ⟨B, 7, none⟩ = some mp ∧ ∀ g : Grow w, (Instr.lookup 93 mp (.int .i32 q) false).run Tryz.prog g.w = .ok (.agg #[.int .i32 (t.p q).1, .int .i32 (t.p q).2]) g.w := by
  obtain ⟨mp, c7, f7, hmp⟩ := h.map
  refine ⟨mp, c7, fun g => ?_⟩
  rcases hmp with ⟨rfl, hp, hm⟩ | ⟨bm, rfl, hbm, hP, hup⟩
  · rw [hp]; exact PM.look_nil g.w hq
  · exact (hP.kept (g.h.block bm hP.lt)).look hq
set_option maxHeartbeats 1600000 in
theorem ffind_any (h : Tf Yh w F B G t) (v m : Int) (hm : 0 ≤ m ∧ m ≤ 255) {k : Nat} (hle : t.le k) (hk : k ≤ 30000) : Calls Tryz.prog 110 #[.pointer (some ⟨B, 0, none⟩), .int .i64 v, .int .u8 m] w fun e w' => e = .returned (ptc (t.find v m)) ∧ Below w.heap.size w w' := by
  have hb1 := (Below.refl w.heap.size w).alloc (Nat.le_refl _) (.cells #[.int .i32 0, .int .i32 0] 131)
  have HK := hid_mk (Blk.new w 131 #[.int .i32 0, .int .i32 0])
  have HI := hid_mk (fitem_any (h.below hb1) v (Nat.le_trans hle.v (by omega)))
  have HB := hid_mk hb1
  rcases h.bd.item v with ⟨hv, hb⟩ | ⟨hv, h0⟩
  · have hi0 : ¬ t.item v = 0 := by unfold Bd at hb; omega
    have hq := h.fd (t.item v) m
    have HF : Hid (∀ g : Grow (w.alloc (.cells #[.int .i32 0, .int .i32 0] 131)), Calls Tryz.prog 132 #[.pointer (some ⟨B, 0, none⟩), .int .i32 (t.item v), .int .u8 m] g.w fun e w' => e = .returned (.int .i32 (fdS t.s.V (t.s.S (t.item v)) m)) ∧ Below g.w.heap.size g.w w') := fun g => tf_find ((h.below hb1).below g.h) (t.item v) m hb.i32 hm
    unfold To.find
    rw [if_neg hi0]
    obtain ⟨mp, c7, hl⟩ := (h.below hb1).asks hq
    have hBl := (h.below hb1).lt B h.fb
    generalize hq' : fdS t.s.V (t.s.S (t.item v)) m = q at *
    rcases hpq : t.p q with ⟨pa, pb⟩
    rw [hpq] at hl
    clear hpq hq'
    generalize t.item v = i at *
    have hi1 : (i == 0) = false := by simpa using hi0
    have HL := hid_mk hl
    clear h hle hv hb hb1 hq hl
    go_enter Tryz.func110, Tryz.ntmps110
    go_wp2_with fail
    refine HI.out.mono ?_
    rintro e w1 ⟨rfl, rfl⟩
    go_wp2_with fail
    generalize w.alloc (.cells #[.int .i32 0, .int .i32 0] 131) = w1 at *
    have gm : ∀ g : Grow w1, g.w.cell? ⟨B, 7, none⟩ = some mp := Grow.cell hBl c7
    have gl := HL.out
    have hne := Grow.ne w1
    refine wp_region_tail 11 (by kernel_rfl) (by kernel_rfl) (by kernel_rfl) ?_
    simp only [stillAt, stillOp, List.set_cons_succ, List.set_cons_zero, List.getElem?_cons_succ, List.getElem?_cons_zero, Option.getD_some, List.drop_succ_cons, List.drop_zero]
    repeat (go_big_quiet_step ((go_at_call 132; exact grow_call (HF.out _))))
    refine wpQuiet_nil ?_
    rintro w3 ⟨⟨_, hb3⟩, rfl⟩
    have hK3 := HK.out.below hb3
    have HB3 := hid_mk (HB.out.trans (hb3.mono HB.out.size))
    have c0 := hK3.at (j := 0) rfl
    have c1 := hK3.at (j := 1) rfl
    have f0 := hK3.frozen 0
    have f1 := hK3.frozen 1
    have HK3 := hid_mk hK3
    clear hb3 hK3 gm gl hne HL HF HI HB HK c7
    go_wp2
    refine bodyPost_ret (results_cell_row rfl _ _ w.heap.size 131 _ (0, 0) _ rfl (Blk.store2 HK3.out _ _) Tryz.underlying131 rfl (by kernel_rfl)) rfl ?_
    exact ⟨rfl, ((HB3.out.setCell (Nat.le_refl _) _).setCell (Nat.le_refl _) _)⟩
  · unfold To.find
    rw [if_pos h0]
    rw [h0] at HI
    clear h hle hv h0 hb1
    go_enter Tryz.func110, Tryz.ntmps110
    go_wp2_with fail
    refine HI.out.mono ?_
    rintro e w1 ⟨rfl, rfl⟩
    go_wp2
    refine bodyPost_ret (results_cell_row rfl _ _ w.heap.size 131 _ (0, 0) _ rfl HK.out Tryz.underlying131 rfl (by kernel_rfl)) rfl ?_
    exact ⟨rfl, HB.out⟩
theorem ffind_nil (v m : Int) (w : World) : Calls Tryz.prog 110 #[.pointer none, .int .i64 v, .int .u8 m] w fun e w' => e = .returned (ptc (0, 0)) ∧ Below w.heap.size w w' := by
  have hb1 := (Below.refl w.heap.size w).alloc (Nat.le_refl _) (.cells #[.int .i32 0, .int .i32 0] 131)
  have HK := hid_mk (Blk.new w 131 #[.int .i32 0, .int .i32 0])
  have HB := hid_mk hb1
  clear hb1
  go_enter Tryz.func110, Tryz.ntmps110
  go_wp2_with fail
  refine (fitem_nil v _).mono ?_
  rintro e w1 ⟨rfl, rfl⟩
  go_wp2
  refine bodyPost_ret (results_cell_row rfl _ _ w.heap.size 131 _ (0, 0) _ rfl HK.out Tryz.underlying131 rfl (by kernel_rfl)) rfl ?_
  exact ⟨rfl, HB.out⟩
set_option maxHeartbeats 800000 in
theorem ffindV_any (h : Tf Yh w F B G t) (v b : Int) (hm : 0 ≤ vmk b ∧ vmk b ≤ 255) (hp : 0 ≤ (t.find v (vmk b)).1 ∧ (t.find v (vmk b)).1 ≤ 2147483647) {k : Nat} (hle : t.le k) (hk : k ≤ 30000) : Calls Tryz.prog 84 #[.pointer (some ⟨B, 0, none⟩), .int .i64 v, .int .u8 b] w fun e w' => e = .returned (.tuple #[.int .i64 (t.find v (vmk b)).1, .bool (decide ((t.find v (vmk b)).1 ≠ 0))]) ∧ Below w.heap.size w w' := by
  have HVM := hid_mk (vertexMark_any b)
  have HF := hid_mk (fun (wx : World) (hx : Tf Yh wx F B G t) => ffind_any hx v (vmk b) hm hle hk)
  have H0 := hid_mk h
  generalize t.find v (vmk b) = P at *
  obtain ⟨pa, pb⟩ := P
  simp only at hp ⊢
  rw [show ptc (pa, pb) = .agg #[.int .i32 pa, .int .i32 pb] from rfl] at HF
  clear h hle
  generalize vmk b = m at *
  have hw64 : IntKind.i64.wrap pa = pa := by simp [IntKind.wrap, IntKind.bits, IntKind.signed]; omega
  go_enter Tryz.func84, Tryz.ntmps84
  go_wp2_with fail
  refine (HVM.out _).mono ?_
  rintro e w0 ⟨rfl, rfl⟩
  go_wp2_with fail
  refine (HF.out _ H0.out).mono ?_
  rintro e w1 ⟨rfl, hb1⟩
  have HB2 : Hid (Below w0.heap.size w0 (w1.alloc (.cells #[.int .i32 pa, .int .i32 pb] 131))) := hb1.alloc hb1.size _
  have hK := Blk.new w1 131 #[.int .i32 pa, .int .i32 pb]
  clear hb1
  go_wp2_with fail
  generalize w1.alloc (.cells #[.int .i32 pa, .int .i32 pb] 131) = w2 at *
  generalize w1.heap.size = M at *
  have hMl := hK.lt
  have gx : ∀ g : Grow w2, g.w.cell? ⟨M, 0, none⟩ = some (.int .i32 pa) := fun g => Grow.cell hMl (hK.at (j := 0) rfl) g
  have hne := Grow.ne w2
  refine wp_region_grow (by kernel_rfl) (by kernel_rfl) ?_
  repeat (go_big_quiet_step (fail))
  refine wpQuiet_nil ?_
  rintro w7 ⟨⟨_, hb7⟩, rfl⟩
  have HB7 := hid_mk (HB2.out.trans (hb7.mono HB2.out.size))
  clear hb7 gx hne hK HB2
  go_wp2
  go_ret2
  refine ⟨ret_of ?_, HB7.out⟩
  by_cases h0 : pa = 0
  · subst h0; rfl
  · have h1 : (pa != 0) = true := by simpa using h0
    simp [h0, h1]
theorem ffindV_nil (v b : Int) (w : World) : Calls Tryz.prog 84 #[.pointer none, .int .i64 v, .int .u8 b] w fun e w' => e = .returned (.tuple #[.int .i64 0, .bool false]) ∧ Below w.heap.size w w' := by
  have HVM := hid_mk (vertexMark_any b)
  have HF := hid_mk (fun wx => ffind_nil v (vmk b) wx)
  generalize vmk b = m at *
  obtain ⟨pa, hpa⟩ : ∃ pa : Int, pa = 0 := ⟨_, rfl⟩
  obtain ⟨pb, hpb⟩ : ∃ pb : Int, pb = 0 := ⟨_, rfl⟩
  rw [show ptc (0, 0) = .agg #[.int .i32 pa, .int .i32 pb] by rw [hpa, hpb]; rfl] at HF
  have HPP := hid_mk (And.intro hpa hpb)
  have hp : 0 ≤ pa ∧ pa ≤ 2147483647 := by omega
  clear hpa hpb
  have hw64 : IntKind.i64.wrap pa = pa := by simp [IntKind.wrap, IntKind.bits, IntKind.signed]; omega
  go_enter Tryz.func84, Tryz.ntmps84
  go_wp2_with fail
  refine (HVM.out _).mono ?_
  rintro e w0 ⟨rfl, rfl⟩
  go_wp2_with fail
  refine (HF.out _).mono ?_
  rintro e w1 ⟨rfl, hb1⟩
  have HB2 : Hid (Below w0.heap.size w0 (w1.alloc (.cells #[.int .i32 pa, .int .i32 pb] 131))) := hb1.alloc hb1.size _
  have hK := Blk.new w1 131 #[.int .i32 pa, .int .i32 pb]
  clear hb1
  go_wp2_with fail
  generalize w1.alloc (.cells #[.int .i32 pa, .int .i32 pb] 131) = w2 at *
  generalize w1.heap.size = M at *
  have hMl := hK.lt
  have gx : ∀ g : Grow w2, g.w.cell? ⟨M, 0, none⟩ = some (.int .i32 pa) := fun g => Grow.cell hMl (hK.at (j := 0) rfl) g
  have hne := Grow.ne w2
  refine wp_region_grow (by kernel_rfl) (by kernel_rfl) ?_
  repeat (go_big_quiet_step (fail))
  refine wpQuiet_nil ?_
  rintro w7 ⟨⟨_, hb7⟩, rfl⟩
  have HB7 := hid_mk (HB2.out.trans (hb7.mono HB2.out.size))
  clear hb7 gx hne hK HB2
  go_wp2
  go_ret2
  refine ⟨ret_of ?_, HB7.out⟩
  obtain ⟨e1, e2⟩ := HPP.out
  subst e1 e2
  rfl
set_option maxHeartbeats 800000 in
theorem ffindE_any (h : Tf Yh w F B G t) (v b : Int) (hm : 0 ≤ emk b ∧ emk b ≤ 255) (hp : 0 ≤ (t.find v (emk b)).2 ∧ (t.find v (emk b)).2 ≤ 2147483647) {k : Nat} (hle : t.le k) (hk : k ≤ 30000) : Calls Tryz.prog 109 #[.pointer (some ⟨B, 0, none⟩), .int .i64 v, .int .u8 b] w fun e w' => e = .returned (.tuple #[.int .i64 (t.find v (emk b)).2, .bool (decide ((t.find v (emk b)).2 ≠ 0))]) ∧ Below w.heap.size w w' := by
  have HVM := hid_mk (edgeMark_any b)
  have HF := hid_mk (fun (wx : World) (hx : Tf Yh wx F B G t) => ffind_any hx v (emk b) hm hle hk)
  have H0 := hid_mk h
  generalize t.find v (emk b) = P at *
  obtain ⟨pa, pb⟩ := P
  simp only at hp ⊢
  rw [show ptc (pa, pb) = .agg #[.int .i32 pa, .int .i32 pb] from rfl] at HF
  clear h hle
  generalize emk b = m at *
  have hw64 : IntKind.i64.wrap pb = pb := by simp [IntKind.wrap, IntKind.bits, IntKind.signed]; omega
  go_enter Tryz.func109, Tryz.ntmps109
  go_wp2_with fail
  refine (HVM.out _).mono ?_
  rintro e w0 ⟨rfl, rfl⟩
  go_wp2_with fail
  refine (HF.out _ H0.out).mono ?_
  rintro e w1 ⟨rfl, hb1⟩
  have HB2 : Hid (Below w0.heap.size w0 (w1.alloc (.cells #[.int .i32 pa, .int .i32 pb] 131))) := hb1.alloc hb1.size _
  have hK := Blk.new w1 131 #[.int .i32 pa, .int .i32 pb]
  clear hb1
  go_wp2_with fail
  generalize w1.alloc (.cells #[.int .i32 pa, .int .i32 pb] 131) = w2 at *
  generalize w1.heap.size = M at *
  have hMl := hK.lt
  have gx : ∀ g : Grow w2, g.w.cell? ⟨M, 1, none⟩ = some (.int .i32 pb) := fun g => Grow.cell hMl (hK.at (j := 1) rfl) g
  have hne := Grow.ne w2
  refine wp_region_grow (by kernel_rfl) (by kernel_rfl) ?_
  repeat (go_big_quiet_step (fail))
  refine wpQuiet_nil ?_
  rintro w7 ⟨⟨_, hb7⟩, rfl⟩
  have HB7 := hid_mk (HB2.out.trans (hb7.mono HB2.out.size))
  clear hb7 gx hne hK HB2
  go_wp2
  go_ret2
  refine ⟨ret_of ?_, HB7.out⟩
  by_cases h0 : pb = 0
  · subst h0; rfl
  · have h1 : (pb != 0) = true := by simpa using h0
    simp [h0, h1]
theorem ffindE_nil (v b : Int) (w : World) : Calls Tryz.prog 109 #[.pointer none, .int .i64 v, .int .u8 b] w fun e w' => e = .returned (.tuple #[.int .i64 0, .bool false]) ∧ Below w.heap.size w w' := by
  have HVM := hid_mk (edgeMark_any b)
  have HF := hid_mk (fun wx => ffind_nil v (emk b) wx)
  generalize emk b = m at *
  obtain ⟨pa, hpa⟩ : ∃ pa : Int, pa = 0 := ⟨_, rfl⟩
  obtain ⟨pb, hpb⟩ : ∃ pb : Int, pb = 0 := ⟨_, rfl⟩
  rw [show ptc (0, 0) = .agg #[.int .i32 pa, .int .i32 pb] by rw [hpa, hpb]; rfl] at HF
  have HPP := hid_mk (And.intro hpa hpb)
  have hp : 0 ≤ pb ∧ pb ≤ 2147483647 := by omega
  clear hpa hpb
  have hw64 : IntKind.i64.wrap pb = pb := by simp [IntKind.wrap, IntKind.bits, IntKind.signed]; omega
  go_enter Tryz.func109, Tryz.ntmps109
  go_wp2_with fail
  refine (HVM.out _).mono ?_
  rintro e w0 ⟨rfl, rfl⟩
  go_wp2_with fail
  refine (HF.out _).mono ?_
  rintro e w1 ⟨rfl, hb1⟩
  have HB2 : Hid (Below w0.heap.size w0 (w1.alloc (.cells #[.int .i32 pa, .int .i32 pb] 131))) := hb1.alloc hb1.size _
  have hK := Blk.new w1 131 #[.int .i32 pa, .int .i32 pb]
  clear hb1
  go_wp2_with fail
  generalize w1.alloc (.cells #[.int .i32 pa, .int .i32 pb] 131) = w2 at *
  generalize w1.heap.size = M at *
  have hMl := hK.lt
  have gx : ∀ g : Grow w2, g.w.cell? ⟨M, 1, none⟩ = some (.int .i32 pb) := fun g => Grow.cell hMl (hK.at (j := 1) rfl) g
  have hne := Grow.ne w2
  refine wp_region_grow (by kernel_rfl) (by kernel_rfl) ?_
  repeat (go_big_quiet_step (fail))
  refine wpQuiet_nil ?_
  rintro w7 ⟨⟨_, hb7⟩, rfl⟩
  have HB7 := hid_mk (HB2.out.trans (hb7.mono HB2.out.size))
  clear hb7 gx hne hK HB2
  go_wp2
  go_ret2
  refine ⟨ret_of ?_, HB7.out⟩
  obtain ⟨e1, e2⟩ := HPP.out
  subst e1 e2
  rfl
end
end Go.Proofs.YtcbgeahcnjamdabGreat
