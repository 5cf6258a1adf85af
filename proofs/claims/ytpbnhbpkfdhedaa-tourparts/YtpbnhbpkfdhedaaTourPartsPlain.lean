/- Layer 7 (tour), plain: what the statement TourParts says of states. -/
import Derived.Test.YtpbnhbpkfdhedaaTourSums
namespace Go.Proofs.Ytpbnhbpkfdhedaa
open Go.RowKit
set_option linter.unusedVariables false
theorem Eu.ne0 {t : To} (hB : Tb t) (h : Eu t) {v : Int} (hv : isA t.v v = true) : t.item v ≠ 0 := fun e => by
  have h1 := (hB.kS _).2 (h.iv v hv).1
  rw [e] at h1
  simp [isK] at h1
theorem To.link_V (t : To) (a b : Int) : (t.link a b).s.V = updV (updV t.s.V t.newX noneV) t.newY noneV := by
  have : (t.link a b).s = ((t.s.make noneV).make noneV).splice (t.item a) (t.item b) t.newX t.newY := rfl
  rw [this, (Sq.splice_K _ _ _ _ _).2.2.1]; rfl
theorem perm_of_mem {a b : List Int} (ha : a.Nodup) (hb : b.Nodup) (h : ∀ k, k ∈ a ↔ k ∈ b) : a.Perm b := (List.perm_ext_iff_of_nodup ha hb).2 h
/-- A link: the two tours are one, and what they have is added up. -/
theorem link_S {t : To} (hB : Tb t) (h : Eu t) {a b : Int} (ha : isA t.v a = true) (hb : isA t.v b = true) (hn : t.same a b = false) (hB2 : Tb (t.link a b)) :
    Eu (t.link a b) ∧ ∃ L, (∀ k, k ∈ t.s.S (t.item a) ∨ k ∈ t.s.S (t.item b) → k ∈ L) ∧ (∀ k ∈ L, (t.link a b).s.S k = L) ∧
      cS (t.link a b).s.V L = cS t.s.V (t.s.S (t.item a)) + cS t.s.V (t.s.S (t.item b)) ∧ sS (t.link a b).s.V L = sS t.s.V (t.s.S (t.item a)) + sS t.s.V (t.s.S (t.item b)) ∧ lS (t.link a b).s.V L = min (lS t.s.V (t.s.S (t.item a))) (lS t.s.V (t.s.S (t.item b))) := by
  obtain ⟨hE, R, R', hne, mA, mB, inL, outL⟩ := h.link hB ha hb hn
  obtain ⟨X, hX⟩ : ∃ X, X = t.newX := ⟨_, rfl⟩
  obtain ⟨Y, hY⟩ : ∃ Y, Y = t.newY := ⟨_, rfl⟩
  obtain ⟨N, hN⟩ : ∃ N, N = t.item a :: R := ⟨_, rfl⟩
  obtain ⟨M, hM⟩ : ∃ M, M = t.item b :: R' := ⟨_, rfl⟩
  have eV := To.link_V t a b
  rw [← hX, ← hY] at inL eV
  rw [← hN] at mA inL
  rw [← hM] at mB inL
  have hnd : (N ++ X :: (M ++ [Y])).Nodup := by
    have := hB2.fam.nodup X
    rw [inL X (by simp)] at this
    exact this
  have hp : (N ++ X :: (M ++ [Y])).Perm (X :: (N ++ Y :: M)) := by
    rw [List.perm_iff_count]
    intro c
    simp only [List.count_append, List.count_cons, List.count_nil]
    omega
  have hnd2 := hp.nodup_iff.1 hnd
  have h3 := List.nodup_cons.1 hnd2
  have h4 := List.nodup_append.1 h3.2
  have h5 := List.nodup_cons.1 h4.2.1
  have XY : X ≠ Y := fun e => h3.1 (by rw [e]; simp)
  have XN : X ∉ N := fun e => h3.1 (by simp [e])
  have XM : X ∉ M := fun e => h3.1 (by simp [e])
  have YN : Y ∉ N := fun e => h4.2.2 Y e Y (by simp) rfl
  have pN : N.Perm (t.s.S (t.item a)) := perm_of_mem h4.1 (hB.fam.nodup _) mA
  have pM : M.Perm (t.s.S (t.item b)) := perm_of_mem h5.2 (hB.fam.nodup _) mB
  have cN := S_congr (V := t.s.V) (V' := (t.link a b).s.V) (l := N) (fun j hj => by
    rw [eV]; unfold updV; rw [if_neg (fun (e : j = Y) => YN (e ▸ hj)), if_neg (fun (e : j = X) => XN (e ▸ hj))])
  have cM := S_congr (V := t.s.V) (V' := (t.link a b).s.V) (l := M) (fun j hj => by
    rw [eV]; unfold updV; rw [if_neg (fun (e : j = Y) => h5.1 (e ▸ hj)), if_neg (fun (e : j = X) => XM (e ▸ hj))])
  have qN := S_perm t.s.V pN
  have qM := S_perm t.s.V pM
  have vX : ((t.link a b).s.V X).c = 0 ∧ ((t.link a b).s.V X).s = 0 ∧ ((t.link a b).s.V X).l = 4611686018427387904 := by
    rw [eV]; unfold updV; rw [if_neg XY, if_pos rfl]; exact ⟨rfl, rfl, rfl⟩
  have vY : ((t.link a b).s.V Y).c = 0 ∧ ((t.link a b).s.V Y).s = 0 ∧ ((t.link a b).s.V Y).l = 4611686018427387904 := by
    rw [eV]; unfold updV; rw [if_pos rfl]; exact ⟨rfl, rfl, rfl⟩
  obtain ⟨s1, s2, s3⟩ := S_edge hp vX vY
  refine ⟨hE, _, fun k hk => ?_, inL, ?_, ?_, ?_⟩
  · rcases hk with hk | hk
    · have := (mA k).2 hk; simp [this]
    · have := (mB k).2 hk; simp [this]
  · rw [s1, cN.1, cM.1, qN.1, qM.1]
  · rw [s2, cN.2.1, cM.2.1, qN.2.1, qM.2.1]
  · rw [s3, cN.2.2, cM.2.2, qN.2.2, qM.2.2]
theorem cS_nn {V : Int → Vl} {L : List Int} (h : ∀ z ∈ L, 0 ≤ (V z).c) : 0 ≤ cS V L := by
  induction L with
  | nil => exact Int.le_refl _
  | cons j l ih =>
    have h1 := h j (by simp)
    have h2 := ih (fun z hz => h z (by simp [hz]))
    show 0 ≤ (V j).c + cS V l
    omega
theorem cS_pos {V : Int → Vl} {P Q : List Int} {i : Int} (h : ∀ z ∈ P ++ i :: Q, 0 ≤ (V z).c) (hi : (V i).c = 1) : 1 ≤ cS V (P ++ i :: Q) := by
  have h1 := cS_nn (V := V) (L := P) (fun z hz => h z (by simp [hz]))
  have h2 := cS_nn (V := V) (L := Q) (fun z hz => h z (by simp [hz]))
  rw [cS_app]
  show 1 ≤ _ + ((V i).c + cS V Q)
  omega
theorem Eu.tq_pos {t : To} (h : Eu t) {v : Int} {L : List Int} (hq : Tq (tI t) (tE t) true v L) : isA t.v v = true ∧ t.item v ∈ L ∧ 1 ≤ cS t.s.V L := by
  obtain ⟨i, P, Q, hi, _, _, e⟩ := hq.opened
  refine ⟨hi.1, by rw [hi.2, e]; simp, ?_⟩
  have hnn : ∀ z ∈ L, 0 ≤ (t.s.V z).c := fun z hz => by
    rcases hq.items z hz with ⟨u, hu⟩ | ⟨a, c, x, y, ⟨n, hn, hc⟩, hz', _⟩
    · have := (h.iv u hu.1).2.2
      rw [hu.2] at this
      omega
    · obtain ⟨_, _, _, _, _, hx, hy⟩ := h.ev n hn
      rcases hc with ⟨_, _, rfl, rfl⟩ | ⟨_, _, rfl, rfl⟩
      · rcases hz' with rfl | rfl
        · omega
        · omega
      · rcases hz' with rfl | rfl
        · omega
        · omega
  rw [e] at hnn ⊢
  exact cS_pos hnn (by have := (h.iv v hi.1).2.2; rw [hi.2] at this; exact this)
theorem To.cutE_v (t : To) (n : Int) : (t.cutE n).v = t.v := by rw [To.cutE_eq]
theorem Sq.free_V {s : Sq} {i k : Int} (h : k ≠ i) : (s.free i).V k = s.V k := by
  cases hl : s.lone i with
  | true => unfold Sq.free; rw [if_pos hl]; exact if_neg h
  | false => rw [Sq.free_no hl]
theorem To.cutE_V (t : To) (n : Int) {k : Int} (h1 : k ≠ (t.edge n).x) (h2 : k ≠ (t.edge n).y) : (t.cutE n).s.V k = t.s.V k := by
  have ec := To.cutE_eq t n
  have es : (t.cutE n).s = ((t.s.unsplice (t.edge n).x (t.edge n).y).free (t.edge n).x).free (t.edge n).y := by rw [ec]
  rw [es, Sq.free_V h2, Sq.free_V h1, (Sq.unsplice_K _ _ _).2.2.1]
/-- A cut: two tours, apart, that have together what the one had. -/
theorem cut_S {t : To} (hB : Tb t) (h : Eu t) {n : Int} (hn : isA t.e n = true) :
    Eu (t.cutE n) ∧ isA t.v (t.edge n).a = true ∧ isA t.v (t.edge n).b = true ∧ ∃ M N, t.item (t.edge n).a ∈ M ∧ t.item (t.edge n).b ∈ N ∧ t.item (t.edge n).a ∈ t.s.S (t.edge n).x ∧ (∀ k ∈ M, (t.cutE n).s.S k = M) ∧ (∀ k ∈ N, (t.cutE n).s.S k = N) ∧ (∀ k, k ∈ M → k ∈ N → False) ∧ (∀ v, isA t.v v = true → t.item v ∈ t.s.S (t.edge n).x → t.item v ∈ M ∨ t.item v ∈ N) ∧
      cS t.s.V (t.s.S (t.edge n).x) = cS (t.cutE n).s.V M + cS (t.cutE n).s.V N ∧ sS t.s.V (t.s.S (t.edge n).x) = sS (t.cutE n).s.V M + sS (t.cutE n).s.V N ∧ lS t.s.V (t.s.S (t.edge n).x) = min (lS (t.cutE n).s.V M) (lS (t.cutE n).s.V N) ∧ 1 ≤ cS (t.cutE n).s.V M ∧ 1 ≤ cS (t.cutE n).s.V N := by
  obtain ⟨hE, N, M, tqN, tqM, hp, inN, inM, out⟩ := h.cut hB hn
  obtain ⟨hb, iN, pN⟩ := h.tq_pos tqN
  obtain ⟨ha, iM, pM⟩ := h.tq_pos tqM
  obtain ⟨hSx, hSy, px, py, hxy, vx, vy⟩ := h.ev n hn
  obtain ⟨x, hx⟩ : ∃ x, x = (t.edge n).x := ⟨_, rfl⟩
  obtain ⟨y, hy⟩ : ∃ y, y = (t.edge n).y := ⟨_, rfl⟩
  have hnd := hp.nodup_iff.1 (hB.fam.nodup _)
  have h3 := List.nodup_cons.1 hnd
  have h4 := List.nodup_append.1 h3.2
  have h5 := List.nodup_cons.1 h4.2.1
  have eV : ∀ k, k ≠ (t.edge n).x → k ≠ (t.edge n).y → (t.cutE n).s.V k = t.s.V k := fun k h1 h2 => To.cutE_V t n h1 h2
  have cN := S_congr (V := t.s.V) (V' := (t.cutE n).s.V) (l := N) (fun j hj => eV j (fun e => h3.1 (by rw [← e]; simp [hj])) (fun e => h4.2.2 _ hj _ (by rw [← e]; simp) rfl))
  have cM := S_congr (V := t.s.V) (V' := (t.cutE n).s.V) (l := M) (fun j hj => eV j (fun e => h3.1 (by rw [← e]; simp [hj])) (fun e => h5.1 (e ▸ hj)))
  obtain ⟨s1, s2, s3⟩ := S_edge hp vx vy
  refine ⟨hE, ha, hb, M, N, iM, iN, hp.mem_iff.2 (by simp [iM]), inM, inN, fun k k1 k2 => h4.2.2 k k2 k (by simp [k1]) rfl, fun v hv hm => ?_, ?_, ?_, ?_, ?_, ?_⟩
  · have hEd : tE t (t.edge n).a (t.edge n).b (t.edge n).x (t.edge n).y := ⟨n, hn, .inl ⟨rfl, rfl, rfl, rfl⟩⟩
    have n1 : t.item v ≠ (t.edge n).x := fun e3 => (h.apart (v := v) hEd).1 ⟨hv, e3⟩
    have n2 : t.item v ≠ (t.edge n).y := fun e3 => (h.apart (v := v) hEd).2 ⟨hv, e3⟩
    have := hp.mem_iff.1 hm
    rcases List.mem_cons.1 this with e | e
    · exact absurd e n1
    · rcases List.mem_append.1 e with e | e
      · exact .inr e
      · rcases List.mem_cons.1 e with e | e
        · exact absurd e n2
        · exact .inl e
  · rw [s1, cN.1, cM.1]; omega
  · rw [s2, cN.2.1, cM.2.1]; omega
  · rw [s3, cN.2.2, cM.2.2]; omega
  · rw [cM.1]; exact pM
  · rw [cN.1]; exact pN
/-- The first vertex, and each one more. -/
theorem Pt.add {n k : Nat} {t : To} (hB : Tb t) (h : Pt n k t) (a : Int) :
    Eu (t.addV a ((n : Int) - (k + 1))) ∧ tkI t.v t.fv = k + 1 ∧ (∀ v, isA (t.addV a ((n : Int) - (k + 1))).v v = true ↔ 1 ≤ v ∧ v ≤ ((k + 1 : Nat) : Int)) ∧ ((t.addV a ((n : Int) - (k + 1))).v.length = k + 1 ∧ (t.addV a ((n : Int) - (k + 1))).fv = []) ∧
      ∃ i, (t.addV a ((n : Int) - (k + 1))).item ((k : Int) + 1) = i ∧ (t.addV a ((n : Int) - (k + 1))).s.S i = [i] ∧ ((t.addV a ((n : Int) - (k + 1))).s.V i) = ⟨1, a, (n : Int) - (k + 1), 0⟩ ∧
        ∀ v, 1 ≤ v ∧ v ≤ (k : Int) → (t.addV a ((n : Int) - (k + 1))).item v = t.item v ∧ t.item v ≠ i ∧ (t.addV a ((n : Int) - (k + 1))).s.S (t.item v) = t.s.S (t.item v) ∧ cS (t.addV a ((n : Int) - (k + 1))).s.V (t.s.S (t.item v)) = k ∧ lS (t.addV a ((n : Int) - (k + 1))).s.V (t.s.S (t.item v)) = (n : Int) - k := by
  have hE := h.eu.addV hB a ((n : Int) - (k + 1))
  have e1 : tkI t.v t.fv = k + 1 := by rw [h.vl.2, tkI_nil, h.vl.1]
  obtain ⟨i, f1, f2, f3, f4, f5, f6, f7, f8⟩ := addV_facts hB h.eu a ((n : Int) - (k + 1))
  rw [e1] at f6 f7
  have lv : (t.addV a ((n : Int) - (k + 1))).v.length = k + 1 ∧ (t.addV a ((n : Int) - (k + 1))).fv = [] := by
    constructor
    · show (tkL t.v t.fv _).length = _
      rw [h.vl.2, tkL_nil]; simp [h.vl.1]
    · show t.fv.dropLast = []
      rw [h.vl.2]; rfl
  generalize ht : t.addV a ((n : Int) - (k + 1)) = t1 at *
  refine ⟨hE, e1, fun v => ?_, lv, i, f7, f2, f4, fun v hv => ?_⟩
  · rw [f6]
    split
    · rename_i e; subst e; simp only [true_iff]; omega
    · rename_i e
      rw [h.va]
      push_cast
      omega
  · have hvA := (h.va v).2 hv
    have hne := (h.eu.iv v hvA).1
    have hni : t.item v ≠ i := fun e => hne (e ▸ f1)
    have hno : i ∉ t.s.S (t.item v) := fun hk => by
      have := hB.fam.same _ _ hk
      rw [f1] at this
      exact hne this.symm
    obtain ⟨c1, c2⟩ := h.cs v hv
    obtain ⟨g1, g2, g3⟩ := S_congr (V := t.s.V) (V' := t1.s.V) (l := t.s.S (t.item v)) (fun j hj => f5 j (fun e => hno (e ▸ hj)))
    exact ⟨f8 v hvA, hni, f3 _ hni, by rw [g1, c1], by rw [g3, c2]⟩
theorem Pt.one1 {n : Nat} {t : To} (hB : Tb t) (h : Pt n 0 t) (a : Int) (hn : (n : Int) ≤ 4611686018427387904) : Pt n 1 (t.addV a ((n : Int) - 1)) := by
  have key := h.add hB a
  rw [show (((0 : Nat) : Int) + 1) = 1 from rfl] at key
  obtain ⟨hE, e1, va, vl, i, f1, f2, f3, _⟩ := key
  have ee : (t.addV a ((n : Int) - 1)).e = t.e ∧ (t.addV a ((n : Int) - 1)).fe = t.fe := ⟨rfl, rfl⟩
  refine ⟨hE, va, vl, fun m => ?_, ?_, fun v u hv hu => ?_, fun v hv => ?_⟩
  · rw [ee.1, h.ea]; omega
  · rw [ee.1, ee.2]; exact ⟨h.el.1, h.el.2⟩
  · have ev : v = 1 := by omega
    have eu : u = 1 := by omega
    rw [ev, eu, f1, f2]; simp
  · have ev : v = 1 := by omega
    rw [ev, f1, f2]
    refine ⟨?_, ?_⟩
    · show _ + 0 = _; rw [f3]; rfl
    · show min _ 4611686018427387904 = _; rw [f3]; show min ((n : Int) - 1) _ = _; omega
theorem Pt.more {n k : Nat} {t : To} (hB : Tb t) (h : Pt n k t) (hk : 1 ≤ k) (hn : (n : Int) ≤ 4611686018427387904) (a u : Int) (hu : 1 ≤ u ∧ u ≤ (k : Int)) (hB1 : Tb (t.addV a ((n : Int) - (k + 1)))) : (t.addV a ((n : Int) - (k + 1))).linkR (k + 1) u = 0 ∧ (t.addV a ((n : Int) - (k + 1))).linkN (k + 1) u = k ∧ (Tb ((t.addV a ((n : Int) - (k + 1))).linked (k + 1) u) → Pt n (k + 1) ((t.addV a ((n : Int) - (k + 1))).linked (k + 1) u)) := by
  obtain ⟨hE, e1, va, vl, i, f1, f2, f3, f4⟩ := h.add hB a
  have ee : (t.addV a ((n : Int) - (k + 1))).e = t.e ∧ (t.addV a ((n : Int) - (k + 1))).fe = t.fe := ⟨rfl, rfl⟩
  generalize ht : t.addV a ((n : Int) - (k + 1)) = t1 at *
  have a1 : isA t1.v ((k : Int) + 1) = true := (va _).2 (by omega)
  have a2 : isA t1.v u = true := (va _).2 (by omega)
  obtain ⟨g1, g2, g3, g4, g5⟩ := f4 u hu
  have hs : t1.same ((k : Int) + 1) u = false := by
    unfold To.same
    rw [f1, f2, g1]
    simpa using g2
  have hR : t1.linkR (k + 1) u = 0 := by unfold To.linkR; rw [if_pos ⟨a1, a2⟩, if_neg (by rw [hs]; simp)]
  have hN : t1.newE = k := by
    show tkI t1.e t1.fe = _
    rw [ee.1, ee.2, h.el.2, tkI_nil, h.el.1]; omega
  have hL : t1.linked (k + 1) u = t1.link (k + 1) u := by unfold To.linked; rw [if_pos hR]
  refine ⟨hR, by unfold To.linkN; rw [if_pos hR, hN], fun hB2 => ?_⟩
  rw [hL] at hB2 ⊢
  obtain ⟨hE2, L, inL, sL, c1, _, c3⟩ := link_S hB1 hE a1 a2 hs hB2
  rw [f1, f2, g1, g3] at inL c1 c3
  have evv : (t1.link (k + 1) u).v = t1.v ∧ (t1.link (k + 1) u).fv = t1.fv := ⟨rfl, rfl⟩
  have eit : ∀ v, (t1.link (k + 1) u).item v = t1.item v := fun v => rfl
  have eee : (t1.link (k + 1) u).e = tkL t1.e t1.fe ⟨k + 1, u, t1.newX, t1.newY⟩ ∧ (t1.link (k + 1) u).fe = t1.fe.dropLast := ⟨rfl, rfl⟩
  have all : ∀ v, 1 ≤ v ∧ v ≤ ((k + 1 : Nat) : Int) → t1.item v ∈ L := fun v hv => by
    by_cases e : v = k + 1
    · rw [e, f1]; exact inL i (.inl (by simp))
    · have hv' : 1 ≤ v ∧ v ≤ (k : Int) := by omega
      rw [(f4 v hv').1]
      exact inL _ (.inr (h.one u v hu hv'))
  refine ⟨hE2, fun v => by rw [evv.1]; exact va v, by rw [evv.1, evv.2]; exact vl, fun m => ?_, ?_, fun v q hv hq => ?_, fun v hv => ?_⟩
  · have hf : ∀ f ∈ t1.fe, 1 ≤ f ∧ f ≤ t1.e.length := fun f hf => by rw [ee.2, h.el.2] at hf; cases hf
    rw [eee.1, isA_tkL hf, show tkI t1.e t1.fe = k from hN, ee.1]
    split
    · rename_i e; subst e; simp only [true_iff]; omega
    · rename_i e
      rw [h.ea]; omega
  · rw [eee.1, eee.2, ee.1, ee.2, h.el.2, tkL_nil]
    refine ⟨?_, rfl⟩
    simp only [List.length_append, List.length_cons, List.length_nil, h.el.1]
    omega
  · rw [eit, eit, sL _ (all v hv)]; exact all q hq
  · rw [eit, sL _ (all v hv), c1, c3, g4, g5]
    refine ⟨?_, ?_⟩
    · show ((t1.s.V i).c + 0) + (k : Int) = _; rw [f3]; push_cast; show (1 : Int) + 0 + k = _; omega
    · show min (min (t1.s.V i).l 4611686018427387904) _ = _; rw [f3]; push_cast; show min (min ((n : Int) - (k + 1)) 4611686018427387904) ((n : Int) - k) = _; omega
/-- A tree that was cut in two: M is the tour of p, N that of q; together they have n vertices, the sum Z, and the least 0. -/
structure Ps (n : Nat) (Z : Int) (t : To) (p q : Int) (M N : List Int) : Prop where
  eu : Eu t
  va : ∀ v, isA t.v v = true ↔ 1 ≤ v ∧ v ≤ (n : Int)
  hp : 1 ≤ p ∧ p ≤ (n : Int)
  hq : 1 ≤ q ∧ q ≤ (n : Int)
  pM : t.item p ∈ M
  qN : t.item q ∈ N
  sM : ∀ k ∈ M, t.s.S k = M
  sN : ∀ k ∈ N, t.s.S k = N
  ap : ∀ k, k ∈ M → k ∈ N → False
  all : ∀ v, 1 ≤ v ∧ v ≤ (n : Int) → t.item v ∈ M ∨ t.item v ∈ N
  cc : cS t.s.V M + cS t.s.V N = n ∧ 1 ≤ cS t.s.V M ∧ 1 ≤ cS t.s.V N
  ss : sS t.s.V M + sS t.s.V N = Z
  ll : min (lS t.s.V M) (lS t.s.V N) = 0
theorem Pt.total {n : Nat} {t : To} (hB : Tb t) (h : Pt n n t) (hn : 2 ≤ n ∧ n ≤ 60) : (t.total 1).c = n ∧ (t.total n).s = wr (sS t.s.V (t.s.S (t.item n))) ∧ (t.total 1).l = 0 := by
  have h1 : isA t.v 1 = true := (h.va 1).2 (by omega)
  have h2 : isA t.v n = true := (h.va n).2 (by omega)
  obtain ⟨c1, c2⟩ := h.cs 1 (by omega)
  obtain ⟨a1, a2, a3⟩ := To.total_S (h.eu.ne0 hB h1)
  obtain ⟨b1, b2, b3⟩ := To.total_S (h.eu.ne0 hB h2)
  refine ⟨?_, b2, ?_⟩
  · rw [a1, c1, wr_id (by omega) (by omega)]
  · rw [a3, c2]; omega
theorem Pt.cut {n : Nat} {t : To} (hB : Tb t) (h : Pt n n t) (hn : 2 ≤ n) {x : Int} (hx : 1 ≤ x ∧ x < (n : Int)) : isA t.e x = true ∧ t.cutR x = 0 ∧ ∃ M N, Ps n (sS t.s.V (t.s.S (t.item n))) (t.cut x) (t.endA x) (t.endB x) M N := by
  have he : isA t.e x = true := (h.ea x).2 hx
  obtain ⟨hE, ha, hb, M, N, aM, bN, ax, sM, sN, ap, all, c1, c2, c3, c4, c5⟩ := cut_S hB h.eu he
  have e1 : t.cut x = t.cutE x := by unfold To.cut; rw [if_pos he]
  have e2 : t.endA x = (t.edge x).a := by unfold To.endA; rw [if_pos he]
  have e3 : t.endB x = (t.edge x).b := by unfold To.endB; rw [if_pos he]
  have ev := To.cutE_v t x
  have ei : ∀ v, (t.cutE x).item v = t.item v := fun v => by unfold To.item; rw [ev]
  have eS : t.s.S (t.item (t.edge x).a) = t.s.S (t.edge x).x := hB.fam.same _ _ ax
  have ha' := (h.va _).1 ha
  have hb' := (h.va _).1 hb
  have eT : t.s.S (t.item n) = t.s.S (t.edge x).x := by rw [← eS]; exact hB.fam.same _ _ (h.one _ n ha' (by omega))
  obtain ⟨d1, d2⟩ := h.cs _ ha'
  rw [eS] at d1 d2
  refine ⟨he, by unfold To.cutR; rw [if_pos he], M, N, ?_⟩
  rw [e1, e2, e3, eT]
  refine ⟨hE, fun v => by rw [ev]; exact h.va v, ha', hb', by rw [ei]; exact aM, by rw [ei]; exact bN, sM, sN, ap, fun v hv => by rw [ei]; exact all v ((h.va v).2 hv) (by rw [← eS]; exact h.one _ v ha' hv), ⟨by omega, c4, c5⟩, c2.symm, by omega⟩
section
variable {n : Nat} {Z : Int} {t : To} {p q : Int} {M N : List Int}
theorem Ps.tot (hB : Tb t) (h : Ps n Z t p q M N) {v : Int} (hv : 1 ≤ v ∧ v ≤ (n : Int)) {L : List Int} (hL : t.s.S (t.item v) = L) : (t.total v).c = wr (cS t.s.V L) ∧ (t.total v).s = wr (sS t.s.V L) ∧ (t.total v).l = lS t.s.V L := by
  rw [← hL]; exact To.total_S (h.eu.ne0 hB ((h.va v).2 hv))
theorem Ps.pq (h : Ps n Z t p q M N) : t.same p q = false := by
  unfold To.same
  rw [h.sM _ h.pM]
  simp only [decide_eq_false_iff_not]
  exact fun hk => h.ap _ hk h.qN
theorem Ps.sums (hB : Tb t) (h : Ps n Z t p q M N) (hn : n ≤ 60) : wr ((t.total p).c + (t.total q).c) = n ∧ wr ((t.total p).s + (t.total q).s) = wr Z ∧ min (t.total p).l (t.total q).l = 0 := by
  obtain ⟨a1, a2, a3⟩ := h.tot hB h.hp (h.sM _ h.pM)
  obtain ⟨b1, b2, b3⟩ := h.tot hB h.hq (h.sN _ h.qN)
  rw [a1, a2, a3, b1, b2, b3]
  refine ⟨?_, ?_, h.ll⟩
  · rw [wr_l, wr_r, h.cc.1, wr_id (by omega) (by omega)]
  · rw [wr_l, wr_r, h.ss]
theorem Ps.each (hB : Tb t) (h : Ps n Z t p q M N) {v : Int} (hv : 1 ≤ v ∧ v ≤ (n : Int)) : (t.same v p = true ∧ t.same v q = false ∧ (t.total v).c = (t.total p).c) ∨ (t.same v p = false ∧ t.same v q = true ∧ (t.total v).s = (t.total q).s) := by
  unfold To.same
  rcases h.all v hv with k | k
  · refine .inl ?_
    rw [h.sM _ k, (h.tot hB hv (h.sM _ k)).1, (h.tot hB h.hp (h.sM _ h.pM)).1]
    simp only [decide_eq_false_iff_not, decide_eq_true_eq]
    exact ⟨h.pM, fun e => h.ap _ e h.qN, trivial⟩
  · refine .inr ?_
    rw [h.sN _ k, (h.tot hB hv (h.sN _ k)).2.1, (h.tot hB h.hq (h.sN _ h.qN)).2.1]
    simp only [decide_eq_false_iff_not, decide_eq_true_eq]
    exact ⟨fun e => h.ap _ h.pM e, h.qN, trivial⟩
theorem Ps.again (hB : Tb t) (h : Ps n Z t p q M N) (hn : n ≤ 60) {c d : Int} (hc : 1 ≤ c ∧ c ≤ (n : Int)) (hd : 1 ≤ d ∧ d ≤ (n : Int)) : (t.linkR c d = 5 ∧ t.linked c d = t ∧ t.same c d = true ∧ (t.total c).c ≠ n) ∨ (t.linkR c d = 0 ∧ (Tb (t.linked c d) → ((t.linked c d).total c).c = n ∧ ((t.linked c d).total p).s = wr Z ∧ ((t.linked c d).total q).l = 0 ∧ (t.linked c d).same p q = true)) := by
  have h1 := (h.va c).2 hc
  have h2 := (h.va d).2 hd
  cases hs : t.same c d with
  | true =>
    have hR : t.linkR c d = 5 := by unfold To.linkR; rw [if_pos ⟨h1, h2⟩, if_pos hs]
    refine .inl ⟨hR, by unfold To.linked; rw [hR, if_neg (by omega)], rfl, ?_⟩
    obtain ⟨c1, c2, c3⟩ := h.cc
    rcases h.all c hc with k | k
    · rw [(h.tot hB hc (h.sM _ k)).1, wr_id (by omega) (by omega)]; omega
    · rw [(h.tot hB hc (h.sN _ k)).1, wr_id (by omega) (by omega)]; omega
  | false =>
    have hR : t.linkR c d = 0 := by unfold To.linkR; rw [if_pos ⟨h1, h2⟩, if_neg (by rw [hs]; simp)]
    have hL : t.linked c d = t.link c d := by unfold To.linked; rw [if_pos hR]
    refine .inr ⟨hR, fun hB2 => ?_⟩
    rw [hL] at hB2 ⊢
    obtain ⟨hE2, L, inL, sL, l1, l2, l3⟩ := link_S hB h.eu h1 h2 hs hB2
    have eit : ∀ v, (t.link c d).item v = t.item v := fun v => rfl
    have evv : (t.link c d).v = t.v := rfl
    have both : (t.s.S (t.item c) = M ∧ t.s.S (t.item d) = N) ∨ (t.s.S (t.item c) = N ∧ t.s.S (t.item d) = M) := by
      have hs' : t.item d ∉ t.s.S (t.item c) := by simpa [To.same] using hs
      rcases h.all c hc with k | k <;> rcases h.all d hd with k' | k'
      · exact absurd k' (by rw [h.sM _ k] at hs'; exact hs')
      · exact .inl ⟨h.sM _ k, h.sN _ k'⟩
      · exact .inr ⟨h.sN _ k, h.sM _ k'⟩
      · exact absurd k' (by rw [h.sN _ k] at hs'; exact hs')
    have inM : ∀ k, k ∈ M → k ∈ L := fun k hk => inL k (by rcases both with ⟨e1, e2⟩ | ⟨e1, e2⟩ <;> rw [e1, e2] <;> simp [hk])
    have inN : ∀ k, k ∈ N → k ∈ L := fun k hk => inL k (by rcases both with ⟨e1, e2⟩ | ⟨e1, e2⟩ <;> rw [e1, e2] <;> simp [hk])
    obtain ⟨c1, c2, c3⟩ := h.cc
    have hss := h.ss
    have hll := h.ll
    have m1 : cS (t.link c d).s.V L = n ∧ sS (t.link c d).s.V L = Z ∧ lS (t.link c d).s.V L = 0 := by
      rcases both with ⟨e1, e2⟩ | ⟨e1, e2⟩ <;> rw [e1, e2] at l1 l2 l3 <;> exact ⟨by omega, by omega, by omega⟩
    have tt : ∀ v, 1 ≤ v ∧ v ≤ (n : Int) → (t.link c d).s.S ((t.link c d).item v) = L := fun v hv => by
      rw [eit]; rcases h.all v hv with k | k
      · exact sL _ (inM _ k)
      · exact sL _ (inN _ k)
    have tot : ∀ v, 1 ≤ v ∧ v ≤ (n : Int) → ((t.link c d).total v).c = wr n ∧ ((t.link c d).total v).s = wr Z ∧ ((t.link c d).total v).l = 0 := fun v hv => by
      have := To.total_S (t := t.link c d) (v := v) (hE2.ne0 hB2 (by rw [evv]; exact (h.va v).2 hv))
      rw [tt v hv, m1.1, m1.2.1, m1.2.2] at this
      exact this
    refine ⟨by rw [(tot c hc).1, wr_id (by omega) (by omega)], (tot p h.hp).2.1, (tot q h.hq).2.2, ?_⟩
    unfold To.same
    rw [tt p h.hp]
    simp only [decide_eq_true_eq]
    rw [eit]; exact inN _ h.qN
end
end Go.Proofs.Ytpbnhbpkfdhedaa
