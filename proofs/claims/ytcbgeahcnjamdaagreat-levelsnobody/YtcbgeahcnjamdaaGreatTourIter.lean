/- Layer 7 (tour): the vertices of a tree, one by one. -/
import Derived.Test.YtcbgeahcnjamdaaGreatTourFunB
import Derived.Test.YtcbgeahcnjamdaaGreatTreapLaw
namespace Go.Proofs.YtcbgeahcnjamdaaGreat
open Go.RowKit Go.Shelf
variable {Yh : Hx}
attribute [local go_sem] Oper.semAt_some
set_option linter.unusedVariables false

/-- make([]int, 0, m). -/
theorem make_i64 (m : Nat) (hm : m ≤ 2147483647) : ∃ cs : Array Value, cs.size = m ∧ ∀ w : World, (Instr.makeSlice 33 (.int .i64 0) (.int .i64 m)).run Tryz.prog w = .ok (.slice (some ⟨w.heap.size, 0, none⟩) 0 m) (w.alloc (.cells cs 3)) := by
  obtain ⟨i0, hi, hz0, hz1, hz2⟩ := info_parts infoI64
  refine ⟨madeCells (#[.int .i64 0]) (m * 1), by simp [madeCells], fun w => ?_⟩
  have h := run_make (P := Tryz.prog) w 33 3 i0 (.int .i64 0) Tryz.underlying33 hi hz0 .i64 .i64 0 m (by omega) (by omega) (by rw [hz2]; omega) (by omega)
  rw [h, hz1]
  rfl
/-- The vertices among some items. -/
def To.vs (t : To) (l : List Int) : List Int := (l.map fun i => (t.p i).1).filter (· ≠ 0)
def To.verts (t : To) (v : Int) : List Int := if t.item v = 0 then [] else t.vs (t.s.S (t.item v))
theorem To.vs_snoc (t : To) (l : List Int) (i : Int) : t.vs (l ++ [i]) = t.vs l ++ (if (t.p i).1 = 0 then [] else [(t.p i).1]) := by
  unfold To.vs
  rw [List.map_append, List.filter_append]
  congr 1
  by_cases h : (t.p i).1 = 0 <;> simp [h]
theorem To.vs_len (t : To) (l : List Int) : (t.vs l).length ≤ l.length := by
  unfold To.vs
  exact Nat.le_trans (List.length_filter_le _ _) (by simp)
/-- A new slice of ints. -/
def ListW (w w' : World) (ao : Option Addr) (cap : Nat) (L : List Int) : Prop := RowW w' 3 1 (.slice ao L.length cap) L.length (i64s L) ∧ ∀ k, (Value.slice ao L.length cap).ownBlock = some k → w.heap.size ≤ k
theorem fldP (a b : Int) (w : World) : Sem.run Tryz.prog (Instr.field 168 (.agg #[.int .i32 a, .int .i32 b]) 0) w = .ok (.int .i32 a) w := by kernel_rfl
section
variable {w : World} {F : Nat → Prop} {B G : Nat} {t : To}
set_option maxRecDepth 100000 in
set_option maxHeartbeats 1600000 in
theorem flisted_any (h : Tf Yh w F B G t) (v : Int) {N : Nat} (hN : (t.total v).c = (N : Int)) (hN' : N ≤ 100000) (hp : ∀ i, 0 ≤ (t.p i).1 ∧ (t.p i).1 ≤ 2147483647) {k : Nat} (hle : t.le k) (hk : k ≤ 30000) :
    Calls Tryz.prog 136 #[.pointer (some ⟨B, 0, none⟩), .int .i64 v] w fun e w' => ∃ ao cap, e = .returned (.slice ao (t.verts v).length cap) ∧ ListW w w' ao cap (t.verts v) ∧ Below w.heap.size w w' := by
  have HT := hid_mk h
  obtain ⟨i0, hi, hz0, hz1, hz2⟩ := info_parts infoI64
  obtain ⟨cs, hcs, hmk⟩ := make_i64 N (by omega)
  have hb0 : Below w.heap.size w (w.alloc (.cells #[.pointer (some ⟨B, 0, none⟩)] 26)) := (Below.refl _ _).alloc (Nat.le_refl _) _
  have hr0 : Blk (w.alloc (.cells #[.pointer (some ⟨B, 0, none⟩)] 26)) w.heap.size 26 #[.pointer (some ⟨B, 0, none⟩)] := Blk.new w _ _
  have HI := hid_mk (fitem_any (h.below hb0) v (Nat.le_trans hle.v (by omega)))
  have HSz := hid_mk (fsize_any (h.below hb0) v hle hk)
  rw [hN] at HSz
  have HB0 := hid_mk hb0
  have HR0 := hid_mk hr0
  have c0 := hr0.cell1
  have HP := hid_mk hp
  unfold To.verts
  rcases h.bd.item v with ⟨hv, hb⟩ | ⟨hv, h0⟩
  · have hi0 : ¬ t.item v = 0 := by unfold Bd at hb; omega
    rw [if_neg hi0]
    have hib := hb.i32
    have hlS : Hid ((t.s.S (t.item v)).length ≤ 100000) := by
      obtain ⟨X, Ft, hT, _⟩ := h.treap
      have h1 := hT.len (t.item v)
      have h2 := hle.s.1
      show _ ≤ _
      omega
    have HQ : Hid (∀ j, j ∈ t.s.S (t.item v) → -2147483648 ≤ j ∧ j ≤ 2147483647) := fun j hj => (h.mems hj).i32
    clear h hle hv hb hb0 hr0 hp hN
    generalize t.item v = i at *
    have hi1 : (i == 0) = false := by simpa using hi0
    refine (callsIn_wide (n := 9)).1 ?_
    refine callsIn_of_wp_marks Tryz.func136 rfl trivial ?_ rfl
    simp only [Tryz.ntmps136, List.size_toArray, List.length_cons, List.length_nil, Nat.reduceAdd, Nat.reduceSub, Array.replicate_succ, Array.replicate_zero, List.push_toArray, List.append_toArray, List.nil_append, List.cons_append]
    gi_wp2_with fail
    refine ⟨trivial, ?_⟩
    gi_at_call 117
    refine (callsIn_wide.2 HI.out).mono ?_
    rintro e w1 ⟨rfl, rfl⟩
    gi_wp2_with fail
    refine ⟨trivial, ?_⟩
    gi_at_call 41
    refine (callsIn_wide.2 HSz.out).mono ?_
    rintro e w2 ⟨rfl, hb2⟩
    have hR2 := HR0.out.below hb2
    have hB2 := HB0.out.trans (hb2.mono HB0.out.size)
    have hba : Below w2.heap.size w2 ((w2.alloc (.cells cs 3)).alloc (.cells #[.slice (some ⟨w2.heap.size, 0, none⟩) 0 N] 33)) := below_new ((Below.refl _ _).alloc (Nat.le_refl _) _) (Nat.le_refl _) _
    have hrow : Blk ((w2.alloc (.cells cs 3)).alloc (.cells #[.slice (some ⟨w2.heap.size, 0, none⟩) 0 N] 33)) w2.heap.size 3 cs := (Blk.new w2 _ _).alloc _
    have hbox : Blk ((w2.alloc (.cells cs 3)).alloc (.cells #[.slice (some ⟨w2.heap.size, 0, none⟩) 0 N] 33)) (w2.heap.size + 1) 33 #[.slice (some ⟨w2.heap.size, 0, none⟩) 0 N] := by
      have := Blk.new (w2.alloc (.cells cs 3)) 33 #[.slice (some ⟨w2.heap.size, 0, none⟩) 0 N]
      rwa [World.size_alloc] at this
    have HR3 := hid_mk (hR2.below hba)
    have HB3 := hid_mk (hB2.trans (hba.mono hB2.size))
    have HRow := hid_mk hrow
    have HBox := hid_mk hbox
    have c3 := (hR2.below hba).cell1
    have c2 := hR2.cell1
    have hw2 : w.heap.size < w2.heap.size := hR2.lt
    clear hba hrow hbox hR2 hB2 hb2 HSz HI HB0 HR0
    gi_wp2_with fail
    refine ⟨trivial, ?_⟩
    gi_at_call 182
    refine (callsIn_wide.2 (walk_ab _ _ _)).mono ?_
    rintro e X2 ⟨b, c, rfl, hx2, _, _, hb4⟩
    generalize hX1 : (w2.alloc (.cells cs 3)).alloc (.cells #[.slice (some ⟨w2.heap.size, 0, none⟩) 0 N] 33) = X1 at *
    have hs1 : X1.heap.size = w2.heap.size + 2 := by rw [← hX1]; simp
    have hs2 := hb4.size
    have HB4 := HB3.out.trans (hb4.mono HB3.out.size)
    have HR4 := HR3.out.below hb4
    have HI0 : Hid (Bag (w2.heap.size + 1) 33 3 (fun k => w2.heap.size ≤ k) (i64s (t.vs [])) X2) :=
      ⟨_, HBox.out.below hb4, ⟨rfl, .inr ⟨w2.heap.size, N, cs, rfl, HRow.out.below hb4, Nat.zero_le _, by unfold maxLen; omega, by rw [hcs]; omega, by simp [To.vs, i64s]⟩⟩, fun k hk => by cases hk; exact ⟨Nat.le_refl _, by show w2.heap.size ≠ w2.heap.size + 1; omega⟩⟩
    obtain ⟨Xx, Ft, hTp, _⟩ := (HT.out.below HB4).treap
    have HSQ := hid_mk (walk1_seq (n := 8) (by omega) b c i X2 hx2 hTp hib)
    clear hX1 hx2 hb4 HBox HRow HR3 HB3 c2 c3 hmk hTp c0
    gi_wp2_with fail
    refine range_own rfl (by omega) (gf := 207) (lb := #[.pointer (some ⟨b, 0, none⟩), .pointer (some ⟨c, 0, none⟩)]) rfl trivial (enters_of Tryz.func207 (by kernel_rfl) rfl) HSQ.out (Below.refl _ _) (fun _ => rfl)
      (fun pre A => Bag (w2.heap.size + 1) 33 3 (fun k => w2.heap.size ≤ k) (i64s (t.vs pre)) A ∧ Blk A w.heap.size 26 #[.pointer (some ⟨B, 0, none⟩)] ∧ Below w.heap.size w A) (fun _ _ _ => False)
      (OwnFrom.and (Own.from (Bag.own (fun pre => i64s (t.vs pre))) _) (OwnFrom.and (Own.from (blk_own _ _ (fun _ => _)) _) (ownFrom_below (by omega) (by omega)))) (fun _ _ _ _ _ hs _ _ => hs)
      ⟨HI0.out, HR4, HB4⟩ ?a1 ?assign ?body ?done ?stop
    case assign =>
      intro l' x A Kk hK
      gi_wp2
      exact hK
    case body =>
      rintro l' pre x A ⟨⟨v, hv1, hv2, hv3⟩, hR, hBl⟩ ⟨hlp, hpx⟩
      have hxm : x ∈ t.s.S i := hpx.subset (by simp)
      have hxb := HQ.out x hxm
      obtain ⟨mp, cm, hlk⟩ := (HT.out.below hBl).asks hxb
      have hl0 := hlk ⟨A, Below.refl _ _⟩
      have cR := hR.cell1
      have cv := hv1.cell1
      have hpx0 := HP.out x
      have hvs := t.vs_snoc pre x
      have hvl := t.vs_len pre
      rcases hpq : t.p x with ⟨pa, pb⟩
      rw [hpq] at hl0 hpx0 hvs
      simp only at hpx0 hvs
      have hfl := fldP
      rw [i64s_len] at hv2
      have hv4 : v.ownBlock ≠ some (w2.heap.size + 1) := fun e => (hv3 _ e).2 rfl
      by_cases hp0 : pa = 0
      · subst hp0
        rw [if_pos rfl, List.append_nil] at hvs
        have P0 : Hid (ownPostK (TagKept fun k t => X2.heap.size ≤ k ∧ t = 21) (fun pre A => Bag (w2.heap.size + 1) 33 3 (fun k => w2.heap.size ≤ k) (i64s (t.vs pre)) A ∧ Blk A w.heap.size 26 #[.pointer (some ⟨B, 0, none⟩)] ∧ Below w.heap.size w A) (fun _ _ _ => False) (pre ++ [x]) A .normal { tmps := #[], defers := [] } A) :=
          ⟨⟨Nat.le_refl _, fun k o hk _ => hk⟩, fun k cs' t fz hk hT => rfl, ⟨v, hv1, by rw [hvs, i64s_len]; exact hv2, hv3⟩, hR, hBl⟩
        clear hv1 hv2 hv3 hR hBl hlk
        gi_wp2
        exact P0.out
      · have hp1 : (pa != 0) = true := by simpa using hp0
        rw [if_neg hp0] at hvs
        have hw64 : wrap64 pa = pa := by unfold wrap64; omega
        have HV2 : Hid (RowW (A.alloc (.cells #[.int .i64 pa] 3)) 3 1 v (t.vs pre).length (i64s (t.vs pre))) := hv2.kept fun q hq => heap_alloc_old _ _ q (hv2.lt hq)
        have hpl : (t.vs pre).length < 200000 := by have := hlS.out; omega
        have HVS := hid_mk hvs
        obtain ⟨nv, hnv⟩ : ∃ nv, nv = (t.vs pre).length := ⟨_, rfl⟩
        have HNV := hid_mk hnv
        rw [← hnv] at HV2 hpl hv2
        clear hvs hlk hnv
        gi_wp2_with (gi_at_builtin; refine wpListIn_append_row _ rfl _ _ 33 rfl 3 i0 (.int .i64 0) 1 8 Tryz.underlying33 hi hz0 hz1 hz2 rfl _ _ _ rfl HV2.out ⟨A.heap.size, 0, none⟩ 1 1 [.int .i64 pa] rfl rfl (World.news_of_block (Blk.new A _ _)) (by simp [Value.oneCell']) (by omega) (by unfold maxLen; omega) (by omega) ?_)
        intro g cap w3 hown hgrow hat hlt
        obtain ⟨p1, p2, p3, p4, p5, p6⟩ := Bag.push hv1 hv2 hv4 hown hgrow (by simpa using hat)
        have cv2 := p6.cell1
        have fv2 := p6.frozen 0
        have P0 : Hid (ownPostK (TagKept fun k t => X2.heap.size ≤ k ∧ t = 21) (fun pre A => Bag (w2.heap.size + 1) 33 3 (fun k => w2.heap.size ≤ k) (i64s (t.vs pre)) A ∧ Blk A w.heap.size 26 #[.pointer (some ⟨B, 0, none⟩)] ∧ Below w.heap.size w A) (fun _ _ _ => False) (pre ++ [x]) A .normal { tmps := #[], defers := [] } (w3.setCell ⟨w2.heap.size + 1, 0, none⟩ (.slice (some ⟨g, 0, none⟩) (nv + 1) cap))) := by
          have hAs := hBl.size
          have hAl := hv1.lt
          refine ⟨p4, fun k cs' t fz hk hT => p5 k (Array.getElem?_eq_some_iff.1 hk).1 (by omega) (fun e => ?_), ⟨_, p1, ?_, fun k hk => ?_⟩, ?_, ?_⟩
          · rcases hv2.2 with ⟨e0, _⟩ | ⟨g', cap', cur, e0, hb', _⟩
            · rw [e0] at e; cases e
            · rw [e0] at e; cases e
              rw [show A.heap[g']? = _ from hb'] at hk
              cases hk
              exact absurd hT.2 (by decide)
          · rw [HVS.out, i64s_snoc, List.length_append, i64s_len, ← HNV.out]; exact p2
          · cases hk
            refine ⟨?_, p3⟩
            rcases hat with e | e
            · exact (hv3 _ e).1
            · show w2.heap.size ≤ g; rw [e]; first | omega | (simp; omega)
          · exact (p5 w.heap.size hR.lt (by omega) (fun e => by have := (hv3 _ e).1; omega)).trans hR
          · exact hBl.trans ⟨hgrow.os, hgrow.tape, hgrow.output, p4.size, fun k hk => p5 k (by omega) (by omega) (fun e => by have := (hv3 k e).1; omega)⟩
        clear p1 p2 p3 p4 p5 p6 hown hgrow hat hlt hv1 hv2 hv3 HV2 hR hBl
        gi_wp2
        exact P0.out
    case stop =>
      rintro D cc pre A hD hpre hF _
      exact hF.elim
    case done =>
      rintro D ys A hD rfl ⟨⟨v, hv1, hv2, hv3⟩, hR, hBl⟩ hK
      rw [i64s_len] at hv2
      obtain ⟨ao, cap, rfl⟩ := hv2.form
      have cv := hv1.cell1
      have HN : Hid (RowW A 3 1 (.slice ao (t.vs (t.s.S i)).length cap) (t.vs (t.s.S i)).length (i64s (t.vs (t.s.S i))) ∧ ∀ k, (Value.slice ao (t.vs (t.s.S i)).length cap).ownBlock = some k → w.heap.size ≤ k) := ⟨hv2, fun k hk => by have := (hv3 k hk).1; omega⟩
      have HBB := hid_mk hBl
      have HK' := hid_mk hK
      clear hv1 hv2 hv3 hR hBl hK HI0 HR4
      gi_wp2
      refine ⟨by simp, .inl ⟨_, _, rfl, run_takeDeferred HK'.out, ?_⟩⟩
      have hpb : Below D A (A.putObj D (.deferred none)) := ⟨rfl, rfl, rfl, by simp, fun k hk => World.putObj_heap_other (by omega)⟩
      refine ⟨.slice ao (t.vs (t.s.S i)).length cap, ?_, ao, cap, rfl, ⟨HN.out.1.kept fun k hk => World.putObj_heap_other (fun e => ?_), HN.out.2⟩, HBB.out.trans (hpb.mono (by omega))⟩
      · simp [results, Tryz.f136, go_sem]
      · subst e
        rcases HN.out.1.2 with ⟨e0, _⟩ | ⟨g', cap', cur, e0, hb', _⟩
        · rw [e0] at hk; cases hk
        · rw [e0] at hk; cases hk
          rw [show A.heap[g']? = _ from hb'] at HK'
          cases HK'.out
  · rw [if_pos h0]
    rw [h0] at HI
    clear h hle hv h0 hb0 hr0 hp hN HSz
    refine (callsIn_wide (n := 9)).1 ?_
    refine callsIn_of_wp_marks Tryz.func136 rfl trivial ?_ rfl
    simp only [Tryz.ntmps136, List.size_toArray, List.length_cons, List.length_nil, Nat.reduceAdd, Nat.reduceSub, Array.replicate_succ, Array.replicate_zero, List.push_toArray, List.append_toArray, List.nil_append, List.cons_append]
    gi_wp2_with fail
    refine ⟨trivial, ?_⟩
    gi_at_call 117
    refine (callsIn_wide.2 HI.out).mono ?_
    rintro e w1 ⟨rfl, rfl⟩
    gi_wp2
    refine ⟨.slice none 0 0, ?_, none, 0, rfl, ⟨RowW.empty _ _ _, fun k hk => by cases hk⟩, HB0.out⟩
    simp [results, Tryz.f136, go_sem]
theorem flisted_nil (v : Int) (w : World) : Calls Tryz.prog 136 #[.pointer none, .int .i64 v] w fun e w' => ∃ ao cap, e = .returned (.slice ao 0 cap) ∧ ListW w w' ao cap [] ∧ Below w.heap.size w w' := by
  have hb0 : Below w.heap.size w (w.alloc (.cells #[.pointer none] 26)) := (Below.refl _ _).alloc (Nat.le_refl _) _
  have c0 := (Blk.new w 26 #[.pointer none]).cell1
  have HB0 := hid_mk hb0
  clear hb0
  refine (callsIn_wide (n := 9)).1 ?_
  refine callsIn_of_wp_marks Tryz.func136 rfl trivial ?_ rfl
  simp only [Tryz.ntmps136, List.size_toArray, List.length_cons, List.length_nil, Nat.reduceAdd, Nat.reduceSub, Array.replicate_succ, Array.replicate_zero, List.push_toArray, List.append_toArray, List.nil_append, List.cons_append]
  gi_wp2_with fail
  refine ⟨trivial, ?_⟩
  gi_at_call 117
  refine (callsIn_wide.2 (fitem_nil v _)).mono ?_
  rintro e w1 ⟨rfl, rfl⟩
  gi_wp2
  refine ⟨.slice none 0 0, ?_, none, 0, rfl, ⟨RowW.empty _ _ _, fun k hk => by cases hk⟩, HB0.out⟩
  simp [results, Tryz.f136, go_sem]
/-- The function that Vertices hands back, over its two boxes. -/
abbrev vertF (b c : Nat) : Value := .func (.func 135) #[] #[.pointer (some ⟨b, 0, none⟩), .pointer (some ⟨c, 0, none⟩)]
def Bxv (b c : Nat) (p : Option Addr) (v : Int) (w : World) : Prop := Blk w b 26 #[.pointer p] ∧ Blk w c 3 #[.int .i64 v]
theorem Bxv.below {b c : Nat} {p : Option Addr} {v : Int} {w w' : World} (h : Bxv b c p v w) (hb : Below w.heap.size w w') : Bxv b c p v w' := ⟨h.1.below hb, h.2.below hb⟩
theorem vertF_nil (b c : Nat) (w : World) : (binOp BinOp.eql 100 (vertF b c) Value.nilFunc).run Tryz.prog w = .ok (.bool false) w := by kernel_rfl
set_option maxHeartbeats 400000 in
theorem vertices_ab (p : Option Addr) (v : Int) (w : World) : Calls Tryz.prog 52 #[.pointer p, .int .i64 v] w fun e w' => ∃ b c, e = .returned (vertF b c) ∧ Bxv b c p v w' ∧ w.heap.size ≤ b ∧ w.heap.size ≤ c ∧ Below w.heap.size w w' := by
  go_enter Tryz.func52, Tryz.ntmps52
  go_wp2
  go_ret
  refine ⟨_, _, rfl, ⟨(Blk.new w _ _).alloc _, ?_⟩, Nat.le_refl _, Nat.le_succ _, below_new ((Below.refl _ _).alloc (Nat.le_refl _) _) (Nat.le_refl _) _⟩
  have := Blk.new (w.alloc (.cells #[.pointer p] 26)) 3 #[.int .i64 v]
  rwa [World.size_alloc] at this
set_option maxRecDepth 100000 in
set_option maxHeartbeats 1600000 in
theorem vert1_seq (n : Nat) (hn : 4 ≤ n) (b c : Nat) (p : Option Addr) (v : Int) (w : World) (hbx : Bxv b c p v w) (L : List Int) (hL : L.length ≤ 1000000) (hlst : ∀ X, Below w.heap.size w X → Calls Tryz.prog 136 #[.pointer p, .int .i64 v] X fun e w' => ∃ ao cap, e = .returned (.slice ao L.length cap) ∧ ListW X w' ao cap L ∧ Below X.heap.size X w') :
    SeqL Fence.wide n Tryz.prog 135 #[.pointer (some ⟨b, 0, none⟩), .pointer (some ⟨c, 0, none⟩)] (fun x : Int => #[.int .i64 x]) (fun k t => w.heap.size ≤ k ∧ t = 3) (AllOf L) (PartOf L) L.length w := fun l J Jx X hX hJ hJx hl1 hl2 hY h0 => by
  have hbX := hbx.below hX
  have c1 := hbX.1.cell1
  have c2 := hbX.2.cell1
  have HLs := hid_mk (hlst X hX)
  have HJ : Hid (OwnFrom X.heap.size J) := hJ
  have HJx : Hid (OwnFrom X.heap.size Jx) := hJx
  have H0 : Hid (J [] X) := h0
  have HYY : Hid (∀ pre x W1, J pre W1 → pre.length < L.length ∧ PartOf L (pre ++ [x]) → YieldAt Fence.wide (n - 1) Tryz.prog l #[.int .i64 x] W1 fun e W' => (e = .returned (.bool true) ∧ J (pre ++ [x]) W' ∧ KeptBy l (fun k t => w.heap.size ≤ k ∧ t = 3) W1 W') ∨ (e = .returned (.bool false) ∧ Jx (pre ++ [x]) W' ∧ KeptBy l (fun _ _ => False) W1 W')) := hY
  have hXs := hX.size
  clear hbx hX hbX hJ hJx hY h0 hlst
  obtain ⟨m, hm⟩ : ∃ m, m = L.length := ⟨_, rfl⟩
  have HM : Hid (m = L.length) := hm
  rw [← hm] at hL HLs
  clear hm
  refine callsIn_of_wp_marks Tryz.func135 rfl trivial ?_ rfl
  simp only [Tryz.ntmps135, List.size_toArray, List.length_cons, List.length_nil, Nat.reduceAdd, Nat.reduceSub, Array.replicate_succ, Array.replicate_zero, List.push_toArray, List.append_toArray, List.nil_append, List.cons_append]
  gi_wp2_with fail
  refine ⟨trivial, fun _ => by omega, ?_⟩
  refine (callsIn_wide.2 HLs.out).mono ?_
  rintro e A ⟨ao, cap, rfl, hW, hb⟩
  rw [ListW, ← HM.out] at hW
  have HJ0 : Hid (J [] A) := HJ.out _ _ _ none H0.out (below_grown hb) (fun r e => by cases e)
  have HV : Hid (RowW A 3 1 (.slice ao m cap) m (i64s L) ∧ (∀ k, (Value.slice ao m cap).ownBlock = some k → w.heap.size ≤ k)) := ⟨hW.1, fun k hk => Nat.le_trans hXs (hW.2 k hk)⟩
  clear hW hb HLs H0 c1 c2
  gi_wp2
  gi_loopw [10] (fun vq wr => ∃ q : Nat, q ≤ m ∧ vq = .int .i64 q ∧ Hid (J (L.take q) wr) ∧ Hid (RowW wr 3 1 (.slice ao m cap) m (i64s L) ∧ (∀ k, (Value.slice ao m cap).ownBlock = some k → w.heap.size ≤ k))) (fun vq _ => m - (intOf vq).toNat)
  case atStart => exact ⟨0, Nat.zero_le _, rfl, HJ0.out, HV.out⟩
  case round =>
    obtain ⟨q, hq, rfl, HJq, HVq⟩ := hrel
    by_cases hlt : q < m
    · have hlt' : q < L.length := by rw [← HM.out]; exact hlt
      obtain ⟨g, cap', e0⟩ := HVq.out.1.led (by omega)
      cases e0
      have cq := HVq.out.1.cell (i64s_at hlt')
      obtain ⟨f1, t1, a1, b1, hy1, hR1⟩ := HYY.out _ (lAt L q) wr HJq.out ⟨by rw [List.length_take]; omega, by rw [← ltake_snoc hlt']; exact List.take_prefix _ _⟩
      rw [← ltake_snoc hlt'] at hR1
      have hqi : (q : Int) < (m : Int) := by omega
      gi_wp2
      repeat (refine ⟨fun _ h => (by cases h), ?_⟩; gi_wp2)
      refine ⟨fun _ => by omega, hR1.mono ?_⟩
      rintro e X3 (⟨rfl, hX3, k3⟩ | ⟨rfl, hx3, k3⟩)
      · obtain ⟨r1, r2⟩ := HVq.out
        have r6 : RowW X3 3 1 (.slice (some ⟨g, 0, none⟩) m cap) m (i64s L) := r1.kept fun k hk => by
          cases hk
          rcases r1.2 with ⟨e1, _⟩ | ⟨g', cap', cur, e1, hb', _⟩
          · cases e1
          · cases e1
            exact k3.tag g cur 3 (0, 0) hb' ⟨r2 g rfl, rfl⟩
        have HJ3 := hid_mk hX3
        have HV3 : Hid (RowW X3 3 1 (.slice (some ⟨g, 0, none⟩) m cap) m (i64s L) ∧ (∀ k, (Value.slice (some ⟨g, 0, none⟩) m cap).ownBlock = some k → w.heap.size ≤ k)) := ⟨r6, r2⟩
        clear hX3 k3 r1 r2 r6 hy1 hR1 HJq HVq cq
        gi_wp2
        go_roundw
        case rel => exact ⟨q + 1, by omega, by go_num, HJ3.out, HV3.out⟩
        case measure => simp [intOf]; omega
      · clear k3 hy1 hR1 HJq HVq cq
        gi_wp2
        refine ⟨.tuple #[], ?_, ⟨_, rfl⟩, .inr ⟨_, List.take_prefix _ _, hx3⟩⟩
        simp [results, Tryz.f135, go_sem]
    · obtain rfl : q = m := by omega
      have HJq' : Hid (J L wr) := by have := HJq.out; rw [HM.out, List.take_length] at this; exact this
      clear HVq HJq
      gi_wp2
      refine ⟨.tuple #[], ?_, ⟨_, rfl⟩, .inl ⟨_, rfl, HJq'.out⟩⟩
      simp [results, Tryz.f135, go_sem]
end
end Go.Proofs.YtcbgeahcnjamdaaGreat
