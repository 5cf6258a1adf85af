/- Layer 6's statement TreapNext. -/
import Derived.Test.YtaoeifeiendfhabTreapDuo
import Derived.Deep.RegionHeld3
namespace Go.Proofs.Ytaoeifeiendfhab
open Go.RowKit
set_option linter.unusedVariables false

/-- One forest, made since w. -/
structure Solo (w wr : World) (F : Nat → Prop) (B : Nat) (s : Sq) : Prop where
  f : Ts wr F B s
  ff : ∀ k, F k → w.heap.size ≤ k
  below : Below w.heap.size w wr
theorem Solo.grow {w wr wr' : World} {F : Nat → Prop} {B : Nat} {s : Sq} (h : Solo w wr F B s) (hb : Below wr.heap.size wr wr') : Solo w wr' F B s := ⟨h.f.below hb, h.ff, h.below.trans (hb.mono h.below.size)⟩
theorem Solo.step {w wr wr' : World} {F F' : Nat → Prop} {B : Nat} {s s' : Sq} (h : Solo w wr F B s) (h1 : Ts wr' F' B s') (hS : Step F F' wr wr') : Solo w wr' F' B s' := ⟨h1, hS.from h.below.size h.ff, hS.start h.below (Nat.le_refl _) h.ff⟩
theorem NAt.kept {k : IntKind} {W W' : World} {ao : Option Addr} {xs : List Int} (h : NAt k W ao xs) (hb : ∀ b off, ao = some ⟨b, off, none⟩ → W'.heap[b]? = W.heap[b]?) (hs : W.heap.size ≤ W'.heap.size) : NAt k W' ao xs := by
  rcases h with h | ⟨b, off, e, hl, h⟩
  · exact .inl h
  · exact .inr ⟨b, off, e, Nat.lt_of_lt_of_le hl hs, fun i hi => (World.cell?_of_block (w := W) (hb b off e)).trans (h i hi)⟩
/-- A box of its own is written, which is no forest's. -/
theorem Solo.put4 {w wr : World} {F : Nat → Prop} {B bA : Nat} {s : Sq} (h : Solo w wr F B s) (hn : ¬ F bA) (hw : w.heap.size ≤ bA) (a b c d : Value) : Solo w ((((wr.setCell ⟨bA, 0, none⟩ a).setCell ⟨bA, 1, none⟩ b).setCell ⟨bA, 2, none⟩ c).setCell ⟨bA, 3, none⟩ d) F B s := by
  have hbl : ∀ k, k ≠ bA → ((((wr.setCell ⟨bA, 0, none⟩ a).setCell ⟨bA, 1, none⟩ b).setCell ⟨bA, 2, none⟩ c).setCell ⟨bA, 3, none⟩ d).heap[k]? = wr.heap[k]? := fun k hk =>
    (Below.heap_setCell _ ⟨bA, 3, none⟩ _ k hk).trans ((Below.heap_setCell _ ⟨bA, 2, none⟩ _ k hk).trans ((Below.heap_setCell _ ⟨bA, 1, none⟩ _ k hk).trans (Below.heap_setCell _ ⟨bA, 0, none⟩ _ k hk)))
  refine ⟨Tp.kept h.f (fun k hk => hbl k (fun e => hn (e ▸ hk))) (by simp), h.ff, ?_⟩
  exact (((h.below.setCell (p := ⟨bA, 0, none⟩) hw _).setCell (p := ⟨bA, 1, none⟩) hw _).setCell (p := ⟨bA, 2, none⟩) hw _).setCell (p := ⟨bA, 3, none⟩) hw _
theorem put4_heap (wr : World) {bA : Nat} (a b c d : Value) {k : Nat} (hk : k ≠ bA) : ((((wr.setCell ⟨bA, 0, none⟩ a).setCell ⟨bA, 1, none⟩ b).setCell ⟨bA, 2, none⟩ c).setCell ⟨bA, 3, none⟩ d).heap[k]? = wr.heap[k]? :=
  (Below.heap_setCell _ ⟨bA, 3, none⟩ _ k hk).trans ((Below.heap_setCell _ ⟨bA, 2, none⟩ _ k hk).trans ((Below.heap_setCell _ ⟨bA, 1, none⟩ _ k hk).trans (Below.heap_setCell _ ⟨bA, 0, none⟩ _ k hk)))
set_option maxRecDepth 100000 in
theorem eqSelf (Z : Vl) (w : World) : (binOp BinOp.eql 30 (vlc Z) (vlc Z)).run Try.prog w = .ok (.bool true) w := by
  have h := eqVal Z Z w
  simp only [binOp]
  simp [Op.equal, go_sem]
  rw [show Op.maxDepth = 10000 from rfl, h]
  simp [Result.andThen]
set_option maxRecDepth 100000 in
set_option maxHeartbeats 4000000 in
theorem tnextlaw_walk (ao : Option Addr) (ca : Nat) (xs : List Int) (qo : Option Addr) (cq : Nat) (qs : List A6.Ac) (item : Int) (w : World)
    (ha : UAt w ao xs) (hwa : Wu xs) (hla : xs.length ≤ 9223372036854775807) (hq : A6.AcAt w qo qs) (hlq : qs.length ≤ 9223372036854775807) :
    Calls Try.prog 3 #[.slice ao xs.length ca, .slice qo qs.length cq, .int .i64 item] w fun e w' => e = .returned (.bool true) ∧ Below w.heap.size w w' := by
  have HA : Hid (UAt w ao xs ∧ Wu xs) := ⟨ha, hwa⟩
  have HQ : Hid (A6.AcAt w qo qs) := hq
  have hfl := eqVal
  clear ha hwa hq
  obtain ⟨m, hm⟩ : ∃ m, m = qs.length := ⟨_, rfl⟩
  have HM : Hid (qs.length = m) := hm.symm
  obtain ⟨na, hna⟩ : ∃ m, m = xs.length := ⟨_, rfl⟩
  have HNA : Hid (xs.length = na) := hna.symm
  rw [← hm] at hlq ⊢
  rw [← hna] at hla ⊢
  clear hm hna
  go_enter Try.func3, Try.ntmps3
  go_wp2_with fail
  refine (tawake_any w).mono ?_
  rintro e w1 ⟨rfl, hb1⟩
  have HW1 : Hid (Below w.heap.size w w1) := hb1
  clear hb1
  go_wp2_with fail
  refine (tgreat_any ao ca na qo cq m qs w1 HM.out hlq hla (HQ.out.below HW1.out)).mono ?_
  rintro e w2 ⟨g1, rfl, hg1, hb2⟩
  have HW2 : Hid (Below w.heap.size w w2) := HW1.out.trans (hb2.mono HW1.out.size)
  clear hb2 HW1
  cases g1 with
  | true =>
    go_wp2
    go_ret
    exact ⟨rfl, HW2.out⟩
  | false =>
    obtain ⟨hm2, hna2⟩ := hg1 rfl
    clear hg1
    go_wp2_with fail
    have hM1 := made_any ao ca xs w2 (HA.out.1.below HW2.out) HA.out.2 (by rw [HNA.out]; exact hla)
    rw [HNA.out] at hM1
    refine hM1.mono ?_
    rintro e w4 ⟨Bf, Ff, rfl, hT, hF, hb4⟩
    have HS0 : Hid (Solo w w4 Ff Bf sq0) := ⟨hT, fun k hk => Nat.le_trans HW2.out.size (hF k hk), HW2.out.trans (hb4.mono HW2.out.size)⟩
    clear hT hF hb4 HW2 hM1 HA
    go_wp2
    go_loopw [8] (fun vk wr => ∃ (k : Nat) (s : Sq) (F1 : Nat → Prop), vk = .int .i64 k ∧ k ≤ m ∧ s.le k ∧ Hid (Solo w wr F1 Bf s)) (fun vk _ => m - (intOf vk).toNat)
    case atStart => exact ⟨0, sq0, Ff, rfl, Nat.zero_le _, ⟨Nat.le_refl _, Nat.le_refl _⟩, HS0.out⟩
    case round =>
      obtain ⟨k, s, F1, rfl, hkm, hle, HD⟩ := hrel
      by_cases hlt : k < m
      · rcases HQ.out with h | ⟨b, off, rfl, hbl, hc⟩
        · have := HM.out; rw [h] at this; simp at this; omega
        · obtain ⟨c0, c1, c2, c3, c4, c5, c6⟩ := (hc k (by rw [HM.out]; exact hlt)).1
          clear hc
          have hBw := HD.out.below
          have hbr : b < wr.heap.size := Nat.lt_of_lt_of_le hbl hBw.size
          replace c0 := (hBw.cell (p := ⟨b, _, none⟩) hbl).trans c0
          replace c1 := (hBw.cell (p := ⟨b, _, none⟩) hbl).trans c1
          replace c2 := (hBw.cell (p := ⟨b, _, none⟩) hbl).trans c2
          replace c3 := (hBw.cell (p := ⟨b, _, none⟩) hbl).trans c3
          replace c4 := (hBw.cell (p := ⟨b, _, none⟩) hbl).trans c4
          replace c5 := (hBw.cell (p := ⟨b, _, none⟩) hbl).trans c5
          replace c6 := (hBw.cell (p := ⟨b, _, none⟩) hbl).trans c6
          have hlti : (k : Int) < (m : Int) := by omega
          generalize (A6.aAt qs k).d = qd at *
          generalize (A6.aAt qs k).i = qi at *
          generalize (A6.aAt qs k).j = qj at *
          generalize (A6.aAt qs k).c = xc at *
          generalize (A6.aAt qs k).s = xs' at *
          generalize (A6.aAt qs k).l = xl at *
          generalize (A6.aAt qs k).m = xm at *
          clear hBw
          have gx1 : ∀ g : Grow wr, g.w.cell? ⟨b, off + k * 7 + 1, none⟩ = some (.int .i64 qi) := Grow.cell hbr c1
          have gx2 : ∀ g : Grow wr, g.w.cell? ⟨b, off + k * 7 + 2, none⟩ = some (.int .i64 qj) := Grow.cell hbr c2
          have hne := Grow.ne wr
          have HNum : Hid (∀ (g : Grow wr) (i : Int), Calls Try.prog 7 #[.int .i64 i] g.w fun e w' => e = .returned (.int .i32 (numI i)) ∧ Below g.w.heap.size g.w w') := fun g i => (number6_any i _).mono fun e w' ⟨h1, h2⟩ => ⟨h1, by rw [h2]; exact Below.refl _ _⟩
          go_wp2_with fail
          refine wp_region_grow (by kernel_rfl) (by kernel_rfl) ?_
          repeat (go_big_quiet_step ((go_at_call 7; exact grow_call (HNum.out _ _))))
          refine wpQuiet_nil ?_
          rintro w7 ⟨⟨_, hb7⟩, rfl⟩
          have e0 := (hb7.cell (p := ⟨b, _, none⟩) hbr).trans c0
          have e3 := (hb7.cell (p := ⟨b, _, none⟩) hbr).trans c3
          have e4 := (hb7.cell (p := ⟨b, _, none⟩) hbr).trans c4
          have e5 := (hb7.cell (p := ⟨b, _, none⟩) hbr).trans c5
          have e6 := (hb7.cell (p := ⟨b, _, none⟩) hbr).trans c6
          have HD7 : Hid (Solo w w7 F1 Bf s) := HD.out.grow hb7
          have hiB := numI_bd qi
          have hjB := numI_bd qj
          clear c0 c1 c2 c3 c4 c5 c6 HD hb7 gx1 gx2 hne HNum
          generalize numI qi = I at *
          generalize numI qj = J at *
          by_cases d0 : qd = 0
          · subst d0
            go_wp2_with fail
            refine (smake_any HD7.out.f ⟨xc, xs', xl, xm⟩ hle (by omega)).mono ?_
            rintro e w8 ⟨F8, rfl, t8, s8⟩
            have HD8 : Hid (Solo w w8 F8 Bf (s.make ⟨xc, xs', xl, xm⟩)) := HD7.out.step t8 s8
            clear t8 s8 HD7 e0 e3 e4 e5 e6
            go_wp2
            go_roundw
            case rel => exact ⟨k + 1, s.make ⟨xc, xs', xl, xm⟩, F8, by go_num, by omega, Sq.le_make hle _, HD8.out⟩
            case measure => simp [intOf]; omega
          · have d0' : (qd == 0) = false := by simpa using d0
            by_cases d1 : qd = 1
            · subst d1
              go_wp2_with fail
              refine (sjoin_any HD7.out.f I J hiB hjB).mono ?_
              rintro e w8 ⟨F8, rfl, t8, s8⟩
              have HD8 : Hid (Solo w w8 F8 Bf (s.join I J)) := HD7.out.step t8 s8
              clear t8 s8 HD7 e0 e3 e4 e5 e6
              go_wp2
              go_roundw
              case rel => exact ⟨k + 1, s.join I J, F8, by go_num, by omega, Sq.le_mono (Sq.le_join hle I J) (by omega), HD8.out⟩
              case measure => simp [intOf]; omega
            · have d1' : (qd == 1) = false := by simpa using d1
              by_cases d2 : qd = 2
              · subst d2
                go_wp2_with fail
                refine (scut_any HD7.out.f I hiB).mono ?_
                rintro e w8 ⟨F8, rfl, t8, s8⟩
                have HD8 : Hid (Solo w w8 F8 Bf (s.cut I)) := HD7.out.step t8 s8
                clear t8 s8 HD7 e0 e3 e4 e5 e6
                go_wp2
                go_roundw
                case rel => exact ⟨k + 1, s.cut I, F8, by go_num, by omega, Sq.le_mono (Sq.le_cut hle I) (by omega), HD8.out⟩
                case measure => simp [intOf]; omega
              · have d2' : (qd == 2) = false := by simpa using d2
                by_cases d3 : qd = 3
                · subst d3
                  go_wp2_with fail
                  refine (sset_any HD7.out.f I ⟨xc, xs', xl, xm⟩ hiB).mono ?_
                  rintro e w8 ⟨F8, rfl, t8, s8⟩
                  have HD8 : Hid (Solo w w8 F8 Bf (s.set I ⟨xc, xs', xl, xm⟩)) := HD7.out.step t8 s8
                  clear t8 s8 HD7 e0 e3 e4 e5 e6
                  go_wp2
                  go_roundw
                  case rel => exact ⟨k + 1, s.set I ⟨xc, xs', xl, xm⟩, F8, by go_num, by omega, Sq.le_mono (Sq.le_set hle I _) (by omega), HD8.out⟩
                  case measure => simp [intOf]; omega
                · have d3' : (qd == 3) = false := by simpa using d3
                  by_cases d4 : qd = 4
                  · subst d4
                    go_wp2_with fail
                    refine (sfree_any HD7.out.f I hiB).mono ?_
                    rintro e w8 ⟨F8, rfl, t8, s8⟩
                    have HD8 : Hid (Solo w w8 F8 Bf (s.free I)) := HD7.out.step t8 s8
                    clear t8 s8 HD7 e0 e3 e4 e5 e6
                    go_wp2
                    go_roundw
                    case rel => exact ⟨k + 1, s.free I, F8, by go_num, by omega, Sq.le_mono (Sq.le_free hle I) (by omega), HD8.out⟩
                    case measure => simp [intOf]; omega
                  · have d4' : (qd == 4) = false := by simpa using d4
                    go_wp2
                    go_roundw
                    case rel => exact ⟨k + 1, s, F1, by go_num, by omega, Sq.le_mono hle (by omega), HD7.out⟩
                    case measure => simp [intOf]; omega
      · have hlti : ¬ (k : Int) < (m : Int) := by omega
        go_wp2_with fail
        refine (number6_any item wr).mono ?_
        rintro e wa ⟨rfl, rfl⟩
        have hnB := numI_bd item
        generalize numI item = n at *
        obtain ⟨L, hL⟩ : ∃ L, L = s.S n := ⟨_, rfl⟩
        have HL : Hid (L = s.S n) := hL
        have hl2 : (s.S n).length ≤ 1000 := by have := HD.out.f.len n; have := hle.1; omega
        have hW := twalk_any HD.out.f n hnB hl2
        have hF1 := fun (A : World) (h : Ts A F1 Bf s) => tfirst_any h n hnB
        rw [← hL] at hW hl2
        rw [← hL, show L.headD 0 = lAt L 0 by cases L <;> rfl] at hF1
        have hnd : L.Nodup := by rw [hL]; exact HD.out.f.nodup n
        have HND : Hid (L.Nodup) := hnd
        have HF1 : Hid _ := hF1
        have HIs : Hid (isK s.K n = decide ((0 : Int) < (L.length : Int))) := by
          show _ = _
          rw [hL]
          cases hk : isK s.K n with
          | true =>
            have h1 := HD.out.f.mem.1 hk
            have : 0 < (s.S n).length := List.length_pos_of_mem h1
            simp; exact this
          | false =>
            have h1 := HD.out.f.nil.1 hk
            rw [h1]; simp
        have HI : Hid (∀ p, p < L.length → (-2147483648 ≤ lAt L p ∧ lAt L p ≤ 2147483647) ∧ isK s.K (lAt L p) = true ∧ plS (s.S (lAt L p)) (lAt L p) = p ∧ decide (n ∈ s.S (lAt L p)) = true ∧ nxS (s.S (lAt L p)) (lAt L p) = lAt L (p + 1)) := fun p hp => by
          have hm1 : lAt L p ∈ s.S n := by rw [← hL]; exact lAt_mem hp
          have hsm := HD.out.f.same hm1
          have hk : isK s.K (lAt L p) = true := HD.out.f.mem.2 (by rw [hsm]; exact hm1)
          have hkb := isK_bd hk
          have hkl := hle.1
          refine ⟨by omega, hk, ?_, ?_, ?_⟩
          · rw [hsm, ← hL]; unfold plS; rw [if_pos (lAt_mem hp), idx_at hnd hp]
          · rw [hsm]
            have : isK s.K n = true := by
              cases hk' : isK s.K n with
              | true => rfl
              | false => rw [HD.out.f.nil.1 hk'] at hm1; simp at hm1
            exact decide_eq_true (HD.out.f.mem.1 this)
          · have := nx_at HD.out.f (i := n) (m := p) (by rw [← hL]; exact hp)
            rw [← hL] at this; exact this
        clear hF1 hnd
        go_wp2_with fail
        refine hW.mono ?_
        rintro e wb ⟨ao2, cp2, rfl, hna2', hbb⟩
        have HN : Hid (NAt .i64 wb ao2 L) := hna2'
        have HDb : Hid (Solo w wb F1 Bf s) := HD.out.grow hbb
        clear hW hna2' hbb HD hL
        go_wp2_with fail
        refine (HF1.out _ HDb.out.f).mono ?_
        rintro e wb' ⟨rfl, rfl⟩
        have hbA := (Below.refl wb'.heap.size wb').alloc (Nat.le_refl _) (.cells #[.int .i64 0, .int .i64 0, .int .i64 4611686018427387904, .int .u8 0] 30)
        have HAl : Hid (Blk (wb'.alloc (.cells #[.int .i64 0, .int .i64 0, .int .i64 4611686018427387904, .int .u8 0] 30)) wb'.heap.size 30 #[.int .i64 0, .int .i64 0, .int .i64 4611686018427387904, .int .u8 0]) := Blk.new wb' _ _
        have HDc : Hid (Solo w (wb'.alloc (.cells #[.int .i64 0, .int .i64 0, .int .i64 4611686018427387904, .int .u8 0] 30)) F1 Bf s) := HDb.out.grow hbA
        have HNc : Hid (NAt .i64 (wb'.alloc (.cells #[.int .i64 0, .int .i64 0, .int .i64 4611686018427387904, .int .u8 0] 30)) ao2 L) := HN.out.below hbA
        have hwA : w.heap.size ≤ wb'.heap.size := HDb.out.below.size
        have HnF : Hid (¬ F1 wb'.heap.size) := fun h => by have := HDb.out.f.lt _ h; omega
        have HGA : Hid (L = [] ∨ ∀ b o, ao2 = some ⟨b, o, none⟩ → b < wb'.heap.size) := HN.out.imp id (fun ⟨b, off, e, hl, _⟩ b' o e' => by rw [e] at e'; cases e'; exact hl)
        clear hbA HDb HN HF1
        obtain ⟨N, hN⟩ : ∃ N, N = L.length := ⟨_, rfl⟩
        have HNn : Hid (L.length = N) := hN.symm
        rw [← hN] at hl2 ⊢
        clear hN
        go_wp2
        generalize wb'.alloc (.cells #[.int .i64 0, .int .i64 0, .int .i64 4611686018427387904, .int .u8 0] 30) = wc at *
        generalize wb'.heap.size = bA at *
        go_loopw [13, 15] (fun va vp wr => ∃ (p : Nat) (Z : Vl), va = .int .i32 (lAt L p) ∧ vp = .int .i64 p ∧ p ≤ N ∧ Hid (Z = sumV ((L.take p).map s.V)) ∧ Hid (Solo w wr F1 Bf s) ∧ Hid (Blk wr bA 30 #[.int .i64 Z.c, .int .i64 Z.s, .int .i64 Z.l, .int .u8 Z.m]) ∧ Hid (NAt .i64 wr ao2 L)) (fun _ vp _ => N - (intOf vp).toNat)
        case atStart => exact ⟨0, noV, rfl, rfl, Nat.zero_le _, rfl, HDc.out, HAl.out, HNc.out⟩
        case round =>
          obtain ⟨p, Z, rfl, rfl, hpN, HZ, HDp, HAp, HNp⟩ := hrel
          by_cases hpl : p < N
          · have hplL : p < L.length := by rw [HNn.out]; exact hpl
            have hpi : (p : Int) < (N : Int) := by omega
            obtain ⟨hab, hak, hpl1, hsm1, hnx1⟩ := HI.out p hplL
            have HP1 : Hid (plS (s.S (lAt L p)) (lAt L p) = p) := hpl1
            have HSm : Hid (decide (n ∈ s.S (lAt L p)) = true) := hsm1
            have HNx : Hid (nxS (s.S (lAt L p)) (lAt L p) = lAt L (p + 1)) := hnx1
            have HAk : Hid (isK s.K (lAt L p) = true) := hak
            have HZ2 : Hid (tog Z (s.V (lAt L p)) = sumV ((L.take (p + 1)).map s.V)) := by show _ = _; rw [ltake_snoc hplL, List.map_append, HZ.out]; exact (sumV_snoc _ _).symm
            rcases HNp.out with h | ⟨gb, goff, rfl, hgl, hgc⟩
            · rw [h] at hplL; simp at hplL
            · have lc := hgc p hplL
              clear hgc hpl1 hsm1 hnx1 hak
              have hG := tget_any HDp.out.f (lAt L p) hab
              rw [HAk.out, if_pos rfl] at hG
              generalize hat : lAt L p = at_ at *
              have HAT : Hid (lAt L p = at_) := hat
              clear hat
              generalize hX : s.V at_ = X at *
              clear hX
              go_wp2_with fail
              refine hG.mono ?_
              rintro e wd ⟨rfl, hbd⟩
              have HDd : Hid (Solo w wd F1 Bf s) := HDp.out.grow hbd
              have HAd : Hid (Blk wd bA 30 #[.int .i64 Z.c, .int .i64 Z.s, .int .i64 Z.l, .int .u8 Z.m]) := HAp.out.below hbd
              have HNd : Hid (NAt .i64 wd (some ⟨gb, goff, none⟩) L) := HNp.out.below hbd
              have lc2 := (hbd.cell (p := ⟨gb, _, none⟩) hgl).trans lc
              have hgl2 : gb < wd.heap.size := Nat.lt_of_lt_of_le hgl hbd.size
              clear hbd hG lc hgl HDp HAp HNp
              have hbe := (Below.refl wd.heap.size wd).alloc (Nat.le_refl _) (.cells #[.int .i64 X.c, .int .i64 X.s, .int .i64 X.l, .int .u8 X.m] 30)
              have HXe : Hid (Blk (wd.alloc (.cells #[.int .i64 X.c, .int .i64 X.s, .int .i64 X.l, .int .u8 X.m] 30)) wd.heap.size 30 #[.int .i64 X.c, .int .i64 X.s, .int .i64 X.l, .int .u8 X.m]) := Blk.new wd _ _
              have HDe : Hid (Solo w (wd.alloc (.cells #[.int .i64 X.c, .int .i64 X.s, .int .i64 X.l, .int .u8 X.m] 30)) F1 Bf s) := HDd.out.grow hbe
              have HAe : Hid (Blk (wd.alloc (.cells #[.int .i64 X.c, .int .i64 X.s, .int .i64 X.l, .int .u8 X.m] 30)) bA 30 #[.int .i64 Z.c, .int .i64 Z.s, .int .i64 Z.l, .int .u8 Z.m]) := HAd.out.below hbe
              have HNe : Hid (NAt .i64 (wd.alloc (.cells #[.int .i64 X.c, .int .i64 X.s, .int .i64 X.l, .int .u8 X.m] 30)) (some ⟨gb, goff, none⟩) L) := HNd.out.below hbe
              have lc3 := (hbe.cell (p := ⟨gb, _, none⟩) hgl2).trans lc2
              clear hbe HDd HAd HNd lc2 hgl2
              have hat2 : wrap64 at_ = at_ := by unfold wrap64; omega
              go_wp2_with fail
              generalize wd.alloc (.cells #[.int .i64 X.c, .int .i64 X.s, .int .i64 X.l, .int .u8 X.m] 30) = we at *
              generalize wd.heap.size = bX at *
              refine (tplace_any HDe.out.f at_ hab).mono ?_
              rintro e wf ⟨rfl, rfl⟩
              rw [HP1.out]
              go_wp2_with fail
              refine (tsame_any HDe.out.f at_ n hab hnB).mono ?_
              rintro e wg ⟨rfl, rfl⟩
              rw [HSm.out]
              have hgA : gb < bA := by
                rcases HGA.out with h | h
                · rw [h] at hplL; simp at hplL
                · exact h gb goff rfl
              have a0 := HAe.out.at (j := 0) rfl
              have a1 := HAe.out.at (j := 1) rfl
              have a2 := HAe.out.at (j := 2) rfl
              have a3 := HAe.out.at (j := 3) rfl
              have x0 := HXe.out.at (j := 0) rfl
              have x1 := HXe.out.at (j := 1) rfl
              have x2 := HXe.out.at (j := 2) rfl
              have x3 := HXe.out.at (j := 3) rfl
              have fa0 := HAe.out.frozen 0
              have fa1 := HAe.out.frozen 1
              have fa2 := HAe.out.frozen 2
              have fa3 := HAe.out.frozen 3
              clear lc3
              by_cases hmn : X.l < Z.l
              · skip
                have HDf : Hid (Solo w ((((wg.setCell ⟨bA, 0, none⟩ (.int .i64 (wrap64 (Z.c + X.c)))).setCell ⟨bA, 1, none⟩ (.int .i64 (wrap64 (Z.s + X.s)))).setCell ⟨bA, 2, none⟩ (.int .i64 X.l)).setCell ⟨bA, 3, none⟩ (.int .u8 (bits BinOp.or IntKind.u8 Z.m X.m))) F1 Bf s) := HDe.out.put4 HnF.out hwA _ _ _ _
                have HAf : Hid (Blk ((((wg.setCell ⟨bA, 0, none⟩ (.int .i64 (wrap64 (Z.c + X.c)))).setCell ⟨bA, 1, none⟩ (.int .i64 (wrap64 (Z.s + X.s)))).setCell ⟨bA, 2, none⟩ (.int .i64 X.l)).setCell ⟨bA, 3, none⟩ (.int .u8 (bits BinOp.or IntKind.u8 Z.m X.m))) bA 30 #[.int .i64 (wrap64 (Z.c + X.c)), .int .i64 (wrap64 (Z.s + X.s)), .int .i64 X.l, .int .u8 (bits BinOp.or IntKind.u8 Z.m X.m)]) := HAe.out.store4 _ _ _ _
                have HNf : Hid (NAt .i64 ((((wg.setCell ⟨bA, 0, none⟩ (.int .i64 (wrap64 (Z.c + X.c)))).setCell ⟨bA, 1, none⟩ (.int .i64 (wrap64 (Z.s + X.s)))).setCell ⟨bA, 2, none⟩ (.int .i64 X.l)).setCell ⟨bA, 3, none⟩ (.int .u8 (bits BinOp.or IntKind.u8 Z.m X.m))) (some ⟨gb, goff, none⟩) L) := HNe.out.kept (fun b o e => put4_heap _ _ _ _ _ (by cases e; omega)) (by simp)
                have HT : Hid (tog Z X = ⟨wrap64 (Z.c + X.c), wrap64 (Z.s + X.s), X.l, bits BinOp.or IntKind.u8 Z.m X.m⟩) := by show _ = _; unfold tog; rw [Int.min_eq_right (by omega)]; rfl
                go_wp2_with fail
                refine (tnext_any HDf.out.f at_ hab).mono ?_
                rintro e wh ⟨rfl, rfl⟩
                rw [HNx.out]
                clear a0 a1 a2 a3 x0 x1 x2 x3 fa0 fa1 fa2 fa3 HDe HAe HNe
                go_wp2
                go_roundw
                case rel => exact ⟨p + 1, tog Z X, rfl, by go_num, by omega, HZ2.out, HDf.out, by rw [HT.out]; exact HAf.out, HNf.out⟩
                case measure => simp [intOf]; omega
              · skip
                have HDf : Hid (Solo w ((((wg.setCell ⟨bA, 0, none⟩ (.int .i64 (wrap64 (Z.c + X.c)))).setCell ⟨bA, 1, none⟩ (.int .i64 (wrap64 (Z.s + X.s)))).setCell ⟨bA, 2, none⟩ (.int .i64 Z.l)).setCell ⟨bA, 3, none⟩ (.int .u8 (bits BinOp.or IntKind.u8 Z.m X.m))) F1 Bf s) := HDe.out.put4 HnF.out hwA _ _ _ _
                have HAf : Hid (Blk ((((wg.setCell ⟨bA, 0, none⟩ (.int .i64 (wrap64 (Z.c + X.c)))).setCell ⟨bA, 1, none⟩ (.int .i64 (wrap64 (Z.s + X.s)))).setCell ⟨bA, 2, none⟩ (.int .i64 Z.l)).setCell ⟨bA, 3, none⟩ (.int .u8 (bits BinOp.or IntKind.u8 Z.m X.m))) bA 30 #[.int .i64 (wrap64 (Z.c + X.c)), .int .i64 (wrap64 (Z.s + X.s)), .int .i64 Z.l, .int .u8 (bits BinOp.or IntKind.u8 Z.m X.m)]) := HAe.out.store4 _ _ _ _
                have HNf : Hid (NAt .i64 ((((wg.setCell ⟨bA, 0, none⟩ (.int .i64 (wrap64 (Z.c + X.c)))).setCell ⟨bA, 1, none⟩ (.int .i64 (wrap64 (Z.s + X.s)))).setCell ⟨bA, 2, none⟩ (.int .i64 Z.l)).setCell ⟨bA, 3, none⟩ (.int .u8 (bits BinOp.or IntKind.u8 Z.m X.m))) (some ⟨gb, goff, none⟩) L) := HNe.out.kept (fun b o e => put4_heap _ _ _ _ _ (by cases e; omega)) (by simp)
                have HT : Hid (tog Z X = ⟨wrap64 (Z.c + X.c), wrap64 (Z.s + X.s), Z.l, bits BinOp.or IntKind.u8 Z.m X.m⟩) := by show _ = _; unfold tog; rw [Int.min_eq_left (by omega)]; rfl
                go_wp2_with fail
                refine (tnext_any HDf.out.f at_ hab).mono ?_
                rintro e wh ⟨rfl, rfl⟩
                rw [HNx.out]
                clear a0 a1 a2 a3 x0 x1 x2 x3 fa0 fa1 fa2 fa3 HDe HAe HNe
                go_wp2
                go_roundw
                case rel => exact ⟨p + 1, tog Z X, rfl, by go_num, by omega, HZ2.out, HDf.out, by rw [HT.out]; exact HAf.out, HNf.out⟩
                case measure => simp [intOf]; omega
          · obtain rfl : p = N := by omega
            have hpi : ¬ (p : Int) < (p : Int) := by omega
            rw [show lAt L p = 0 from lAt_out (by rw [HNn.out]; exact Nat.le_refl _)]
            have HZf : Hid (Z = sumV (L.map s.V)) := by show _ = _; rw [HZ.out, ← HNn.out, List.take_length]
            go_wp2_with fail
            refine (tget_any HDp.out.f n hnB).mono ?_
            rintro e wd ⟨rfl, hbd⟩
            have HDd : Hid (Solo w wd F1 Bf s) := HDp.out.grow hbd
            have HAd : Hid (Blk wd bA 30 #[.int .i64 Z.c, .int .i64 Z.s, .int .i64 Z.l, .int .u8 Z.m]) := HAp.out.below hbd
            clear hbd HDp HAp HNp
            rw [HIs.out, HNn.out]
            generalize (if decide ((0 : Int) < (p : Int)) = true then s.V n else zeV) = Y at *
            have hbe := (Below.refl wd.heap.size wd).alloc (Nat.le_refl _) (.cells #[.int .i64 Y.c, .int .i64 Y.s, .int .i64 Y.l, .int .u8 Y.m] 30)
            have HDe : Hid (Solo w (wd.alloc (.cells #[.int .i64 Y.c, .int .i64 Y.s, .int .i64 Y.l, .int .u8 Y.m] 30)) F1 Bf s) := HDd.out.grow hbe
            have HAe : Hid (Blk (wd.alloc (.cells #[.int .i64 Y.c, .int .i64 Y.s, .int .i64 Y.l, .int .u8 Y.m] 30)) bA 30 #[.int .i64 Z.c, .int .i64 Z.s, .int .i64 Z.l, .int .u8 Z.m]) := HAd.out.below hbe
            clear hbe HDd HAd
            go_wp2_with fail
            generalize wd.alloc (.cells #[.int .i64 Y.c, .int .i64 Y.s, .int .i64 Y.l, .int .u8 Y.m] 30) = we at *
            have ga0 := Grow.cell HAe.out.lt (HAe.out.at (j := 0) rfl)
            have ga1 := Grow.cell HAe.out.lt (HAe.out.at (j := 1) rfl)
            have ga2 := Grow.cell HAe.out.lt (HAe.out.at (j := 2) rfl)
            have ga3 := Grow.cell HAe.out.lt (HAe.out.at (j := 3) rfl)
            have hne := Grow.ne we
            have heqZ : ∀ w : World, (binOp BinOp.eql 30 (vlc Z) (.agg #[.int .i64 Z.c, .int .i64 Z.s, .int .i64 Z.l, .int .u8 Z.m])).run Try.prog w = .ok (.bool true) w := eqSelf Z
            have HSz : Hid (∀ g : Grow we, Calls Try.prog 19 #[.pointer (some ⟨Bf, 0, none⟩), .int .i32 n] g.w fun e w' => e = .returned (.int .i64 p) ∧ Below g.w.heap.size g.w w') := fun g => by
              have := tsize_any ((HDe.out.f.below g.h) : Ts g.w F1 Bf s) n hnB
              rw [← HL.out, HNn.out] at this
              exact this.mono fun e w' ⟨h1, h2⟩ => ⟨h1, by rw [h2]; exact Below.refl _ _⟩
            have HTo : Hid (∀ g : Grow we, Calls Try.prog 20 #[.pointer (some ⟨Bf, 0, none⟩), .int .i32 n] g.w fun e w' => e = .returned (vlc Z) ∧ Below g.w.heap.size g.w w') := fun g => by
              have := ttotal_any ((HDe.out.f.below g.h) : Ts g.w F1 Bf s) n hnB
              rw [← HL.out, ← HZf.out] at this
              exact this
            clear hfl
            refine wp_region_grow (by kernel_rfl) (by kernel_rfl) ?_
            repeat (go_big_quiet_step (first
              | (go_at_call 19; exact grow_call (HSz.out _))
              | (go_at_call 20; exact grow_call (HTo.out _))
              | fail))
            refine wpQuiet_nil ?_
            rintro wz ⟨⟨_, hbz⟩, rfl⟩
            have HBz : Hid (Below w.heap.size w wz) := (HDe.out.grow hbz).below
            clear hbz ga0 ga1 ga2 ga3 hne heqZ HSz HTo HDe HAe
            go_wp2
            go_ret
            exact ⟨by simp, HBz.out⟩
end Go.Proofs.Ytaoeifeiendfhab
