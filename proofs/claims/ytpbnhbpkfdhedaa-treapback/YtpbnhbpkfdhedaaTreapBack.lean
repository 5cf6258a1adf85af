/- Layer 6's statement TreapBack. -/
import Derived.Test.YtpbnhbpkfdhedaaTreapBackPlain
import Derived.Test.YtpbnhbpkfdhedaaTreapNext
import Derived.Test.YtpbnhbpkfdhedaaTourFun
import Derived.Deep.RegionHeld3
import Derived.Lib.MinMax
namespace Go.Proofs.Ytpbnhbpkfdhedaa
open Go.RowKit
set_option linter.unusedVariables false
theorem wrap32_in' {n : Int} (h : -2147483648 ≤ n ∧ n ≤ 2147483647) : IntKind.i32.wrap n = n := by simp [IntKind.wrap, IntKind.bits, IntKind.signed]; omega
/-- The state behind k rounds: the items 1 to k in one sequence, whatever their values. -/
def bq (k : Nat) (V : Int → Vl) : Sq := ⟨List.replicate k true, [], bS k, V, k⟩
theorem Sq.eq {a b : Sq} (h1 : a.K = b.K) (h2 : a.fr = b.fr) (h3 : a.S = b.S) (h4 : a.V = b.V) (h5 : a.n = b.n) : a = b := by
  obtain ⟨a1, a2, a3, a4, a5⟩ := a
  obtain ⟨b1, b2, b3, b4, b5⟩ := b
  simp only at h1 h2 h3 h4 h5
  rw [h1, h2, h3, h4, h5]
theorem bq_zero : sq0 = bq 0 V0 := Sq.eq rfl rfl bS_zero.symm rfl rfl
theorem bq_new (k : Nat) (V : Int → Vl) : newI (bq k V).K (bq k V).fr = (k : Int) + 1 := (bK_new k).1
theorem bq_make (k : Nat) (V : Int → Vl) (x : Vl) : ((bq k V).make x).K = List.replicate (k + 1) true ∧ ((bq k V).make x).fr = [] ∧ ((bq k V).make x).S = makeS (bS k) ((k : Int) + 1) ∧ ((bq k V).make x).V = updV V ((k : Int) + 1) x ∧ ((bq k V).make x).n = k + 1 := by
  refine ⟨(bK_new k).2, rfl, ?_, ?_, rfl⟩
  · show makeS (bS k) (newI (bq k V).K (bq k V).fr) = _; rw [bq_new]
  · show updV V (newI (bq k V).K (bq k V).fr) x = _; rw [bq_new]
theorem bq_one (V : Int → Vl) (x : Vl) : (bq 0 V).make x = bq 1 (updV V 1 x) := by
  obtain ⟨h1, h2, h3, h4, h5⟩ := bq_make 0 V x
  exact Sq.eq h1 h2 (h3.trans bS_one) h4 h5
theorem bq_one' {k : Nat} (hk : k = 0) (V : Int → Vl) (x : Vl) : (bq k V).make x = bq (k + 1) (updV V ((k : Int) + 1) x) := by subst hk; exact bq_one V x
theorem bq_join {k : Nat} (hk : 1 ≤ k) (V : Int → Vl) (x : Vl) : joinB ((bq k V).make x).S 1 ((k : Int) + 1) = true ∧ ((bq k V).make x).join 1 ((k : Int) + 1) = bq (k + 1) (updV V ((k : Int) + 1) x) := by
  obtain ⟨h1, h2, h3, h4, h5⟩ := bq_make k V x
  refine ⟨by rw [h3]; exact (bS_join hk).1, Sq.eq h1 h2 ?_ h4 h5⟩
  show joinS ((bq k V).make x).S 1 ((k : Int) + 1) = bS (k + 1)
  rw [h3]; exact (bS_join hk).2
set_option maxRecDepth 100000 in
theorem neqSelf (zc zs zl zm : Int) (w : World) : (binOp BinOp.neq 40 (.agg #[.int .i64 zc, .int .i64 zs, .int .i64 zl, .int .u8 zm]) (.agg #[.int .i64 zc, .int .i64 zs, .int .i64 zl, .int .u8 zm])).run Try.prog w = .ok (.bool false) w := by
  have h := eqVal ⟨zc, zs, zl, zm⟩ ⟨zc, zs, zl, zm⟩ w
  simp only [binOp]
  simp [Op.equal, go_sem]
  rw [show Op.maxDepth = 10000 from rfl, h]
  simp [Result.andThen]
theorem w64 (x : Int) : IntKind.i64.wrap x = wrap64 x := by simp [IntKind.wrap, IntKind.bits, IntKind.signed, wrap64]; split <;> omega
/-- A row of one's own beside a forest. -/
def RK (w0 : World) (F : Nat → Prop) (v : Value) (k : Nat) (xs : List Value) (W : World) : Prop := RowW W 3 1 v k xs ∧ ∀ q, v.ownBlock = some q → ¬ F q ∧ w0.heap.size ≤ q
theorem RK.below {w0 W W' : World} {F : Nat → Prop} {v : Value} {k : Nat} {xs : List Value} (h : RK w0 F v k xs W) (hb : Below W.heap.size W W') : RK w0 F v k xs W' := ⟨h.1.kept fun q hq => hb.block q (h.1.lt hq), h.2⟩
theorem RK.step {w0 W W' : World} {F F' : Nat → Prop} {v : Value} {k : Nat} {xs : List Value} (h : RK w0 F v k xs W) (hS : Step F F' W W') : RK w0 F' v k xs W' := ⟨h.1.kept fun q hq => hS.only.block q (h.1.lt hq) (h.2 q hq).1, fun q hq => ⟨fun hf => (hS.ext q hf).elim (h.2 q hq).1 (fun h2 => by have := h.1.lt hq; omega), (h.2 q hq).2⟩⟩
set_option maxRecDepth 100000 in
set_option maxHeartbeats 4000000 in
theorem treapback_walk (ao : Option Addr) (ca : Nat) (xs : List Int) (many at_ : Int) (w : World)
    (ha : UAt w ao xs) (hwa : Wu xs) (hla : xs.length ≤ 9223372036854775807) (hmany : 0 ≤ many ∧ many ≤ 255) (hat : 0 ≤ at_ ∧ at_ ≤ 255) :
    Calls Try.prog 4 #[.slice ao xs.length ca, .int .u8 many, .int .u8 at_] w fun e w' => e = .returned (.bool true) ∧ Below w.heap.size w w' := by
  have HA : Hid (UAt w ao xs ∧ Wu xs) := ⟨ha, hwa⟩
  clear ha hwa
  obtain ⟨na, hna⟩ : ∃ m, m = xs.length := ⟨_, rfl⟩
  have HNA : Hid (xs.length = na) := hna.symm
  rw [← hna] at hla ⊢
  clear hna
  obtain ⟨i0, hi, hz0, hz1, hz2⟩ := info_parts infoI64
  go_enter Try.func4, Try.ntmps4
  go_wp2_with fail
  refine (tawake_any w).mono ?_
  rintro e w1 ⟨rfl, hb1⟩
  have HW1 : Hid (Below w.heap.size w w1) := hb1
  clear hb1
  go_wp2_with fail
  refine (tgreat_any ao ca na none 0 0 [] w1 rfl (by omega) hla (.inl rfl)).mono ?_
  rintro e w2 ⟨g1, rfl, hg1, hb2⟩
  have HW2 : Hid (Below w.heap.size w w2) := HW1.out.trans (hb2.mono HW1.out.size)
  clear hb2 HW1 hg1
  cases g1 with
  | true =>
    go_wp2
    go_ret
    exact ⟨rfl, HW2.out⟩
  | false =>
    go_wp2_with fail
    have hM1 := made_any ao ca xs w2 (HA.out.1.below HW2.out) HA.out.2 (by rw [HNA.out]; exact hla)
    rw [HNA.out] at hM1
    refine hM1.mono ?_
    rintro e w4 ⟨Bf, Ff, rfl, hT, hF, hb4⟩
    have HS0 : Hid (Solo w w4 Ff Bf (bq 0 V0)) := by rw [← bq_zero]; exact ⟨hT, fun k hk => Nat.le_trans HW2.out.size (hF k hk), HW2.out.trans (hb4.mono HW2.out.size)⟩
    clear hT hF hb4 HW2 hM1 HA
    have hrem : many.tmod 99 = many % 99 := Int.tmod_eq_emod_of_nonneg hmany.1
    obtain ⟨n, hn⟩ : ∃ n : Nat, 2 + many % 99 = (n : Int) := ⟨(2 + many % 99).toNat, by omega⟩
    have hn2 : 2 ≤ n ∧ n ≤ 100 := by omega
    have HN := hid_mk hn2
    go_wp2_with fail
    clear hrem hn hmany
    go_loopw [9, 10, 11] (fun vl vi _ wr => ∃ (k : Nat) (V : Int → Vl) (F1 : Nat → Prop) (v : Value), v = vl ∧ vi = .int .i64 ((k : Int) + 1) ∧ k ≤ n ∧ Hid (Solo w wr F1 Bf (bq k V)) ∧ Hid (RowW wr 3 1 v k (i64s (upto k)) ∧ ∀ q, v.ownBlock = some q → ¬ F1 q ∧ w.heap.size ≤ q)) (fun _ vi _ _ => n + 1 - (intOf vi).toNat)
    case atStart => exact ⟨0, V0, Ff, .slice none 0 0, rfl, rfl, Nat.zero_le _, HS0.out, RowW.empty _ _ _, fun q hq => by cases hq⟩
    case round =>
      obtain ⟨k, V, F1, v, rfl, rfl, hkn, HS, HR⟩ := hrel
      clear HS0
      by_cases hlt : k < n
      · have hle : (k : Int) + 1 ≤ (n : Int) := by omega
        have hw32 : IntKind.i32.wrap ((k : Int) + 1) = (k : Int) + 1 := wrap32_in' (by omega)
        go_wp2_with fail
        obtain ⟨x, hx⟩ : ∃ x : Vl, x = ⟨1, (k : Int) + 1, (n : Int) - ((k : Int) + 1), 2 ^ ((k + 1) % 8) % 256⟩ := ⟨_, rfl⟩
        have hmk := smake_any HS.out.f x (m := k) ⟨by show (List.replicate k true).length ≤ k; simp, Nat.le_refl k⟩ (by omega)
        rw [bq_new, hx] at hmk
        refine hmk.mono ?_
        rintro e w5 ⟨F5, rfl, t5, s5⟩
        have HS5 := hid_mk (HS.out.step t5 s5)
        have hr5 : RowW w5 3 1 v k (i64s (upto k)) := HR.out.1.kept fun q hq => s5.only.block q (HR.out.1.lt hq) (HR.out.2 q hq).1
        have hn5 : ∀ q, v.ownBlock = some q → ¬ F5 q ∧ w.heap.size ≤ q := fun q hq => ⟨fun hf => (s5.ext q hf).elim (HR.out.2 q hq).1 (fun h2 => by have := HR.out.1.lt hq; omega), (HR.out.2 q hq).2⟩
        have HR5 := hid_mk (And.intro hr5 hn5)
        rw [← hx] at HS5
        clear t5 s5 HS HR hmk hr5 hn5
        -- the list grows
        have APP : Hid (∀ w6 F6, RowW w6 3 1 v k (i64s (upto k)) → (∀ q, v.ownBlock = some q → ¬ F6 q ∧ w.heap.size ≤ q) → Solo w w6 F6 Bf (bq (k + 1) (updV V ((k : Int) + 1) x)) → ∀ g cap w7, RowW w7 3 1 (.slice (some ⟨g, 0, none⟩) (k + 1) cap) (k + 1) (i64s (upto k) ++ [.int .i64 ((k : Int) + 1)]) → (w6.alloc (.cells #[.int .i64 ((k : Int) + 1)] 3)).grownBy w7 v.ownBlock → (v.ownBlock = some g ∨ g = w6.heap.size + 1) → Solo w w7 F6 Bf (bq (k + 1) (updV V ((k : Int) + 1) x)) ∧ RowW w7 3 1 (.slice (some ⟨g, 0, none⟩) (k + 1) cap) (k + 1) (i64s (upto (k + 1))) ∧ ∀ q, (Value.slice (some ⟨g, 0, none⟩) (k + 1) cap).ownBlock = some q → ¬ F6 q ∧ w.heap.size ≤ q) := fun w6 F6 hr hn hS g cap w7 hown hgr hat' => by
          have hbl : ∀ q, q < w6.heap.size → v.ownBlock ≠ some q → w7.heap[q]? = w6.heap[q]? := fun q hq hne => (hgr.block q (by simp; omega) (Ne.symm hne)).trans (heap_alloc_old w6 _ q hq)
          have hsz := hgr.size
          simp at hsz
          refine ⟨⟨Tp.kept hS.f (fun q hq => hbl q (Tp.lt hS.f q hq) (fun e => (hn q e).1 hq)) (by omega), hS.ff, hS.below.trans ⟨hgr.os, hgr.tape, hgr.output, by omega, fun q hq => hbl q (by have := hS.below.size; omega) (fun e => by have := (hn q e).2; omega)⟩⟩, ?_, fun q hq => ?_⟩
          · rw [upto_succ, i64s_snoc]; exact hown
          · have hgq : g = q := by simpa [Value.ownBlock] using hq
            rcases hat' with h1 | h1
            · rw [hgq] at h1; exact hn _ h1
            · have h2 := hS.below.size
              exact ⟨fun hf => by have h3 : q < w6.heap.size := Tp.lt hS.f q hf; omega, by omega⟩
        by_cases hk0 : k = 0
        · have hgt : ¬ (1 : Int) < (k : Int) + 1 := by omega
          have hgt' : decide ((1 : Int) < (k : Int) + 1) = false := by simpa using hgt
          rw [bq_one' hk0] at HS5
          clear hk0
          have HV2 : Hid (RowW (w5.alloc (.cells #[.int .i64 ((k : Int) + 1)] 3)) 3 1 v k (i64s (upto k))) := HR5.out.1.kept fun q hq => heap_alloc_old _ _ q (HR5.out.1.lt hq)
          go_wp2_with (at_builtin; refine wpList_append_row _ rfl _ _ 33 rfl 3 i0 (.int .i64 0) 1 8 Try.underlying33 hi hz0 hz1 hz2 rfl _ _ _ rfl HV2.out ⟨w5.heap.size, 0, none⟩ 1 1 [.int .i64 ((k : Int) + 1)] rfl rfl (World.news_of_block (Blk.new w5 _ _)) (by simp [Value.oneCell']) (by omega) (by unfold maxLen; omega) (by omega) ?_)
          intro g cap w7 hown hgrow hat' hlt'
          obtain ⟨a1, a2, a3⟩ := APP.out w5 F5 HR5.out.1 HR5.out.2 HS5.out g cap w7 hown hgrow (by simpa using hat')
          have HS7 := hid_mk a1
          have HR7 := hid_mk (And.intro a2 a3)
          clear a1 a2 a3 hown hgrow hat' hlt' APP HV2 HS5 HR5
          go_wp2
          go_roundw
          case rel => exact ⟨k + 1, _, F5, _, rfl, by go_num, by omega, HS7.out, HR7.out⟩
          case measure => simp [intOf]; omega
        · have hgt : (1 : Int) < (k : Int) + 1 := by omega
          have hj := sjoin_any HS5.out.f 1 ((k : Int) + 1) (by omega) (by omega)
          obtain ⟨q1, q2⟩ := bq_join (k := k) (by omega) V x
          rw [q1, q2] at hj
          have HJ := hid_mk hj
          clear hj q1 q2
          go_wp2_with fail
          refine HJ.out.mono ?_
          rintro e w6 ⟨F6, rfl, t6, s6⟩
          have HS6 := hid_mk (HS5.out.step t6 s6)
          have hr6 : RowW w6 3 1 v k (i64s (upto k)) := HR5.out.1.kept fun q hq => s6.only.block q (HR5.out.1.lt hq) (HR5.out.2 q hq).1
          have hn6 : ∀ q, v.ownBlock = some q → ¬ F6 q ∧ w.heap.size ≤ q := fun q hq => ⟨fun hf => (s6.ext q hf).elim (HR5.out.2 q hq).1 (fun h2 => by have := HR5.out.1.lt hq; omega), (HR5.out.2 q hq).2⟩
          have HR6 := hid_mk (And.intro hr6 hn6)
          clear t6 s6 HS5 HR5 HJ hr6 hn6
          have HV2 : Hid (RowW (w6.alloc (.cells #[.int .i64 ((k : Int) + 1)] 3)) 3 1 v k (i64s (upto k))) := HR6.out.1.kept fun q hq => heap_alloc_old _ _ q (HR6.out.1.lt hq)
          go_wp2_with (at_builtin; refine wpList_append_row _ rfl _ _ 33 rfl 3 i0 (.int .i64 0) 1 8 Try.underlying33 hi hz0 hz1 hz2 rfl _ _ _ rfl HV2.out ⟨w6.heap.size, 0, none⟩ 1 1 [.int .i64 ((k : Int) + 1)] rfl rfl (World.news_of_block (Blk.new w6 _ _)) (by simp [Value.oneCell']) (by omega) (by unfold maxLen; omega) (by omega) ?_)
          intro g cap w7 hown hgrow hat' hlt'
          obtain ⟨a1, a2, a3⟩ := APP.out w6 F6 HR6.out.1 HR6.out.2 HS6.out g cap w7 hown hgrow (by simpa using hat')
          have HS7 := hid_mk a1
          have HR7 := hid_mk (And.intro a2 a3)
          clear a1 a2 a3 hown hgrow hat' hlt' APP HV2 HS6 HR6
          go_wp2
          go_roundw
          case rel => exact ⟨k + 1, _, F6, _, rfl, by go_num, by omega, HS7.out, HR7.out⟩
          case measure => simp [intOf]; omega
      · have hkn' : k = n := by omega
        subst hkn'
        have hnle : ¬ (k : Int) + 1 ≤ (k : Int) := by omega
        have hr2 : at_.tmod ((k : Int) - 1) = at_ % ((k : Int) - 1) := Int.tmod_eq_emod_of_nonneg hat.1
        have hpm := Int.emod_nonneg at_ (show (k : Int) - 1 ≠ 0 by omega)
        have hpl := Int.emod_lt_of_pos at_ (show 0 < (k : Int) - 1 by omega)
        obtain ⟨p, hp⟩ : ∃ p : Nat, 1 + at_ % ((k : Int) - 1) = (p : Int) := ⟨(1 + at_ % ((k : Int) - 1)).toNat, by omega⟩
        have hpb : 1 ≤ p ∧ p < k := by omega
        have hk1 : ¬ (k : Int) - 1 = 0 := by omega
        have hw32 : IntKind.i32.wrap ((p : Int) + 1) = (p : Int) + 1 := wrap32_in' (by omega)
        have hw32k : IntKind.i32.wrap (k : Int) = (k : Int) := wrap32_in' (by omega)
        have hfb : -2147483648 ≤ (p : Int) + 1 ∧ (p : Int) + 1 ≤ 2147483647 := by omega
        have hkb : -2147483648 ≤ (k : Int) ∧ (k : Int) ≤ 2147483647 := by omega
        have h1b : -2147483648 ≤ (1 : Int) ∧ (1 : Int) ≤ 2147483647 := by omega
        obtain ⟨bc1, bc2⟩ := back_cut hpb.1 hpb.2
        have bsm := back_same hpb.1 hpb.2
        obtain ⟨bj1, bj2⟩ := back_join hpb.1 hpb.2
        obtain ⟨bt1, bt2⟩ := back_turn hpb.1 hpb.2
        have bS1 : bS k 1 = upto k := bS_at (by omega) (by omega)
        have bSk : bS k (k : Int) = upto k := bS_at (by omega) (by omega)
        have bSp : bS k ((p : Int) + 1) = upto k := bS_at (by omega) (by omega)
        have bKp : isK (List.replicate k true) ((p : Int) + 1) = true := bK_is (by omega) (by omega)
        have hZ : sumV ((upto k).map V) = tog (sumV ((upto p).map V)) (sumV (((upto k).drop p).map V)) := by rw [← sumV_append, ← List.map_append, ← upto_split (by omega)]
        obtain ⟨Z, hZe⟩ : ∃ Z, Z = sumV ((upto k).map V) := ⟨_, rfl⟩
        obtain ⟨A, hAe⟩ : ∃ A, A = sumV ((upto p).map V) := ⟨_, rfl⟩
        obtain ⟨C, hCe⟩ : ∃ C, C = sumV (((upto k).drop p).map V) := ⟨_, rfl⟩
        rw [← hZe, ← hAe, ← hCe] at hZ
        have hll : ((upto k).drop p).length = k - p := by rw [List.length_drop, upto_len]
        -- the contracts, in these letters
        have CT1 : Hid (∀ wx Fx, Ts wx Fx Bf (bq k V) → Calls Try.prog 17 #[.pointer (some ⟨Bf, 0, none⟩), .int .i32 1] wx fun e w' => e = .returned (vlc Z) ∧ Below wx.heap.size wx w') := fun wx Fx h => by have := ttotal_any h 1 h1b; rw [show (bq k V).S 1 = upto k from bS1, show (bq k V).V = V from rfl, ← hZe] at this; exact this
        have CTp : Hid (∀ wx Fx, Ts wx Fx Bf (bq k V) → Calls Try.prog 17 #[.pointer (some ⟨Bf, 0, none⟩), .int .i32 ((p : Int) + 1)] wx fun e w' => e = .returned (vlc Z) ∧ Below wx.heap.size wx w') := fun wx Fx h => by have := ttotal_any h ((p : Int) + 1) hfb; rw [show (bq k V).S ((p : Int) + 1) = upto k from bSp, show (bq k V).V = V from rfl, ← hZe] at this; exact this
        have CW : Hid (∀ wx Fx j, (j = 1 ∨ j = (k : Int)) → Ts wx Fx Bf (bq k V) → Calls Try.prog 19 #[.pointer (some ⟨Bf, 0, none⟩), .int .i32 j] wx fun e w' => ∃ ao cap, e = .returned (.slice ao k cap) ∧ NAt .i64 w' ao (upto k) ∧ Below wx.heap.size wx w') := fun wx Fx j hj h => by
          have hSj : (bq k V).S j = upto k := by rcases hj with rfl | rfl; exact bS1; exact bSk
          have := twalk_any h j (by omega) (by rw [hSj, upto_len]; omega)
          rw [hSj, upto_len] at this; exact this
        have CC : Hid (∀ wx Fx, Ts wx Fx Bf (bq k V) → Calls Try.prog 20 #[.pointer (some ⟨Bf, 0, none⟩), .int .i32 ((p : Int) + 1)] wx fun e w' => ∃ F', e = .returned (.bool true) ∧ Ts w' F' Bf ((bq k V).cut ((p : Int) + 1)) ∧ Step Fx F' wx w') := fun wx Fx h => by have := scut_any h ((p : Int) + 1) hfb; rw [show isK (bq k V).K ((p : Int) + 1) = true from bKp] at this; exact this
        have CS : Hid (∀ wx Fx, Ts wx Fx Bf ((bq k V).cut ((p : Int) + 1)) → Calls Try.prog 21 #[.pointer (some ⟨Bf, 0, none⟩), .int .i32 1, .int .i32 ((p : Int) + 1)] wx fun e w' => e = .returned (.bool false) ∧ w' = wx) := fun wx Fx h => by have := tsame_any h 1 ((p : Int) + 1) h1b hfb; rw [show decide ((p : Int) + 1 ∈ ((bq k V).cut ((p : Int) + 1)).S 1) = false from bsm] at this; exact this
        have CZ1 : Hid (∀ wx Fx, Ts wx Fx Bf ((bq k V).cut ((p : Int) + 1)) → Calls Try.prog 22 #[.pointer (some ⟨Bf, 0, none⟩), .int .i32 1] wx fun e w' => e = .returned (.int .i64 (p : Int)) ∧ w' = wx) := fun wx Fx h => by have := tsize_any h 1 h1b; rw [show ((bq k V).cut ((p : Int) + 1)).S 1 = upto p from bc1, upto_len] at this; exact this
        have CZ2 : Hid (∀ wx Fx, Ts wx Fx Bf ((bq k V).cut ((p : Int) + 1)) → Calls Try.prog 22 #[.pointer (some ⟨Bf, 0, none⟩), .int .i32 ((p : Int) + 1)] wx fun e w' => e = .returned (.int .i64 ((k : Int) - p)) ∧ w' = wx) := fun wx Fx h => by have := tsize_any h ((p : Int) + 1) hfb; rw [show ((bq k V).cut ((p : Int) + 1)).S ((p : Int) + 1) = (upto k).drop p from bc2, hll, show ((k - p : Nat) : Int) = (k : Int) - p by omega] at this; exact this
        have CTA : Hid (∀ wx Fx, Ts wx Fx Bf ((bq k V).cut ((p : Int) + 1)) → Calls Try.prog 17 #[.pointer (some ⟨Bf, 0, none⟩), .int .i32 1] wx fun e w' => e = .returned (vlc A) ∧ Below wx.heap.size wx w') := fun wx Fx h => by have := ttotal_any h 1 h1b; rw [show ((bq k V).cut ((p : Int) + 1)).S 1 = upto p from bc1, show ((bq k V).cut ((p : Int) + 1)).V = V from rfl, ← hAe] at this; exact this
        have CTC : Hid (∀ wx Fx, Ts wx Fx Bf ((bq k V).cut ((p : Int) + 1)) → Calls Try.prog 17 #[.pointer (some ⟨Bf, 0, none⟩), .int .i32 ((p : Int) + 1)] wx fun e w' => e = .returned (vlc C) ∧ Below wx.heap.size wx w') := fun wx Fx h => by have := ttotal_any h ((p : Int) + 1) hfb; rw [show ((bq k V).cut ((p : Int) + 1)).S ((p : Int) + 1) = (upto k).drop p from bc2, show ((bq k V).cut ((p : Int) + 1)).V = V from rfl, ← hCe] at this; exact this
        have CJ : Hid (∀ wx Fx, Ts wx Fx Bf ((bq k V).cut ((p : Int) + 1)) → Calls Try.prog 16 #[.pointer (some ⟨Bf, 0, none⟩), .int .i32 1, .int .i32 ((p : Int) + 1)] wx fun e w' => ∃ F', e = .returned (.bool true) ∧ Ts w' F' Bf (bq k V) ∧ Step Fx F' wx w') := fun wx Fx h => by
          have := sjoin_any h 1 ((p : Int) + 1) h1b hfb
          rw [show joinB ((bq k V).cut ((p : Int) + 1)).S 1 ((p : Int) + 1) = true from bj1, show ((bq k V).cut ((p : Int) + 1)).join 1 ((p : Int) + 1) = bq k V from Sq.eq rfl rfl bj2 rfl rfl] at this
          exact this
        have CT : Hid (∀ wx Fx, Ts wx Fx Bf ((bq k V).cut ((p : Int) + 1)) → Calls Try.prog 16 #[.pointer (some ⟨Bf, 0, none⟩), .int .i32 ((p : Int) + 1), .int .i32 1] wx fun e w' => ∃ F', e = .returned (.bool true) ∧ Ts w' F' Bf (((bq k V).cut ((p : Int) + 1)).join ((p : Int) + 1) 1) ∧ Step Fx F' wx w') := fun wx Fx h => by
          have := sjoin_any h ((p : Int) + 1) 1 hfb h1b
          rw [show joinB ((bq k V).cut ((p : Int) + 1)).S ((p : Int) + 1) 1 = true from bt1] at this
          exact this
        have CWt : Hid (∀ wx Fx, Ts wx Fx Bf (((bq k V).cut ((p : Int) + 1)).join ((p : Int) + 1) 1) → Calls Try.prog 19 #[.pointer (some ⟨Bf, 0, none⟩), .int .i32 1] wx fun e w' => ∃ ao cap, e = .returned (.slice ao k cap) ∧ NAt .i64 w' ao ((upto k).drop p ++ upto p) ∧ Below wx.heap.size wx w') := fun wx Fx h => by
          have hlen : ((upto k).drop p ++ upto p).length = k := by rw [List.length_append, hll, upto_len]; omega
          have := twalk_any h 1 h1b (by rw [show (((bq k V).cut ((p : Int) + 1)).join ((p : Int) + 1) 1).S 1 = (upto k).drop p ++ upto p from bt2, hlen]; omega)
          rw [show (((bq k V).cut ((p : Int) + 1)).join ((p : Int) + 1) 1).S 1 = (upto k).drop p ++ upto p from bt2, hlen] at this; exact this
        have CPl : Hid (∀ wx Fx (q : Nat), q < k → Ts wx Fx Bf (bq k V) → Calls Try.prog 23 #[.pointer (some ⟨Bf, 0, none⟩), .int .i32 ((q : Int) + 1)] wx fun e w' => e = .returned (.int .i64 (q : Int)) ∧ w' = wx) := fun wx Fx q hq h => by
          have := tplace_any h ((q : Int) + 1) (by omega)
          rw [show plS ((bq k V).S ((q : Int) + 1)) ((q : Int) + 1) = (q : Int) by
            rw [show (bq k V).S ((q : Int) + 1) = upto k from bS_at (by omega) (by omega)]
            unfold plS
            rw [if_pos (upto_mem.2 ⟨by omega, by omega⟩), upto_idx (by omega) (by omega)]
            omega] at this
          exact this
        have HZ := hid_mk hZ
        clear hpm hpl hlt hkn bc1 bc2 bsm bj1 bj2 bt1 bt2 bS1 bSk bSp bKp hZ hZe hAe hCe hll
        obtain ⟨ac, aS, al, am⟩ := A
        obtain ⟨cc, cs, cl, cm⟩ := C
        obtain ⟨zc, zs, zl, zm⟩ := Z
        go_wp2_with fail
        refine (CT1.out _ _ HS.out.f).mono ?_
        rintro e x1 ⟨rfl, hb1⟩
        have K1 := hid_mk (HS.out.grow hb1)
        have HR0 : Hid (RK w F1 v k (i64s (upto k)) wr) := HR.out
        obtain ⟨av, cv, rfl⟩ := HR0.out.1.form
        have R1 := hid_mk (HR0.out.below hb1)
        clear hb1 HS HR HR0 CT1
        have hb2 := (Below.refl x1.heap.size x1).alloc (Nat.le_refl _) (.cells #[.int .i64 zc, .int .i64 zs, .int .i64 zl, .int .u8 zm] 40)
        have W2 : Hid (Blk (x1.alloc (.cells #[.int .i64 zc, .int .i64 zs, .int .i64 zl, .int .u8 zm] 40)) x1.heap.size 40 #[.int .i64 zc, .int .i64 zs, .int .i64 zl, .int .u8 zm]) := Blk.new x1 _ _
        have nW : ¬ F1 x1.heap.size := fun hf => Nat.lt_irrefl _ (K1.out.f.lt _ hf)
        have K2 := hid_mk (K1.out.grow hb2)
        have R2 := hid_mk (R1.out.below hb2)
        clear hb2 K1 R1
        go_wp2_with fail
        generalize x1.alloc (.cells #[.int .i64 zc, .int .i64 zs, .int .i64 zl, .int .u8 zm] 40) = x2 at *
        generalize x1.heap.size = M1 at *
        refine (CW.out _ _ 1 (.inl rfl) K2.out.f).mono ?_
        rintro e x3 ⟨ao2, cp2, rfl, hna, hb3⟩
        have K3 := hid_mk (K2.out.grow hb3)
        have R3 := hid_mk (R2.out.below hb3)
        have W3 := hid_mk (W2.out.below hb3)
        have hsm := same6_any (cx := cp2) (cy := cv) hna (RowW.nat R3.out.1 (upto_len k).symm) (by rw [upto_len]; omega) (by rw [upto_len]; omega)
        rw [upto_len, show decide (upto k = upto k) = true by simp] at hsm
        have HSM := hid_mk hsm
        clear hb3 K2 R2 W2 hna hsm
        go_wp2_with fail
        refine HSM.out.mono ?_
        rintro e x4 ⟨rfl, hb4⟩
        have K4 := hid_mk (K3.out.grow hb4)
        have R4 := hid_mk (R3.out.below hb4)
        have W4 := hid_mk (W3.out.below hb4)
        clear hb4 K3 R3 W3 HSM
        go_wp2_with fail
        refine (CC.out _ _ K4.out.f).mono ?_
        rintro e x5 ⟨F5, rfl, t5, s5⟩
        have K5 := hid_mk (K4.out.step t5 s5)
        have R5 := hid_mk (R4.out.step s5)
        have W5 := hid_mk (s5.boxed W4.out nW).1
        replace nW := (s5.boxed W4.out nW).2
        clear t5 s5 K4 R4 W4
        go_wp2_with fail
        refine (CS.out _ _ K5.out.f).mono ?_
        rintro e x6 ⟨rfl, rfl⟩
        go_wp2_with fail
        refine (CZ1.out _ _ K5.out.f).mono ?_
        rintro e x7 ⟨rfl, rfl⟩
        go_wp2_with fail
        refine (CZ2.out _ _ K5.out.f).mono ?_
        rintro e x8 ⟨rfl, rfl⟩
        clear CS CZ1 CZ2
        go_wp2_with fail
        refine (CTA.out _ _ K5.out.f).mono ?_
        rintro e x9 ⟨rfl, hb⟩
        have K9 := hid_mk (K5.out.grow hb)
        have R9 := hid_mk (R5.out.below hb)
        have W9 := hid_mk (W5.out.below hb)
        clear hb K5 R5 W5 CTA
        go_wp2_with fail
        refine (CTC.out _ _ K9.out.f).mono ?_
        rintro e y0 ⟨rfl, hb⟩
        have Ka := hid_mk (K9.out.grow hb)
        have Ra := hid_mk (R9.out.below hb)
        have Wa := hid_mk (W9.out.below hb)
        clear hb K9 R9 W9 CTC
        have hba : Below y0.heap.size y0 ((y0.alloc (.cells #[.int .i64 ac, .int .i64 aS, .int .i64 al, .int .u8 am] 40)).alloc (.cells #[.int .i64 cc, .int .i64 cs, .int .i64 cl, .int .u8 cm] 40)) := below_new ((Below.refl _ _).alloc (Nat.le_refl _) _) (Nat.le_refl _) _
        have X2 : Hid (Blk ((y0.alloc (.cells #[.int .i64 ac, .int .i64 aS, .int .i64 al, .int .u8 am] 40)).alloc (.cells #[.int .i64 cc, .int .i64 cs, .int .i64 cl, .int .u8 cm] 40)) y0.heap.size 40 #[.int .i64 ac, .int .i64 aS, .int .i64 al, .int .u8 am]) := (Blk.new y0 _ _).alloc _
        have X3 : Hid (Blk ((y0.alloc (.cells #[.int .i64 ac, .int .i64 aS, .int .i64 al, .int .u8 am] 40)).alloc (.cells #[.int .i64 cc, .int .i64 cs, .int .i64 cl, .int .u8 cm] 40)) (y0.heap.size + 1) 40 #[.int .i64 cc, .int .i64 cs, .int .i64 cl, .int .u8 cm]) := by
          have := Blk.new (y0.alloc (.cells #[.int .i64 ac, .int .i64 aS, .int .i64 al, .int .u8 am] 40)) 40 #[.int .i64 cc, .int .i64 cs, .int .i64 cl, .int .u8 cm]
          rw [World.size_alloc] at this
          exact this
        have n2 : ¬ F5 y0.heap.size := fun hf => Nat.lt_irrefl _ (Ka.out.f.lt _ hf)
        have n3 : ¬ F5 (y0.heap.size + 1) := fun hf => by have := Ka.out.f.lt _ hf; omega
        have Kb := hid_mk (Ka.out.grow hba)
        have Rb := hid_mk (Ra.out.below hba)
        have Wb := hid_mk (Wa.out.below hba)
        clear hba Ka Ra Wa
        go_wp2_with fail
        generalize hM3 : y0.heap.size + 1 = M3 at *
        clear hM3
        generalize (y0.alloc (.cells #[.int .i64 ac, .int .i64 aS, .int .i64 al, .int .u8 am] 40)).alloc (.cells #[.int .i64 cc, .int .i64 cs, .int .i64 cl, .int .u8 cm] 40) = y1 at *
        generalize y0.heap.size = M2 at *
        have nz : Hid (∀ wx, Blk wx M1 40 #[.int .i64 zc, .int .i64 zs, .int .i64 zl, .int .u8 zm] → Blk wx M2 40 #[.int .i64 ac, .int .i64 aS, .int .i64 al, .int .u8 am] → Blk wx M3 40 #[.int .i64 cc, .int .i64 cs, .int .i64 cl, .int .u8 cm] → wx.cell? ⟨M1, 0, none⟩ = some (.int .i64 zc) ∧ wx.cell? ⟨M1, 1, none⟩ = some (.int .i64 zs) ∧ wx.cell? ⟨M1, 2, none⟩ = some (.int .i64 zl) ∧ wx.cell? ⟨M1, 3, none⟩ = some (.int .u8 zm) ∧ wx.cell? ⟨M2, 0, none⟩ = some (.int .i64 ac) ∧ wx.cell? ⟨M2, 1, none⟩ = some (.int .i64 aS) ∧ wx.cell? ⟨M2, 2, none⟩ = some (.int .i64 al) ∧ wx.cell? ⟨M2, 3, none⟩ = some (.int .u8 am) ∧ wx.cell? ⟨M3, 0, none⟩ = some (.int .i64 cc) ∧ wx.cell? ⟨M3, 1, none⟩ = some (.int .i64 cs) ∧ wx.cell? ⟨M3, 2, none⟩ = some (.int .i64 cl) ∧ wx.cell? ⟨M3, 3, none⟩ = some (.int .u8 cm)) := fun wx h1 h2 h3 => ⟨h1.at rfl, h1.at rfl, h1.at rfl, h1.at rfl, h2.at rfl, h2.at rfl, h2.at rfl, h2.at rfl, h3.at rfl, h3.at rfl, h3.at rfl, h3.at rfl⟩
        obtain ⟨q1, q2, q3, q4, q5, q6, q7, q8, q9, qa, qb, qc⟩ := nz.out _ Wb.out X2.out X3.out
        have g1 : IntKind.i64.wrap (ac + cc) = zc := (w64 _).trans (congrArg Vl.c HZ.out).symm
        have g2 : IntKind.i64.wrap (aS + cs) = zs := (w64 _).trans (congrArg Vl.s HZ.out).symm
        have g3 : min al cl = zl := (congrArg Vl.l HZ.out).symm
        have g4 : bits BinOp.or IntKind.u8 am cm = zm := (congrArg Vl.m HZ.out).symm
        clear HZ
        have hneq := neqSelf
        have CJd := hid_mk (CJ.out y1.drew F5 (Tp.kept Kb.out.f (fun _ _ => rfl) (Nat.le_refl _)))
        have WB1 : Hid (Blk y1.drew M1 40 #[.int .i64 zc, .int .i64 zs, .int .i64 zl, .int .u8 zm]) := Wb.out
        have WB2 : Hid (Blk y1.drew M2 40 #[.int .i64 ac, .int .i64 aS, .int .i64 al, .int .u8 am]) := X2.out
        have WB3 : Hid (Blk y1.drew M3 40 #[.int .i64 cc, .int .i64 cs, .int .i64 cl, .int .u8 cm]) := X3.out
        have Kd : Hid (Solo w y1.drew F5 Bf ((bq k V).cut ((p : Int) + 1))) := Kb.out.grow ⟨rfl, rfl, rfl, Nat.le_refl _, fun _ _ => rfl⟩
        have Rd : Hid (RK w F5 (.slice av k cv) k (i64s (upto k)) y1.drew) := Rb.out.below ⟨rfl, rfl, rfl, Nat.le_refl _, fun _ _ => rfl⟩
        clear CJ Kb Rb Wb X2 X3
        go_region_held3 (fun w' => w'.cell? ⟨M1, 0, none⟩ = some (.int .i64 zc) ∧ w'.cell? ⟨M1, 1, none⟩ = some (.int .i64 zs) ∧ w'.cell? ⟨M1, 2, none⟩ = some (.int .i64 zl) ∧ w'.cell? ⟨M1, 3, none⟩ = some (.int .u8 zm) ∧ w'.cell? ⟨M2, 0, none⟩ = some (.int .i64 ac) ∧ w'.cell? ⟨M2, 1, none⟩ = some (.int .i64 aS) ∧ w'.cell? ⟨M2, 2, none⟩ = some (.int .i64 al) ∧ w'.cell? ⟨M2, 3, none⟩ = some (.int .u8 am) ∧ w'.cell? ⟨M3, 0, none⟩ = some (.int .i64 cc) ∧ w'.cell? ⟨M3, 1, none⟩ = some (.int .i64 cs) ∧ w'.cell? ⟨M3, 2, none⟩ = some (.int .i64 cl) ∧ w'.cell? ⟨M3, 3, none⟩ = some (.int .u8 cm))
          (first
            | go_keep
            | with_reducible exact nz.out _ b5 c5 d5
            | with_reducible exact nz.out _ b4 c4 d4
            | with_reducible exact nz.out _ b3 c3 d3
            | with_reducible exact nz.out _ b2 c2 d2)
          (first
            | (go_at_call 16; refine CJd.out.mono ?_; rintro e y2 ⟨F2, rfl, t2, s2⟩; have b2 := (s2.boxed WB1.out nW).1; have c2 := (s2.boxed WB2.out n2).1; have d2 := (s2.boxed WB3.out n3).1; have r2 := Rd.out.step s2)
            | (go_at_call 19; refine (CW.out _ _ (k : Int) (.inr rfl) t2).mono ?_; rintro e y3 ⟨ao3, cp3, rfl, hna3, hb3⟩; have b3 := b2.below hb3; have c3 := c2.below hb3; have d3 := d2.below hb3; have r3 := r2.below hb3; have sm3 := same6_any (cx := cp3) (cy := cv) hna3 (RowW.nat r3.1 (upto_len k).symm) (by rw [upto_len]; omega) (by rw [upto_len]; omega); rw [upto_len, show decide (upto k = upto k) = true by simp] at sm3)
            | (go_at_call 18; refine sm3.mono ?_; rintro e y4 ⟨rfl, hb4⟩; have b4 := b3.below hb4; have c4 := c3.below hb4; have d4 := d3.below hb4)
            | (go_at_call 17; refine (CTp.out _ _ ((Tp.below t2 hb3).below hb4)).mono ?_; rintro e y5 ⟨rfl, hb5⟩; have b5 := b4.below hb5; have c5 := c4.below hb5; have d5 := d4.below hb5)
            | fail)
        rename_i hHeld
        have K5 : Hid (Solo w y5 F2 Bf (bq k V)) := (((Kd.out.step t2 s2).grow hb3).grow hb4).grow hb5
        have R5 : Hid (RK w F2 (.slice av k cv) k (i64s (upto k)) y5) := (r3.below hb4).below hb5
        clear hHeld t2 s2 hb3 hb4 hb5 b2 b3 b4 b5 c2 c3 c4 c5 d2 d3 d4 d5 r2 r3 sm3 hna3 CJd WB1 WB2 WB3 Kd Rd nz q1 q2 q3 q4 q5 q6 q7 q8 q9 qa qb qc nW n2 n3 g1 g2 g3 g4 hneq CTp
        go_wp2_with fail
        go_loopw [17] (fun vi wz => ∃ q : Nat, vi = .int .i64 ((q : Int) + 1) ∧ q ≤ k ∧ Hid (Solo w wz F2 Bf (bq k V)) ∧ Hid (RK w F2 (.slice av k cv) k (i64s (upto k)) wz)) (fun vi _ => k + 1 - (intOf vi).toNat)
        case atStart => exact ⟨0, rfl, Nat.zero_le _, K5.out, R5.out⟩
        case round =>
          obtain ⟨q, rfl, hqk, KQ, RQ⟩ := hrel
          clear K5 R5
          by_cases hql : q < k
          · have hle : (q : Int) + 1 ≤ (k : Int) := by omega
            have hwq : IntKind.i32.wrap ((q : Int) + 1) = (q : Int) + 1 := wrap32_in' (by omega)
            go_wp2_with fail
            refine (CPl.out _ _ q hql KQ.out.f).mono ?_
            rintro e z1 ⟨rfl, rfl⟩
            go_wp2
            go_roundw
            case rel => exact ⟨q + 1, by go_num, by omega, KQ.out, RQ.out⟩
            case measure => simp [intOf]; omega
          · have hqe : k = q := by omega
            subst hqe
            have hnle2 : ¬ (k : Int) + 1 ≤ (k : Int) := by omega
            clear CPl hql hqk
            obtain ⟨gv, cv', e0⟩ := RQ.out.1.led (by omega)
            cases e0
            have hcap : k ≤ cv ∧ cv ≤ maxLen := by
              rcases RQ.out.1.2 with ⟨e1, _⟩ | ⟨g', cap', cur, e1, _, h2, h3, _⟩
              · cases e1
              · cases e1; exact ⟨h2, h3⟩
            have hgF := RQ.out.2 gv rfl
            have hgl := RQ.out.1.lt (k := gv) rfl
            have hmx : maxLen = 281474976710655 ∨ True := .inr trivial
            have HE : Hid (RowW (wr.alloc (.cells #[] 3)).drew 3 1 (.slice (some ⟨wr.heap.size, 0, none⟩) 0 0) 0 []) := ⟨rfl, .inr ⟨wr.heap.size, 0, #[], rfl, Blk.new wr _ _, Nat.le_refl _, Nat.zero_le _, by simp, rfl⟩⟩
            have hld : (i64s ((upto k).drop p)).length = (k - p) * 1 := by rw [i64s_len, List.length_drop, upto_len, Nat.mul_one]
            have hlu : (i64s (upto p)).length = p * 1 := by rw [i64s_len, upto_len, Nat.mul_one]
            have htk : (upto k).take p = upto p := by
              have h2 := upto_split (n := k) (p := p) (by omega)
              have h3 : (upto p).length = p := upto_len p
              calc (upto k).take p = (upto p ++ (upto k).drop p).take p := by rw [← h2]
                _ = upto p := by rw [List.take_append_of_le_length (by omega), List.take_of_length_le (by omega)]
            have HNW : Hid (∀ W, RowW W 3 1 (.slice (some ⟨gv, 0, none⟩) k cv) k (i64s (upto k)) → (∀ j u, (i64s ((upto k).drop p))[j]? = some u → W.cell? ((⟨gv, p, none⟩ : Addr).add j) = some u) ∧ (∀ j u, (i64s (upto p))[j]? = some u → W.cell? ((⟨gv, 0, none⟩ : Addr).add j) = some u)) := fun W hW => by
              refine ⟨fun j u hu => ?_, fun j u hu => ?_⟩
              · rw [add_eq]
                refine hW.cell ?_
                rw [show i64s ((upto k).drop p) = (i64s (upto k)).drop p by simp [i64s], List.getElem?_drop] at hu
                exact hu
              · rw [add_eq, Nat.zero_add]
                refine hW.cell ?_
                have hj := (List.getElem?_eq_some_iff.1 hu).1
                rw [← htk, show i64s ((upto k).take p) = (i64s (upto k)).take p by simp [i64s], List.getElem?_take] at hu
                split at hu
                · exact hu
                · cases hu
            have h1c : ∀ l : List Int, ∀ u ∈ i64s l, u.oneCell' = true := fun l u hu => by
              obtain ⟨z, _, rfl⟩ := List.mem_map.1 hu
              rfl
            have hR0 : RowW (wr.alloc (.cells #[] 3)).drew 3 1 (.slice (some ⟨gv, 0, none⟩) k cv) k (i64s (upto k)) := RQ.out.1.kept fun q hq => heap_alloc_old wr _ q (RQ.out.1.lt hq)
            have HR0 := hid_mk hR0
            have KQ' := hid_mk KQ.out
            clear hR0 hmx
            have hpi : (p : Int) ≤ (k : Int) := by omega
            have hpc : (p : Int) ≤ (cv : Int) := by omega
            have hcp : ¬ cv = p := by omega
            go_wp2_with fail
            go_region_held3 (fun w' => True) (first | go_keep | trivial)
              (first
                | (refine step_append_row _ (by rfl) (.tmp 181) (.tmp 184) 33 (by rfl) 3 i0 (.int .i64 0) 1 8 Try.underlying33 hi hz0 hz1 hz2 rfl (.slice (some ⟨wr.heap.size, 0, none⟩) 0 0) 0 [] (by rfl) HE.out ⟨gv, p, none⟩ (k - p) (cv - p) (i64s ((upto k).drop p)) (by rfl) hld (HNW.out _ HR0.out).1 (h1c _) (by omega) (by unfold maxLen; omega) (by omega) ?_; intro g2 cap2 w7 hown2 hgrow2 hat2 hlt2; have hR7 : RowW w7 3 1 (.slice (some ⟨gv, 0, none⟩) k cv) k (i64s (upto k)) := HR0.out.kept fun q hq => hgrow2.block q (HR0.out.lt hq) (fun e => by cases hq; have e' : gv = wr.heap.size := Option.some.inj e; omega))
                | (refine step_append_row _ (by rfl) (.tmp 185) (.tmp 188) 33 (by rfl) 3 i0 (.int .i64 0) 1 8 Try.underlying33 hi hz0 hz1 hz2 rfl (.slice (some ⟨g2, 0, none⟩) (0 + (k - p)) cap2) (0 + (k - p)) ([] ++ i64s ((upto k).drop p)) (by rfl) hown2 ⟨gv, 0, none⟩ p cv (i64s (upto p)) (by rfl) hlu (HNW.out _ hR7).2 (h1c _) (by omega) (by unfold maxLen; omega) (by omega) ?_; intro g3 cap3 w8 hown3 hgrow3 hat3 hlt3)
                | fail)
            have hs0 : wr.heap.size ≤ w7.heap.size := by have := hgrow2.size; simp at this; omega
            have hbl7 : ∀ q, q < wr.heap.size → w7.heap[q]? = wr.heap[q]? := fun q hq => (hgrow2.block q (by simp; omega) (fun e => by have e' : q = wr.heap.size := Option.some.inj e; omega)).trans (heap_alloc_old wr _ q hq)
            have hg2n : wr.heap.size ≤ g2 := by
              rcases hat2 with e | e
              · have e' : wr.heap.size = g2 := Option.some.inj e; omega
              · have e' : g2 = (wr.alloc (.cells #[] 3)).heap.size := e
                simp at e'; omega
            have hbl8 : ∀ q, q < wr.heap.size → w8.heap[q]? = wr.heap[q]? := fun q hq => (hgrow3.block q (by omega) (fun e => by have e' : q = g2 := Option.some.inj e; omega)).trans (hbl7 q hq)
            have hB8 : Below wr.heap.size wr w8 := ⟨hgrow3.os.trans hgrow2.os, hgrow3.tape.trans hgrow2.tape, hgrow3.output.trans hgrow2.output, by have := hgrow3.size; omega, hbl8⟩
            have K8 := hid_mk (KQ.out.grow hB8)
            have hg3n : wr.heap.size ≤ g3 := by
              rcases hat3 with e | e
              · have e' : g2 = g3 := Option.some.inj e; omega
              · have e' : g3 = w7.heap.size := e; omega
            have hlk : 0 + (k - p) + p = k := by omega
            have hlk2 : k - p + p = k := by omega
            rw [List.nil_append, show i64s ((upto k).drop p) ++ i64s (upto p) = i64s ((upto k).drop p ++ upto p) by simp [i64s], hlk] at hown3
            have R8 : Hid (RK w F2 (.slice (some ⟨g3, 0, none⟩) k cap3) k (i64s ((upto k).drop p ++ upto p)) w8) := ⟨hown3, fun q hq => by
              have hq' : g3 = q := by simpa [Value.ownBlock] using hq
              have h1 := KQ.out.below.size
              exact ⟨fun hf => by have := KQ.out.f.lt q hf; omega, by omega⟩⟩
            rename_i hHeld
            clear hHeld hs0 hbl7 hbl8 hB8 hown2 hgrow2 hat2 hlt2 hR7 hown3 hgrow3 hat3 hlt3 HE HR0 HNW KQ KQ' RQ h1c hg2n hg3n
            go_wp2_with fail
            refine (CC.out _ _ K8.out.f).mono ?_
            rintro e z1 ⟨F6, rfl, t6, s6⟩
            have K9 := hid_mk (K8.out.step t6 s6)
            have R9 := hid_mk (R8.out.step s6)
            clear t6 s6 K8 R8
            go_wp2_with fail
            refine (CT.out _ _ K9.out.f).mono ?_
            rintro e z2 ⟨F7, rfl, t7, s7⟩
            have Ka := hid_mk (K9.out.step t7 s7)
            have Ra := hid_mk (R9.out.step s7)
            clear t7 s7 K9 R9
            go_wp2_with fail
            refine (CWt.out _ _ Ka.out.f).mono ?_
            rintro e z3 ⟨ao9, cp9, rfl, hna9, hb9⟩
            have Kc := hid_mk (Ka.out.grow hb9)
            have Rc := hid_mk (Ra.out.below hb9)
            have hlen9 : ((upto k).drop p ++ upto p).length = k := by rw [List.length_append, List.length_drop, upto_len, upto_len]; omega
            have hsm := same6_any (cx := cp9) (cy := cap3) hna9 (RowW.nat Rc.out.1 hlen9.symm) (by rw [hlen9]; omega) (by rw [hlen9]; omega)
            rw [hlen9, show decide ((upto k).drop p ++ upto p = (upto k).drop p ++ upto p) = true by simp] at hsm
            have HSM := hid_mk hsm
            clear hna9 hb9 Ka Ra hsm hlen9
            go_wp2_with fail
            refine HSM.out.mono ?_
            rintro e z4 ⟨rfl, hb⟩
            have HBz := hid_mk (Kc.out.below.trans (hb.mono Kc.out.below.size))
            clear hb Kc Rc HSM
            go_wp2
            go_ret
            exact ⟨rfl, HBz.out⟩
end Go.Proofs.Ytpbnhbpkfdhedaa
