/- Layer 6's statement TreapNobody. -/
import Derived.Test.YtaoeifeiendfhaaTreapNil
import Derived.Test.YtaoeifeiendfhaaTreapAwake
import Derived.Test.YtaoeifeiendfhaaTreapEq
namespace Go.Proofs.Ytaoeifeiendfhaa
open Go.RowKit Go.Shelf
attribute [local go_sem] Oper.semAt_some
set_option linter.unusedVariables false

def Ts8 (W : World) (B : Nat) : Prop := Tp W (fun k => k = B) B [] [] S0 V0 0
theorem eqB {f : FuncId} {args : Array Value} {w : World} {v : Value} (h : Calls Try.prog f args w fun e w' => e = .returned v ∧ w' = w) : Calls Try.prog f args w fun e w' => e = .returned v ∧ Below w.heap.size w w' := h.mono fun e w' ⟨h1, h2⟩ => ⟨h1, by rw [h2]; exact Below.refl _ _⟩
set_option maxRecDepth 100000 in
set_option maxHeartbeats 1000000 in
theorem tnobody_walk (i j mask : Int) (w : World) (hi : -2147483648 ≤ i ∧ i ≤ 2147483647) (hj : -2147483648 ≤ j ∧ j ≤ 2147483647) (hmk : 0 ≤ mask ∧ mask ≤ 255) :
    Calls Try.prog 6 #[.int .i32 i, .int .i32 j, .int .u8 mask] w fun e w' => e = .returned (.bool true) ∧ Below w.heap.size w w' := by
  have heq := eqVal
  have hnil := walkF_nil
  have hbR : Blk (w.alloc (.cells #[.bool false] 4)) w.heap.size 4 #[.bool false] := Blk.new w _ _
  have hB0 : Below w.heap.size w (w.alloc (.cells #[.bool false] 4)) := (Below.refl _ _).alloc (Nat.le_refl _) _
  have HR0 : Hid (Blk (w.alloc (.cells #[.bool false] 4)) w.heap.size 4 #[.bool false]) := hbR
  have HB0 : Hid (Below w.heap.size w (w.alloc (.cells #[.bool false] 4))) := hB0
  clear hbR hB0
  refine (callsIn_wide (n := 9)).1 ?_
  refine callsIn_of_wp_marks Try.func6 rfl trivial ?_ rfl
  simp only [Try.ntmps6, List.size_toArray, List.length_cons, List.length_nil, Nat.reduceAdd, Nat.reduceSub, Array.replicate_succ, Array.replicate_zero, List.push_toArray, List.append_toArray, List.nil_append, List.cons_append]
  gi_wp2_with fail
  refine ⟨trivial, ?_⟩
  gi_at_call 22
  refine (callsIn_wide.2 (tawake_any _)).mono ?_
  rintro e w1 ⟨rfl, hb1⟩
  have HR1 : Hid (Blk w1 w.heap.size 4 #[.bool false]) := HR0.out.below hb1
  have HB1 : Hid (Below w.heap.size w w1) := HB0.out.trans (hb1.mono (by simp))
  clear hb1 HR0 HB0
  gi_wp2_with fail
  refine ⟨trivial, ?_⟩
  gi_at_call 28
  refine (callsIn_wide.2 (nGet i _)).mono ?_
  rintro e w2 ⟨rfl, hb2⟩
  have HR2 : Hid (Blk w2 w.heap.size 4 #[.bool false]) := HR1.out.below hb2
  have HB2 : Hid (Below w.heap.size w w2) := HB1.out.trans (hb2.mono HB1.out.size)
  clear hb2 HR1 HB1
  have hb3 := (Below.refl w2.heap.size w2).alloc (Nat.le_refl _) (.cells #[.int .i64 zeV.c, .int .i64 zeV.s, .int .i64 zeV.l, .int .u8 zeV.m] 41)
  have HR3 : Hid (Blk (w2.alloc (.cells #[.int .i64 zeV.c, .int .i64 zeV.s, .int .i64 zeV.l, .int .u8 zeV.m] 41)) w.heap.size 4 #[.bool false]) := HR2.out.below hb3
  have HB3 : Hid (Below w.heap.size w (w2.alloc (.cells #[.int .i64 zeV.c, .int .i64 zeV.s, .int .i64 zeV.l, .int .u8 zeV.m] 41))) := HB2.out.trans (hb3.mono HB2.out.size)
  clear hb3 HR2 HB2
  gi_wp2_with fail
  generalize w2.alloc (.cells #[.int .i64 zeV.c, .int .i64 zeV.s, .int .i64 zeV.l, .int .u8 zeV.m] 41) = w3 at *
  refine ⟨trivial, ?_⟩
  gi_at_call 29
  refine (callsIn_wide.2 (walk_ab _ _ _)).mono ?_
  rintro e w4 ⟨b1, c1, rfl, hx1, _, _, hb4⟩
  have HR4 : Hid (Blk w4 w.heap.size 4 #[.bool false]) := HR3.out.below hb4
  have HB4 : Hid (Below w.heap.size w w4) := HB3.out.trans (hb4.mono HB3.out.size)
  clear hb4 HR3 HB3 hx1
  gi_wp2_with fail
  refine ⟨trivial, ?_⟩
  gi_at_call 29
  refine (callsIn_wide.2 (walk_ab _ _ _)).mono ?_
  rintro e X2 ⟨b, c, rfl, hx2, _, _, hb5⟩
  have HR5 : Hid (Blk X2 w.heap.size 4 #[.bool false]) := HR4.out.below hb5
  have HB5 : Hid (Below w.heap.size w X2) := HB4.out.trans (hb5.mono HB4.out.size)
  have HSQ := walk1_nil (n := 8) (by omega) b c i X2 hx2
  have HSQ' : Hid _ := HSQ
  clear hb5 HR4 HB4 hx2 HSQ hnil
  gi_wp2_with fail
  refine range_own rfl (by omega) (gf := 69) (lb := #[.pointer (some ⟨b, 0, none⟩), .pointer (some ⟨c, 0, none⟩)]) rfl trivial (enters_of Try.func69 (by kernel_rfl) rfl) HSQ'.out (Below.refl _ _) (fun _ => rfl)
    (fun _ A => Blk A w.heap.size 4 #[.bool false] ∧ Below w.heap.size w A) (fun _ _ _ => False)
    (OwnFrom.and (Own.from (blk_own _ _ (fun _ => _)) _) (ownFrom_below (Nat.le_refl _) HB5.out.size)) (fun _ _ _ _ _ hs _ _ => hs)
    ⟨HR5.out, HB5.out⟩ ?a1 ?assign ?body ?done ?stop
  case assign =>
    intro l' x A Kk hK
    gi_wp2
    exact hK
  case body =>
    rintro l' pre x A _ hlp
    exact absurd hlp (Nat.not_lt_zero _)
  case stop =>
    rintro D cc pre A hD hpre hF _
    exact hF.elim
  case done =>
    rintro D ys A hD rfl ⟨hR, hBl⟩ hK
    have hDw : w.heap.size < D := by have := HR5.out.lt; omega
    have HD : Hid (A.heap[D]? = some (.deferred (some []))) := hK
    have HRa : Hid (Blk A w.heap.size 4 #[.bool false]) := hR
    have HBa : Hid (Below w.heap.size w A) := hBl
    clear hR hBl hK HR5 HB5 HSQ'
    have hb6 := (Below.refl A.heap.size A).alloc (Nat.le_refl _) (.cells #[.int .i64 0, .int .i64 0, .int .i64 4611686018427387904, .int .u8 0] 41)
    have HE6 : Hid (Blk (A.alloc (.cells #[.int .i64 0, .int .i64 0, .int .i64 4611686018427387904, .int .u8 0] 41)) A.heap.size 41 #[.int .i64 0, .int .i64 0, .int .i64 4611686018427387904, .int .u8 0]) := Blk.new A _ _
    have HR6 : Hid (Blk (A.alloc (.cells #[.int .i64 0, .int .i64 0, .int .i64 4611686018427387904, .int .u8 0] 41)) w.heap.size 4 #[.bool false]) := HRa.out.below hb6
    have HB6 : Hid (Below w.heap.size w (A.alloc (.cells #[.int .i64 0, .int .i64 0, .int .i64 4611686018427387904, .int .u8 0] 41))) := HBa.out.trans (hb6.mono HBa.out.size)
    have HD6 : Hid ((A.alloc (.cells #[.int .i64 0, .int .i64 0, .int .i64 4611686018427387904, .int .u8 0] 41)).heap[D]? = some (.deferred (some []))) := (hb6.block D (Array.getElem?_eq_some_iff.1 HD.out).1).trans HD.out
    clear hb6 HRa HBa HD
    gi_wp2_with fail
    generalize A.alloc (.cells #[.int .i64 0, .int .i64 0, .int .i64 4611686018427387904, .int .u8 0] 41) = v6 at *
    generalize A.heap.size = bE at *
    refine wpIn_wide.2 ?_
    go_wp2_with fail
    have ce0 := Grow.cell HE6.out.lt (HE6.out.at (j := 0) rfl)
    have ce1 := Grow.cell HE6.out.lt (HE6.out.at (j := 1) rfl)
    have ce2 := Grow.cell HE6.out.lt (HE6.out.at (j := 2) rfl)
    have ce3 := Grow.cell HE6.out.lt (HE6.out.at (j := 3) rfl)
    have hne := Grow.ne v6
    have hneq : ∀ w : World, (binOp BinOp.neq 41 (vlc noV) (.agg #[.int .i64 0, .int .i64 0, .int .i64 4611686018427387904, .int .u8 0])).run Try.prog w = .ok (.bool false) w := fun w => by kernel_rfl
    refine wp_region_grow (by kernel_rfl) (by kernel_rfl) ?_
    simp only [List.append_eq, List.cons_append, List.nil_append]
    repeat (go_big_quiet_step (first
      | (go_at_call 17; exact grow_call (nMake _ ⟨1, 0, 0, 0⟩))
      | (go_at_call 20; exact grow_call (eqB (nFree _ _)))
      | (go_at_call 30; exact grow_call (nSet _ _ ⟨0, 0, 0, 0⟩))
      | (go_at_call 31; exact grow_call (eqB (nSame _ _ _)))
      | (go_at_call 32; exact grow_call (eqB (nPlace _ _)))
      | (go_at_call 33; exact grow_call (eqB (nSize _ _)))
      | (go_at_call 19; exact grow_call (nTotal _ _))
      | (go_at_call 21; exact grow_call (eqB (nCut _ _)))
      | (go_at_call 18; exact grow_call (eqB (nJoin _ _ _)))
      | (go_at_call 34; exact grow_call (eqB (nFirst _ _)))
      | (go_at_call 35; exact grow_call (eqB (nNext _ _)))
      | (go_at_call 36; exact grow_call (nFind _ _ mask hmk))
      | (go_at_call 27; exact grow_call (eqB (nLen _)))
      | fail))
    refine wpQuiet_nil ?_
    rintro v7 ⟨⟨_, hb7⟩, rfl⟩
    clear ce0
    clear ce1 ce2 ce3 hne hneq
    have HE7 : Hid (Blk v7 bE 41 #[.int .i64 0, .int .i64 0, .int .i64 4611686018427387904, .int .u8 0]) := HE6.out.below hb7
    have HR7 : Hid (Blk v7 w.heap.size 4 #[.bool false]) := HR6.out.below hb7
    have HB7 : Hid (Below w.heap.size w v7) := HB6.out.trans (hb7.mono HB6.out.size)
    have HD7 : Hid (v7.heap[D]? = some (.deferred (some []))) := (hb7.block D (Array.getElem?_eq_some_iff.1 HD6.out).1).trans HD6.out
    clear hb7 HE6 HR6 HB6 HD6
    have hbB := (Below.refl v7.heap.size v7).alloc (Nat.le_refl _) (.cells #[.slice none 0 0, .slice none 0 0, .pointer none] 76)
    have HT8 : Hid (Ts8 (v7.alloc (.cells #[.slice none 0 0, .slice none 0 0, .pointer none] 76)) v7.heap.size) := Tp.fresh (Blk.new v7 _ _) rfl (fun k hk => by subst hk; simp) (.inl rfl)
    have HR8 : Hid (Blk (v7.alloc (.cells #[.slice none 0 0, .slice none 0 0, .pointer none] 76)) w.heap.size 4 #[.bool false]) := HR7.out.below hbB
    have HB8 : Hid (Below w.heap.size w (v7.alloc (.cells #[.slice none 0 0, .slice none 0 0, .pointer none] 76))) := HB7.out.trans (hbB.mono HB7.out.size)
    have HD8 : Hid ((v7.alloc (.cells #[.slice none 0 0, .slice none 0 0, .pointer none] 76)).heap[D]? = some (.deferred (some []))) := (hbB.block D (Array.getElem?_eq_some_iff.1 HD7.out).1).trans HD7.out
    have hDl : D < v7.heap.size := (Array.getElem?_eq_some_iff.1 HD7.out).1
    have hRl : w.heap.size < v7.heap.size := HR7.out.lt
    clear hbB HE7 HR7 HB7 HD7
    gi_wp2_with fail
    generalize v7.alloc (.cells #[.slice none 0 0, .slice none 0 0, .pointer none] 76) = v8 at *
    generalize v7.heap.size = bB at *
    have T8 : Hid (Tp v8 (fun k => k = bB) bB [] [] S0 V0 0) := HT8.out
    have HF8 : Hid (∀ k, (fun k => k = bB) k → bB ≤ k) := fun k hk => by omega
    have hDl8 : D < v8.heap.size := (Array.getElem?_eq_some_iff.1 HD8.out).1
    clear HT8
    have HBB8 : bB ≤ v8.heap.size := by have := T8.out.lt bB rfl; omega
    refine ⟨trivial, ?_⟩
    gi_at_call 27
    refine (callsIn_wide.2 (tlen_any T8.out)).mono ?_
    rintro e v9 ⟨rfl, hb⟩
    have T9 : Hid (Tp v9 (fun k => k = bB) bB [] [] S0 V0 0) := T8.out.below hb
    have HR9 : Hid (Blk v9 w.heap.size 4 #[.bool false]) := HR8.out.below hb
    have HD9 : Hid (v9.heap[D]? = some (.deferred (some []))) := (hb.block _ hDl8).trans HD8.out
    have HB9 : Hid (Below w.heap.size w v9) := HB8.out.trans (hb.mono HB8.out.size)
    have HF9 := HF8
    have hDl9 : D < v9.heap.size := Nat.lt_of_lt_of_le hDl8 hb.size
    have HBB9 : bB ≤ v9.heap.size := Nat.le_trans HBB8 hb.size
    clear hb T8 HR8 HD8 HB8 HF8 hDl8 HBB8
    rw [show (([] : List Bool).length : Int) - (([] : List Int).length : Int) = 0 from rfl]
    gi_wp2_with fail
    refine ⟨trivial, ?_⟩
    gi_at_call 21
    refine (callsIn_wide.2 (tcut_any T9.out i hi)).mono ?_
    rintro e v10 ⟨rfl, hT, hS⟩
    rw [show isK [] i = false by unfold isK; simp]
    rw [cutS_none (show S0 i = [] from rfl)] at hT
    have T10 : Hid (Tp v10 (fun k => k = bB) bB [] [] S0 V0 0) := hT
    have HR10 : Hid (Blk v10 w.heap.size 4 #[.bool false]) := (hS.only.block _ HR9.out.lt (fun h => by have := HF9.out _ h; omega)).trans HR9.out
    have HD10 : Hid (v10.heap[D]? = some (.deferred (some []))) := (hS.only.block _ hDl9 (fun h => by have := HF9.out _ h; omega)).trans HD9.out
    have HB10 : Hid (Below w.heap.size w v10) := hS.start HB9.out (Nat.le_refl _) (fun q h => by have := HF9.out _ h; omega)
    have HF10 : Hid (∀ k, (fun k => k = bB) k → bB ≤ k) := hS.from (by have := T9.out.lt; have := HBB9; omega) HF9.out
    have hDl10 : D < v10.heap.size := Nat.lt_of_lt_of_le hDl9 hS.size
    have HBB10 : bB ≤ v10.heap.size := Nat.le_trans HBB9 hS.size
    clear hT hS T9 HR9 HD9 HB9 HF9 hDl9 HBB9
    gi_wp2_with fail
    refine ⟨trivial, ?_⟩
    gi_at_call 33
    refine (callsIn_wide.2 (tsize_any T10.out i hi)).mono ?_
    rintro e z1 ⟨rfl, rfl⟩
    rw [show ((S0 i).length : Int) = 0 from rfl]
    gi_wp2_with fail
    refine ⟨trivial, ?_⟩
    gi_at_call 17
    refine (callsIn_wide.2 (tmake_any T10.out ⟨1, 0, 0, 0⟩ (by simp) (by omega))).mono ?_
    rintro e v11 ⟨F11, rfl, hT, hS⟩
    rw [show newI [] [] = 1 from rfl] at hT ⊢
    have T11 : Hid (Tp v11 F11 bB [true] [] (makeS S0 1) (updV V0 1 ⟨1, 0, 0, 0⟩) 1) := hT
    have HR11 : Hid (Blk v11 w.heap.size 4 #[.bool false]) := (hS.only.block _ HR10.out.lt (fun h => by have := HF10.out _ h; omega)).trans HR10.out
    have HD11 : Hid (v11.heap[D]? = some (.deferred (some []))) := (hS.only.block _ hDl10 (fun h => by have := HF10.out _ h; omega)).trans HD10.out
    have HB11 : Hid (Below w.heap.size w v11) := hS.start HB10.out (Nat.le_refl _) (fun q h => by have := HF10.out _ h; omega)
    have HF11 : Hid (∀ k, F11 k → bB ≤ k) := hS.from (by have := T10.out.lt; have := HBB10; omega) HF10.out
    have hDl11 : D < v11.heap.size := Nat.lt_of_lt_of_le hDl10 hS.size
    have HBB11 : bB ≤ v11.heap.size := Nat.le_trans HBB10 hS.size
    clear hT hS T10 HR10 HD10 HB10 HF10 hDl10 HBB10
    gi_wp2_with fail
    refine ⟨trivial, ?_⟩
    gi_at_call 17
    refine (callsIn_wide.2 (tmake_any T11.out ⟨0, 0, 0, 0⟩ (by simp) (by omega))).mono ?_
    rintro e v12 ⟨F12, rfl, hT, hS⟩
    rw [show newI [true] [] = 2 from rfl] at hT ⊢
    have T12 : Hid (Tp v12 F12 bB [true, true] [] (makeS (makeS S0 1) 2) (updV (updV V0 1 ⟨1, 0, 0, 0⟩) 2 ⟨0, 0, 0, 0⟩) 2) := hT
    have HR12 : Hid (Blk v12 w.heap.size 4 #[.bool false]) := (hS.only.block _ HR11.out.lt (fun h => by have := HF11.out _ h; omega)).trans HR11.out
    have HD12 : Hid (v12.heap[D]? = some (.deferred (some []))) := (hS.only.block _ hDl11 (fun h => by have := HF11.out _ h; omega)).trans HD11.out
    have HB12 : Hid (Below w.heap.size w v12) := hS.start HB11.out (Nat.le_refl _) (fun q h => by have := HF11.out _ h; omega)
    have HF12 : Hid (∀ k, F12 k → bB ≤ k) := hS.from (by have := T11.out.lt; have := HBB11; omega) HF11.out
    have hDl12 : D < v12.heap.size := Nat.lt_of_lt_of_le hDl11 hS.size
    have HBB12 : bB ≤ v12.heap.size := Nat.le_trans HBB11 hS.size
    clear hT hS T11 HR11 HD11 HB11 HF11 hDl11 HBB11
    gi_wp2_with fail
    refine ⟨trivial, ?_⟩
    gi_at_call 18
    refine (callsIn_wide.2 (tjoin_any T12.out 2 1 (by omega) (by omega))).mono ?_
    rintro e v13 ⟨rfl, hT, hS⟩
    rw [show joinB (makeS (makeS S0 1) 2) 2 1 = true by decide +kernel]
    have T13 : Hid (Tp v13 F12 bB [true, true] [] (joinS (makeS (makeS S0 1) 2) 2 1) (updV (updV V0 1 ⟨1, 0, 0, 0⟩) 2 ⟨0, 0, 0, 0⟩) 2) := hT
    have HR13 : Hid (Blk v13 w.heap.size 4 #[.bool false]) := (hS.only.block _ HR12.out.lt (fun h => by have := HF12.out _ h; omega)).trans HR12.out
    have HD13 : Hid (v13.heap[D]? = some (.deferred (some []))) := (hS.only.block _ hDl12 (fun h => by have := HF12.out _ h; omega)).trans HD12.out
    have HB13 : Hid (Below w.heap.size w v13) := hS.start HB12.out (Nat.le_refl _) (fun q h => by have := HF12.out _ h; omega)
    have HF13 : Hid (∀ k, F12 k → bB ≤ k) := hS.from (by have := T12.out.lt; have := HBB12; omega) HF12.out
    have hDl13 : D < v13.heap.size := Nat.lt_of_lt_of_le hDl12 hS.size
    have HBB13 : bB ≤ v13.heap.size := Nat.le_trans HBB12 hS.size
    clear hT hS T12 HR12 HD12 HB12 HF12 hDl12 HBB12
    gi_wp2_with fail
    refine ⟨trivial, ?_⟩
    gi_at_call 32
    refine (callsIn_wide.2 (tplace_any T13.out 1 (by omega))).mono ?_
    rintro e z2 ⟨rfl, rfl⟩
    rw [show plS (joinS (makeS (makeS S0 1) 2) 2 1 1) 1 = 1 by decide +kernel]
    gi_wp2_with fail
    refine ⟨trivial, ?_⟩
    gi_at_call 37
    refine (callsIn_wide.2 (tnew_any _ _)).mono ?_
    rintro e z3 ⟨rfl, rfl⟩
    have hbN := (Below.refl z2.heap.size z2).alloc (Nat.le_refl _) (.cells #[.slice none 0 0, .slice none 0 0, .pointer none] 76)
    have TN : Hid (Tp (z2.alloc (.cells #[.slice none 0 0, .slice none 0 0, .pointer none] 76)) (fun k => k = z2.heap.size) z2.heap.size [] [] S0 V0 0) := Tp.fresh (Blk.new z2 _ _) rfl (fun k hk => by subst hk; simp) (.inl rfl)
    have HRN : Hid (Blk (z2.alloc (.cells #[.slice none 0 0, .slice none 0 0, .pointer none] 76)) w.heap.size 4 #[.bool false]) := HR13.out.below hbN
    have HDN : Hid ((z2.alloc (.cells #[.slice none 0 0, .slice none 0 0, .pointer none] 76)).heap[D]? = some (.deferred (some []))) := (hbN.block _ hDl13).trans HD13.out
    have HBN : Hid (Below w.heap.size w (z2.alloc (.cells #[.slice none 0 0, .slice none 0 0, .pointer none] 76))) := HB13.out.trans (hbN.mono HB13.out.size)
    have hRz : w.heap.size < z2.heap.size := HR13.out.lt
    have hDz := hDl13
    clear hbN T13 HR13 HD13 HB13 HF13 hDl13 HBB13
    gi_wp2_with fail
    generalize z2.alloc (.cells #[.slice none 0 0, .slice none 0 0, .pointer none] 76) = z4 at *
    generalize z2.heap.size = bN at *
    refine ⟨trivial, ?_⟩
    gi_at_call 17
    refine (callsIn_wide.2 (tmake_any TN.out ⟨0, 0, 0, 0⟩ (by simp) (by omega))).mono ?_
    rintro e z5 ⟨FN, rfl, hT, hS⟩
    rw [show newI [] [] = 1 from rfl]
    have hR5 : Blk z5 w.heap.size 4 #[.bool false] := (hS.only.block _ HRN.out.lt (by omega)).trans HRN.out
    have HD5 : Hid ((z5.setCell ⟨w.heap.size, 0, none⟩ (.bool true)).heap[D]? = some (.deferred (some []))) := (Below.heap_setCell z5 ⟨w.heap.size, 0, none⟩ _ D (by show D ≠ w.heap.size; omega)).trans ((hS.only.block _ (Array.getElem?_eq_some_iff.1 HDN.out).1 (by omega)).trans HDN.out)
    have HB5 : Hid (Below w.heap.size w (z5.setCell ⟨w.heap.size, 0, none⟩ (.bool true))) := (hS.start HBN.out (Nat.le_refl _) (fun q h => by omega)).setCell (p := ⟨w.heap.size, 0, none⟩) (Nat.le_refl _) _
    have HR5 : Hid (Blk (z5.setCell ⟨w.heap.size, 0, none⟩ (.bool true)) w.heap.size 4 #[.bool true]) := hR5.set1 _
    have cR := hR5.cell1
    have fR := hR5.frozen 0
    clear hT hS TN HRN HDN HBN hR5
    gi_wp2
    refine ⟨by simp, .inl ⟨_, _, rfl, run_takeDeferred HD5.out, ?_⟩⟩
    have hpb : Below D (z5.setCell ⟨w.heap.size, 0, none⟩ (.bool true)) ((z5.setCell ⟨w.heap.size, 0, none⟩ (.bool true)).putObj D (.deferred none)) := ⟨rfl, rfl, rfl, by simp, fun k hk => World.putObj_heap_other (by omega)⟩
    have hc5 := (HR5.out.putObj (by omega) (.deferred none) : Blk ((z5.setCell ⟨w.heap.size, 0, none⟩ (.bool true)).putObj D (.deferred none)) w.heap.size 4 #[.bool true]).cell1
    refine ⟨.bool true, ?_, rfl, HB5.out.trans (hpb.mono (by omega))⟩
    simp [results, Try.f6, go_sem, hc5]
end Go.Proofs.Ytaoeifeiendfhaa
