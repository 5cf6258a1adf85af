/- paint, Set, hasRectangle, Fill. -/
import Derived.Test.YtcflbekjiohfnaaCellOwn
namespace Go.Proofs.Ytcflbekjiohfnaa
open Go.RowKit
set_option linter.unusedVariables false

def ints (xs : List Int) : List Value := xs.map (Value.int .i64)
theorem ints_len (xs : List Int) : (ints xs).length = xs.length := by simp [ints]
theorem ints_at {xs : List Int} {i : Nat} (h : i < xs.length) : (ints xs)[i]? = some (.int .i64 (lAt xs i)) := by
  unfold ints; rw [List.getElem?_map, lAt_some h]; rfl
/-- A slice of integers of one's own, in a block from base on. -/
def IS (W : World) (base : Nat) (v : Value) (xs : List Int) : Prop := W.ownsRow base 3 1 v xs.length (ints xs)
theorem IS.nil (W : World) (base : Nat) : IS W base (.slice none 0 0) [] := World.ownsRow_nil W base _ _
theorem IS.but {W W' : World} {base K : Nat} {v : Value} {xs : List Int} (h : IS W base v xs) (hb : But W.heap.size K W W') (hK : K < base) : IS W' base v xs :=
  World.ownsRow.kept h hb.grown (by
    cases hv : v.ownBlock with
    | none => exact .inl rfl
    | some g => right; intro e; cases e; have := (World.ownsRow.lt h K hv).1; omega)
theorem IS.below {W W' : World} {base : Nat} {v : Value} {xs : List Int} (h : IS W base v xs) (hb : Below W.heap.size W W') : IS W' base v xs :=
  World.ownsRow.kept h (below_grown hb) (by cases hv : v.ownBlock <;> simp)
theorem IS.mono {W : World} {base base' : Nat} {v : Value} {xs : List Int} (h : IS W base v xs) (hb : base' ≤ base) : IS W base' v xs :=
  ⟨h.1, h.2.imp id fun ⟨g, cap, cur, h1, h2, h3⟩ => ⟨g, cap, cur, h1, Nat.le_trans hb h2, h3⟩⟩
theorem Try.infoI : (Try.prog.info? 3).map (fun i => (i.zero, i.size, i.bytes)) = some (some (.int .i64 0), 1, 8) := by kernel_rfl
theorem int_news {W : World} {h : Nat} {c : Int} (hh : Blk W h 3 #[.int .i64 c]) : ∀ j u, ([.int .i64 c] : List Value)[j]? = some u → W.cell? ((⟨h, 0, none⟩ : Addr).add j) = some u := by
  intro j u hu
  match j, hu with
  | 0, hu => simp at hu; subst hu; rw [show ((⟨h, 0, none⟩ : Addr).add 0) = ⟨h, 0, none⟩ from by unfold Addr.add; simp]; exact hh.cell1
  | j + 1, hu => simp at hu

theorem puts_row_succ (L : List Int) (f k : Int) (j : Nat) : puts L (rowE f k (j + 1)) = put (puts L (rowE f k j)) (f + j) k := by rw [rowE_succ, puts_append]; rfl

set_option maxRecDepth 100000 in
set_option maxHeartbeats 1600000 in
theorem paint_any {w : World} {base : Nat} {F : Nat → Prop} {B K T : Nat} {zw zh : Int} {ks : List Kd} {cl : Int} {L0 L : List Int} (h : Own w F B K T zw zh ks cl L) (hB : B < base) (hK : K < base) (hFb : ∀ b, F b → b < base) (hbase : base ≤ w.heap.size)
    (v : Value) (hv : IS w base v (diffs L0 L)) (hl : L.length = L0.length) (f k : Int) (n : Nat) (h0 : 0 ≤ f) (hn : f + n ≤ L.length) (hk0 : 0 ≤ k) (hk1 : k < ks.length) (hag : ∀ i : Nat, f ≤ i → lAt L i = lAt L0 i) :
    Calls Try.prog 34 #[.pointer (some ⟨B, 0, none⟩), v, .int .i64 f, .int .i64 n, .int .i64 k] w fun e w' => ∃ v', e = .returned v' ∧ IS w' base v' (diffs L0 (puts L (rowE f k n))) ∧ Own w' F B K T zw zh ks cl (puts L (rowE f k n)) ∧ But base K w w' := by
  have hl1 := h.l1.1
  have n1 := h.tab.n1
  have hBlt := h.blk.lt
  have c3 : w.cell? ⟨B, 3, none⟩ = some (.slice (some ⟨K, 0, none⟩) L.length L.length) := h.blk.at (j := 3) rfl
  have hne := h.ne
  obtain ⟨i0, hi, hz0, hz1, hz2⟩ := info_parts Try.infoI
  have HO : Hid (Own w F B K T zw zh ks cl L) := h
  have HA : Hid (∀ i : Nat, f ≤ i → lAt L i = lAt L0 i) := hag
  have HF : Hid (∀ b, F b → b < base) := hFb
  have HV : Hid (IS w base v (diffs L0 L)) := hv
  have HL : Hid (L.length = L0.length) := hl
  clear h hag hFb hv hl
  generalize hN : L.length = N at *
  go_enter Try.func34, Try.ntmps34
  go_wp2
  go_loopw [1, 11] (fun s c wr => ∃ (j : Nat) (x : Int) (sv : Value), sv = s ∧ j ≤ n ∧ x ≤ f + n ∧ 0 ≤ x ∧ c = .int .i64 x ∧ Hid (x = f + j) ∧ Hid (IS wr base s (diffs L0 (puts L (rowE f k j)))) ∧ Hid (Blk wr K 5 (rowOf (puts L (rowE f k j)))) ∧ But base K w wr) (fun _ c _ => (f + n - intOf c).toNat)
  case atStart => exact ⟨0, f, _, rfl, Nat.zero_le _, by omega, h0, rfl, (show f = f + (0 : Nat) by omega), HV.out, HO.out.row, But.refl _ _ _⟩
  case round =>
    obtain ⟨j, x, s, hs, hjn, hx1, hx0, rfl, HX, HI, HR, hBut⟩ := hrel
    subst hs
    have c3r := (hBut.cell (o := 3) hB hne).trans c3
    have hsz := hBut.size
    by_cases hlt : x < f + n
    · have hjlt : j < n := by have := HX.out; omega
      have hl2 : (puts L (rowE f k j)).length = N := by rw [puts_len]; exact hN
      have ha : ∀ i : Nat, x ≤ i → lAt (puts L (rowE f k j)) i = lAt L0 i := fun i hi' => by
        have e1 := HX.out
        rw [lAt_puts_out _ _ _ (fun e he => ?_)]
        · exact HA.out i (by omega)
        · have := rowE_mem.1 he; omega
      have HD : Hid (diffs L0 (put (puts L (rowE f k j)) x k) = diffs L0 (puts L (rowE f k j)) ++ (if lAt (puts L (rowE f k j)) x.toNat = k then [] else [x])) := diffs_put (by rw [hl2, ← HL.out]) hx0 (by rw [← HL.out]; omega) ha
      have HN' : Hid (puts L (rowE f k (j + 1)) = put (puts L (rowE f k j)) x k) := by
        show puts L (rowE f k (j + 1)) = _
        rw [puts_row_succ, HX.out]
      have hcx := HR.out.at (rowOf_at (L := puts L (rowE f k j)) (i := x.toNat) (by omega))
      have hfx := HR.out.frozen x.toNat
      have hkin : Kin ks.length (puts L (rowE f k j)) := HO.out.kin.puts _ (fun e he => by have := rowE_mem.1 he; omega)
      have hky := hkin.at (i := x.toNat) (by omega)
      have hdl := diffs_len L0 (puts L (rowE f k j))
      have HP : Hid (put (puts L (rowE f k j)) x k = (puts L (rowE f k j)) ∨ lAt (puts L (rowE f k j)) x.toNat ≠ k) := by
        by_cases e : lAt (puts L (rowE f k j)) x.toNat = k
        · left
          refine list_ext (put_len _ _ _) (fun i hi' => ?_)
          rw [put_len] at hi'
          rw [lAt_put hx0 hi']
          split
          · rename_i e2; rw [← e2] at e; simpa using e.symm
          · rfl
        · exact .inr e
      clear ha hl2 hkin
      generalize hM : puts L (rowE f k j) = M at *
      generalize hy : lAt M x.toNat = y at *
      rw [← HL.out] at hdl
      by_cases hyk : y = k
      · subst hyk
        go_wp2
        go_roundw
        case rel =>
          have e1 := HN'.out
          have e2 : put M x y = M := HP.out.elim id (fun h => absurd rfl h)
          refine ⟨j + 1, x + 1, _, rfl, by omega, by omega, by omega, by go_num, ?_, ?_, ?_, hBut⟩
          · have := HX.out; show x + 1 = f + ((j + 1 : Nat) : Int); omega
          · rw [e1, e2]; exact HI
          · rw [e1, e2]; exact HR
        case measure => simp [intOf]; omega
      · have hyk' : (y == k) = false := by simpa using hyk
        have HE : Hid (diffs L0 (put M x k) = diffs L0 M ++ [x]) := by show _ = _; rw [HD.out, if_neg hyk]
        have hown0 : wr.ownsRow base 3 1 s (diffs L0 M).length (ints (diffs L0 M)) := HI.out
        have hgk : wr.grownBy (wr.setCell ⟨K, x.toNat, none⟩ (.int .u8 k)) (some K) := grownBy_set _ _ _ _
        have hown := hown0.kept hgk (by
          cases hv : s.ownBlock with
          | none => exact .inl rfl
          | some g => right; intro e; cases e; have := (hown0.lt K hv).1; omega)
        have hsz2 := hgk.size
        generalize hxn : x.toNat = xn at *
        go_wp2_with (at_builtin; refine wpList_append_own _ rfl _ _ 29 rfl base 3 i0 (.int .i64 0) 1 8 Try.underlying29 hi hz0 hz1 hz2 rfl (by decide) _ _ _ rfl (hown.alloc _) ⟨wr.heap.size, 0, none⟩ 1 1 [.int .i64 x] rfl rfl (int_news (by have := Blk.new (wr.setCell ⟨K, xn, none⟩ (.int .u8 k)) 3 #[.int .i64 x]; simpa using this)) (by simp [Value.oneCell']) (by unfold maxLen; omega) (by omega) (by simp; omega) ?_)
        intro v' w2 hown2 hgrow _
        have hsz3 := hgrow.size
        simp at hsz3
        have hBut1 := ((hBut.set xn (.int .u8 k)).alloc hbase (.cells #[.int .i64 x] 3)).append (by simp; omega) (Nat.le_refl _) (hown.alloc _) hgrow
        have hrow1 := (HR.out.setAt xn (.int .u8 k)).alloc (.cells #[.int .i64 x] 3)
        have hrow2 := hrow1.append hK (hown.alloc _) hgrow
        rw [← hxn, rowOf_put] at hrow2
        have HR2 : Hid (Blk w2 K 5 (rowOf (put M x k))) := hrow2
        have HI2 : Hid (IS w2 base v' (diffs L0 (put M x k))) := by
          show IS _ _ _ _
          rw [HE.out]
          unfold IS
          rw [show (diffs L0 M ++ [x]).length = (diffs L0 M).length + 1 by simp, show ints (diffs L0 M ++ [x]) = ints (diffs L0 M) ++ [.int .i64 x] by simp [ints]]
          exact hown2
        clear hown2 hgrow hrow1 hrow2 hown hown0
        go_wp2
        go_roundw
        case rel =>
          refine ⟨j + 1, x + 1, _, rfl, by omega, by omega, by omega, by go_num, ?_, ?_, ?_, hBut1⟩
          · have := HX.out; show x + 1 = f + ((j + 1 : Nat) : Int); omega
          · rw [HN'.out]; exact HI2
          · rw [HN'.out]; exact HR2
        case measure => simp [intOf]; omega
    · have hxe : x = f + n := by omega
      have hje : j = n := by have := HX.out; omega
      subst hje
      go_wp2
      go_ret
      refine ⟨s, rfl, HI.out, ?_, hBut⟩
      have hkin : Kin ks.length (puts L (rowE f k j)) := HO.out.kin.puts _ (fun e he => by have := rowE_mem.1 he; omega)
      have ho := HO.out
      exact ⟨by rw [puts_len]; exact ho.blk.but hBut hB ho.ne, HR.out, ho.tab.kept (fun b hF => hBut.block b (HF.out b hF) (fun e => ho.nf (e ▸ hF))), hkin, ho.rt, by rw [puts_len]; exact ho.len, ho.ne, ho.nf, fun b hF => Nat.lt_of_lt_of_le (ho.fb b hF) hBut.size⟩

/-- What Set tells. -/
def errS (nk nc c k : Int) : Int := if hasN nk k then (if hasN nc c then 0 else 6) else 7

set_option maxHeartbeats 400000 in
theorem set_no {p : Value} {ks : List Kd} {cl : Int} {L : List Int} {w : World} (h : GV w p ks cl L) (hp : p ≠ .pointer none) (c k : Int) (he : errS ks.length L.length c k ≠ 0) :
    Calls Try.prog 11 #[p, .int .i64 c, .int .i64 k] w fun e w' => e = .returned (.tuple #[.slice none 0 0, .int .i64 (errS ks.length L.length c k)]) ∧ w' = w := by
  have H : Hid (GV w p ks cl L) := h
  rcases h with ⟨rfl, _⟩ | ⟨B, zw, zh, tp, ko, rfl, h⟩
  · exact absurd rfl hp
  · clear h hp
    cases hk : hasN ks.length k with
    | false =>
      have HK : Hid (hasN ks.length k = false) := hk
      have e7 : errS ks.length L.length c k = 7 := by unfold errS; rw [hk]; rfl
      rw [e7]
      clear he hk e7
      go_enter Try.func11, Try.ntmps11
      go_wp2_with fail
      refine (ghasKind_any H.out _).mono ?_
      rintro e w1 ⟨rfl, rfl⟩
      rw [HK.out]
      go_wp2
      go_ret2
      exact ⟨rfl, rfl⟩
    | true =>
      have HK : Hid (hasN ks.length k = true) := hk
      cases hc : hasN L.length c with
      | true => exact absurd (by unfold errS; rw [hk, hc]; rfl) he
      | false =>
        have HC : Hid (hasN L.length c = false) := hc
        have e6 : errS ks.length L.length c k = 6 := by unfold errS; rw [hk, hc]; rfl
        rw [e6]
        clear he hk e6 hc
        go_enter Try.func11, Try.ntmps11
        go_wp2_with fail
        refine (ghasKind_any H.out _).mono ?_
        rintro e w1 ⟨rfl, rfl⟩
        rw [HK.out]
        go_wp2_with fail
        refine (ghasCell_any H.out _).mono ?_
        rintro e w1 ⟨rfl, rfl⟩
        rw [HC.out]
        go_wp2
        go_ret2
        exact ⟨rfl, rfl⟩
set_option maxHeartbeats 400000 in
theorem set_nil (c k : Int) (w : World) : Calls Try.prog 11 #[.pointer none, .int .i64 c, .int .i64 k] w fun e w' => e = .returned (.tuple #[.slice none 0 0, .int .i64 2]) ∧ w' = w := by
  go_enter Try.func11, Try.ntmps11
  go_wp2
  go_ret2
  exact ⟨rfl, rfl⟩

set_option maxHeartbeats 400000 in
theorem set_yes {w : World} {F : Nat → Prop} {B K T : Nat} {zw zh : Int} {ks : List Kd} {cl : Int} {L : List Int} (h : Own w F B K T zw zh ks cl L) (c k : Int) (he : errS ks.length L.length c k = 0) :
    Calls Try.prog 11 #[.pointer (some ⟨B, 0, none⟩), .int .i64 c, .int .i64 k] w fun e w' => ∃ v, e = .returned (.tuple #[v, .int .i64 0]) ∧ IS w' w.heap.size v (diffs L (put L c k)) ∧ Own w' F B K T zw zh ks cl (put L c k) ∧ But w.heap.size K w w' := by
  have hk : hasN ks.length k = true := by
    unfold errS at he; split at he
    · assumption
    · omega
  have hc : hasN L.length c = true := by
    unfold errS at he; rw [if_pos hk] at he; split at he
    · assumption
    · omega
  have HK : Hid (hasN ks.length k = true) := hk
  have HC : Hid (hasN L.length c = true) := hc
  obtain ⟨k0, k1⟩ := hasN_iff.1 hk
  obtain ⟨c0, c1⟩ := hasN_iff.1 hc
  have HG : Hid (GV w (.pointer (some ⟨B, 0, none⟩)) ks cl L) := h.gv
  have HP : Hid (∀ W, W = w → Calls Try.prog 34 #[.pointer (some ⟨B, 0, none⟩), .slice none 0 0, .int .i64 c, .int .i64 1, .int .i64 k] W fun e w' => ∃ v', e = .returned v' ∧ IS w' w.heap.size v' (diffs L (put L c k)) ∧ Own w' F B K T zw zh ks cl (put L c k) ∧ But w.heap.size K w w') := by
    rintro W rfl
    have hp := paint_any (L0 := L) h h.blk.lt h.row.lt h.fb (Nat.le_refl _) (.slice none 0 0) (by rw [diffs_self]; exact IS.nil _ _) rfl c k 1 c0 (by omega) k0 k1 (fun i _ => rfl)
    have e1 : puts L (rowE c k 1) = put L c k := by simp [rowE, puts]
    rw [e1] at hp
    exact hp
  clear h he hk hc
  go_enter Try.func11, Try.ntmps11
  go_wp2_with fail
  refine (ghasKind_any HG.out _).mono ?_
  rintro e w1 ⟨rfl, rfl⟩
  rw [HK.out]
  go_wp2_with fail
  refine (ghasCell_any HG.out _).mono ?_
  rintro e w1 ⟨rfl, rfl⟩
  rw [HC.out]
  go_wp2_with fail
  refine (HP.out _ rfl).mono ?_
  rintro e w1 ⟨v', rfl, hI, hO, hBt⟩
  have HI : Hid (IS w1 _ v' (diffs L (put L c k))) := hI
  have HO : Hid (Own w1 F B K T zw zh ks cl (put L c k)) := hO
  clear hI hO
  go_wp2
  go_ret2
  exact ⟨v', rfl, HI.out, HO.out, hBt⟩
end Go.Proofs.Ytcflbekjiohfnaa
