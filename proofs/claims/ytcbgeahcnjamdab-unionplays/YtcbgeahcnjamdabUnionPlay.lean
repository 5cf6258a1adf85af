/- The walk of UnionPlays. -/
import Derived.Test.YtcbgeahcnjamdabUnionRefB
import Derived.Test.YtcbgeahcnjamdabUnionActs
namespace Go.Proofs.Ytcbgeahcnjamdab
open Go.RowKit
set_option linter.unusedVariables false

/-- A union and the document's names beside it, apart, both made since w0. -/
structure Dp (w0 wr : World) (B G H RB K : Nat) (L : List Int) : Prop where
  un : Un wr B G H L
  ru : RU wr RB K L
  dis : (RB ≠ B ∧ RB ≠ G ∧ RB ≠ H) ∧ K ≠ B ∧ K ≠ G ∧ K ≠ H
  lo : (w0.heap.size ≤ B ∧ w0.heap.size ≤ G ∧ w0.heap.size ≤ H) ∧ w0.heap.size ≤ RB ∧ w0.heap.size ≤ K
  bl : Below w0.heap.size w0 wr
section
variable {w0 wr w1 w2 : World} {B G H RB K : Nat} {L L' : List Int}
theorem RU.thru (h : RU wr RB K L) (ht : Thru B G H wr w1) (hd : (RB ≠ B ∧ RB ≠ G ∧ RB ≠ H) ∧ K ≠ B ∧ K ≠ G ∧ K ≠ H) : RU w1 RB K L :=
  h.kept (fun k hk => by rcases hk with rfl | rfl; exact ht.block _ h.lt hd.1.1 hd.1.2.1 hd.1.2.2; exact ht.block _ h.kl hd.2.1 hd.2.2.1 hd.2.2.2) ht.size
theorem Dp.below (h : Dp w0 wr B G H RB K L) (hb : Below wr.heap.size wr w1) : Dp w0 w1 B G H RB K L := ⟨h.un.below hb, h.ru.below hb, h.dis, h.lo, below_step h.bl hb (Nat.le_refl _)⟩
theorem Dp.join (h : Dp w0 wr B G H RB K L) (h1 : Un w1 B G H L') (t1 : Thru B G H wr w1) (h2 : RU w2 RB K L') (t2 : Thru RB K K w1 w2) : Dp w0 w2 B G H RB K L' :=
  ⟨h1.thru t2 (fun k hk => by have := h.dis; omega), h2, h.dis, h.lo, Thru.start (Thru.start h.bl (Nat.le_refl _) t1 h.lo.1) (Nat.le_refl _) t2 ⟨h.lo.2.1, h.lo.2.2, h.lo.2.2⟩⟩
end
theorem nameN_out {L : List Int} {a : Int} (h : memN L a = false) : nameN L a = -1 := by unfold nameN; rw [h]; rfl
theorem nameN_in {L : List Int} (hN : Nm L) {a : Int} (h : memN L a = true) : 0 ≤ nameN L a ∧ nameN L a < L.length := by
  obtain ⟨h0, h1⟩ := memN_iff.1 h
  have := hN.lo a.toNat (by omega)
  unfold nameN; rw [h]; simp; omega
theorem sameN_name {L : List Int} (hN : Nm L) (a b : Int) (ha : memN L a = true) : sameN L a b = (nameN L a == nameN L b) := by
  cases hb : memN L b with
  | true => unfold sameN nameN; rw [ha, hb]; simp; rfl
  | false =>
    have h1 := nameN_in hN ha
    rw [nameN_out hb]
    unfold sameN; rw [hb]
    simp
    omega
theorem sameN_out {L : List Int} {a : Int} (b : Int) (ha : memN L a = false) : sameN L a b = false := by unfold sameN; rw [ha]; rfl

set_option maxRecDepth 100000 in
set_option maxHeartbeats 6400000 in
theorem uplay_walk (n : Int) (ao : Option Addr) (cap : Nat) (qs : List A11.Ac) (xa xb : Int) (w : World) (hn : -9223372036854775808 ≤ n ∧ n ≤ 9223372036854775807) (hk : A11.AcAt w ao qs) (hl : qs.length ≤ 9223372036854775807) :
    Calls Try.prog 4 #[.int .i64 n, .slice ao qs.length cap, .agg #[.int .i64 xa, .int .i64 xb]] w fun e w' => e = .returned (.bool true) ∧ Below w.heap.size w w' := by
  obtain ⟨w0, hw0⟩ : ∃ w0, w0 = w.alloc (.cells #[.int .i64 xa, .int .i64 xb] 32) := ⟨_, rfl⟩
  have hb0 : Below w.heap.size w w0 := by rw [hw0]; exact (Below.refl _ _).alloc (Nat.le_refl _) _
  have hX0 : Blk w0 w.heap.size 32 #[.int .i64 xa, .int .i64 xb] := by rw [hw0]; exact Blk.new w _ _
  have HB0 := hid_mk hb0
  have HX0 := hid_mk hX0
  have HK : Hid (A11.AcAt w0 ao qs) := hk.below hb0
  obtain ⟨m, hm⟩ : ∃ m, m = qs.length := ⟨_, rfl⟩
  have HM := hid_mk hm.symm
  rw [← hm] at hl ⊢
  clear hb0 hX0 hk hm
  have HW0 := hid_mk hw0.symm
  by_cases hbig : 300 < m
  · clear HX0 HK HM hw0
    go_enter Try.func4, Try.ntmps4
    go_wp2_with fail
    rw [HW0.out]
    refine (uawake_any _).mono ?_
    rintro e w1 ⟨rfl, hb1⟩
    have HB1 := hid_mk (below_step HB0.out hb1 (Nat.le_refl _))
    clear hb1
    go_wp2
    go_ret
    exact ⟨rfl, HB1.out⟩
  by_cases hno : n < 0 ∨ 200 < n
  · clear HX0 HK HM hw0
    go_enter Try.func4, Try.ntmps4
    go_wp2_with fail
    rw [HW0.out]
    refine (uawake_any _).mono ?_
    rintro e w1 ⟨rfl, hb1⟩
    have HB1 := hid_mk (below_step HB0.out hb1 (Nat.le_refl _))
    clear hb1
    by_cases hmid : 0 < n ∧ n ≤ 4194304
    · obtain ⟨m1, m2⟩ := hmid
      have h200 : 200 < n := by omega
      go_wp2
      go_ret
      exact ⟨rfl, HB1.out⟩
    · by_cases hneg : n < 0
      · go_wp2_with fail
        refine (unew_no n w1 (.inl hneg) hn).mono ?_
        rintro e w2 ⟨rfl, rfl⟩
        go_wp2
        go_ret
        exact ⟨rfl, HB1.out⟩
      · have h1 : 4194304 < n := by omega
        have h200 : 200 < n := by omega
        go_wp2_with fail
        refine (unew_no n w1 (.inr h1) hn).mono ?_
        rintro e w2 ⟨rfl, rfl⟩
        go_wp2
        go_ret
        exact ⟨rfl, HB1.out⟩
  obtain ⟨n, rfl⟩ : ∃ k : Nat, n = (k : Int) := ⟨n.toNat, by omega⟩
  have hn2 : n ≤ 200 := by omega
  clear hno hn hw0
  go_enter Try.func4, Try.ntmps4
  go_wp2_with fail
  rw [HW0.out]
  refine (uawake_any _).mono ?_
  rintro e w1 ⟨rfl, hb1⟩
  have HB1 := hid_mk hb1
  clear hb1
  go_wp2_with fail
  refine (unew_yes n w1 (by omega)).mono ?_
  rintro e w2 ⟨B, G, H, rfl, hU, hb2, hBGH⟩
  have HU2 := hid_mk hU
  have HB2 := hid_mk (below_step HB1.out hb2 (Nat.le_refl _))
  have HL2 := hid_mk (show w0.heap.size ≤ B ∧ w0.heap.size ≤ G ∧ w0.heap.size ≤ H by have := HB1.out.size; omega)
  clear hU hb2 hBGH HB1
  go_wp2_with fail
  refine (urnew_any n w2 (by omega)).mono ?_
  rintro e w3 ⟨RB, K, rfl, hR, hRB, hK, hb3⟩
  have HD : Hid (Dp w0 w3 B G H RB K (idN n)) := ⟨HU2.out.below hb3, hR, by have := HU2.out.lt; omega, ⟨HL2.out, by have := HB2.out.size; omega, by have := HB2.out.size; omega⟩, below_step HB2.out hb3 (Nat.le_refl _)⟩
  clear hR hRB hK hb3 HU2 HB2 HL2
  go_wp2
  go_loopw [12] (fun v wr => ∃ k : Nat, k ≤ m ∧ v = .int .i64 k ∧ Hid (∃ L, Dp w0 wr B G H RB K L ∧ L.length = n)) (fun v _ => m - (intOf v).toNat)
  case atStart => exact ⟨0, by omega, rfl, _, HD.out, idN_len n⟩
  case round =>
    clear HD
    obtain ⟨k, hk, rfl, HD⟩ := hrel
    obtain ⟨L, hD, hLn⟩ := HD.out
    clear HD
    by_cases hlt : k < m
    · rcases HK.out with h | ⟨b, off, rfl, hbl, hc⟩
      · have := HM.out; rw [h] at this; simp at this; omega
      have hci := hc k (by rw [HM.out]; exact hlt)
      have hin := hci.1.below hD.bl hbl
      obtain ⟨y0, y1⟩ := hin
      have hDd := hD.below (Below.refl _ _).drew
      have z0 : wr.drew.cell? ⟨b, off + k * 2, none⟩ = some (.int .i64 (A11.aAt qs k).a) := y0
      have z1 : wr.drew.cell? ⟨b, off + k * 2 + 1, none⟩ = some (.int .i64 (A11.aAt qs k).b) := y1
      generalize (A11.aAt qs k).a = qa at *
      generalize (A11.aAt qs k).b = qb at *
      have HDd := hid_mk hDd
      have CU := hid_mk (ujoin_any hDd.un qa qb)
      have CR : Hid (∀ W, RU W RB K L → Calls Try.prog 15 #[.pointer (some ⟨RB, 0, none⟩), .int .i64 qa, .int .i64 qb] W fun e w' => e = .returned (.bool (joinB L qa qb)) ∧ RU w' RB K (joinL L qa qb) ∧ Thru RB K K W w') := fun W hW => urjoin_any hW hD.un.nm hD.un.len qa qb
      have HO : Hid (∀ W o, Thru B G H wr.drew W → W.cell? ⟨b, o, none⟩ = wr.drew.cell? ⟨b, o, none⟩) := fun W o ht => World.cell?_of_block (w := wr.drew) (ht.block b (by have := hD.bl.size; show b < wr.heap.size; omega) (by have := hD.lo; omega) (by have := hD.lo; omega) (by have := hD.lo; omega))
      have HO2 : Hid (∀ W W2 o, Thru B G H wr.drew W → Thru RB K K W W2 → W2.cell? ⟨b, o, none⟩ = wr.drew.cell? ⟨b, o, none⟩) := fun W W2 o ht ht2 => (World.cell?_of_block (w := W) (ht2.block b (by have := hD.bl.size; have := ht.size; have : wr.drew.heap.size = wr.heap.size := rfl; omega) (by have := hD.lo; omega) (by have := hD.lo; omega) (by have := hD.lo; omega))).trans (HO.out W o ht)
      have HE : Hid (∀ W W2, Un W B G H (joinL L qa qb) → Thru B G H wr.drew W → RU W2 RB K (joinL L qa qb) → Thru RB K K W W2 → ∃ L, Dp w0 W2 B G H RB K L ∧ L.length = n) := fun W W2 h1 t1 h2 t2 => ⟨_, hDd.join h1 t1 h2 t2, by rw [joinL_len]; exact hLn⟩
      have HR0 : Hid (RU wr.drew RB K L) := hDd.ru
      have HDis := hid_mk hD.dis
      clear hD hDd HDd hci hc hbl HX0 HB0 HW0 hLn
      generalize joinB L qa qb = t at *
      generalize joinL L qa qb = L' at *
      go_wp2
      go_region_held3 (fun w' => w'.cell? ⟨b, off + k * 2, none⟩ = some (.int .i64 qa) ∧ w'.cell? ⟨b, off + k * 2 + 1, none⟩ = some (.int .i64 qb))
        (first
          | go_keep
          | exact ⟨(HO2.out _ _ _ hT4 hT5).trans z0, (HO2.out _ _ _ hT4 hT5).trans z1⟩
          | exact ⟨(HO.out _ _ hT4).trans z0, (HO.out _ _ hT4).trans z1⟩)
        (first
          | (go_at_call 11; refine CU.out.mono ?_; rintro e w4 ⟨rfl, hU4, hT4⟩)
          | (go_at_call 15; refine (CR.out _ (HR0.out.thru hT4 HDis.out)).mono ?_; rintro e w5 ⟨rfl, hU5, hT5⟩)
          | fail)
      have HF := hid_mk (HE.out _ _ hU4 hT4 hU5 hT5)
      rename_i hHeld
      clear hHeld hU4 hT4 hU5 hT5 HE HO HO2 CU CR y0 y1 z0 z1 HR0 HDis
      go_wp2
      go_roundw
      case rel => exact ⟨k + 1, by omega, by go_num, HF⟩
      case measure => simp [intOf]; omega
    · obtain rfl : k = m := by omega
      have HD := hid_mk hD
      have HLn := hid_mk hLn
      have hLb := hD.un.len
      clear hD hLn hLb
      generalize wr = wo at *
      go_wp2
      go_loopw [13] (fun v wr => ∃ j : Nat, j ≤ n + 2 ∧ v = .int .i64 ((j : Int) - 1) ∧ Hid (Dp w0 wr B G H RB K L)) (fun v _ => n + 2 - (intOf v + 1).toNat)
      case atStart => exact ⟨0, by omega, rfl, HD⟩
      case round =>
        clear HD
        obtain ⟨j, hj, rfl, HD⟩ := hrel
        by_cases hjn : j < n + 2
        · have C1 := hid_mk (uname_any HD.out.un.uv ((j : Int) - 1))
          have hnb : -1 ≤ nameN L ((j : Int) - 1) ∧ nameN L ((j : Int) - 1) ≤ 200 := by
            have := HLn.out
            cases hm : memN L ((j : Int) - 1) with
            | false => rw [nameN_out hm]; omega
            | true => have := nameN_in HD.out.un.nm hm; omega
          have hsb := sizeN_bd L ((j : Int) - 1)
          have hlt : (j : Int) - 1 ≤ n := by omega
          go_wp2_with fail
          refine C1.out.mono ?_
          rintro e w4 ⟨rfl, hb4⟩
          have HD4 := hid_mk (HD.out.below hb4)
          have C2 := hid_mk (urname_any HD4.out.ru HD4.out.un.len ((j : Int) - 1))
          have C3 := hid_mk (usize_any HD4.out.un.uv ((j : Int) - 1))
          clear hb4 C1
          go_wp2_with fail
          refine C2.out.mono ?_
          rintro e w5 ⟨rfl, rfl⟩
          go_wp2_with fail
          refine C3.out.mono ?_
          rintro e w6 ⟨rfl, hb6⟩
          have HD6 := hid_mk (HD4.out.below hb6)
          have C4 := hid_mk (ursize_any HD6.out.ru HD6.out.un.nm HD6.out.un.len ((j : Int) - 1))
          clear hb6 C2 C3 HD4
          go_wp2_with fail
          refine C4.out.mono ?_
          rintro e w7 ⟨rfl, rfl⟩
          clear C4
          generalize nameN L ((j : Int) - 1) = x at *
          generalize sizeN L ((j : Int) - 1) = y at *
          go_wp2
          go_roundw
          case rel => exact ⟨j + 1, by omega, by go_num, HD6⟩
          case measure => simp [intOf]; omega
        · have hge : ¬ (j : Int) - 1 ≤ n := by omega
          have hN := HD.out.un.nm
          have hXr : Blk wr w.heap.size 32 #[.int .i64 xa, .int .i64 xb] := HX0.out.below (by have h := HD.out.bl; exact h)
          have x0 := hXr.at (j := 0) rfl
          have x1 := hXr.at (j := 1) rfl
          simp only [List.getElem_toArray, List.getElem_cons_zero, List.getElem_cons_succ] at x0 x1
          have HF : Hid (∀ W, Below wr.heap.size wr W → Below w.heap.size w W) := fun W hb => below_step (below_step HB0.out HD.out.bl (Nat.le_refl _)) hb (Nat.le_refl _)
          have hlen := HD.out.un.len
          have hXl := hXr.lt
          have HX1 := hid_mk hXr
          obtain ⟨z, hz⟩ : ∃ z, z = sizeN L xb := ⟨_, rfl⟩
          obtain ⟨ss, hs⟩ : ∃ ss, ss = setsN L := ⟨_, rfl⟩
          obtain ⟨nf, hnf⟩ : ∃ nf, nf = nameN L := ⟨_, rfl⟩
          have HZ := hid_mk hz
          have HS := hid_mk hs
          have HNF := hid_mk hnf
          have CAB : Hid (∀ nq c, (c = xa ∨ c = xb) → Calls Try.prog 16 #[.pointer (some ⟨RB, 0, none⟩), .int .i64 c] (wr.drewN nq) fun e w' => e = .returned (.int .i64 (nf c)) ∧ w' = wr.drewN nq) := fun nq c _ => by rw [hnf]; exact urname_any (HD.out.below (below_drew wr nq)).ru hlen c
          clear hXr hz hs HK HM HX0 HB0 HW0 hlen
          by_cases hma : memN L xa = true
          · have h0 : 0 ≤ nf xa := by rw [hnf]; exact (nameN_in hN hma).1
            obtain ⟨t, ht⟩ : ∃ t, (nf xa == nf xb) = t := ⟨_, rfl⟩
            have HT : Hid (sameN L xa xb = t) := by show _ = _; rw [← ht, hnf]; exact sameN_name hN xa xb hma
            clear hN hma hnf
            go_wp2
            go_quiet ((go_at_call 16; exact Calls.quiet_of_same (CAB.out _ _ (by first | exact .inl rfl | exact .inr rfl))))
            go_wp2
            generalize hwd : World.drewN wr _ = wd
            have hbd : Below wr.heap.size wr wd := by rw [← hwd]; exact below_drew _ _
            have hD2 := HD.out.below hbd
            have hX2 := HX1.out.below hbd
            have gn := Grow.ne wd
            have g0 : ∀ g : Grow wd, g.w.cell? ⟨w.heap.size, 0, none⟩ = some (.int .i64 xa) := fun g => Grow.cell hX2.lt (hX2.at (j := 0) rfl) g
            have g1 : ∀ g : Grow wd, g.w.cell? ⟨w.heap.size, 1, none⟩ = some (.int .i64 xb) := fun g => Grow.cell hX2.lt (hX2.at (j := 1) rfl) g
            have hND : ∀ g : Grow wd, Dp w0 g.w B G H RB K L := fun g => hD2.below g.h
            have R1 : Hid (∀ g : Grow wd, Calls Try.prog 12 #[.pointer (some ⟨B, 0, none⟩), .int .i64 xa, .int .i64 xb] g.w fun e w' => e = .returned (.bool t) ∧ Below g.w.heap.size g.w w') := fun g => (usame_any (hND g).un.uv xa xb).mono fun e w' h => ⟨by rw [← HT.out]; exact h.1, by rw [h.2]; exact Below.refl _ _⟩
            have R2 : Hid (∀ g : Grow wd, Calls Try.prog 10 #[.pointer (some ⟨B, 0, none⟩), .int .i64 xa] g.w fun e w' => e = .returned (.int .i64 (nf xa)) ∧ Below g.w.heap.size g.w w') := fun g => by rw [HNF.out]; exact uname_any (hND g).un.uv xa
            have R3 : Hid (∀ g : Grow wd, Calls Try.prog 16 #[.pointer (some ⟨RB, 0, none⟩), .int .i64 xa] g.w fun e w' => e = .returned (.int .i64 (nf xa)) ∧ Below g.w.heap.size g.w w') := fun g => (urname_any (hND g).ru (hND g).un.len xa).mono fun e w' h => ⟨by rw [HNF.out]; exact h.1, by rw [h.2]; exact Below.refl _ _⟩
            have R4 : Hid (∀ g : Grow wd, Calls Try.prog 13 #[.pointer (some ⟨B, 0, none⟩), .int .i64 xb] g.w fun e w' => e = .returned (.int .i64 z) ∧ Below g.w.heap.size g.w w') := fun g => by rw [HZ.out]; exact usize_any (hND g).un.uv xb
            have R5 : Hid (∀ g : Grow wd, Calls Try.prog 17 #[.pointer (some ⟨RB, 0, none⟩), .int .i64 xb] g.w fun e w' => e = .returned (.int .i64 z) ∧ Below g.w.heap.size g.w w') := fun g => (ursize_any (hND g).ru (hND g).un.nm (hND g).un.len xb).mono fun e w' h => ⟨by rw [HZ.out]; exact h.1, by rw [h.2]; exact Below.refl _ _⟩
            have R6 : Hid (∀ g : Grow wd, Calls Try.prog 9 #[.pointer (some ⟨B, 0, none⟩)] g.w fun e w' => e = .returned (.int .i64 ss) ∧ Below g.w.heap.size g.w w') := fun g => (usets_any (hND g).un.uv).mono fun e w' h => ⟨by rw [HS.out]; exact h.1, by rw [h.2]; exact Below.refl _ _⟩
            have R7 : Hid (∀ g : Grow wd, Calls Try.prog 18 #[.pointer (some ⟨RB, 0, none⟩)] g.w fun e w' => e = .returned (.int .i64 ss) ∧ Below g.w.heap.size g.w w') := fun g => (ursets_any (hND g).ru (hND g).un.nm (hND g).un.len).mono fun e w' h => ⟨by rw [HS.out]; exact h.1, by rw [h.2]; exact Below.refl _ _⟩
            have R8 : Hid (∀ g : Grow wd, Calls Try.prog 19 #[.pointer (some ⟨B, 0, none⟩)] g.w fun e w' => e = .returned (.int .i64 n) ∧ Below g.w.heap.size g.w w') := fun g => (ulen_any (hND g).un.uv).mono fun e w' h => ⟨by rw [← HLn.out]; exact h.1, by rw [h.2]; exact Below.refl _ _⟩
            have HBd := hid_mk hbd
            clear hwd hbd hD2 hX2 hND CAB HD HX1 x0 x1
            refine wp_region_grow (by kernel_rfl) (by kernel_rfl) ?_
            repeat (go_big_quiet_step (first
              | (go_at_call 12; exact grow_call (R1.out _))
              | (go_at_call 10; exact grow_call (R2.out _))
              | (go_at_call 16; exact grow_call (R3.out _))
              | (go_at_call 13; exact grow_call (R4.out _))
              | (go_at_call 17; exact grow_call (R5.out _))
              | (go_at_call 9; exact grow_call (R6.out _))
              | (go_at_call 18; exact grow_call (R7.out _))
              | (go_at_call 19; exact grow_call (R8.out _))
              | fail))
            refine wpQuiet_nil ?_
            rintro w8 ⟨⟨_, hb8⟩, rfl⟩
            have HG := hid_mk (HF.out _ (below_step HBd.out hb8 (Nat.le_refl _)))
            clear hb8 HF HBd
            go_wp2
            go_ret
            exact ⟨rfl, HG.out⟩
          · have h0 : ¬ 0 ≤ nf xa := by rw [hnf, nameN_out (by simpa using hma)]; decide
            have h0' : decide (0 ≤ nf xa) = false := by simpa using h0
            obtain ⟨t, ht⟩ : ∃ t, t = false := ⟨_, rfl⟩
            have HT : Hid (sameN L xa xb = false) := sameN_out xb (by simpa using hma)
            clear hN hma hnf ht
            go_wp2
            go_quiet ((go_at_call 16; exact Calls.quiet_of_same (CAB.out _ _ (by first | exact .inl rfl | exact .inr rfl))))
            go_wp2
            generalize hwd : World.drewN wr _ = wd
            have hbd : Below wr.heap.size wr wd := by rw [← hwd]; exact below_drew _ _
            have hD2 := HD.out.below hbd
            have hX2 := HX1.out.below hbd
            have gn := Grow.ne wd
            have g0 : ∀ g : Grow wd, g.w.cell? ⟨w.heap.size, 0, none⟩ = some (.int .i64 xa) := fun g => Grow.cell hX2.lt (hX2.at (j := 0) rfl) g
            have g1 : ∀ g : Grow wd, g.w.cell? ⟨w.heap.size, 1, none⟩ = some (.int .i64 xb) := fun g => Grow.cell hX2.lt (hX2.at (j := 1) rfl) g
            have hND : ∀ g : Grow wd, Dp w0 g.w B G H RB K L := fun g => hD2.below g.h
            have R1 : Hid (∀ g : Grow wd, Calls Try.prog 12 #[.pointer (some ⟨B, 0, none⟩), .int .i64 xa, .int .i64 xb] g.w fun e w' => e = .returned (.bool false) ∧ Below g.w.heap.size g.w w') := fun g => (usame_any (hND g).un.uv xa xb).mono fun e w' h => ⟨by rw [← HT.out]; exact h.1, by rw [h.2]; exact Below.refl _ _⟩
            have R2 : Hid (∀ g : Grow wd, Calls Try.prog 10 #[.pointer (some ⟨B, 0, none⟩), .int .i64 xa] g.w fun e w' => e = .returned (.int .i64 (nf xa)) ∧ Below g.w.heap.size g.w w') := fun g => by rw [HNF.out]; exact uname_any (hND g).un.uv xa
            have R3 : Hid (∀ g : Grow wd, Calls Try.prog 16 #[.pointer (some ⟨RB, 0, none⟩), .int .i64 xa] g.w fun e w' => e = .returned (.int .i64 (nf xa)) ∧ Below g.w.heap.size g.w w') := fun g => (urname_any (hND g).ru (hND g).un.len xa).mono fun e w' h => ⟨by rw [HNF.out]; exact h.1, by rw [h.2]; exact Below.refl _ _⟩
            have R4 : Hid (∀ g : Grow wd, Calls Try.prog 13 #[.pointer (some ⟨B, 0, none⟩), .int .i64 xb] g.w fun e w' => e = .returned (.int .i64 z) ∧ Below g.w.heap.size g.w w') := fun g => by rw [HZ.out]; exact usize_any (hND g).un.uv xb
            have R5 : Hid (∀ g : Grow wd, Calls Try.prog 17 #[.pointer (some ⟨RB, 0, none⟩), .int .i64 xb] g.w fun e w' => e = .returned (.int .i64 z) ∧ Below g.w.heap.size g.w w') := fun g => (ursize_any (hND g).ru (hND g).un.nm (hND g).un.len xb).mono fun e w' h => ⟨by rw [HZ.out]; exact h.1, by rw [h.2]; exact Below.refl _ _⟩
            have R6 : Hid (∀ g : Grow wd, Calls Try.prog 9 #[.pointer (some ⟨B, 0, none⟩)] g.w fun e w' => e = .returned (.int .i64 ss) ∧ Below g.w.heap.size g.w w') := fun g => (usets_any (hND g).un.uv).mono fun e w' h => ⟨by rw [HS.out]; exact h.1, by rw [h.2]; exact Below.refl _ _⟩
            have R7 : Hid (∀ g : Grow wd, Calls Try.prog 18 #[.pointer (some ⟨RB, 0, none⟩)] g.w fun e w' => e = .returned (.int .i64 ss) ∧ Below g.w.heap.size g.w w') := fun g => (ursets_any (hND g).ru (hND g).un.nm (hND g).un.len).mono fun e w' h => ⟨by rw [HS.out]; exact h.1, by rw [h.2]; exact Below.refl _ _⟩
            have R8 : Hid (∀ g : Grow wd, Calls Try.prog 19 #[.pointer (some ⟨B, 0, none⟩)] g.w fun e w' => e = .returned (.int .i64 n) ∧ Below g.w.heap.size g.w w') := fun g => (ulen_any (hND g).un.uv).mono fun e w' h => ⟨by rw [← HLn.out]; exact h.1, by rw [h.2]; exact Below.refl _ _⟩
            have HBd := hid_mk hbd
            clear hwd hbd hD2 hX2 hND CAB HD HX1 x0 x1
            refine wp_region_grow (by kernel_rfl) (by kernel_rfl) ?_
            repeat (go_big_quiet_step (first
              | (go_at_call 12; exact grow_call (R1.out _))
              | (go_at_call 10; exact grow_call (R2.out _))
              | (go_at_call 16; exact grow_call (R3.out _))
              | (go_at_call 13; exact grow_call (R4.out _))
              | (go_at_call 17; exact grow_call (R5.out _))
              | (go_at_call 9; exact grow_call (R6.out _))
              | (go_at_call 18; exact grow_call (R7.out _))
              | (go_at_call 19; exact grow_call (R8.out _))
              | fail))
            refine wpQuiet_nil ?_
            rintro w8 ⟨⟨_, hb8⟩, rfl⟩
            have HG := hid_mk (HF.out _ (below_step HBd.out hb8 (Nat.le_refl _)))
            clear hb8 HF HBd
            go_wp2
            go_ret
            exact ⟨rfl, HG.out⟩
end Go.Proofs.Ytcbgeahcnjamdab
