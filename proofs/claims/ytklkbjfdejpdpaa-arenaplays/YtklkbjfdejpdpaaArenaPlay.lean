/- The walk of ArenaPlays. -/
import Derived.Test.YtklkbjfdejpdpaaArenaSim
import Derived.Deep.RegionHeld3
import Derived.Deep.DrawnRows
namespace Go.Proofs.Ytklkbjfdejpdpaa
open Go.RowKit
set_option linter.unusedVariables false

theorem step_undrew {F F' : Nat → Prop} {w w' : World} (h : Step F F' w.drew w') : Step F F' w w' := ⟨⟨h.only.os, h.only.tape, h.only.output, h.only.size, h.only.block⟩, h.ext⟩

set_option maxRecDepth 100000 in
set_option maxHeartbeats 4000000 in
theorem aplay_walk (ao : Option Addr) (cap : Nat) (qs : List A5.Ac) (w : World) (hk : A5.AcAt w ao qs) (hl : qs.length ≤ 9223372036854775807) :
    Calls Try.prog 4 #[.slice ao qs.length cap] w fun e w' => e = .returned (.bool true) ∧ Below w.heap.size w w' := by
  have HK : Hid (A5.AcAt w ao qs) := hk
  clear hk
  obtain ⟨n, hn⟩ : ∃ n, n = qs.length := ⟨_, rfl⟩
  have HN : Hid (qs.length = n) := hn.symm
  rw [← hn] at hl ⊢
  clear hn
  go_enter Try.func4, Try.ntmps4
  go_wp2_with fail
  refine (aawake_any _).mono ?_
  rintro e w1 ⟨rfl, hb1⟩
  have hs1 := hb1.size
  go_wp2_with fail
  refine (agreat_any ao cap n qs w1 HN.out hl (HK.out.below hb1)).mono ?_
  rintro e w2 ⟨g, rfl, hg, rfl⟩
  cases g with
  | true =>
    go_wp2
    go_ret
    exact ⟨rfl, hb1⟩
  | false =>
  have hn3 := hg rfl
  clear hg
  go_wp2_with fail
  refine (AS.new_any w2).mono ?_
  rintro e w3 ⟨rfl, hA, hb3⟩
  have hb4 := below_step hb1 hb3 (Nat.le_refl _)
  obtain ⟨Ba, hBa⟩ : ∃ B, B = w2.heap.size := ⟨_, rfl⟩
  rw [← hBa] at hA ⊢
  have HBa : Hid (Ba = w2.heap.size) := hBa
  clear hBa
  obtain ⟨R, hR⟩ : ∃ R, R = w3.heap.size := ⟨_, rfl⟩
  have hal : Below w3.heap.size w3 (w3.alloc (.cells #[.slice none 0 0, .slice none 0 0, .slice none 0 0] 40)) := (Below.refl _ _).alloc (Nat.le_refl _) _
  have T0 : Hid (TwoR w (w3.alloc (.cells #[.slice none 0 0, .slice none 0 0, .slice none 0 0] 40)) (fun k => k = Ba) Ba 0 [] [] (fun k => k = R) R [] []) := by
    have hlt := hA.blt
    have hBa := HBa.out
    refine ⟨hA.below hal, ⟨⟨[.slice none 0 0, .slice none 0 0, .slice none 0 0], ?_⟩, rfl, fun f hf => (by cases hf)⟩, fun k h1 h2 => by omega, fun k h1 => by omega, fun k h1 => by have := hb3.size; omega, below_step hb4 hal (Nat.le_refl _), ⟨rfl, rfl, fun k cs hk => by simp at hk⟩⟩
    refine ⟨by rw [hR]; exact Blk.new w3 _ _, rfl, fun k h1 => by simp; omega, fun j e sz m ys hj => ?_, fun i j e sz m ys e' sz' m' ys' v u hij hi hj hv hu => ?_⟩
    · match j, hj with
      | 0, hj => cases hj; exact ⟨_, rfl, RowW.empty _ _ _, fun k hk => (by cases hk)⟩
      | 1, hj => cases hj; exact ⟨_, rfl, RowW.empty _ _ _, fun k hk => (by cases hk)⟩
      | 2, hj => cases hj; exact ⟨_, rfl, RowW.empty _ _ _, fun k hk => (by cases hk)⟩
    · match i, hv with
      | 0, hv => cases hv; exact fun k hk => (by cases hk)
      | 1, hv => cases hv; exact fun k hk => (by cases hk)
      | 2, hv => cases hv; exact fun k hk => (by cases hk)
  clear hA hal hb4 hb3 HBa hs1 hb1
  go_wp2
  rw [← hR]
  clear hR
  generalize w3.alloc (.cells #[.slice none 0 0, .slice none 0 0, .slice none 0 0] 40) = w4 at *
  go_loopw [5, 6] (fun t i wr => ∃ (k : Nat) (Fa : Nat → Prop) (Ga : Nat) (L : List Slt) (fr : List Int) (Fb : Nat → Prop) (xs : List ByteArray) (ts : List Bool), i = .int .i64 k ∧ k ≤ n ∧ L.length ≤ k ∧ fr.length ≤ k ∧ t = .int .i64 ((L.length : Int) - fr.length) ∧ Hid (TwoR w wr Fa Ba Ga L fr Fb R xs ts)) (fun _ i _ => n - (intOf i).toNat)
  case atStart => exact ⟨0, _, _, [], [], _, _, _, rfl, Nat.zero_le _, Nat.le_refl _, Nat.le_refl _, rfl, T0⟩
  case round =>
    clear T0
    obtain ⟨k, Fa, Ga, L, fr, Fb, xs, ts, rfl, hkn, hLk, hfk, rfl, HT⟩ := hrel
    obtain ⟨m, hm1, hm2⟩ : ∃ m : Int, m = (L.length : Int) - fr.length ∧ -301 ≤ m ∧ m ≤ 301 := ⟨_, rfl, by omega, by omega⟩
    have HM : Hid (m = (L.length : Int) - fr.length) := hm1
    rw [← hm1]
    clear hm1
    by_cases hlt : k < n
    · rcases HK.out with h | ⟨b, off, rfl, hbl, hc⟩
      · have := HN.out; rw [h] at this; simp at this; omega
      have hq := (hc k (by rw [HN.out]; exact hlt)).1.below HT.out.below hbl
      have hok := (hc k (by rw [HN.out]; exact hlt)).2
      clear hc
      generalize A5.aAt qs k = q at *
      obtain ⟨d, nn, s⟩ := q
      obtain ⟨c0, c1, c2⟩ := hq
      simp only at c0 c1 c2
      have hnn : -2147483648 ≤ nn ∧ nn ≤ 2147483647 := hok.2.1
      clear hok
      have hbr : b < wr.heap.size := Nat.lt_of_lt_of_le hbl HT.out.below.size
      have nFa : Hid (¬ Fa b) := fun h => by have := HT.out.fa b h; omega
      have nFb : Hid (¬ Fb b) := fun h => by have := HT.out.fb b h; omega
      by_cases hd0 : d = 0
      · subst hd0
        obtain ⟨ti, hti1, hti2⟩ : ∃ ti, ti = takeI L fr ∧ 1 ≤ ti ∧ ti ≤ 302 := ⟨_, rfl, (takeI_bd HT.out.a.fr).1, by have := (takeI_bd HT.out.a.fr).2; omega⟩
        have C5 : Hid (Calls Try.prog 16 #[.pointer (some ⟨Ba, 0, none⟩), .string s] wr.drew fun e w' => ∃ F' G', e = .returned (.int .i32 ti) ∧ AS.Ar w' F' Ba G' (takeL L fr ([.string s], true)) fr.dropLast ∧ Step Fa F' wr.drew w') := by rw [hti1]; exact AS.take_any s (HT.out.a.below ((Below.refl _ wr).drew)) (by omega) (by omega)
        have C6 : Hid (∀ w5 F5, Step Fa F5 wr.drew w5 → Calls Try.prog 17 #[.pointer (some ⟨R, 0, none⟩), .string s] w5 fun e w' => ∃ F', e = .returned (.int .i64 ti) ∧ Rf w' F' R (takeG xs fr s) (takeG ts fr true) fr.dropLast ∧ Step Fb F' w5 w') := fun w5 F5 hS => by rw [hti1]; exact rtake_any s (HT.out.rAfter (step_undrew hS)) HT.out.sim.len (by omega) (by rw [HT.out.sim.len]; omega)
        clear hti1
        have hwr : IntKind.i64.wrap ti = ti := by simp [IntKind.wrap, IntKind.bits, IntKind.signed]; omega
        go_wp2
        go_region_held3 (fun w' => w'.cell? ⟨b, off + k * 3 + 2, none⟩ = some (.string s))
          (first
            | go_keep
            | (rw [hS6.cell (Nat.lt_of_lt_of_le hbr hS5.size) nFb.out]; assumption)
            | (rw [hS5.cell (by simpa using hbr) nFa.out]; assumption))
          (first
            | (go_at_call 16; refine C5.out.mono ?_; rintro e w5 ⟨F5, G5, rfl, hA5, hS5⟩)
            | (go_at_call 17; refine (C6.out w5 F5 hS5).mono ?_; rintro e w6 ⟨F6, rfl, hB6, hS6⟩))
        have T5 : Hid (TwoR w w6 F5 Ba G5 (takeL L fr ([.string s], true)) fr.dropLast F6 R (takeG xs fr s) (takeG ts fr true)) := HT.out.both hA5 (step_undrew hS5) hB6 hS6 (HT.out.sim.take fr s)
        have hlen := takeL_len L fr ([.string s], true)
        have hle := takeL_le L fr ([.string s], true)
        have HM5 : Hid (m + 1 = ((takeL L fr ([.string s], true)).length : Int) - fr.dropLast.length) := by show _ = _; rw [HM.out]; omega
        have HB5 : Hid ((takeL L fr ([.string s], true)).length ≤ k + 1 ∧ fr.dropLast.length ≤ k + 1) := ⟨by omega, by omega⟩
        clear hA5 hS5 hB6 hS6 hlen hle C5 C6 HT
        have hn5 := T5.out.sim.len
        obtain ⟨n5, hn6⟩ : ∃ n5 : Nat, n5 = (takeL L fr ([.string s], true)).length := ⟨_, rfl⟩
        have HLn : Hid (∀ nq, Calls Try.prog 22 #[.pointer (some ⟨Ba, 0, none⟩)] (w6.drewN nq) fun e w' => e = .returned (.int .i64 (m + 1)) ∧ ∃ q, w' = (w6.drewN nq).drewN q) := fun nq => by rw [HM5.out]; exact AS.len_any (T5.out.a.drewN nq) (by have := HB5.out; omega) (by have := HB5.out; omega)
        have HSl : Hid (∀ nq, Calls Try.prog 23 #[.pointer (some ⟨Ba, 0, none⟩)] (w6.drewN nq) fun e w' => e = .returned (.int .i64 n5) ∧ w' = w6.drewN nq) := fun nq => by rw [hn6]; exact AS.slots_any (T5.out.a.drewN nq)
        obtain ⟨ax, cx, hx0⟩ := T5.out.b.texts
        rw [hn5, ← hn6] at hx0
        clear hn5 hn6
        go_wp2
        go_quiet (first | (go_at_call 22; exact Calls.quiet_of (HLn.out _)) | (go_at_call 23; exact Calls.quiet_of_same (HSl.out _)))
        go_wp2
        go_roundw
        case rel => exact ⟨k + 1, _, _, _, _, _, _, _, by go_num, by omega, by have := HB5.out; omega, by have := HB5.out; omega, by rw [← HM5.out], T5.out.drewN nq⟩
        case measure => simp [intOf]; omega
      · by_cases hd1 : d = 1
        · subst hd1
          cases hT : isT L nn with
          | true =>
            have HI : Hid (isT L nn = true) := hT
            have HJ : Hid (isR ts nn = true) := (HT.out.sim.is nn).trans hT
            clear hT
            go_wp2_with fail
            refine (rdrop_yes HT.out.b nn HJ.out (by rw [HT.out.sim.len]; omega) (by omega)).mono ?_
            rintro e w5 ⟨F5, rfl, hB5, hS5⟩
            have A5' : Hid (AS.Ar w5 Fa Ba Ga L fr) := HT.out.aAfter hS5
            have c1' := (hS5.cell (o := off + k * 3 + 1) hbr nFb.out).trans c1
            go_wp2_with fail
            refine (AS.free_at A5'.out nn HI.out (by omega) (by omega)).mono ?_
            rintro e w6 ⟨F6, rfl, hA6, hS6⟩
            have T5 : Hid (TwoR w w6 F6 Ba Ga (L.set (nn - 1).toNat ([.string ⟨#[]⟩], false)) (fr ++ [nn]) F5 R xs (ts.set (nn - 1).toNat false)) := HT.out.turned hB5 hS5 hA6 hS6 (HT.out.sim.drop _ _)
            have HM5 : Hid (m - 1 = ((L.set (nn - 1).toNat (([.string ⟨#[]⟩], false) : Slt)).length : Int) - (fr ++ [nn]).length) := by show _ = _; rw [HM.out]; simp; omega
            have HB5 : Hid ((L.set (nn - 1).toNat (([.string ⟨#[]⟩], false) : Slt)).length ≤ k + 1 ∧ (fr ++ [nn]).length ≤ k + 1) := ⟨by simp; omega, by simp; omega⟩
            clear hB5 hS5 hA6 hS6 A5' HT HI HJ c1'
            have hn5 := T5.out.sim.len
            obtain ⟨n5, hn6⟩ : ∃ n5 : Nat, n5 = (L.set (nn - 1).toNat (([.string ⟨#[]⟩], false) : Slt)).length := ⟨_, rfl⟩
            have HLn : Hid (∀ nq, Calls Try.prog 22 #[.pointer (some ⟨Ba, 0, none⟩)] (w6.drewN nq) fun e w' => e = .returned (.int .i64 (m - 1)) ∧ ∃ q, w' = (w6.drewN nq).drewN q) := fun nq => by rw [HM5.out]; exact AS.len_any (T5.out.a.drewN nq) (by have := HB5.out; omega) (by have := HB5.out; omega)
            have HSl : Hid (∀ nq, Calls Try.prog 23 #[.pointer (some ⟨Ba, 0, none⟩)] (w6.drewN nq) fun e w' => e = .returned (.int .i64 n5) ∧ w' = w6.drewN nq) := fun nq => by rw [hn6]; exact AS.slots_any (T5.out.a.drewN nq)
            obtain ⟨ax, cx, hx0⟩ := T5.out.b.texts
            rw [hn5, ← hn6] at hx0
            clear hn5 hn6
            go_wp2
            go_quiet (first | (go_at_call 22; exact Calls.quiet_of (HLn.out _)) | (go_at_call 23; exact Calls.quiet_of_same (HSl.out _)))
            go_wp2
            go_roundw
            case rel => exact ⟨k + 1, _, _, _, _, _, _, _, by go_num, by omega, by have := HB5.out; omega, by have := HB5.out; omega, by rw [← HM5.out], T5.out.drewN nq⟩
            case measure => simp [intOf]; omega
          | false =>
            have HI : Hid (isT L nn = false) := hT
            have HJ : Hid (isR ts nn = false) := (HT.out.sim.is nn).trans hT
            clear hT
            go_wp2_with fail
            refine (rdrop_no HT.out.b nn (by omega) HJ.out (by rw [HT.out.sim.len]; omega)).mono ?_
            rintro e w5 ⟨rfl, rfl⟩
            go_wp2_with fail
            refine (AS.free_no HT.out.a hnn HI.out (by omega)).mono ?_
            rintro e w6 ⟨rfl, rfl⟩
            have T5 := HT
            have HM5 := HM
            have HB5 : Hid (L.length ≤ k + 1 ∧ fr.length ≤ k + 1) := ⟨by omega, by omega⟩
            clear HT HI HJ
            have hn5 := T5.out.sim.len
            obtain ⟨n5, hn6⟩ : ∃ n5 : Nat, n5 = (L).length := ⟨_, rfl⟩
            have HLn : Hid (∀ nq, Calls Try.prog 22 #[.pointer (some ⟨Ba, 0, none⟩)] (w6.drewN nq) fun e w' => e = .returned (.int .i64 (m)) ∧ ∃ q, w' = (w6.drewN nq).drewN q) := fun nq => by rw [HM5.out]; exact AS.len_any (T5.out.a.drewN nq) (by have := HB5.out; omega) (by have := HB5.out; omega)
            have HSl : Hid (∀ nq, Calls Try.prog 23 #[.pointer (some ⟨Ba, 0, none⟩)] (w6.drewN nq) fun e w' => e = .returned (.int .i64 n5) ∧ w' = w6.drewN nq) := fun nq => by rw [hn6]; exact AS.slots_any (T5.out.a.drewN nq)
            obtain ⟨ax, cx, hx0⟩ := T5.out.b.texts
            rw [hn5, ← hn6] at hx0
            clear hn5 hn6
            go_wp2
            go_quiet (first | (go_at_call 22; exact Calls.quiet_of (HLn.out _)) | (go_at_call 23; exact Calls.quiet_of_same (HSl.out _)))
            go_wp2
            go_roundw
            case rel => exact ⟨k + 1, _, _, _, _, _, _, _, by go_num, by omega, by have := HB5.out; omega, by have := HB5.out; omega, by rw [← HM5.out], T5.out.drewN nq⟩
            case measure => simp [intOf]; omega
        · by_cases hd2 : d = 2
          · subst hd2
            cases hT : isT L nn with
            | true =>
              obtain ⟨kk, cs, rfl, hkk⟩ := isT_iff.1 hT
              have HI : Hid (isT L ((kk : Int) + 1) = true) := hT
              have HJ : Hid (isR ts ((kk : Int) + 1) = true) := (HT.out.sim.is _).trans hT
              obtain ⟨x0, hx0, hcs⟩ := HT.out.sim.th kk cs hkk
              subst hcs
              have hkl := (List.getElem?_eq_some_iff.1 hkk).1
              have s0 : wr.cell? ⟨Ga, kk * 2, none⟩ = some (.string x0) := by simpa using (HT.out.a.slot hkk).2.2.1 0 _ rfl
              have f0 : wr.frozen? ⟨Ga, kk * 2, none⟩ = false := (HT.out.a.slot hkk).2.2.2 _
              have hFG := (HT.out.a.slot hkk).1
              have A6 : AS.Ar (wr.setCell ⟨Ga, kk * 2, none⟩ (.string s)) Fa Ba Ga (L.set kk ([.string s], true)) fr := HT.out.a.put (k := kk) (j := 0) (s' := ([.string s], true)) hkk (by omega) rfl rfl
              have S6 : Step Fa Fa wr (wr.setCell ⟨Ga, kk * 2, none⟩ (.string s)) := HT.out.a.step_set hFG _ _
              have R6 := HT.out.rAfter S6
              obtain ⟨gx, cx, x1, x2, x3, hgx, hX⟩ := R6.text hx0
              have c2' := (S6.cell (o := off + k * 3 + 2) hbr nFa.out).trans c2
              have hRl : R < (wr.setCell ⟨Ga, kk * 2, none⟩ (.string s)).heap.size := cell_lt x1
              have hbl2 : b < (wr.setCell ⟨Ga, kk * 2, none⟩ (.string s)).heap.size := cell_lt c2'
              rw [HT.out.sim.len] at x1
              have g1 : ∀ q : Grow (wr.setCell ⟨Ga, kk * 2, none⟩ (.string s)), q.w.cell? ⟨R, 0, none⟩ = some (.slice (some ⟨gx, 0, none⟩) L.length cx) := fun q => Grow.cell hRl x1 q
              have g2 : ∀ q : Grow (wr.setCell ⟨Ga, kk * 2, none⟩ (.string s)), q.w.cell? ⟨b, off + k * 3 + 2, none⟩ = some (.string s) := fun q => Grow.cell hbl2 c2' q
              have hne := Grow.ne (wr.setCell ⟨Ga, kk * 2, none⟩ (.string s))
              have HA6 : Hid (AS.Ar (wr.setCell ⟨Ga, kk * 2, none⟩ (.string s)) Fa Ba Ga (L.set kk ([.string s], true)) fr) := A6
              have HS6 : Hid (Step Fa Fa wr (wr.setCell ⟨Ga, kk * 2, none⟩ (.string s))) := S6
              have HR6 : Hid (Rf (wr.setCell ⟨Ga, kk * 2, none⟩ (.string s)) Fb R xs ts fr) := R6
              have Hx0 : Hid (xs[kk]? = some x0) := hx0
              have Hsim : Hid (Sim (L.set kk ([.string s], true)) (xs.set kk s) ts) := HT.out.sim.write s hkk
              have HC := AS.at_yes HT.out.a hT hkl (by omega)
              clear hT hkk hx0 A6 S6 R6 hX x1 x2 x3
              go_wp2_with fail
              refine HC.mono ?_
              rintro e w5 ⟨rfl, rfl⟩
              clear HC
              go_wp2_with fail
              refine (ris_any HT.out.b ((kk : Int) + 1) (by omega) (by rw [HT.out.sim.len]; omega)).mono ?_
              rintro e w6 ⟨rfl, rfl⟩
              rw [HJ.out]
              go_wp2
              refine wp_region_tail 12 (by kernel_rfl) (by kernel_rfl) (by kernel_rfl) ?_
              simp only [stillAt, stillOp, List.set_cons_succ, List.set_cons_zero, List.getElem?_cons_succ, List.getElem?_cons_zero, Option.getD_some, List.drop_succ_cons, List.drop_zero]
              repeat (go_big_quiet_step (fail))
              refine wpQuiet_nil ?_
              rintro w7 ⟨⟨_, hb7⟩, rfl⟩
              obtain ⟨gx', cx', y1, y2, y3, hgx', hX⟩ := (HR6.out.below hb7).text Hx0.out
              have e1 := y1.symm.trans (g1 ⟨w7, hb7⟩)
              simp at e1
              obtain ⟨rfl, _, rfl⟩ := e1
              obtain ⟨hB8, hS8⟩ := hX s
              have T5 : Hid (TwoR w (w7.setCell ⟨gx', kk, none⟩ (.string s)) Fa Ba Ga (L.set kk ([.string s], true)) fr Fb R (xs.set kk s) ts) := HT.out.both (HA6.out.below hb7) (HS6.out.trans (Step.of_below hb7)) hB8 hS8 Hsim.out
              have HM5 : Hid (m = ((L.set kk (([.string s], true) : Slt)).length : Int) - fr.length) := by show _ = _; rw [HM.out]; simp
              have HB5 : Hid ((L.set kk (([.string s], true) : Slt)).length ≤ k + 1 ∧ fr.length ≤ k + 1) := ⟨by simp; omega, by omega⟩
              clear hB8 hS8 hX HT HA6 HS6 HR6 Hsim Hx0 HI HJ y1 g1 g2 hne hb7
              have hn5 := T5.out.sim.len
              obtain ⟨n5, hn6⟩ : ∃ n5 : Nat, n5 = (L.set kk (([.string s], true) : Slt)).length := ⟨_, rfl⟩
              have HLn : Hid (∀ nq, Calls Try.prog 22 #[.pointer (some ⟨Ba, 0, none⟩)] ((w7.setCell ⟨gx', kk, none⟩ (.string s)).drewN nq) fun e w' => e = .returned (.int .i64 (m)) ∧ ∃ q, w' = ((w7.setCell ⟨gx', kk, none⟩ (.string s)).drewN nq).drewN q) := fun nq => by rw [HM5.out]; exact AS.len_any (T5.out.a.drewN nq) (by have := HB5.out; omega) (by have := HB5.out; omega)
              have HSl : Hid (∀ nq, Calls Try.prog 23 #[.pointer (some ⟨Ba, 0, none⟩)] ((w7.setCell ⟨gx', kk, none⟩ (.string s)).drewN nq) fun e w' => e = .returned (.int .i64 n5) ∧ w' = (w7.setCell ⟨gx', kk, none⟩ (.string s)).drewN nq) := fun nq => by rw [hn6]; exact AS.slots_any (T5.out.a.drewN nq)
              obtain ⟨ax, cx, hx0⟩ := T5.out.b.texts
              rw [hn5, ← hn6] at hx0
              clear hn5 hn6
              go_wp2
              go_quiet (first | (go_at_call 22; exact Calls.quiet_of (HLn.out _)) | (go_at_call 23; exact Calls.quiet_of_same (HSl.out _)))
              go_wp2
              go_roundw
              case rel => exact ⟨k + 1, _, _, _, _, _, _, _, by go_num, by omega, by have := HB5.out; omega, by have := HB5.out; omega, by rw [← HM5.out], T5.out.drewN nq⟩
              case measure => simp [intOf]; omega
            | false =>
              have HI : Hid (isT L nn = false) := hT
              have HJ : Hid (isR ts nn = false) := (HT.out.sim.is nn).trans hT
              clear hT
              go_wp2_with fail
              refine (AS.at_no HT.out.a hnn HI.out (by omega)).mono ?_
              rintro e w6 ⟨rfl, rfl⟩
              go_wp2_with fail
              refine (ris_any HT.out.b nn (by omega) (by rw [HT.out.sim.len]; omega)).mono ?_
              rintro e w7 ⟨rfl, rfl⟩
              rw [HJ.out]
              have T5 := HT
              have HM5 := HM
              have HB5 : Hid (L.length ≤ k + 1 ∧ fr.length ≤ k + 1) := ⟨by omega, by omega⟩
              clear HT HI HJ
              have hn5 := T5.out.sim.len
              obtain ⟨n5, hn6⟩ : ∃ n5 : Nat, n5 = (L).length := ⟨_, rfl⟩
              have HLn : Hid (∀ nq, Calls Try.prog 22 #[.pointer (some ⟨Ba, 0, none⟩)] (w7.drewN nq) fun e w' => e = .returned (.int .i64 (m)) ∧ ∃ q, w' = (w7.drewN nq).drewN q) := fun nq => by rw [HM5.out]; exact AS.len_any (T5.out.a.drewN nq) (by have := HB5.out; omega) (by have := HB5.out; omega)
              have HSl : Hid (∀ nq, Calls Try.prog 23 #[.pointer (some ⟨Ba, 0, none⟩)] (w7.drewN nq) fun e w' => e = .returned (.int .i64 n5) ∧ w' = w7.drewN nq) := fun nq => by rw [hn6]; exact AS.slots_any (T5.out.a.drewN nq)
              obtain ⟨ax, cx, hx0⟩ := T5.out.b.texts
              rw [hn5, ← hn6] at hx0
              clear hn5 hn6
              go_wp2
              go_quiet (first | (go_at_call 22; exact Calls.quiet_of (HLn.out _)) | (go_at_call 23; exact Calls.quiet_of_same (HSl.out _)))
              go_wp2
              go_roundw
              case rel => exact ⟨k + 1, _, _, _, _, _, _, _, by go_num, by omega, by have := HB5.out; omega, by have := HB5.out; omega, by rw [← HM5.out], T5.out.drewN nq⟩
              case measure => simp [intOf]; omega
          · have d0 : (d == 0) = false := by simpa using hd0
            have d1 : (d == 1) = false := by simpa using hd1
            have d2 : (d == 2) = false := by simpa using hd2
            have T5 := HT
            have HM5 := HM
            have HB5 : Hid (L.length ≤ k + 1 ∧ fr.length ≤ k + 1) := ⟨by omega, by omega⟩
            clear HT
            have hn5 := T5.out.sim.len
            obtain ⟨n5, hn6⟩ : ∃ n5 : Nat, n5 = (L).length := ⟨_, rfl⟩
            have HLn : Hid (∀ nq, Calls Try.prog 22 #[.pointer (some ⟨Ba, 0, none⟩)] (wr.drewN nq) fun e w' => e = .returned (.int .i64 (m)) ∧ ∃ q, w' = (wr.drewN nq).drewN q) := fun nq => by rw [HM5.out]; exact AS.len_any (T5.out.a.drewN nq) (by have := HB5.out; omega) (by have := HB5.out; omega)
            have HSl : Hid (∀ nq, Calls Try.prog 23 #[.pointer (some ⟨Ba, 0, none⟩)] (wr.drewN nq) fun e w' => e = .returned (.int .i64 n5) ∧ w' = wr.drewN nq) := fun nq => by rw [hn6]; exact AS.slots_any (T5.out.a.drewN nq)
            obtain ⟨ax, cx, hx0⟩ := T5.out.b.texts
            rw [hn5, ← hn6] at hx0
            clear hn5 hn6
            go_wp2
            go_quiet (first | (go_at_call 22; exact Calls.quiet_of (HLn.out _)) | (go_at_call 23; exact Calls.quiet_of_same (HSl.out _)))
            go_wp2
            go_roundw
            case rel => exact ⟨k + 1, _, _, _, _, _, _, _, by go_num, by omega, by have := HB5.out; omega, by have := HB5.out; omega, by rw [← HM5.out], T5.out.drewN nq⟩
            case measure => simp [intOf]; omega
    · obtain rfl : k = n := by omega
      go_wp2
      generalize wr = wp at *
      go_loopw [10] (fun i wr => ∃ (j : Nat), i = .int .i64 ((j : Int) - 1) ∧ j ≤ L.length + 3 ∧ Hid (TwoR w wr Fa Ba Ga L fr Fb R xs ts)) (fun i _ => 400 - (intOf i + 1).toNat)
      case atStart => exact ⟨0, rfl, Nat.zero_le _, HT⟩
      case round =>
        clear HT
        obtain ⟨j, rfl, hj, HT⟩ := hrel
        obtain ⟨ax, cx, hx0⟩ := HT.out.b.texts
        rw [HT.out.sim.len] at hx0
        by_cases hlt2 : (j : Int) - 1 ≤ (L.length : Int) + 1
        · cases hT : isT L ((j : Int) - 1) with
          | true =>
            obtain ⟨kk, cs, hjk, hkk⟩ := isT_iff.1 hT
            obtain ⟨x0, hxk, hcs⟩ := HT.out.sim.th kk cs hkk
            subst hcs
            obtain rfl : j = kk + 2 := by omega
            have HI : Hid (isT L ((kk : Int) + 1) = true) := by rw [← hjk]; exact hT
            have HIs : Hid (∀ nq, Calls Try.prog 21 #[.pointer (some ⟨R, 0, none⟩), .int .i64 ((kk : Int) + 1)] (wr.drewN nq) fun e w' => e = .returned (.bool true) ∧ w' = wr.drewN nq) := fun nq => by
              have h1 := ris_any (HT.out.b.drewN nq) ((kk : Int) + 1) (by omega) (by rw [HT.out.sim.len]; omega)
              rw [HT.out.sim.is, HI.out] at h1
              exact h1
            have hkl := (List.getElem?_eq_some_iff.1 hkk).1
            have s0 : wr.cell? ⟨Ga, kk * 2, none⟩ = some (.string x0) := by simpa using (HT.out.a.slot hkk).2.2.1 0 _ rfl
            obtain ⟨gx, cx', x1, x2, _⟩ := HT.out.b.text hxk
            rw [hx0] at x1
            rw [HT.out.sim.len] at x1
            simp at x1
            obtain ⟨rfl, rfl⟩ := x1
            have e2 : ((kk + 2 : Nat) : Int) - 1 = (kk : Int) + 1 := by omega
            rw [e2] at hlt2 ⊢
            clear hT hkk hxk hjk e2
            go_wp2_with fail
            refine (AS.at_yes HT.out.a HI.out hkl (by omega)).mono ?_
            rintro e w6 ⟨rfl, rfl⟩
            go_wp2
            go_quiet ((go_at_call 21; exact Calls.quiet_of_same (HIs.out _)))
            go_wp2
            go_roundw
            case rel => exact ⟨kk + 3, by go_num, by omega, HT.out.drewN nq⟩
            case measure => simp [intOf]; omega
          | false =>
            have HI : Hid (isT L ((j : Int) - 1) = false) := hT
            have HIs : Hid (∀ nq, Calls Try.prog 21 #[.pointer (some ⟨R, 0, none⟩), .int .i64 ((j : Int) - 1)] (wr.drewN nq) fun e w' => e = .returned (.bool false) ∧ w' = wr.drewN nq) := fun nq => by
              have h1 := ris_any (HT.out.b.drewN nq) ((j : Int) - 1) (by omega) (by rw [HT.out.sim.len]; omega)
              rw [HT.out.sim.is, HI.out] at h1
              exact h1
            clear hT
            go_wp2_with fail
            refine (AS.at_no HT.out.a (by omega) HI.out (by omega)).mono ?_
            rintro e w6 ⟨rfl, rfl⟩
            go_wp2
            go_quiet ((go_at_call 21; exact Calls.quiet_of_same (HIs.out _)))
            go_wp2
            go_roundw
            case rel => exact ⟨j + 1, by go_num, by omega, HT.out.drewN nq⟩
            case measure => simp [intOf]; omega
        · go_wp2
          go_ret
          exact ⟨rfl, HT.out.below⟩
end Go.Proofs.Ytklkbjfdejpdpaa
