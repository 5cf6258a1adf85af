/- The walk of ArenaKeeps. -/
import Derived.Test.YtaoeifeiendfhaaArenaInv
import Derived.Test.YtaoeifeiendfhaaOpens
import Derived.Deep.RegionHeld3
import Derived.Deep.DrawnRows
namespace Go.Proofs.Ytaoeifeiendfhaa
open Go.RowKit
set_option linter.unusedVariables false

theorem keep_idx {x : Int} {t : Nat} (hx : 0 ≤ x ∧ x ≤ 65535) (ht : 0 < t) : ∃ kk : Nat, kk < t ∧ (wrap64 (IntKind.u16.wrap (x.tdiv 2))).tmod (t : Int) = kk := by
  have h1 : x.tdiv 2 = x / 2 := Int.tdiv_eq_ediv_of_nonneg hx.1
  have h2 : IntKind.u16.wrap (x / 2) = x / 2 := by simp [IntKind.wrap, IntKind.bits, IntKind.signed]; omega
  have h3 : wrap64 (x / 2) = x / 2 := by simp [wrap64]; omega
  rw [h1, h2, h3, Int.tmod_eq_emod_of_nonneg (by omega)]
  have h4 := Int.emod_nonneg (x / 2) (show (t : Int) ≠ 0 by omega)
  have h5 := Int.emod_lt_of_pos (x / 2) (show (0 : Int) < t by omega)
  exact ⟨((x / 2) % t).toNat, by omega, by omega⟩

set_option maxRecDepth 100000 in
set_option maxHeartbeats 1600000 in
theorem akeep_walk (ao : Option Addr) (cap : Nat) (xs : List Int) (w : World) (hk : NAt .u16 w ao xs) (hx : ∀ i, i < xs.length → 0 ≤ lAt xs i ∧ lAt xs i ≤ 65535) (hl : xs.length ≤ 9223372036854775807) :
    Calls Try.prog 3 #[.slice ao xs.length cap] w fun e w' => e = .returned (.bool true) ∧ Below w.heap.size w w' := by
  have HK : Hid (NAt .u16 w ao xs) := hk
  have HX : Hid (∀ i, i < xs.length → 0 ≤ lAt xs i ∧ lAt xs i ≤ 65535) := hx
  clear hk hx
  obtain ⟨n, hn⟩ : ∃ n, n = xs.length := ⟨_, rfl⟩
  have HN : Hid (xs.length = n) := hn.symm
  rw [← hn] at hl ⊢
  clear hn
  obtain ⟨i0, hi, hz0, hz1, hz2⟩ := info_parts AI.infoN
  obtain ⟨j0, ji, jz0, jz1, jz2⟩ := info_parts infoNi
  go_enter Try.func3, Try.ntmps3
  go_wp2_with fail
  refine (aawake_any _).mono ?_
  rintro e w1 ⟨rfl, hb1⟩
  have hs1 := hb1.size
  by_cases hn3 : 300 < n
  · go_wp2
    go_ret
    exact ⟨rfl, hb1⟩
  go_wp2_with fail
  refine (AI.new_any w1).mono ?_
  rintro e w2 ⟨rfl, hA, hb2⟩
  obtain ⟨B, hB⟩ : ∃ B, B = w1.heap.size := ⟨_, rfl⟩
  rw [← hB] at hA ⊢
  have K0 : Hid (Kp w w2 (fun k => k = B) B 0 [] [] (.slice none 0 0) (.slice none 0 0) [] []) := ⟨hA, RowW.empty _ _ _, RowW.empty _ _ _, fun k hk => (by cases hk), fun k hk => (by cases hk), fun k hk => (by cases hk), fun k hk => by omega, below_step hb1 hb2 (Nat.le_refl _)⟩
  have E0 : Hid (Kept [] [] [] []) := Kept.empty
  clear hA hB hs1 hb1 hb2
  go_wp2
  go_loopw [4, 5, 6, 7] (fun a b mo i wr => ∃ (k : Nat) (Fa : Nat → Prop) (G : Nat) (L : List Slt) (fr tk th : List Int) (vt vh : Value), vt = a ∧ vh = b ∧ mo = .int .i64 L.length ∧ i = .int .i64 k ∧ k ≤ n ∧ L.length ≤ k ∧ Hid (Kp w wr Fa B G L fr vt vh tk th) ∧ Hid (Kept L fr tk th)) (fun _ _ _ i _ => n - (intOf i).toNat)
  case atStart => exact ⟨0, _, _, [], [], [], [], _, _, rfl, rfl, rfl, rfl, Nat.zero_le _, Nat.le_refl _, K0, E0⟩
  case round =>
    clear K0 E0
    obtain ⟨k, Fa, G, L, fr, tk, th, vt, vh, rfl, rfl, rfl, rfl, hkn, hLk, KP, KE⟩ := hrel
    by_cases hlt : k < n
    · rcases HK.out with h | ⟨b, off, rfl, hbl, hc⟩
      · have := HN.out; rw [h] at this; simp at this; omega
      have hq := (KP.out.below.cell (p := ⟨b, off + k, none⟩) hbl).trans (hc k (by rw [HN.out]; exact hlt))
      have hxb := HX.out k (by rw [HN.out]; exact hlt)
      clear hc
      generalize lAt xs k = x at *
      obtain ⟨ta, tc, htf⟩ := KP.out.t.form
      obtain ⟨ha, hc', hhf⟩ := KP.out.h.form
      subst htf hhf
      obtain ⟨t, ht⟩ : ∃ t, tk.length = t := ⟨_, rfl⟩
      have HT : Hid (tk.length = t) := ht
      have hcnt := KE.out.cnt
      have hthl := KE.out.len
      rw [hthl, ht] at KP ⊢
      rw [ht] at hcnt
      obtain ⟨mo, hmo⟩ : ∃ mo : Nat, mo = L.length := ⟨_, rfl⟩
      rw [← hmo] at hcnt hLk ⊢
      have HMo : Hid (mo = L.length) := hmo
      clear hmo ht hthl
      by_cases hx2 : x % 2 = 0
      · have hx3 : (x % 2 == 0) = true := by simpa using hx2
        obtain ⟨ti, hti1, hti2⟩ : ∃ ti, ti = takeI L fr ∧ 1 ≤ ti ∧ ti ≤ 302 := ⟨_, rfl, (takeI_bdk KP.out.a.fr).1, by have := (takeI_bdk KP.out.a.fr).2; have := HMo.out; omega⟩
        have C5 : Hid (Calls Try.prog 11 #[.pointer (some ⟨B, 0, none⟩), .int .i64 k] wr fun e w' => ∃ F' G', e = .returned (.int .i32 ti) ∧ AI.Ar w' F' B G' (takeL L fr ([.int .i64 k], true)) fr.dropLast ∧ Step Fa F' wr w') := by rw [hti1]; exact AI.take_any (k : Int) KP.out.a (by have := HMo.out; omega) (by have := HMo.out; omega)
        have HNew : Hid (∀ i, i < tk.length → lAt tk i ≠ ti) := by rw [hti1]; exact fun i hi => KE.out.new hi
        have KE8 : Hid (Kept (takeL L fr ([.int .i64 k], true)) fr.dropLast (tk ++ [ti]) (th ++ [(k : Int)])) := by rw [hti1]; exact KE.out.take k
        have HMs := KE.out.most ([.int .i64 (k : Int)], true)
        rw [HT.out, ← HMo.out] at HMs
        have HMs' : Hid ((mo < t + 1 → (takeL L fr ([.int .i64 (k : Int)], true)).length = t + 1) ∧ (¬ mo < t + 1 → (takeL L fr ([.int .i64 (k : Int)], true)).length = mo)) := HMs
        have Hthl : Hid (th.length = t) := KE.out.len.trans HT.out
        clear hti1 HMs
        go_wp2_with fail
        refine C5.out.mono ?_
        rintro e w5 ⟨F5, G5, rfl, hA5, hS5⟩
        have KP5 : Hid (Kp w w5 F5 B G5 (takeL L fr ([.int .i64 k], true)) fr.dropLast (.slice ta t tc) (.slice ha t hc') tk th) := KP.out.arena hA5 hS5
        clear hA5 hS5 KP C5 KE
        go_wp2
        clear hq
        generalize wr = wo at *
        go_loopw [9] (fun i wr => ∃ j : Nat, i = .int .i64 j ∧ j ≤ t ∧ wr = w5) (fun i _ => t - (intOf i).toNat)
        case atStart => exact ⟨0, rfl, Nat.zero_le _, rfl⟩
        case round =>
          obtain ⟨j, rfl, hj, rfl⟩ := hrel
          by_cases hjt : j < t
          · have hj5 : j < tk.length := by rw [HT.out]; exact hjt
            have r1 := KP5.out.t
            rw [HT.out] at r1
            obtain ⟨gt, ct, hgt⟩ := r1.led (by omega)
            simp at hgt
            obtain ⟨rfl, rfl⟩ := hgt
            have c2 : wr.cell? ⟨gt, j, none⟩ = some (.int .i32 (lAt tk j)) := r1.cell (i32s_at hj5)
            have hne : (lAt tk j == ti) = false := by simpa using HNew.out j hj5
            clear r1 hj5
            go_wp2
            go_roundw
            case rel => exact ⟨j + 1, by go_num, by omega, by first | rfl | trivial⟩
            case measure => simp [intOf]; omega
          · have r1 := KP5.out.t
            rw [HT.out] at r1
            have H1 : Hid (RowW (wr.alloc (.cells #[.int .i32 ti] 21)) 21 1 (.slice ta t tc) t (i32s tk)) := r1.kept fun q hq => heap_alloc_old _ _ q (r1.lt hq)
            clear r1
            go_wp2_with (at_builtin; refine wpList_append_row _ rfl _ _ 26 rfl 21 i0 (.int .i32 0) 1 4 Try.underlying26 hi hz0 hz1 hz2 rfl _ _ _ rfl H1.out ⟨wr.heap.size, 0, none⟩ 1 1 [.int .i32 ti] rfl rfl (World.news_of_block (Blk.new wr _ _)) (by simp [Value.oneCell']) (by omega) (by unfold maxLen; omega) (by omega) ?_)
            intro g2 cap2 w7 hown2 hgrow2 hat2 hlt2
            rw [← i32s_snoc] at hown2
            have HT5 : Hid ((tk ++ [ti]).length = t + 1) := by show _ = _; rw [List.length_append, HT.out]; rfl
            have KP7 : Hid (Kp w w7 F5 B G5 (takeL L fr ([.int .i64 k], true)) fr.dropLast (.slice (some ⟨g2, 0, none⟩) (t + 1) cap2) (.slice ha t hc') (tk ++ [ti]) th) := KP5.out.numbers ((Below.refl _ _).alloc (Nat.le_refl _) _) hgrow2 (by rw [HT5.out]; exact hown2) (fun q hq => by cases hq; exact hat2.imp id (fun h => by show wr.heap.size ≤ g2; omega))
            have r2 := KP7.out.h
            rw [Hthl.out] at r2
            have H2 : Hid (RowW (w7.alloc (.cells #[.int .i64 k] 3)) 3 1 (.slice ha t hc') t (nInts th)) := r2.kept fun q hq => heap_alloc_old _ _ q (r2.lt hq)
            clear r2 hown2 hgrow2 hat2 hlt2 H1 KP5
            go_wp2_with (at_builtin; refine wpList_append_row _ rfl _ _ 27 rfl 3 j0 (.int .i64 0) 1 8 Try.underlying27 ji jz0 jz1 jz2 rfl _ _ _ rfl H2.out ⟨w7.heap.size, 0, none⟩ 1 1 [.int .i64 k] rfl rfl (World.news_of_block (Blk.new w7 _ _)) (by simp [Value.oneCell']) (by omega) (by unfold maxLen; omega) (by omega) ?_)
            intro g3 cap3 w8 hown3 hgrow3 hat3 hlt3
            rw [← nInts_snoc] at hown3
            have KP8 : Hid (Kp w w8 F5 B G5 (takeL L fr ([.int .i64 k], true)) fr.dropLast (.slice (some ⟨g2, 0, none⟩) (t + 1) cap2) (.slice (some ⟨g3, 0, none⟩) (t + 1) cap3) (tk ++ [ti]) (th ++ [(k : Int)])) := KP7.out.things ((Below.refl _ _).alloc (Nat.le_refl _) _) hgrow3 (by rw [List.length_append, Hthl.out]; exact hown3) (fun q hq => by cases hq; exact hat3.imp id (fun h => by show w7.heap.size ≤ g3; omega))
            clear hown3 hgrow3 hat3 hlt3 KP7 H2 HNew HT HMo Hthl
            have hq : True := trivial
            generalize takeL L fr ([.int .i64 (k : Int)], true) = L5 at *
            generalize fr.dropLast = fr5 at *
            generalize tk ++ [ti] = tk5 at *
            generalize th ++ [(k : Int)] = th5 at *
            by_cases hmx : mo < t + 1
            · have hmxi : (mo : Int) < (t : Int) + 1 := by omega
              obtain ⟨m6, hm6⟩ : ∃ m6 : Int, m6 = (t : Int) + 1 := ⟨_, rfl⟩
              have HMo5 : Hid (m6 = L5.length) := by show _ = _; have := HMs'.out.1 hmx; omega
              have HB5 : Hid (L5.length ≤ k + 1) := by show _ ≤ _; have := HMs'.out.1 hmx; omega
              clear HMs'
              have HM6 : Hid (m6 = (t : Int) + 1) := hm6
              clear hm6
              go_wp2
              rw [← HM6.out]
              clear hq
              generalize wr = wo at *
              go_loopw [11] (fun i wr => ∃ j : Nat, i = .int .i64 j ∧ j ≤ (t + 1) ∧ Hid (Kp w wr F5 B G5 L5 fr5 (.slice (some ⟨g2, 0, none⟩) (t + 1) cap2) (.slice (some ⟨g3, 0, none⟩) (t + 1) cap3) tk5 th5)) (fun i _ => (t + 1) - (intOf i).toNat)
              case atStart => exact ⟨0, rfl, Nat.zero_le _, KP8⟩
              case round =>
                clear KP8
                obtain ⟨j, rfl, hj, KP8⟩ := hrel
                have hmb := HMo5.out
                have hlb := HB5.out
                have ht5 : (t + 1) ≤ 302 := by have h := KE8.out.cnt; rw [HT5.out] at h; omega
                by_cases hjt : j < (t + 1)
                · have hj5 : j < tk5.length := by rw [HT5.out]; exact hjt
                  have Hjt : Hid (j < (t + 1)) := hjt
                  obtain ⟨hj1, hj2⟩ := KE8.out.is j hj5
                  have hj3 := KE8.out.le hj5
                  have HjT : Hid (isT L5 (lAt tk5 j) = true) := KE8.out.isT hj5
                  have c1 : wr.cell? ⟨G5, (lAt tk5 j - 1).toNat * 2, none⟩ = some (.int .i64 (lAt th5 j)) := by simpa using (KP8.out.a.slot hj2).2.2.1 0 _ rfl
                  have r1 := KP8.out.t
                  rw [HT5.out] at r1
                  have r2 := KP8.out.h
                  rw [KE8.out.len, HT5.out] at r2
                  have c2 : wr.cell? ⟨g2, j, none⟩ = some (.int .i32 (lAt tk5 j)) := r1.cell (i32s_at hj5)
                  have c3 : wr.cell? ⟨g3, j, none⟩ = some (.int .i64 (lAt th5 j)) := r2.cell (nInts_at (by rw [KE8.out.len]; exact hj5))
                  clear hj2 r1 r2 hj5
                  generalize lAt tk5 j = tj at *
                  generalize lAt th5 j = hj' at *
                  obtain ⟨q, rfl⟩ : ∃ q : Nat, tj = (q : Int) + 1 := ⟨(tj - 1).toNat, by omega⟩
                  rw [show ((q : Int) + 1 - 1).toNat = q by omega] at c1
                  have hql : q < L5.length := by omega
                  have hwr : IntKind.i64.wrap ((q : Int) + 1) = (q : Int) + 1 := by simp [IntKind.wrap, IntKind.bits, IntKind.signed]; omega
                  have gd1 : decide ((q : Int) + 1 < 1) = false := by simp; omega
                  have gd2 : decide ((m6 : Int) < (q : Int) + 1) = false := by simp; omega
                  clear hmb
                  go_wp2_with fail
                  refine (AI.at_yes KP8.out.a HjT.out hql (by omega)).mono ?_
                  rintro e w9 ⟨rfl, rfl⟩
                  go_wp2
                  go_quiet (fail)
                  go_wp2
                  go_roundw
                  case rel => exact ⟨j + 1, by go_num, by have := Hjt.out; omega, KP8.out.drewN nq⟩
                  case measure => have := Hjt.out; simp [intOf]; omega
                · have hcnt5 := KE8.out.cnt
                  rw [HT5.out] at hcnt5
                  have HC5 : Hid ((t + 1) + fr5.length = L5.length) := hcnt5
                  clear hmb hcnt5
                  go_wp2_with fail
                  refine (AI.len_any KP8.out.a (by omega) (by have := HC5.out; omega)).mono ?_
                  rintro e w9 ⟨rfl, nq, rfl⟩
                  rw [show (L5.length : Int) - fr5.length = (t + 1) by have := HC5.out; omega]
                  go_wp2_with fail
                  refine (AI.slots_any (KP8.out.a.drewN nq)).mono ?_
                  rintro e w10 ⟨rfl, rfl⟩
                  rw [← HMo5.out]
                  go_wp2
                  go_roundw
                  case rel => exact ⟨k + 1, F5, G5, L5, fr5, tk5, th5, _, _, rfl, rfl, by rw [← HMo5.out], by go_num, by omega, by omega, KP8.out.drewN nq, KE8⟩
                  case measure => simp [intOf]; omega
            · have hmxi : ¬ (mo : Int) < (t : Int) + 1 := by omega
              have HMo5 : Hid ((mo : Int) = L5.length) := by show _ = _; have := HMs'.out.2 hmx; omega
              have HB5 : Hid (L5.length ≤ k + 1) := by show _ ≤ _; have := HMs'.out.2 hmx; omega
              clear HMs'
              go_wp2
              clear hq
              generalize wr = wo at *
              go_loopw [11] (fun i wr => ∃ j : Nat, i = .int .i64 j ∧ j ≤ (t + 1) ∧ Hid (Kp w wr F5 B G5 L5 fr5 (.slice (some ⟨g2, 0, none⟩) (t + 1) cap2) (.slice (some ⟨g3, 0, none⟩) (t + 1) cap3) tk5 th5)) (fun i _ => (t + 1) - (intOf i).toNat)
              case atStart => exact ⟨0, rfl, Nat.zero_le _, KP8⟩
              case round =>
                clear KP8
                obtain ⟨j, rfl, hj, KP8⟩ := hrel
                have hmb := HMo5.out
                have hlb := HB5.out
                have ht5 : (t + 1) ≤ 302 := by have h := KE8.out.cnt; rw [HT5.out] at h; omega
                by_cases hjt : j < (t + 1)
                · have hj5 : j < tk5.length := by rw [HT5.out]; exact hjt
                  have Hjt : Hid (j < (t + 1)) := hjt
                  obtain ⟨hj1, hj2⟩ := KE8.out.is j hj5
                  have hj3 := KE8.out.le hj5
                  have HjT : Hid (isT L5 (lAt tk5 j) = true) := KE8.out.isT hj5
                  have c1 : wr.cell? ⟨G5, (lAt tk5 j - 1).toNat * 2, none⟩ = some (.int .i64 (lAt th5 j)) := by simpa using (KP8.out.a.slot hj2).2.2.1 0 _ rfl
                  have r1 := KP8.out.t
                  rw [HT5.out] at r1
                  have r2 := KP8.out.h
                  rw [KE8.out.len, HT5.out] at r2
                  have c2 : wr.cell? ⟨g2, j, none⟩ = some (.int .i32 (lAt tk5 j)) := r1.cell (i32s_at hj5)
                  have c3 : wr.cell? ⟨g3, j, none⟩ = some (.int .i64 (lAt th5 j)) := r2.cell (nInts_at (by rw [KE8.out.len]; exact hj5))
                  clear hj2 r1 r2 hj5
                  generalize lAt tk5 j = tj at *
                  generalize lAt th5 j = hj' at *
                  obtain ⟨q, rfl⟩ : ∃ q : Nat, tj = (q : Int) + 1 := ⟨(tj - 1).toNat, by omega⟩
                  rw [show ((q : Int) + 1 - 1).toNat = q by omega] at c1
                  have hql : q < L5.length := by omega
                  have hwr : IntKind.i64.wrap ((q : Int) + 1) = (q : Int) + 1 := by simp [IntKind.wrap, IntKind.bits, IntKind.signed]; omega
                  have gd1 : decide ((q : Int) + 1 < 1) = false := by simp; omega
                  have gd2 : decide (((mo : Int) : Int) < (q : Int) + 1) = false := by simp; omega
                  clear hmb
                  go_wp2_with fail
                  refine (AI.at_yes KP8.out.a HjT.out hql (by omega)).mono ?_
                  rintro e w9 ⟨rfl, rfl⟩
                  go_wp2
                  go_quiet (fail)
                  go_wp2
                  go_roundw
                  case rel => exact ⟨j + 1, by go_num, by have := Hjt.out; omega, KP8.out.drewN nq⟩
                  case measure => have := Hjt.out; simp [intOf]; omega
                · have hcnt5 := KE8.out.cnt
                  rw [HT5.out] at hcnt5
                  have HC5 : Hid ((t + 1) + fr5.length = L5.length) := hcnt5
                  clear hmb hcnt5
                  go_wp2_with fail
                  refine (AI.len_any KP8.out.a (by omega) (by have := HC5.out; omega)).mono ?_
                  rintro e w9 ⟨rfl, nq, rfl⟩
                  rw [show (L5.length : Int) - fr5.length = (t + 1) by have := HC5.out; omega]
                  go_wp2_with fail
                  refine (AI.slots_any (KP8.out.a.drewN nq)).mono ?_
                  rintro e w10 ⟨rfl, rfl⟩
                  rw [← HMo5.out]
                  go_wp2
                  go_roundw
                  case rel => exact ⟨k + 1, F5, G5, L5, fr5, tk5, th5, _, _, rfl, rfl, by rw [← HMo5.out], by go_num, by omega, by omega, KP8.out.drewN nq, KE8⟩
                  case measure => simp [intOf]; omega
      · have hx3 : (x % 2 == 0) = false := by simpa using hx2
        by_cases ht0 : 0 < t
        · obtain ⟨kk, hkk, hkx⟩ := keep_idx hxb ht0
          have hkl : kk < tk.length := by rw [HT.out]; exact hkk
          have hkI := KE.out.isT hkl
          have hkle := KE.out.le hkl
          obtain ⟨gt, ct, hgt⟩ := KP.out.t.led (by omega)
          obtain ⟨gh, ch, hgh⟩ := KP.out.h.led (by rw [KE.out.len]; omega)
          simp at hgt hgh
          obtain ⟨rfl, z1, rfl⟩ := hgt
          obtain ⟨rfl, z2, rfl⟩ := hgh
          clear z1 z2
          have ct0 : wr.cell? ⟨gt, kk, none⟩ = some (.int .i32 (lAt tk kk)) := by
            have h := KP.out.t
            rw [HT.out] at h
            exact h.cell (i32s_at hkl)
          obtain ⟨tq, htq⟩ : ∃ tq, tq = lAt tk kk := ⟨_, rfl⟩
          rw [← htq] at ct0 hkI hkle
          have HTq : Hid (tq = lAt tk kk) := htq
          have HI : Hid (isT L tq = true) := hkI
          have hL3 : L.length ≤ 302 := by have := HMo.out; omega
          clear htq hkI
          go_wp2_with fail
          refine (AI.free_at KP.out.a tq HI.out (by omega) (by omega)).mono ?_
          rintro e w5 ⟨F5, rfl, hA5, hS5⟩
          have KP5 : Hid (Kp w w5 F5 B G (L.set (tq - 1).toNat ([.int .i64 0], false)) (fr ++ [tq]) (.slice (some ⟨gt, 0, none⟩) t tc) (.slice (some ⟨gh, 0, none⟩) t hc') tk th) := KP.out.arena hA5 hS5
          have HI5 : Hid (isT (L.set (tq - 1).toNat ([.int .i64 0], false)) tq = false) := by
            obtain ⟨q, cs, rfl, hq⟩ := isT_iff.1 HI.out
            rw [show ((q : Int) + 1 - 1).toNat = q by omega]
            exact isT_at (s := ([.int .i64 0], false)) (by rw [List.getElem?_set_self (List.getElem?_eq_some_iff.1 hq).1])
          have ct5 : w5.cell? ⟨gt, kk, none⟩ = some (.int .i32 tq) := (hS5.cell (cell_lt ct0) ((KP.out.dt gt rfl).1)).trans ct0
          clear hA5 hS5 KP
          go_wp2_with fail
          refine (AI.free_no KP5.out.a (by omega) HI5.out (by simp; omega)).mono ?_
          rintro e w6 ⟨rfl, rfl⟩
          have KR : Kp w w6 F5 B G (L.set (tq - 1).toNat ([.int .i64 0], false)) (fr ++ [tq]) (.slice (some ⟨gt, 0, none⟩) t tc) (.slice (some ⟨gh, 0, none⟩) t hc') tk th := KP5.out
          have rt := KR.t
          rw [HT.out] at rt
          have rh := KR.h
          rw [KE.out.len, HT.out] at rh
          have mt := rt.room
          have mh := rh.room
          have RT : Hid (RowW w6 21 1 (.slice (some ⟨gt, 0, none⟩) t tc) t (i32s tk)) := rt
          have RH : Hid (RowW w6 3 1 (.slice (some ⟨gh, 0, none⟩) t hc') t (nInts th)) := rh
          have q1 : (0 : Int) ≤ (kk : Int) := by omega
          have q2 : (kk : Int) ≤ (tc : Int) := by omega
          have q3 : (kk : Int) ≤ (hc' : Int) := by omega
          have q4 : (0 : Int) ≤ (kk : Int) + 1 := by omega
          have q5 : (kk : Int) + 1 ≤ (t : Int) := by omega
          have q6 : IntKind.i64.wrap ((kk : Int) + 1) = (kk : Int) + 1 := by simp [IntKind.wrap, IntKind.bits, IntKind.signed]; omega
          clear KR rt rh ct0 ct5
          by_cases hlast : kk + 1 < t
          · have q7 : ¬ (tc = kk + 1) := by omega
            have q8 : ¬ (hc' = kk + 1) := by omega
            go_wp2
            go_region_held3 (fun w' => True) (first | go_keep | trivial)
              (first
                | (refine step_append_row _ (by rfl) (.tmp 88) (.tmp 92) 26 (by rfl) 21 i0 (.int .i32 0) 1 4 Try.underlying26 hi hz0 hz1 hz2 rfl (.slice (some ⟨gt, 0, none⟩) kk kk) kk (i32s (tk.take kk)) (by rfl) (RT.out.front (by omega)).drewn ⟨gt, kk + 1, none⟩ (t - (kk + 1)) (tc - (kk + 1)) (i32s (tk.drop (kk + 1))) (by rfl) (by rw [i32s_len, List.length_drop, HT.out, Nat.mul_one]) (RT.out.rest) (i32s_one _) (by omega) (by unfold maxLen; omega) (by omega) ?_; intro g2 cap2 w7 hown2 hgrow2 hat2 hlt2)
                | fail)
            rw [← i32s_cut] at hown2
            have KP7 : Hid (Kp w w7 F5 B G (L.set (tq - 1).toNat ([.int .i64 0], false)) (fr ++ [tq]) (.slice (some ⟨g2, 0, none⟩) (kk + (t - (kk + 1))) cap2) (.slice (some ⟨gh, 0, none⟩) t hc') (cutL tk kk) th) :=
              KP5.out.numbers (W1 := w6.drew) (Below.refl _ _).drew hgrow2 (by rw [show (cutL tk kk).length = kk + (t - (kk + 1)) by rw [cutL_len hkl, HT.out]; omega]; exact hown2) (fun q hq => by cases hq; exact hat2.imp id (fun h => by subst h; exact Nat.le_refl _))
            have rh7 := KP7.out.h
            rw [KE.out.len, HT.out] at rh7
            have RH7 : Hid (RowW w7 3 1 (.slice (some ⟨gh, 0, none⟩) t hc') t (nInts th)) := rh7
            clear hown2 hgrow2 hat2 hlt2 rh7 KP5 RT RH
            go_wp2
            go_region_held3 (fun w' => True) (first | go_keep | trivial)
              (first
                | (refine step_append_row _ (by rfl) (.tmp 97) (.tmp 101) 27 (by rfl) 3 j0 (.int .i64 0) 1 8 Try.underlying27 ji jz0 jz1 jz2 rfl (.slice (some ⟨gh, 0, none⟩) kk kk) kk (nInts (th.take kk)) (by rfl) (RH7.out.front (by omega)).drewn ⟨gh, kk + 1, none⟩ (t - (kk + 1)) (hc' - (kk + 1)) (nInts (th.drop (kk + 1))) (by rfl) (by rw [nInts_len, List.length_drop, KE.out.len, HT.out, Nat.mul_one]) (RH7.out.rest) (nInts_one _) (by omega) (by unfold maxLen; omega) (by omega) ?_; intro g3 cap3 w8 hown3 hgrow3 hat3 hlt3)
                | fail)
            rw [← nInts_cut] at hown3
            have KP8 : Hid (Kp w w8 F5 B G (L.set (tq - 1).toNat ([.int .i64 0], false)) (fr ++ [tq]) (.slice (some ⟨g2, 0, none⟩) (kk + (t - (kk + 1))) cap2) (.slice (some ⟨g3, 0, none⟩) (kk + (t - (kk + 1))) cap3) (cutL tk kk) (cutL th kk)) :=
              KP7.out.things (W1 := w7.drew) (Below.refl _ _).drew hgrow3 (by rw [show (cutL th kk).length = kk + (t - (kk + 1)) by rw [cutL_len (by rw [KE.out.len]; exact hkl), KE.out.len, HT.out]; omega]; exact hown3) (fun q hq => by cases hq; exact hat3.imp id (fun h => by subst h; exact Nat.le_refl _))
            clear hown3 hgrow3 hat3 hlt3 KP7 RH7
            have KE8 : Hid (Kept (L.set (tq - 1).toNat ([.int .i64 0], false)) (fr ++ [tq]) (cutL tk kk) (cutL th kk)) := by
              have := KE.out.free hkl [.int .i64 0]
              rw [← HTq.out] at this
              exact this
            have HT5 : Hid ((cutL tk kk).length = kk + (t - (kk + 1))) := by show _ = _; rw [cutL_len hkl, HT.out]; omega
            have HB5 : Hid ((L.set (tq - 1).toNat (([.int .i64 0], false) : Slt)).length ≤ k + 1) := by show _ ≤ _; rw [List.length_set]; have := HMo.out; omega
            have HMo5 : Hid ((mo : Int) = (L.set (tq - 1).toNat (([.int .i64 0], false) : Slt)).length) := by show _ = _; rw [List.length_set]; have := HMo.out; omega
            clear KE HT HMo HTq HI HI5 hkl q1 q2 q3 q4 q5 q6 q7 q8 mt mh hkx hcnt
            generalize kk + (t - (kk + 1)) = t5 at *
            generalize L.set (tq - 1).toNat ([.int .i64 0], false) = L5 at *
            generalize fr ++ [tq] = fr5 at *
            generalize cutL tk kk = tk5 at *
            generalize cutL th kk = th5 at *
            have hG5 : ∃ G5, G5 = G := ⟨_, rfl⟩
            obtain ⟨G5, hG⟩ := hG5
            rw [← hG] at KP8
            clear hG
            go_wp2
            clear hq
            generalize wr = wo at *
            go_loopw [11] (fun i wr => ∃ j : Nat, i = .int .i64 j ∧ j ≤ t5 ∧ Hid (Kp w wr F5 B G5 L5 fr5 (.slice (some ⟨g2, 0, none⟩) t5 cap2) (.slice (some ⟨g3, 0, none⟩) t5 cap3) tk5 th5)) (fun i _ => t5 - (intOf i).toNat)
            case atStart => exact ⟨0, rfl, Nat.zero_le _, KP8⟩
            case round =>
              clear KP8
              obtain ⟨j, rfl, hj, KP8⟩ := hrel
              have hmb := HMo5.out
              have hlb := HB5.out
              have ht5 : t5 ≤ 302 := by have h := KE8.out.cnt; rw [HT5.out] at h; omega
              by_cases hjt : j < t5
              · have hj5 : j < tk5.length := by rw [HT5.out]; exact hjt
                have Hjt : Hid (j < t5) := hjt
                obtain ⟨hj1, hj2⟩ := KE8.out.is j hj5
                have hj3 := KE8.out.le hj5
                have HjT : Hid (isT L5 (lAt tk5 j) = true) := KE8.out.isT hj5
                have c1 : wr.cell? ⟨G5, (lAt tk5 j - 1).toNat * 2, none⟩ = some (.int .i64 (lAt th5 j)) := by simpa using (KP8.out.a.slot hj2).2.2.1 0 _ rfl
                have r1 := KP8.out.t
                rw [HT5.out] at r1
                have r2 := KP8.out.h
                rw [KE8.out.len, HT5.out] at r2
                have c2 : wr.cell? ⟨g2, j, none⟩ = some (.int .i32 (lAt tk5 j)) := r1.cell (i32s_at hj5)
                have c3 : wr.cell? ⟨g3, j, none⟩ = some (.int .i64 (lAt th5 j)) := r2.cell (nInts_at (by rw [KE8.out.len]; exact hj5))
                clear hj2 r1 r2 hj5
                generalize lAt tk5 j = tj at *
                generalize lAt th5 j = hj' at *
                obtain ⟨q, rfl⟩ : ∃ q : Nat, tj = (q : Int) + 1 := ⟨(tj - 1).toNat, by omega⟩
                rw [show ((q : Int) + 1 - 1).toNat = q by omega] at c1
                have hql : q < L5.length := by omega
                have hwr : IntKind.i64.wrap ((q : Int) + 1) = (q : Int) + 1 := by simp [IntKind.wrap, IntKind.bits, IntKind.signed]; omega
                have gd1 : decide ((q : Int) + 1 < 1) = false := by simp; omega
                have gd2 : decide (((mo : Int) : Int) < (q : Int) + 1) = false := by simp; omega
                clear hmb
                go_wp2_with fail
                refine (AI.at_yes KP8.out.a HjT.out hql (by omega)).mono ?_
                rintro e w9 ⟨rfl, rfl⟩
                go_wp2
                go_quiet (fail)
                go_wp2
                go_roundw
                case rel => exact ⟨j + 1, by go_num, by have := Hjt.out; omega, KP8.out.drewN nq⟩
                case measure => have := Hjt.out; simp [intOf]; omega
              · have hcnt5 := KE8.out.cnt
                rw [HT5.out] at hcnt5
                have HC5 : Hid (t5 + fr5.length = L5.length) := hcnt5
                clear hmb hcnt5
                go_wp2_with fail
                refine (AI.len_any KP8.out.a (by omega) (by have := HC5.out; omega)).mono ?_
                rintro e w9 ⟨rfl, nq, rfl⟩
                rw [show (L5.length : Int) - fr5.length = t5 by have := HC5.out; omega]
                go_wp2_with fail
                refine (AI.slots_any (KP8.out.a.drewN nq)).mono ?_
                rintro e w10 ⟨rfl, rfl⟩
                rw [← HMo5.out]
                go_wp2
                go_roundw
                case rel => exact ⟨k + 1, F5, G5, L5, fr5, tk5, th5, _, _, rfl, rfl, by rw [← HMo5.out], by go_num, by omega, by omega, KP8.out.drewN nq, KE8⟩
                case measure => simp [intOf]; omega
          · obtain rfl : t = kk + 1 := by omega
            have HT5 : Hid ((cutL tk kk).length = kk) := by show _ = _; rw [cutL_len hkl, HT.out]; omega
            have HTh5 : Hid ((cutL th kk).length = kk) := by show _ = _; rw [cutL_len (by rw [KE.out.len]; exact hkl), KE.out.len, HT.out]; omega
            have HB5 : Hid ((L.set (tq - 1).toNat (([.int .i64 0], false) : Slt)).length ≤ k + 1) := by show _ ≤ _; rw [List.length_set]; have := HMo.out; omega
            have HMo5 : Hid ((mo : Int) = (L.set (tq - 1).toNat (([.int .i64 0], false) : Slt)).length) := by show _ = _; rw [List.length_set]; have := HMo.out; omega
            have KE8 : Hid (Kept (L.set (tq - 1).toNat ([.int .i64 0], false)) (fr ++ [tq]) (cutL tk kk) (cutL th kk)) := by
              have := KE.out.free hkl [.int .i64 0]
              rw [← HTq.out] at this
              exact this
            have KP6 : Hid (Kp w w6 F5 B G (L.set (tq - 1).toNat ([.int .i64 0], false)) (fr ++ [tq]) (.slice (some ⟨gt, 0, none⟩) kk kk) (.slice (some ⟨gh, 0, none⟩) kk kk) (cutL tk kk) (cutL th kk)) := by
              have e1 : i32s (cutL tk kk) = i32s (tk.take kk) := by rw [i32s_cut, List.drop_of_length_le (by rw [HT.out]; exact Nat.le_refl _)]; simp [i32s]
              have e2 : nInts (cutL th kk) = nInts (th.take kk) := by rw [nInts_cut, List.drop_of_length_le (by rw [KE.out.len, HT.out]; exact Nat.le_refl _)]; simp [nInts]
              have k1 := KP5.out.numbers (v' := .slice (some ⟨gt, 0, none⟩) kk kk) (tk' := cutL tk kk) (W1 := w6) (w2 := w6) (Below.refl _ _) ⟨rfl, rfl, rfl, Nat.le_refl _, fun _ _ _ => rfl⟩ (by rw [HT5.out, e1]; exact RT.out.front (by omega)) (fun q hq => .inl hq)
              exact k1.things (v' := .slice (some ⟨gh, 0, none⟩) kk kk) (th' := cutL th kk) (W1 := w6) (w2 := w6) (Below.refl _ _) ⟨rfl, rfl, rfl, Nat.le_refl _, fun _ _ _ => rfl⟩ (by rw [HTh5.out, e2]; exact RH.out.front (by omega)) (fun q hq => .inl hq)
            clear KE HT HMo HTq HI HI5 hkl KP5 RT RH HTh5 hkx hcnt
            generalize L.set (tq - 1).toNat ([.int .i64 0], false) = L5 at *
            generalize fr ++ [tq] = fr5 at *
            generalize cutL tk kk = tk5 at *
            generalize cutL th kk = th5 at *
            obtain ⟨G5, hG⟩ : ∃ G5, G5 = G := ⟨_, rfl⟩
            rw [← hG] at KP6
            clear hG
            go_wp2
            by_cases q7 : tc = kk + 1
            · by_cases q8 : hc' = kk + 1
              · go_quiet (fail)
                have KP7 : Hid (Kp w (w6.drewN nq) F5 B G5 L5 fr5 (.slice (some ⟨gt, 0, none⟩) kk kk) (.slice (some ⟨gh, 0, none⟩) kk kk) tk5 th5) := KP6.out.drewN nq
                clear KP6
                generalize w6.drewN nq = w7 at *
                go_wp2
                go_quiet (fail)
                have KP8 : Hid (Kp w (w7.drewN nq) F5 B G5 L5 fr5 (.slice (some ⟨gt, 0, none⟩) kk kk) (.slice (some ⟨gh, 0, none⟩) kk kk) tk5 th5) := KP7.out.drewN nq
                clear KP7 mt mh q1 q2 q3 q4 q5 q6 q7 q8
                generalize w7.drewN nq = w8 at *
                go_wp2
                clear hq
                generalize wr = wo at *
                go_loopw [11] (fun i wr => ∃ j : Nat, i = .int .i64 j ∧ j ≤ kk ∧ Hid (Kp w wr F5 B G5 L5 fr5 (.slice (some ⟨gt, 0, none⟩) kk kk) (.slice (some ⟨gh, 0, none⟩) kk kk) tk5 th5)) (fun i _ => kk - (intOf i).toNat)
                case atStart => exact ⟨0, rfl, Nat.zero_le _, KP8⟩
                case round =>
                  clear KP8
                  obtain ⟨j, rfl, hj, KP8⟩ := hrel
                  have hmb := HMo5.out
                  have hlb := HB5.out
                  have ht5 : kk ≤ 302 := by have h := KE8.out.cnt; rw [HT5.out] at h; omega
                  by_cases hjt : j < kk
                  · have hj5 : j < tk5.length := by rw [HT5.out]; exact hjt
                    have Hjt : Hid (j < kk) := hjt
                    obtain ⟨hj1, hj2⟩ := KE8.out.is j hj5
                    have hj3 := KE8.out.le hj5
                    have HjT : Hid (isT L5 (lAt tk5 j) = true) := KE8.out.isT hj5
                    have c1 : wr.cell? ⟨G5, (lAt tk5 j - 1).toNat * 2, none⟩ = some (.int .i64 (lAt th5 j)) := by simpa using (KP8.out.a.slot hj2).2.2.1 0 _ rfl
                    have r1 := KP8.out.t
                    rw [HT5.out] at r1
                    have r2 := KP8.out.h
                    rw [KE8.out.len, HT5.out] at r2
                    have c2 : wr.cell? ⟨gt, j, none⟩ = some (.int .i32 (lAt tk5 j)) := r1.cell (i32s_at hj5)
                    have c3 : wr.cell? ⟨gh, j, none⟩ = some (.int .i64 (lAt th5 j)) := r2.cell (nInts_at (by rw [KE8.out.len]; exact hj5))
                    clear hj2 r1 r2 hj5
                    generalize lAt tk5 j = tj at *
                    generalize lAt th5 j = hj' at *
                    obtain ⟨q, rfl⟩ : ∃ q : Nat, tj = (q : Int) + 1 := ⟨(tj - 1).toNat, by omega⟩
                    rw [show ((q : Int) + 1 - 1).toNat = q by omega] at c1
                    have hql : q < L5.length := by omega
                    have hwr : IntKind.i64.wrap ((q : Int) + 1) = (q : Int) + 1 := by simp [IntKind.wrap, IntKind.bits, IntKind.signed]; omega
                    have gd1 : decide ((q : Int) + 1 < 1) = false := by simp; omega
                    have gd2 : decide (((mo : Int) : Int) < (q : Int) + 1) = false := by simp; omega
                    clear hmb
                    go_wp2_with fail
                    refine (AI.at_yes KP8.out.a HjT.out hql (by omega)).mono ?_
                    rintro e w9 ⟨rfl, rfl⟩
                    go_wp2
                    go_quiet (fail)
                    go_wp2
                    go_roundw
                    case rel => exact ⟨j + 1, by go_num, by have := Hjt.out; omega, KP8.out.drewN nq⟩
                    case measure => have := Hjt.out; simp [intOf]; omega
                  · have hcnt5 := KE8.out.cnt
                    rw [HT5.out] at hcnt5
                    have HC5 : Hid (kk + fr5.length = L5.length) := hcnt5
                    clear hmb hcnt5
                    go_wp2_with fail
                    refine (AI.len_any KP8.out.a (by omega) (by have := HC5.out; omega)).mono ?_
                    rintro e w9 ⟨rfl, nq, rfl⟩
                    rw [show (L5.length : Int) - fr5.length = kk by have := HC5.out; omega]
                    go_wp2_with fail
                    refine (AI.slots_any (KP8.out.a.drewN nq)).mono ?_
                    rintro e w10 ⟨rfl, rfl⟩
                    rw [← HMo5.out]
                    go_wp2
                    go_roundw
                    case rel => exact ⟨k + 1, F5, G5, L5, fr5, tk5, th5, _, _, rfl, rfl, by rw [← HMo5.out], by go_num, by omega, by omega, KP8.out.drewN nq, KE8⟩
                    case measure => simp [intOf]; omega
              · go_quiet (fail)
                have KP7 : Hid (Kp w (w6.drewN nq) F5 B G5 L5 fr5 (.slice (some ⟨gt, 0, none⟩) kk kk) (.slice (some ⟨gh, 0, none⟩) kk kk) tk5 th5) := KP6.out.drewN nq
                clear KP6
                generalize w6.drewN nq = w7 at *
                go_wp2
                go_quiet (fail)
                have KP8 : Hid (Kp w (w7.drewN nq) F5 B G5 L5 fr5 (.slice (some ⟨gt, 0, none⟩) kk kk) (.slice (some ⟨gh, 0, none⟩) kk kk) tk5 th5) := KP7.out.drewN nq
                clear KP7 mt mh q1 q2 q3 q4 q5 q6 q7 q8
                generalize w7.drewN nq = w8 at *
                go_wp2
                clear hq
                generalize wr = wo at *
                go_loopw [11] (fun i wr => ∃ j : Nat, i = .int .i64 j ∧ j ≤ kk ∧ Hid (Kp w wr F5 B G5 L5 fr5 (.slice (some ⟨gt, 0, none⟩) kk kk) (.slice (some ⟨gh, 0, none⟩) kk kk) tk5 th5)) (fun i _ => kk - (intOf i).toNat)
                case atStart => exact ⟨0, rfl, Nat.zero_le _, KP8⟩
                case round =>
                  clear KP8
                  obtain ⟨j, rfl, hj, KP8⟩ := hrel
                  have hmb := HMo5.out
                  have hlb := HB5.out
                  have ht5 : kk ≤ 302 := by have h := KE8.out.cnt; rw [HT5.out] at h; omega
                  by_cases hjt : j < kk
                  · have hj5 : j < tk5.length := by rw [HT5.out]; exact hjt
                    have Hjt : Hid (j < kk) := hjt
                    obtain ⟨hj1, hj2⟩ := KE8.out.is j hj5
                    have hj3 := KE8.out.le hj5
                    have HjT : Hid (isT L5 (lAt tk5 j) = true) := KE8.out.isT hj5
                    have c1 : wr.cell? ⟨G5, (lAt tk5 j - 1).toNat * 2, none⟩ = some (.int .i64 (lAt th5 j)) := by simpa using (KP8.out.a.slot hj2).2.2.1 0 _ rfl
                    have r1 := KP8.out.t
                    rw [HT5.out] at r1
                    have r2 := KP8.out.h
                    rw [KE8.out.len, HT5.out] at r2
                    have c2 : wr.cell? ⟨gt, j, none⟩ = some (.int .i32 (lAt tk5 j)) := r1.cell (i32s_at hj5)
                    have c3 : wr.cell? ⟨gh, j, none⟩ = some (.int .i64 (lAt th5 j)) := r2.cell (nInts_at (by rw [KE8.out.len]; exact hj5))
                    clear hj2 r1 r2 hj5
                    generalize lAt tk5 j = tj at *
                    generalize lAt th5 j = hj' at *
                    obtain ⟨q, rfl⟩ : ∃ q : Nat, tj = (q : Int) + 1 := ⟨(tj - 1).toNat, by omega⟩
                    rw [show ((q : Int) + 1 - 1).toNat = q by omega] at c1
                    have hql : q < L5.length := by omega
                    have hwr : IntKind.i64.wrap ((q : Int) + 1) = (q : Int) + 1 := by simp [IntKind.wrap, IntKind.bits, IntKind.signed]; omega
                    have gd1 : decide ((q : Int) + 1 < 1) = false := by simp; omega
                    have gd2 : decide (((mo : Int) : Int) < (q : Int) + 1) = false := by simp; omega
                    clear hmb
                    go_wp2_with fail
                    refine (AI.at_yes KP8.out.a HjT.out hql (by omega)).mono ?_
                    rintro e w9 ⟨rfl, rfl⟩
                    go_wp2
                    go_quiet (fail)
                    go_wp2
                    go_roundw
                    case rel => exact ⟨j + 1, by go_num, by have := Hjt.out; omega, KP8.out.drewN nq⟩
                    case measure => have := Hjt.out; simp [intOf]; omega
                  · have hcnt5 := KE8.out.cnt
                    rw [HT5.out] at hcnt5
                    have HC5 : Hid (kk + fr5.length = L5.length) := hcnt5
                    clear hmb hcnt5
                    go_wp2_with fail
                    refine (AI.len_any KP8.out.a (by omega) (by have := HC5.out; omega)).mono ?_
                    rintro e w9 ⟨rfl, nq, rfl⟩
                    rw [show (L5.length : Int) - fr5.length = kk by have := HC5.out; omega]
                    go_wp2_with fail
                    refine (AI.slots_any (KP8.out.a.drewN nq)).mono ?_
                    rintro e w10 ⟨rfl, rfl⟩
                    rw [← HMo5.out]
                    go_wp2
                    go_roundw
                    case rel => exact ⟨k + 1, F5, G5, L5, fr5, tk5, th5, _, _, rfl, rfl, by rw [← HMo5.out], by go_num, by omega, by omega, KP8.out.drewN nq, KE8⟩
                    case measure => simp [intOf]; omega
            · by_cases q8 : hc' = kk + 1
              · go_quiet (fail)
                have KP7 : Hid (Kp w (w6.drewN nq) F5 B G5 L5 fr5 (.slice (some ⟨gt, 0, none⟩) kk kk) (.slice (some ⟨gh, 0, none⟩) kk kk) tk5 th5) := KP6.out.drewN nq
                clear KP6
                generalize w6.drewN nq = w7 at *
                go_wp2
                go_quiet (fail)
                have KP8 : Hid (Kp w (w7.drewN nq) F5 B G5 L5 fr5 (.slice (some ⟨gt, 0, none⟩) kk kk) (.slice (some ⟨gh, 0, none⟩) kk kk) tk5 th5) := KP7.out.drewN nq
                clear KP7 mt mh q1 q2 q3 q4 q5 q6 q7 q8
                generalize w7.drewN nq = w8 at *
                go_wp2
                clear hq
                generalize wr = wo at *
                go_loopw [11] (fun i wr => ∃ j : Nat, i = .int .i64 j ∧ j ≤ kk ∧ Hid (Kp w wr F5 B G5 L5 fr5 (.slice (some ⟨gt, 0, none⟩) kk kk) (.slice (some ⟨gh, 0, none⟩) kk kk) tk5 th5)) (fun i _ => kk - (intOf i).toNat)
                case atStart => exact ⟨0, rfl, Nat.zero_le _, KP8⟩
                case round =>
                  clear KP8
                  obtain ⟨j, rfl, hj, KP8⟩ := hrel
                  have hmb := HMo5.out
                  have hlb := HB5.out
                  have ht5 : kk ≤ 302 := by have h := KE8.out.cnt; rw [HT5.out] at h; omega
                  by_cases hjt : j < kk
                  · have hj5 : j < tk5.length := by rw [HT5.out]; exact hjt
                    have Hjt : Hid (j < kk) := hjt
                    obtain ⟨hj1, hj2⟩ := KE8.out.is j hj5
                    have hj3 := KE8.out.le hj5
                    have HjT : Hid (isT L5 (lAt tk5 j) = true) := KE8.out.isT hj5
                    have c1 : wr.cell? ⟨G5, (lAt tk5 j - 1).toNat * 2, none⟩ = some (.int .i64 (lAt th5 j)) := by simpa using (KP8.out.a.slot hj2).2.2.1 0 _ rfl
                    have r1 := KP8.out.t
                    rw [HT5.out] at r1
                    have r2 := KP8.out.h
                    rw [KE8.out.len, HT5.out] at r2
                    have c2 : wr.cell? ⟨gt, j, none⟩ = some (.int .i32 (lAt tk5 j)) := r1.cell (i32s_at hj5)
                    have c3 : wr.cell? ⟨gh, j, none⟩ = some (.int .i64 (lAt th5 j)) := r2.cell (nInts_at (by rw [KE8.out.len]; exact hj5))
                    clear hj2 r1 r2 hj5
                    generalize lAt tk5 j = tj at *
                    generalize lAt th5 j = hj' at *
                    obtain ⟨q, rfl⟩ : ∃ q : Nat, tj = (q : Int) + 1 := ⟨(tj - 1).toNat, by omega⟩
                    rw [show ((q : Int) + 1 - 1).toNat = q by omega] at c1
                    have hql : q < L5.length := by omega
                    have hwr : IntKind.i64.wrap ((q : Int) + 1) = (q : Int) + 1 := by simp [IntKind.wrap, IntKind.bits, IntKind.signed]; omega
                    have gd1 : decide ((q : Int) + 1 < 1) = false := by simp; omega
                    have gd2 : decide (((mo : Int) : Int) < (q : Int) + 1) = false := by simp; omega
                    clear hmb
                    go_wp2_with fail
                    refine (AI.at_yes KP8.out.a HjT.out hql (by omega)).mono ?_
                    rintro e w9 ⟨rfl, rfl⟩
                    go_wp2
                    go_quiet (fail)
                    go_wp2
                    go_roundw
                    case rel => exact ⟨j + 1, by go_num, by have := Hjt.out; omega, KP8.out.drewN nq⟩
                    case measure => have := Hjt.out; simp [intOf]; omega
                  · have hcnt5 := KE8.out.cnt
                    rw [HT5.out] at hcnt5
                    have HC5 : Hid (kk + fr5.length = L5.length) := hcnt5
                    clear hmb hcnt5
                    go_wp2_with fail
                    refine (AI.len_any KP8.out.a (by omega) (by have := HC5.out; omega)).mono ?_
                    rintro e w9 ⟨rfl, nq, rfl⟩
                    rw [show (L5.length : Int) - fr5.length = kk by have := HC5.out; omega]
                    go_wp2_with fail
                    refine (AI.slots_any (KP8.out.a.drewN nq)).mono ?_
                    rintro e w10 ⟨rfl, rfl⟩
                    rw [← HMo5.out]
                    go_wp2
                    go_roundw
                    case rel => exact ⟨k + 1, F5, G5, L5, fr5, tk5, th5, _, _, rfl, rfl, by rw [← HMo5.out], by go_num, by omega, by omega, KP8.out.drewN nq, KE8⟩
                    case measure => simp [intOf]; omega
              · go_quiet (fail)
                have KP7 : Hid (Kp w (w6.drewN nq) F5 B G5 L5 fr5 (.slice (some ⟨gt, 0, none⟩) kk kk) (.slice (some ⟨gh, 0, none⟩) kk kk) tk5 th5) := KP6.out.drewN nq
                clear KP6
                generalize w6.drewN nq = w7 at *
                go_wp2
                go_quiet (fail)
                have KP8 : Hid (Kp w (w7.drewN nq) F5 B G5 L5 fr5 (.slice (some ⟨gt, 0, none⟩) kk kk) (.slice (some ⟨gh, 0, none⟩) kk kk) tk5 th5) := KP7.out.drewN nq
                clear KP7 mt mh q1 q2 q3 q4 q5 q6 q7 q8
                generalize w7.drewN nq = w8 at *
                go_wp2
                clear hq
                generalize wr = wo at *
                go_loopw [11] (fun i wr => ∃ j : Nat, i = .int .i64 j ∧ j ≤ kk ∧ Hid (Kp w wr F5 B G5 L5 fr5 (.slice (some ⟨gt, 0, none⟩) kk kk) (.slice (some ⟨gh, 0, none⟩) kk kk) tk5 th5)) (fun i _ => kk - (intOf i).toNat)
                case atStart => exact ⟨0, rfl, Nat.zero_le _, KP8⟩
                case round =>
                  clear KP8
                  obtain ⟨j, rfl, hj, KP8⟩ := hrel
                  have hmb := HMo5.out
                  have hlb := HB5.out
                  have ht5 : kk ≤ 302 := by have h := KE8.out.cnt; rw [HT5.out] at h; omega
                  by_cases hjt : j < kk
                  · have hj5 : j < tk5.length := by rw [HT5.out]; exact hjt
                    have Hjt : Hid (j < kk) := hjt
                    obtain ⟨hj1, hj2⟩ := KE8.out.is j hj5
                    have hj3 := KE8.out.le hj5
                    have HjT : Hid (isT L5 (lAt tk5 j) = true) := KE8.out.isT hj5
                    have c1 : wr.cell? ⟨G5, (lAt tk5 j - 1).toNat * 2, none⟩ = some (.int .i64 (lAt th5 j)) := by simpa using (KP8.out.a.slot hj2).2.2.1 0 _ rfl
                    have r1 := KP8.out.t
                    rw [HT5.out] at r1
                    have r2 := KP8.out.h
                    rw [KE8.out.len, HT5.out] at r2
                    have c2 : wr.cell? ⟨gt, j, none⟩ = some (.int .i32 (lAt tk5 j)) := r1.cell (i32s_at hj5)
                    have c3 : wr.cell? ⟨gh, j, none⟩ = some (.int .i64 (lAt th5 j)) := r2.cell (nInts_at (by rw [KE8.out.len]; exact hj5))
                    clear hj2 r1 r2 hj5
                    generalize lAt tk5 j = tj at *
                    generalize lAt th5 j = hj' at *
                    obtain ⟨q, rfl⟩ : ∃ q : Nat, tj = (q : Int) + 1 := ⟨(tj - 1).toNat, by omega⟩
                    rw [show ((q : Int) + 1 - 1).toNat = q by omega] at c1
                    have hql : q < L5.length := by omega
                    have hwr : IntKind.i64.wrap ((q : Int) + 1) = (q : Int) + 1 := by simp [IntKind.wrap, IntKind.bits, IntKind.signed]; omega
                    have gd1 : decide ((q : Int) + 1 < 1) = false := by simp; omega
                    have gd2 : decide (((mo : Int) : Int) < (q : Int) + 1) = false := by simp; omega
                    clear hmb
                    go_wp2_with fail
                    refine (AI.at_yes KP8.out.a HjT.out hql (by omega)).mono ?_
                    rintro e w9 ⟨rfl, rfl⟩
                    go_wp2
                    go_quiet (fail)
                    go_wp2
                    go_roundw
                    case rel => exact ⟨j + 1, by go_num, by have := Hjt.out; omega, KP8.out.drewN nq⟩
                    case measure => have := Hjt.out; simp [intOf]; omega
                  · have hcnt5 := KE8.out.cnt
                    rw [HT5.out] at hcnt5
                    have HC5 : Hid (kk + fr5.length = L5.length) := hcnt5
                    clear hmb hcnt5
                    go_wp2_with fail
                    refine (AI.len_any KP8.out.a (by omega) (by have := HC5.out; omega)).mono ?_
                    rintro e w9 ⟨rfl, nq, rfl⟩
                    rw [show (L5.length : Int) - fr5.length = kk by have := HC5.out; omega]
                    go_wp2_with fail
                    refine (AI.slots_any (KP8.out.a.drewN nq)).mono ?_
                    rintro e w10 ⟨rfl, rfl⟩
                    rw [← HMo5.out]
                    go_wp2
                    go_roundw
                    case rel => exact ⟨k + 1, F5, G5, L5, fr5, tk5, th5, _, _, rfl, rfl, by rw [← HMo5.out], by go_num, by omega, by omega, KP8.out.drewN nq, KE8⟩
                    case measure => simp [intOf]; omega
        · have KE8 := KE
          have HT5 := HT
          have HMo5 : Hid ((mo : Int) = L.length) := by show _ = _; have := HMo.out; omega
          have HB5 : Hid (L.length ≤ k + 1) := by show _ ≤ _; have := HMo.out; omega
          have KP8 := KP
          clear KE HT HMo KP
          generalize L = L5 at *
          generalize fr = fr5 at *
          generalize tk = tk5 at *
          generalize th = th5 at *
          generalize Fa = F5 at *
          generalize G = G5 at *
          generalize t = t5 at *
          go_wp2
          clear hq
          generalize wr = wo at *
          go_loopw [11] (fun i wr => ∃ j : Nat, i = .int .i64 j ∧ j ≤ t5 ∧ Hid (Kp w wr F5 B G5 L5 fr5 (.slice ta t5 tc) (.slice ha t5 hc') tk5 th5)) (fun i _ => t5 - (intOf i).toNat)
          case atStart => exact ⟨0, rfl, Nat.zero_le _, KP8⟩
          case round =>
            clear KP8
            obtain ⟨j, rfl, hj, KP8⟩ := hrel
            have hmb := HMo5.out
            have hlb := HB5.out
            have ht5 : t5 ≤ 302 := by have h := KE8.out.cnt; rw [HT5.out] at h; omega
            by_cases hjt : j < t5
            · omega
            · have hcnt5 := KE8.out.cnt
              rw [HT5.out] at hcnt5
              have HC5 : Hid (t5 + fr5.length = L5.length) := hcnt5
              clear hmb hcnt5
              go_wp2_with fail
              refine (AI.len_any KP8.out.a (by omega) (by have := HC5.out; omega)).mono ?_
              rintro e w9 ⟨rfl, nq, rfl⟩
              rw [show (L5.length : Int) - fr5.length = t5 by have := HC5.out; omega]
              go_wp2_with fail
              refine (AI.slots_any (KP8.out.a.drewN nq)).mono ?_
              rintro e w10 ⟨rfl, rfl⟩
              rw [← HMo5.out]
              go_wp2
              go_roundw
              case rel => exact ⟨k + 1, F5, G5, L5, fr5, tk5, th5, _, _, rfl, rfl, by rw [← HMo5.out], by go_num, by omega, by omega, KP8.out.drewN nq, KE8⟩
              case measure => simp [intOf]; omega
    · go_wp2
      go_ret
      exact ⟨rfl, KP.out.below⟩
end Go.Proofs.Ytaoeifeiendfhaa
