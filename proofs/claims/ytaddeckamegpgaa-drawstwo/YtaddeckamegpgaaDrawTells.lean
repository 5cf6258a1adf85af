/- The walk of DrawsTell. -/
import Derived.Test.YtaddeckamegpgaaDrawAwake
import Derived.Test.YtaddeckamegpgaaDrawOpen
import Derived.Sort.CutIn
namespace Go.Proofs.Ytaddeckamegpgaa
open Go.RowKit
set_option linter.unusedVariables false

/-- A row of one's own, in its block. -/
theorem own_blk {W : World} {base n : Nat} {v : Value} {xs : List Int} (hn : xs.length = n) (h : W.ownsRow base 30 1 v n (us xs)) (h0 : v ≠ .slice none 0 0) :
    ∃ g cap cs, v = .slice (some ⟨g, 0, none⟩) n cap ∧ base ≤ g ∧ Blk W g 30 cs ∧ n ≤ cs.size ∧ UAt W (some ⟨g, 0, none⟩) xs := by
  subst hn
  have hc := h
  rcases h.2 with ⟨h, _⟩ | ⟨g, cap, cur, rfl, hb, hg, hn, _, hs, _⟩
  · exact absurd h h0
  · refine ⟨g, cap, cur, rfl, hb, hg, by omega, .inr ⟨g, 0, rfl, fun i hi => ?_⟩⟩
    have h1 := hc.cells rfl _ _ (us_at hi)
    rwa [add_eq] at h1

set_option maxRecDepth 100000 in
set_option maxHeartbeats 1600000 in
theorem dtell_walk (ao : Option Addr) (cap : Nat) (xs : List Int) (m : Int) (w : World) (hk : UAt w ao xs) (hw : Wu xs) (hl : xs.length ≤ 9223372036854775807) (hm : 0 ≤ m ∧ m ≤ 65535) :
    Calls Try.prog 4 #[.slice ao xs.length cap, .int .u16 m] w fun e w' => e = .returned (.bool true) ∧ Below w.heap.size w w' := by
  have HK : Hid (UAt w ao xs) := hk
  have HW : Hid (Wu xs) := hw
  clear hk hw
  obtain ⟨n, hn⟩ : ∃ n, n = xs.length := ⟨_, rfl⟩
  have HN : Hid (xs.length = n) := hn.symm
  rw [← hn] at hl ⊢
  clear hn
  by_cases hbig : 5000 < n ∨ 300 < m
  · go_enter Try.func4, Try.ntmps4
    go_wp2_with fail
    refine (dawake_any _).mono ?_
    rintro e w1 ⟨rfl, hb1⟩
    by_cases h5 : 5000 < n
    · go_wp2
      go_ret
      exact ⟨rfl, hb1⟩
    · have h3 : 300 < m := by omega
      go_wp2
      go_ret
      exact ⟨rfl, hb1⟩
  have h5 : n ≤ 5000 := by omega
  have h3 : m ≤ 300 := by omega
  clear hbig hl
  obtain ⟨i0, hi, hz0, hz1, hz2⟩ := info_parts Try.infoW
  rcases Option.eq_none_or_eq_some ao with rfl | ⟨ad, rfl⟩
  · have hxs : xs = [] := by
      rcases HK.out with h | ⟨b, off, h, _⟩
      · exact h
      · cases h
    subst hxs
    obtain rfl : n = 0 := HN.out.symm
    go_enter Try.func4, Try.ntmps4
    go_wp2_with fail
    refine (dawake_any _).mono ?_
    rintro e w1 ⟨rfl, hb1⟩
    have hs1 := hb1.size
    go_wp2_with fail
    refine (dnew_empty _ 0 _).mono ?_
    rintro e w3 ⟨B, G, rfl, hBB, hGG, hD, hb3⟩
    simp at hBB hGG
    have hB := below_step (below_new hb1 (Nat.le_refl _) _) hb3 (Nat.le_refl _)
    have HD : Hid (Drw w3 B G [] 0) := hD
    clear hD
    go_wp2
    refine wp_loop_rounds 1 ?_
    rw [rounds_succ]
    go_wp2
    go_loopw [9] (fun i wr => ∃ k : Nat, (k : Int) ≤ m ∧ i = .int .i64 k ∧ Hid (Drw wr B G [] k) ∧ Below w.heap.size w wr) (fun i _ => m.toNat - (intOf i).toNat)
    case atStart => exact ⟨0, by omega, rfl, HD, hB⟩
    case round =>
      clear HD hB
      obtain ⟨k', hkm, rfl, HD, hB⟩ := hrel
      by_cases hlt' : (k' : Int) < m
      · go_wp2_with fail
        refine (dlen_any HD.out).mono ?_
        rintro e w5 ⟨rfl, rfl⟩
        go_wp2_with fail
        refine (next_any HD.out (by omega)).mono ?_
        rintro e w6 ⟨rfl, hD, hu⟩
        have HD6 : Hid (Drw w6 B G [] (k' + 1)) := hD
        have hB6 := hB.trans ((hu.mono hB.size).below (by omega))
        clear hD hu HD hB
        go_wp2_with fail
        refine (draw_any none 0 cap [] k' _ HN.out (by omega) (HK.out.below hB6) HW.out (by omega)).mono ?_
        rintro e w7 ⟨rfl, rfl⟩
        generalize drawN [] k' = d
        go_wp2
        go_roundw
        case rel => exact ⟨k' + 1, by omega, by go_num, HD6, hB6⟩
        case measure => simp [intOf]; omega
      · have hke : ((k' : Int) == m) = true := by simp; omega
        have hke2 : (k' : Int) = m := by omega
        go_wp2_with fail
        refine (dlen_any HD.out).mono ?_
        rintro e w5 ⟨rfl, rfl⟩
        go_wp2
        go_ret
        exact ⟨rfl, hB⟩
  · go_enter Try.func4, Try.ntmps4
    go_wp2_with fail
    refine (dawake_any _).mono ?_
    rintro e w1 ⟨rfl, hb1⟩
    have hs1 := hb1.size
    have hA := (Below.refl w1.heap.size w1).alloc (Nat.le_refl _) (.cells #[] 30)
    have HC : Hid (∀ j u, (us xs)[j]? = some u → (w1.alloc (.cells #[] 30)).cell? (ad.add j) = some u) := by
      rcases HK.out.below (below_new hb1 (Nat.le_refl _) _) with h | ⟨b, off, h, hc⟩
      · intro j u hu; rw [h] at hu; simp [us] at hu
      · cases h; exact us_cell hc
    go_wp2_with (at_builtin; refine wpList_append_own _ rfl _ _ 26 rfl w1.heap.size 30 i0 (.int .u32 0) 1 4 Try.underlying26 hi hz0 hz1 hz2 rfl (by decide) _ _ _ rfl (World.ownsRow_made w1 #[] 0 (Nat.le_refl _) (Nat.zero_le _) rfl) ad n cap (us xs) rfl (by rw [us_len, HN.out]; omega) HC.out (us_one xs) (by unfold maxLen; omega) (by omega) (by simp) ?_)
    intro v' w2 hown hgrow hne
    obtain ⟨g, cap', cs, rfl, hg, hblk, hcs, hu⟩ := own_blk (n := n) HN.out (by simpa using hown) hne
    have HU : Hid (UAt w2 (some ⟨g, 0, none⟩) xs) := hu
    have hB2 := (below_new hb1 (Nat.le_refl _) (.cells #[] 30)).grown hgrow (by simp; omega) (by intro r hr; simp [Value.ownBlock] at hr; omega)
    have hgl := hblk.lt
    clear hown hgrow hne hA HC hi hz0 hz1 hz2 hu
    by_cases h4 : 4096 < n
    · go_wp2_with fail
      refine (dnew_no _ n cap' _ h4 (by omega)).mono ?_
      rintro e w3 ⟨rfl, rfl⟩
      go_wp2
      go_ret
      exact ⟨rfl, hB2⟩
    go_wp2_with fail
    refine (dnew_yes _ n cap' xs w2 HN.out HU.out HW.out (by omega)).mono ?_
    rintro e w3 ⟨B, G, rfl, hBB, hGG, hD, hb3⟩
    have hB3 := below_step hB2 hb3 (Nat.le_refl _)
    have hs2 := hB2.size
    have HD : Hid (Drw w3 B G xs 0) := hD
    clear hD HU hB2
    go_wp2
    go_loopw [8] (fun i wr => ∃ k : Nat, k ≤ n ∧ i = .int .i64 k ∧ (∃ cs, Blk wr g 30 cs ∧ n ≤ cs.size) ∧ Hid (Drw wr B G xs 0) ∧ Below w.heap.size w wr) (fun i _ => n - (intOf i).toNat)
    case atStart => exact ⟨0, by omega, rfl, ⟨cs, hblk.below hb3, hcs⟩, HD, hB3⟩
    case round =>
      clear HD hB3
      obtain ⟨k, hkn, rfl, ⟨cs', hbl, hcs'⟩, HD, hB⟩ := hrel
      by_cases hlt : k < n
      · have hc1 := hbl.at (j := k) (Array.getElem?_eq_getElem (show k < cs'.size by omega))
        have hf1 := hbl.frozen k
        have hB4 : Hid (Below w.heap.size w (wr.setCell ⟨g, k, none⟩ (.int .u32 0))) := hB.setCell (by show _ ≤ g; omega) _
        have HD4 : Hid (Drw (wr.setCell ⟨g, k, none⟩ (.int .u32 0)) B G xs 0) := HD.out.but ((But.refl _ _ _).set k _) (by omega) (by omega)
        have HB4 : Hid (Blk (wr.setCell ⟨g, k, none⟩ (.int .u32 0)) g 30 (cs'.setIfInBounds k (.int .u32 0))) := hbl.setAt k _
        generalize cs'[k] = cv at *
        clear hbl HD hB
        go_wp2
        go_roundw
        case rel => exact ⟨k + 1, by omega, by go_num, ⟨_, HB4.out, by simp; omega⟩, HD4, hB4.out⟩
        case measure => simp [intOf]; omega
      · obtain rfl : k = n := by omega
        clear hbl
        go_wp2
        go_loopw [9] (fun i wr => ∃ k : Nat, (k : Int) ≤ m ∧ i = .int .i64 k ∧ Hid (Drw wr B G xs k) ∧ Below w.heap.size w wr) (fun i _ => m.toNat - (intOf i).toNat)
        case atStart => exact ⟨0, by omega, rfl, HD, hB⟩
        case round =>
          clear HD hB
          obtain ⟨k', hkm, rfl, HD, hB⟩ := hrel
          by_cases hlt' : (k' : Int) < m
          · go_wp2_with fail
            refine (dlen_any HD.out).mono ?_
            rintro e w5 ⟨rfl, rfl⟩
            go_wp2_with fail
            refine (next_any HD.out (by omega)).mono ?_
            rintro e w6 ⟨rfl, hD, hu⟩
            have HD6 : Hid (Drw w6 B G xs (k' + 1)) := hD
            have hB6 := hB.trans ((hu.mono hB.size).below (by omega))
            clear hD hu HD hB
            go_wp2_with fail
            refine (draw_any (some ad) k cap xs k' _ HN.out (by omega) (HK.out.below hB6) HW.out (by omega)).mono ?_
            rintro e w7 ⟨rfl, rfl⟩
            generalize drawN xs k' = d
            go_wp2
            go_roundw
            case rel => exact ⟨k' + 1, by omega, by go_num, HD6, hB6⟩
            case measure => simp [intOf]; omega
          · have hke : ((k' : Int) == m) = true := by simp; omega
            have hke2 : (k' : Int) = m := by omega
            go_wp2_with fail
            refine (dlen_any HD.out).mono ?_
            rintro e w5 ⟨rfl, rfl⟩
            go_wp2
            go_ret
            exact ⟨rfl, hB⟩
end Go.Proofs.Ytaddeckamegpgaa
