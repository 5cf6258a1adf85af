/- Layer 8's statement ForestPath (by tools/gen_forpath.py). -/
import Derived.Test.YtkpfonfcgoocfabForestAwake
import Derived.Test.YtkpfonfcgoocfabForestPathPlain
import Derived.Test.YtkpfonfcgoocfabDrawOpen
import Derived.Test.YtkpfonfcgoocfabOpensB
import Derived.Deep.RegionHeld3
import Derived.Lib.MinMax
namespace Go.Proofs.Ytkpfonfcgoocfab
open Go.RowKit
set_option linter.unusedVariables false
theorem Fd.tb {W : World} {F : Nat → Prop} {B G : Nat} {f : Fo} (h : Fd W F B G f) : Tb f.t := by obtain ⟨x, y, u, v, h⟩ := h; obtain ⟨Ft, hT, _⟩ := h.trees; exact hT.tb
/-- A forest that was made since w, to which at most k things were done. -/
structure Sof (w wr : World) (F : Nat → Prop) (B G : Nat) (s : Fo) (k : Nat) : Prop where
  f : Fd wr F B G s
  ff : ∀ j, F j → w.heap.size ≤ j
  below : Below w.heap.size w wr
  wf : s.Wf k
section
variable {w wr wr' : World} {F F' : Nat → Prop} {B G G' : Nat} {f f' : Fo} {k k' : Nat}
theorem Sof.grow (h : Sof w wr F B G f k) (hb : Below wr.heap.size wr wr') : Sof w wr' F B G f k := ⟨h.f.below hb, h.ff, h.below.trans (hb.mono h.below.size), h.wf⟩
theorem Sof.step (h : Sof w wr F B G f k) (h1 : Fd wr' F' B G' f') (hS : Step F F' wr wr') (hw : f'.Wf k') : Sof w wr' F' B G' f' k' := ⟨h1, hS.from h.below.size h.ff, hS.start h.below (Nat.le_refl _) h.ff, hw⟩
theorem Sof.tb (h : Sof w wr F B G f k) : Tb f.t := h.f.tb
end
/-- What the vertices count for, their ranks. -/
def pv (ls : List Int) (v : Int) : Int := lAt ls (v - 1).toNat
def qv (ls : List Int) (v : Int) : Int := 255 - pv ls v
theorem wrap_w {x : Int} (h : -1000000 ≤ x ∧ x ≤ 1000000) : IntKind.i64.wrap x = x := by simp [IntKind.wrap, IntKind.bits, IntKind.signed]; omega
set_option maxRecDepth 100000 in
set_option maxHeartbeats 16000000 in
theorem forestpath_walk (ao : Option Addr) (ca : Nat) (xs : List Int) (lo : Option Addr) (cl : Nat) (ls : List Int) (cut : Int) (w : World) (ha : UAt w ao xs) (hwa : Wu xs) (hla : xs.length ≤ 9223372036854775807) (hl : NAt .u8 w lo ls) (hwl : ∀ i, i < ls.length → 0 ≤ lAt ls i ∧ lAt ls i ≤ 255) (hll : ls.length ≤ 9223372036854775807) (hcut : -9223372036854775808 ≤ cut ∧ cut ≤ 9223372036854775807) :
    Calls Try.prog 3 #[.slice ao xs.length ca, .slice lo ls.length cl, .int .i64 cut] w fun e w' => e = .returned (.bool true) ∧ Below w.heap.size w w' := by
  have HA : Hid (UAt w ao xs ∧ Wu xs) := ⟨ha, hwa⟩
  have HL : Hid (NAt .u8 w lo ls) := hl
  have HWL := hid_mk hwl
  clear ha hwa hl hwl
  obtain ⟨na, hna⟩ : ∃ m, m = xs.length := ⟨_, rfl⟩
  have HNA : Hid (xs.length = na) := hna.symm
  obtain ⟨n, hn⟩ : ∃ m, m = ls.length := ⟨_, rfl⟩
  have HN : Hid (ls.length = n) := hn.symm
  rw [← hna] at hla ⊢
  rw [← hn] at hll ⊢
  clear hna hn
  have WK : Hid (∀ wx : World, Below w.heap.size w wx → Calls Try.prog 5 #[] wx fun e w' => e = .returned (.bool true) ∧ Below w.heap.size w w') := fun wx hb => (fwakes_any wx).mono fun e w' ⟨h1, h2⟩ => ⟨h1, hb.trans (h2.mono hb.size)⟩
  by_cases h2 : (n : Int) < 2
  · go_enter Try.func3, Try.ntmps3
    go_wp2_with fail
    refine (WK.out _ (Below.refl _ _)).mono ?_
    rintro e w1 ⟨rfl, hb⟩
    have HB1 := hid_mk hb
    clear hb
    go_wp2
    go_ret
    exact ⟨rfl, HB1.out⟩
  by_cases h60 : (60 : Int) < (n : Int)
  · go_enter Try.func3, Try.ntmps3
    go_wp2_with fail
    refine (WK.out _ (Below.refl _ _)).mono ?_
    rintro e w1 ⟨rfl, hb⟩
    have HB1 := hid_mk hb
    clear hb
    go_wp2
    go_ret
    exact ⟨rfl, HB1.out⟩
  by_cases ha60 : (60 : Int) < (na : Int)
  · go_enter Try.func3, Try.ntmps3
    go_wp2_with fail
    refine (WK.out _ (Below.refl _ _)).mono ?_
    rintro e w1 ⟨rfl, hb⟩
    have HB1 := hid_mk hb
    clear hb
    go_wp2
    go_ret
    exact ⟨rfl, HB1.out⟩
  have hp : Hid (∀ v, 1 ≤ v ∧ v ≤ (n : Int) → 0 ≤ pv ls v ∧ pv ls v ≤ 255) := fun v hv => HWL.out _ (by rw [HN.out]; omega)
  have hq : Hid (∀ v, 1 ≤ v ∧ v ≤ (n : Int) → 0 ≤ qv ls v ∧ qv ls v ≤ 255) := fun v hv => by have := hp.out v hv; unfold qv; omega
  have hn2 : 2 ≤ n ∧ n ≤ 60 := by omega
  rcases HL.out with h | ⟨b, off, rfl, hbl, hcs⟩
  · have := HN.out; rw [h] at this; simp at this; omega
  have CL : Hid (∀ wx i, Below w.heap.size w wx → i < n → wx.cell? ⟨b, off + i, none⟩ = some (.int .u8 (pv ls ((i : Int) + 1)))) := fun wx i hb hi => by
    have := hcs i (by rw [HN.out]; exact hi)
    rw [show pv ls ((i : Int) + 1) = lAt ls i by unfold pv; rw [show ((i : Int) + 1 - 1).toNat = i by omega]]
    exact (hb.cell (p := ⟨b, _, none⟩) hbl).trans this
  clear hcs
  have hN1 := dnew_yes ao xs.length ca xs w rfl HA.out.1 HA.out.2 (by have := HNA.out; omega)
  rw [HNA.out] at hN1
  have HN1 := hid_mk hN1
  clear hN1 HA
  go_enter Try.func3, Try.ntmps3
  go_wp2_with fail
  refine HN1.out.mono ?_
  rintro e w1 ⟨D1, E1, rfl, hd1, he1, hD1, hb1⟩
  have HD1 := hid_mk hD1
  have HB1 := hid_mk hb1
  have s1 := hb1.size
  have t1 := hD1.lt
  have u1 := hD1.gl
  clear hD1 hb1 HN1
  go_wp2_with fail
  refine (fonew_any _ _).mono ?_
  rintro e w2 ⟨B, rfl, hB, hK1, hb2⟩
  have s2 := hb2.size
  have t2 := hK1.lt
  have HS0 : Hid (Sof w w2 (fun k => k = B ∨ k = D1 ∨ k = E1) B 0 fo0 0) := ⟨Fd.fresh hK1 (.inl rfl) (fun k hk => by omega) (.inr ⟨D1, E1, xs, 0, rfl, HD1.out.below hb2, Nat.le_refl _, .inr (.inl rfl), .inr (.inr rfl), by omega, by omega⟩), fun k p => by omega, HB1.out.trans (hb2.mono s1), fo0_wf⟩
  clear hK1 hb2 HB1 HD1 s1 t1 u1 s2 t2 hd1 he1 hB
  go_wp2
  go_loopw [11] (fun vi wr => ∃ (k : Nat) (f : Fo) (F1 : Nat → Prop) (G1 : Nat), vi = .int .i64 k ∧ k ≤ n ∧ Hid (Sof w wr F1 B G1 f k) ∧ Hid (Qa k (pv ls) (qv ls) f)) (fun vi _ => n - (intOf vi).toNat)
  case atStart => exact ⟨0, fo0, _, 0, rfl, Nat.zero_le _, HS0.out, qa0 _ _⟩
  case round =>
    clear HS0
    obtain ⟨k, f, F1, G1, rfl, hkn, HS, HQ⟩ := hrel
    by_cases hlt : k < n
    · have hlti : (k : Int) < (n : Int) := by omega
      have hpk := hp.out ((k : Int) + 1) (by omega)
      have hok : okSL (pv ls ((k : Int) + 1)) (qv ls ((k : Int) + 1)) = true := by unfold okSL qv; simp; omega
      obtain ⟨hR, hQ2⟩ := HQ.out.add HS.out.tb hok
      have hc := foadd_any (HS.out.f.drew) k (pv ls ((k : Int) + 1)) (qv ls ((k : Int) + 1)) (by unfold B64; omega) HS.out.wf (by omega)
      rw [hR] at hc
      have hw2 := HS.out.wf.add (by omega) k (pv ls ((k : Int) + 1)) (qv ls ((k : Int) + 1))
      have HC := hid_mk hc
      have HQ2 := hid_mk hQ2
      clear hc hQ2 HQ hR hok
      generalize f.add k (pv ls ((k : Int) + 1)) (qv ls ((k : Int) + 1)) = f2 at *
      rw [show qv ls ((k : Int) + 1) = 255 - pv ls ((k : Int) + 1) from rfl] at HC
      have CK : Hid (∀ wx, Below w.heap.size w wx → wx.cell? ⟨b, off + k, none⟩ = some (.int .u8 (pv ls ((k : Int) + 1)))) := fun wx hb => CL.out wx k hb hlt
      obtain ⟨x, hx⟩ : ∃ x, x = pv ls ((k : Int) + 1) := ⟨_, rfl⟩
      rw [← hx] at HC hpk CK
      clear hx
      have cx := CK.out _ HS.out.below
      have wx1 := wrap_w (x := x) (by omega)
      have wx2 := wrap_w (x := 255 - x) (by omega)
      go_wp2_with fail
      go_region_held3 (fun w' => w'.cell? ⟨b, off + k, none⟩ = some (.int .u8 x))
        (first | go_keep | with_reducible exact CK.out _ H3.out.below)
        (first | (go_at_call 8; refine HC.out.mono ?_; rintro e w3 ⟨F3, rfl, hT3, hS3⟩; have H3 := hid_mk (HS.out.step hT3 (Step.undrew hS3) hw2)) | fail)
      clear hT3 hS3 HC cx HS
      go_wp2
      go_roundw
      case rel => exact ⟨k + 1, f2, F3, G1, by go_num, by omega, H3.out, HQ2.out⟩
      case measure => simp [intOf]; omega
    · obtain rfl : k = n := by omega
      have hlti : ¬ (k : Int) < (k : Int) := by omega
      obtain ⟨N, hN⟩ : ∃ N : Nat, k = N + 1 := ⟨k - 1, by omega⟩
      have hNi : (k : Int) - 1 = (N : Int) := by omega
      have HQ0 := hid_mk (HQ.out.qb (g := ordN k))
      clear HQ
      have hNn : ¬ N = 0 := by omega
      have hNz : ¬ (N : Int) = 0 := by omega
      have HNk := hid_mk hN
      clear hN
      have hN59 : 1 ≤ N ∧ N ≤ 59 ∧ N < k ∧ k ≤ N + 1 := by have := HNk.out; omega
      go_wp2
      go_loopw [12, 13] (fun vi _ wr => ∃ (i : Nat) (f : Fo) (F1 : Nat → Prop) (G1 : Nat), vi = .int .i64 i ∧ i ≤ N ∧ Hid (Sof w wr F1 B G1 f (k + i)) ∧ Hid (Qb k i (ordN k) (pv ls) (qv ls) f)) (fun vi _ _ => N - (intOf vi).toNat)
      case atStart => exact ⟨0, f, F1, G1, rfl, Nat.zero_le _, HS.out, HQ0.out⟩
      case round =>
        clear HS HQ0
        obtain ⟨i, f, F1, G1, rfl, hin, HS, HQ⟩ := hrel
        by_cases hlt2 : i < N
        · have hlt2i : (i : Int) < (N : Int) := by omega
          have hgl := ordN_lt (n := k) (k := i) (by omega) (by omega)
          obtain ⟨hR, hQ2⟩ := HQ.out.link HS.out.tb hgl (fun j hj e => by have := ordN_inj (n := k) (by omega) j i (by omega) (by omega) e; omega)
          have hc := folink_any HS.out.f ((ordN k i : Int) + 1) (ordN k i) ((ordN k i : Int) + 1) (by unfold B64; omega) (by unfold B64; omega) (by unfold B64; omega) HS.out.wf (by omega)
          rw [hR] at hc
          have hw2 := HS.out.wf.link (by omega) ((ordN k i : Int) + 1) (ordN k i) ((ordN k i : Int) + 1)
          have hord : (ordN k i : Int) = if (k - 1) % 7 = 0 then (i : Int) else (i : Int) * 7 % (N : Int) := by unfold ordN; rw [show k - 1 = N by omega]; split <;> simp
          have HC := hid_mk hc
          have HQ2 := hid_mk hQ2
          have HO := hid_mk hord
          clear hc hQ2 HQ hR hord
          generalize f.link ((ordN k i : Int) + 1) (ordN k i) ((ordN k i : Int) + 1) = f2 at *
          generalize ordN k i = g at *
          have t1 : ((i : Int) * 7).tmod (N : Int) = (i : Int) * 7 % (N : Int) := Int.tmod_eq_emod_of_nonneg (by omega)
          have t2 : (N : Int).tmod 7 = (N : Int) % 7 := Int.tmod_eq_emod_of_nonneg (by omega)
          have m1 : 0 ≤ (i : Int) * 7 % (N : Int) := Int.emod_nonneg _ (by omega)
          have m2 : (i : Int) * 7 % (N : Int) < (N : Int) := Int.emod_lt_of_pos _ (by omega)
          by_cases h7 : (N : Int) % 7 = 0
          · have hg : (i : Int) = (g : Int) := by rw [HO.out, if_pos (by omega)]
            rw [← hg] at HC
            clear HO hg
            go_wp2_with fail
            refine HC.out.mono ?_
            rintro e w3 ⟨F3, G3, rfl, hT, hS⟩
            have H3 : Hid (Sof w w3 F3 B G3 f2 (k + (i + 1))) := HS.out.step hT hS hw2
            clear hT hS HC HS
            go_wp2
            go_roundw
            case rel => exact ⟨i + 1, f2, F3, G3, by go_num, by omega, H3.out, HQ2.out⟩
            case measure => simp [intOf]; omega
          · have hg : (i : Int) * 7 % (N : Int) = (g : Int) := by rw [HO.out, if_neg (by omega)]
            generalize (i : Int) * 7 % (N : Int) = z at *
            subst hg
            clear HO
            have h7b : ((N : Int) % 7 == 0) = false := by simpa using h7
            go_wp2_with fail
            refine HC.out.mono ?_
            rintro e w3 ⟨F3, G3, rfl, hT, hS⟩
            have H3 : Hid (Sof w w3 F3 B G3 f2 (k + (i + 1))) := HS.out.step hT hS hw2
            clear hT hS HC HS
            go_wp2
            go_roundw
            case rel => exact ⟨i + 1, f2, F3, G3, by go_num, by omega, H3.out, HQ2.out⟩
            case measure => simp [intOf]; omega
        · obtain rfl : i = N := by omega
          have hlt2i : ¬ (i : Int) < (i : Int) := by omega
          have hki : Hid (k - 1 = i) := (by omega : k - 1 = i)
          have sur := ordN_sur (n := k) (by omega)
          have inj := ordN_inj (n := k) (by omega)
          have hgl := fun j hj => ordN_lt (n := k) (k := j) (by omega) hj
          have HQ1 : Hid (Qb k (k - 1) (ordN k) (pv ls) (qv ls) f) := by show Qb k (k - 1) _ _ _ _; rw [hki.out]; exact HQ.out
          clear HQ
          obtain ⟨A, hA⟩ : ∃ A : Nat, (A : Int) = if cut.tmod (i : Int) < 0 then cut.tmod (i : Int) + (k : Int) - 1 else cut.tmod (i : Int) := ⟨(if cut.tmod (i : Int) < 0 then cut.tmod (i : Int) + (k : Int) - 1 else cut.tmod (i : Int)).toNat, by
            have := Int.lt_tmod_of_pos cut (show (0 : Int) < (i : Int) by omega)
            split <;> omega⟩
          have hb1 := Int.lt_tmod_of_pos cut (show (0 : Int) < (i : Int) by omega)
          have hb2 := Int.tmod_lt_of_pos cut (show (0 : Int) < (i : Int) by omega)
          have hAk : A + 1 < k := by split at hA <;> omega
          obtain ⟨z1, z2, z3, z4⟩ := HQ1.out.tells HS.out.tb sur hgl hn2 hp.out hq.out
          have hcC := focut_any HS.out.f ((A : Int) + 1) (by unfold B64; omega) HS.out.wf (by omega)
          have C1 := fosize_any HS.out.f 0 (by unfold B64; omega) HS.out.wf (by omega)
          have X1 : Hid (∀ wx F G, Fd wx F B G f → Calls Try.prog 10 #[.pointer (some ⟨B, 0, none⟩), .int .i64 0] wx fun e w' => e = .returned (.int .i64 k) ∧ Below wx.heap.size wx w') := fun wx F G h => by have := fosize_any h 0 (by unfold B64; omega) HS.out.wf (by omega); rw [z1] at this; exact this
          have X2 : Hid (∀ wx F G, Fd wx F B G f → Calls Try.prog 11 #[.pointer (some ⟨B, 0, none⟩), .int .i64 0, .int .i64 (i : Int)] wx fun e w' => e = .returned (.bool true) ∧ Below wx.heap.size wx w') := fun wx F G h => by have := fosame_any h 0 ((k : Int) - 1) (by unfold B64; omega) (by unfold B64; omega) HS.out.wf (by omega); rw [z2, hNi] at this; exact this
          have X3 : Hid (∀ wx F G, Fd wx F B G f → Calls Try.prog 9 #[.pointer (some ⟨B, 0, none⟩), .int .i64 ((k : Int) + 5), .int .i64 0, .int .i64 (i : Int)] wx fun e w' => ∃ F' G', e = .returned (.int .i64 13) ∧ Fd w' F' B G' f ∧ Step F F' wx w') := fun wx F G h => by have := folink_any h ((k : Int) + 5) 0 ((k : Int) - 1) (by unfold B64; omega) (by unfold B64; omega) (by unfold B64; omega) HS.out.wf (by omega); rw [z3, z4, hNi] at this; exact this
          have HWf := hid_mk HS.out.wf
          clear z1 z2 z3 z4 hcC C1
          by_cases hneg : cut.tmod (i : Int) < 0
          · rw [if_pos hneg] at hA
            have hAe : cut.tmod (i : Int) + (k : Int) - 1 = (A : Int) := hA.symm
            have hAe2 : cut.tmod (i : Int) + (k : Int) = (A : Int) + 1 := by omega
            clear hA
            go_wp2_with fail
            refine (X1.out _ _ _ HS.out.f).mono ?_
            rintro e x1 ⟨rfl, hb⟩
            have H1 := hid_mk (HS.out.grow hb)
            clear hb HS X1
            go_wp2_with fail
            refine (X2.out _ _ _ H1.out.f).mono ?_
            rintro e x2 ⟨rfl, hb⟩
            have H2 := hid_mk (H1.out.grow hb)
            clear hb H1 X2
            go_wp2_with fail
            refine (X3.out _ _ _ H2.out.f).mono ?_
            rintro e x3 ⟨F3, G3, rfl, hT, hS⟩
            have H3 := hid_mk (H2.out.step hT hS HWf.out)
            clear hT hS H2 X3
            have hcC := focut_any H3.out.f ((A : Int) + 1) (by unfold B64; omega) HWf.out (by omega)
            rw [HQ1.out.cutR sur hAk] at hcC
            have HC := hid_mk hcC
            clear hcC
            go_wp2_with fail
            refine HC.out.mono ?_
            rintro e x4 ⟨F4, rfl, hT, hS⟩
            have H4 := hid_mk (H3.out.step hT hS (HWf.out.cut _))
            have hQc := (HQ1.out.cut H3.out.tb sur inj hAk H4.out.tb).2
            have HQc := hid_mk hQc
            clear hT hS HC H3 hQc HQ1 HWf sur inj hgl
            generalize f.cut ((A : Int) + 1) = f4 at *
            go_wp2
            go_loopw [16, 17, 18, 19, 20] (fun va vb vc vd vj wr => ∃ (j : Nat), vj = .int .i64 j ∧ va = .int .i64 (sumN (leS (pv ls) A) j) ∧ vb = .int .i64 (sumN (riS (pv ls) A) j) ∧ vc = .int .i64 (min 255 (minN (leL (qv ls) A) j)) ∧ vd = .int .i64 (min 255 (minN (riL (qv ls) A) j)) ∧ j ≤ k ∧ Hid (Sof w wr F4 B G3 f4 (k + i + 1))) (fun _ _ _ _ vj _ => k - (intOf vj).toNat)
            case atStart => exact ⟨0, rfl, rfl, rfl, rfl, rfl, Nat.zero_le _, H4.out⟩
            case round =>
              clear H4
              obtain ⟨j, rfl, rfl, rfl, rfl, rfl, hjk, HS⟩ := hrel
              by_cases hj : j < k
              · have hji : (j : Int) < (k : Int) := by omega
                have hx := hp.out ((j : Int) + 1) (by omega)
                have cx := CL.out _ j HS.out.below hj
                have b1 := sumN_bd (f := leS (pv ls) A) (n := j) (c := 255) (by omega) (fun u hu => by have := hp.out u (by omega); unfold leS; split <;> omega)
                have b2 := sumN_bd (f := riS (pv ls) A) (n := j) (c := 255) (by omega) (fun u hu => by have := hp.out u (by omega); unfold riS; split <;> omega)
                have e1 : sumN (leS (pv ls) A) (j + 1) = sumN (leS (pv ls) A) j + leS (pv ls) A ((j : Int) + 1) := rfl
                have e2 : sumN (riS (pv ls) A) (j + 1) = sumN (riS (pv ls) A) j + riS (pv ls) A ((j : Int) + 1) := rfl
                have e3 : minN (leL (qv ls) A) (j + 1) = min (minN (leL (qv ls) A) j) (leL (qv ls) A ((j : Int) + 1)) := rfl
                have e4 : minN (riL (qv ls) A) (j + 1) = min (minN (riL (qv ls) A) j) (riL (qv ls) A ((j : Int) + 1)) := rfl
                have t3 := minN_top (leL (qv ls) A) j
                have t4 := minN_top (riL (qv ls) A) j
                unfold leS at e1
                unfold riS at e2
                unfold leL at e3
                unfold riL at e4
                rw [show qv ls ((j : Int) + 1) = 255 - pv ls ((j : Int) + 1) from rfl] at e3 e4
                change sumN (leS (pv ls) A) (j + 1) = sumN (leS (pv ls) A) j + _ at e1
                change sumN (riS (pv ls) A) (j + 1) = sumN (riS (pv ls) A) j + _ at e2
                change minN (leL (qv ls) A) (j + 1) = min (minN (leL (qv ls) A) j) _ at e3
                change minN (riL (qv ls) A) (j + 1) = min (minN (riL (qv ls) A) j) _ at e4
                have E1 := hid_mk e1
                have E2 := hid_mk e2
                have E3 := hid_mk e3
                have E4 := hid_mk e4
                clear e1 e2 e3 e4
                generalize pv ls ((j : Int) + 1) = x at *
                obtain ⟨sa, hsa⟩ : ∃ sa, sa = sumN (leS (pv ls) A) j := ⟨_, rfl⟩
                obtain ⟨sb, hsb⟩ : ∃ sb, sb = sumN (riS (pv ls) A) j := ⟨_, rfl⟩
                obtain ⟨sc, hsc⟩ : ∃ sc, sc = minN (leL (qv ls) A) j := ⟨_, rfl⟩
                obtain ⟨sd, hsd⟩ : ∃ sd, sd = minN (riL (qv ls) A) j := ⟨_, rfl⟩
                rw [← hsa] at E1 b1 ⊢
                rw [← hsb] at E2 b2 ⊢
                rw [← hsc] at E3 t3 ⊢
                rw [← hsd] at E4 t4 ⊢
                clear hsa hsb hsc hsd
                have w0 := wrap_w (x := x) (by omega)
                by_cases hja : (j : Int) ≤ (A : Int)
                · have hc1 : (j : Int) + 1 ≤ (A : Int) + 1 := by omega
                  have r1 := E1.out
                  have r2 := E2.out
                  have r3 := E3.out
                  have r4 := E4.out
                  rw [if_pos hc1] at r1
                  rw [if_pos hc1] at r2
                  rw [if_pos hc1] at r3
                  rw [if_pos hc1] at r4
                  have R1 := hid_mk r1
                  have R2 := hid_mk r2
                  have R3 := hid_mk r3
                  have R4 := hid_mk r4
                  clear r1 r2 r3 r4 E1 E2 E3 E4 hc1
                  have HSj := HS
                  clear HS
                  go_wp2
                  go_roundw
                  case rel => exact ⟨j + 1, by go_num, by rw [R1.out]; try go_num, by rw [R2.out]; try go_num, by first | (rw [R3.out]; done) | (rw [R3.out]; congr 2; omega), by first | (rw [R4.out]; done) | (rw [R4.out]; congr 2; omega), by omega, HSj.out⟩
                  case measure => simp [intOf]; omega
                · have hc1 : ¬ (j : Int) + 1 ≤ (A : Int) + 1 := by omega
                  have r1 := E1.out
                  have r2 := E2.out
                  have r3 := E3.out
                  have r4 := E4.out
                  rw [if_neg hc1] at r1
                  rw [if_neg hc1] at r2
                  rw [if_neg hc1] at r3
                  rw [if_neg hc1] at r4
                  have R1 := hid_mk r1
                  have R2 := hid_mk r2
                  have R3 := hid_mk r3
                  have R4 := hid_mk r4
                  clear r1 r2 r3 r4 E1 E2 E3 E4 hc1
                  have HSj := HS
                  clear HS
                  go_wp2
                  go_roundw
                  case rel => exact ⟨j + 1, by go_num, by rw [R1.out]; try go_num, by rw [R2.out]; try go_num, by first | (rw [R3.out]; done) | (rw [R3.out]; congr 2; omega), by first | (rw [R4.out]; done) | (rw [R4.out]; congr 2; omega), by omega, HSj.out⟩
                  case measure => simp [intOf]; omega
              · obtain rfl : j = k := by omega
                have hji : ¬ (j : Int) < (j : Int) := by omega
                have hjA : A + 1 < j := hAk
                obtain ⟨t1, t2, t3, t4, t5, t6, t7⟩ := HQc.out.tells HS.out.tb (by omega) hAk hp.out hq.out
                have hk10 : j + i + 1 ≤ 10000 := by omega
                have HWf := hid_mk HS.out.wf
                rw [hNi] at t2 t3 t7
                have Y1 : Hid (∀ wx, Fd wx F4 B G3 f4 → Calls Try.prog 10 #[.pointer (some ⟨B, 0, none⟩), .int .i64 0] wx fun e w' => e = .returned (.int .i64 ((A : Int) + 1)) ∧ Below wx.heap.size wx w') := fun wx h => by
                  have := fosize_any h 0 (by unfold B64; omega) HWf.out hk10
                  rw [t1] at this
                  exact this
                have Y2 : Hid (∀ wx, Fd wx F4 B G3 f4 → Calls Try.prog 10 #[.pointer (some ⟨B, 0, none⟩), .int .i64 (i : Int)] wx fun e w' => e = .returned (.int .i64 ((j : Int) - (A : Int) - 1)) ∧ Below wx.heap.size wx w') := fun wx h => by
                  have := fosize_any h (i : Int) (by unfold B64; omega) HWf.out hk10
                  rw [t2] at this
                  exact this
                have Y3 : Hid (∀ wx, Fd wx F4 B G3 f4 → Calls Try.prog 11 #[.pointer (some ⟨B, 0, none⟩), .int .i64 0, .int .i64 (i : Int)] wx fun e w' => e = .returned (.bool false) ∧ Below wx.heap.size wx w') := fun wx h => by
                  have := fosame_any h 0 (i : Int) (by unfold B64; omega) (by unfold B64; omega) HWf.out hk10
                  rw [t3] at this
                  exact this
                have Y4 : Hid (∀ wx, Fd wx F4 B G3 f4 → Calls Try.prog 13 #[.pointer (some ⟨B, 0, none⟩), .int .i64 (A : Int)] wx fun e w' => e = .returned (.int .i64 (sumN (leS (pv ls) A) j)) ∧ Below wx.heap.size wx w') := fun wx h => by
                  have := fosum_any h (A : Int) (by unfold B64; omega) HWf.out hk10
                  rw [t4] at this
                  exact this
                have Y5 : Hid (∀ wx, Fd wx F4 B G3 f4 → Calls Try.prog 13 #[.pointer (some ⟨B, 0, none⟩), .int .i64 ((A : Int) + 1)] wx fun e w' => e = .returned (.int .i64 (sumN (riS (pv ls) A) j)) ∧ Below wx.heap.size wx w') := fun wx h => by
                  have := fosum_any h ((A : Int) + 1) (by unfold B64; omega) HWf.out hk10
                  rw [t5] at this
                  exact this
                have Y6 : Hid (∀ wx, Fd wx F4 B G3 f4 → Calls Try.prog 14 #[.pointer (some ⟨B, 0, none⟩), .int .i64 0] wx fun e w' => e = .returned (.int .i64 (min 255 (minN (leL (qv ls) A) j))) ∧ Below wx.heap.size wx w') := fun wx h => by
                  have := foleast_any h 0 (by unfold B64; omega) HWf.out hk10
                  rw [t6] at this
                  exact this
                have Y7 : Hid (∀ wx, Fd wx F4 B G3 f4 → Calls Try.prog 14 #[.pointer (some ⟨B, 0, none⟩), .int .i64 (i : Int)] wx fun e w' => e = .returned (.int .i64 (min 255 (minN (riL (qv ls) A) j))) ∧ Below wx.heap.size wx w') := fun wx h => by
                  have := foleast_any h (i : Int) (by unfold B64; omega) HWf.out hk10
                  rw [t7] at this
                  exact this
                have hcL : Hid (∀ wx, Fd wx F4 B G3 f4 → Calls Try.prog 9 #[.pointer (some ⟨B, 0, none⟩), .int .i64 ((A : Int) + 1), .int .i64 (i : Int), .int .i64 0] wx fun e w' => ∃ F' G', e = .returned (.int .i64 0) ∧ Fd w' F' B G' (f4.link ((A : Int) + 1) ((j : Int) - 1) 0) ∧ Step F4 F' wx w') := fun wx h => by
                  have := folink_any h ((A : Int) + 1) ((j : Int) - 1) 0 (by unfold B64; omega) (by unfold B64; omega) (by unfold B64; omega) HWf.out hk10
                  rw [HQc.out.linkR hAk] at this
                  rw [show Value.int .i64 ((j : Int) - 1) = Value.int .i64 (i : Int) by rw [hNi]] at this
                  exact this
                have hW2 := HWf.out.link hk10 ((A : Int) + 1) ((j : Int) - 1) 0
                have HTB := hid_mk HS.out.tb
                clear t1 t2 t3 t4 t5 t6 t7
                obtain ⟨f5, hf5⟩ : ∃ f5, f5 = f4.link ((A : Int) + 1) ((j : Int) - 1) 0 := ⟨_, rfl⟩
                rw [← hf5] at hcL hW2
                have LST : Hid (Tb f5.t → (f5.total A).c = (j : Int) ∧ (f5.total 0).s = sumN (leS (pv ls) A) j + sumN (riS (pv ls) A) j) := fun hB2 => by
                  rw [hf5] at hB2 ⊢
                  obtain ⟨_, l2, l3, l4⟩ := HQc.out.link HTB.out hAk hB2
                  have hv5 : ∀ v, (f4.link ((A : Int) + 1) ((j : Int) - 1) 0).vi v = if 0 ≤ v ∧ v < (j : Int) then v + 1 else 0 := fun v => by rw [l3]; exact HQc.out.vi v
                  exact ⟨(l2.all (A := A) hB2 hv5 l4 (by omega) hp.out hq.out (v := A) (by omega)).1, (l2.all (A := A) hB2 hv5 l4 (by omega) hp.out hq.out (v := 0) (by omega)).2⟩
                clear hf5 HQc HTB
                have b1 := sumN_bd (f := leS (pv ls) A) (n := j) (c := 255) (by omega) (fun u hu => by have := hp.out u (by omega); unfold leS; split <;> omega)
                have b2 := sumN_bd (f := riS (pv ls) A) (n := j) (c := 255) (by omega) (fun u hu => by have := hp.out u (by omega); unfold riS; split <;> omega)
                generalize sumN (leS (pv ls) A) j = sa at *
                generalize sumN (riS (pv ls) A) j = sb at *
                generalize min 255 (minN (leL (qv ls) A) j) = sc at *
                generalize min 255 (minN (riL (qv ls) A) j) = sd at *
                go_wp2_with fail
                refine (Y1.out _ HS.out.f).mono ?_
                rintro e y1 ⟨rfl, hb⟩
                have HR1 := hid_mk (HS.out.grow hb)
                clear hb HS Y1
                go_wp2_with fail
                refine (Y2.out _ HR1.out.f).mono ?_
                rintro e y2 ⟨rfl, hb⟩
                have HR2 := hid_mk (HR1.out.grow hb)
                clear hb HR1 Y2
                go_wp2_with fail
                refine (Y3.out _ HR2.out.f).mono ?_
                rintro e y3 ⟨rfl, hb⟩
                have HR3 := hid_mk (HR2.out.grow hb)
                clear hb HR2 Y3
                go_wp2_with fail
                refine (Y4.out _ HR3.out.f).mono ?_
                rintro e y4 ⟨rfl, hb⟩
                have HR4 := hid_mk (HR3.out.grow hb)
                clear hb HR3 Y4
                go_wp2_with fail
                refine (Y5.out _ HR4.out.f).mono ?_
                rintro e y5 ⟨rfl, hb⟩
                have HR5 := hid_mk (HR4.out.grow hb)
                clear hb HR4 Y5
                go_wp2_with fail
                refine (Y6.out _ HR5.out.f).mono ?_
                rintro e y6 ⟨rfl, hb⟩
                have HR6 := hid_mk (HR5.out.grow hb)
                clear hb HR5 Y6
                go_wp2_with fail
                refine (Y7.out _ HR6.out.f).mono ?_
                rintro e y7 ⟨rfl, hb⟩
                have HR7 := hid_mk (HR6.out.grow hb)
                clear hb HR6 Y7
                go_wp2_with fail
                refine (hcL.out _ HR7.out.f).mono ?_
                rintro e y8 ⟨F5, G5, rfl, hT, hS⟩
                have HR8 := hid_mk (HR7.out.step hT hS hW2)
                obtain ⟨l1, l2⟩ := LST.out HR8.out.tb
                have Z1 : Hid (∀ wx, Fd wx F5 B G5 f5 → Calls Try.prog 10 #[.pointer (some ⟨B, 0, none⟩), .int .i64 (A : Int)] wx fun e w' => e = .returned (.int .i64 (j : Int)) ∧ Below wx.heap.size wx w') := fun wx h => by
                  have := fosize_any h (A : Int) (by unfold B64; omega) hW2 (by omega)
                  rw [l1] at this
                  exact this
                have Z2 : Hid (∀ wx, Fd wx F5 B G5 f5 → Calls Try.prog 13 #[.pointer (some ⟨B, 0, none⟩), .int .i64 0] wx fun e w' => e = .returned (.int .i64 (sa + sb)) ∧ Below wx.heap.size wx w') := fun wx h => by
                  have := fosum_any h 0 (by unfold B64; omega) hW2 (by omega)
                  rw [l2] at this
                  exact this
                clear hT hS HR7 hcL LST l1 l2
                go_wp2_with fail
                refine (Z1.out _ HR8.out.f).mono ?_
                rintro e y9 ⟨rfl, hb⟩
                have HR9 := hid_mk (HR8.out.grow hb)
                clear hb HR8 Z1
                go_wp2_with fail
                refine (Z2.out _ HR9.out.f).mono ?_
                rintro e y10 ⟨rfl, hb⟩
                have HR10 := hid_mk (HR9.out.grow hb)
                clear hb HR9 Z2
                go_wp2_with fail
                refine (WK.out _ HR10.out.below).mono ?_
                rintro e y11 ⟨rfl, hb⟩
                have HBZ := hid_mk hb
                clear hb HR10
                go_wp2
                go_ret
                exact ⟨rfl, HBZ.out⟩
          · rw [if_neg hneg] at hA
            have hAe : cut.tmod (i : Int) = (A : Int) := hA.symm
            clear hA
            go_wp2_with fail
            refine (X1.out _ _ _ HS.out.f).mono ?_
            rintro e x1 ⟨rfl, hb⟩
            have H1 := hid_mk (HS.out.grow hb)
            clear hb HS X1
            go_wp2_with fail
            refine (X2.out _ _ _ H1.out.f).mono ?_
            rintro e x2 ⟨rfl, hb⟩
            have H2 := hid_mk (H1.out.grow hb)
            clear hb H1 X2
            go_wp2_with fail
            refine (X3.out _ _ _ H2.out.f).mono ?_
            rintro e x3 ⟨F3, G3, rfl, hT, hS⟩
            have H3 := hid_mk (H2.out.step hT hS HWf.out)
            clear hT hS H2 X3
            have hcC := focut_any H3.out.f ((A : Int) + 1) (by unfold B64; omega) HWf.out (by omega)
            rw [HQ1.out.cutR sur hAk] at hcC
            have HC := hid_mk hcC
            clear hcC
            go_wp2_with fail
            refine HC.out.mono ?_
            rintro e x4 ⟨F4, rfl, hT, hS⟩
            have H4 := hid_mk (H3.out.step hT hS (HWf.out.cut _))
            have hQc := (HQ1.out.cut H3.out.tb sur inj hAk H4.out.tb).2
            have HQc := hid_mk hQc
            clear hT hS HC H3 hQc HQ1 HWf sur inj hgl
            generalize f.cut ((A : Int) + 1) = f4 at *
            go_wp2
            go_loopw [16, 17, 18, 19, 20] (fun va vb vc vd vj wr => ∃ (j : Nat), vj = .int .i64 j ∧ va = .int .i64 (sumN (leS (pv ls) A) j) ∧ vb = .int .i64 (sumN (riS (pv ls) A) j) ∧ vc = .int .i64 (min 255 (minN (leL (qv ls) A) j)) ∧ vd = .int .i64 (min 255 (minN (riL (qv ls) A) j)) ∧ j ≤ k ∧ Hid (Sof w wr F4 B G3 f4 (k + i + 1))) (fun _ _ _ _ vj _ => k - (intOf vj).toNat)
            case atStart => exact ⟨0, rfl, rfl, rfl, rfl, rfl, Nat.zero_le _, H4.out⟩
            case round =>
              clear H4
              obtain ⟨j, rfl, rfl, rfl, rfl, rfl, hjk, HS⟩ := hrel
              by_cases hj : j < k
              · have hji : (j : Int) < (k : Int) := by omega
                have hx := hp.out ((j : Int) + 1) (by omega)
                have cx := CL.out _ j HS.out.below hj
                have b1 := sumN_bd (f := leS (pv ls) A) (n := j) (c := 255) (by omega) (fun u hu => by have := hp.out u (by omega); unfold leS; split <;> omega)
                have b2 := sumN_bd (f := riS (pv ls) A) (n := j) (c := 255) (by omega) (fun u hu => by have := hp.out u (by omega); unfold riS; split <;> omega)
                have e1 : sumN (leS (pv ls) A) (j + 1) = sumN (leS (pv ls) A) j + leS (pv ls) A ((j : Int) + 1) := rfl
                have e2 : sumN (riS (pv ls) A) (j + 1) = sumN (riS (pv ls) A) j + riS (pv ls) A ((j : Int) + 1) := rfl
                have e3 : minN (leL (qv ls) A) (j + 1) = min (minN (leL (qv ls) A) j) (leL (qv ls) A ((j : Int) + 1)) := rfl
                have e4 : minN (riL (qv ls) A) (j + 1) = min (minN (riL (qv ls) A) j) (riL (qv ls) A ((j : Int) + 1)) := rfl
                have t3 := minN_top (leL (qv ls) A) j
                have t4 := minN_top (riL (qv ls) A) j
                unfold leS at e1
                unfold riS at e2
                unfold leL at e3
                unfold riL at e4
                rw [show qv ls ((j : Int) + 1) = 255 - pv ls ((j : Int) + 1) from rfl] at e3 e4
                change sumN (leS (pv ls) A) (j + 1) = sumN (leS (pv ls) A) j + _ at e1
                change sumN (riS (pv ls) A) (j + 1) = sumN (riS (pv ls) A) j + _ at e2
                change minN (leL (qv ls) A) (j + 1) = min (minN (leL (qv ls) A) j) _ at e3
                change minN (riL (qv ls) A) (j + 1) = min (minN (riL (qv ls) A) j) _ at e4
                have E1 := hid_mk e1
                have E2 := hid_mk e2
                have E3 := hid_mk e3
                have E4 := hid_mk e4
                clear e1 e2 e3 e4
                generalize pv ls ((j : Int) + 1) = x at *
                obtain ⟨sa, hsa⟩ : ∃ sa, sa = sumN (leS (pv ls) A) j := ⟨_, rfl⟩
                obtain ⟨sb, hsb⟩ : ∃ sb, sb = sumN (riS (pv ls) A) j := ⟨_, rfl⟩
                obtain ⟨sc, hsc⟩ : ∃ sc, sc = minN (leL (qv ls) A) j := ⟨_, rfl⟩
                obtain ⟨sd, hsd⟩ : ∃ sd, sd = minN (riL (qv ls) A) j := ⟨_, rfl⟩
                rw [← hsa] at E1 b1 ⊢
                rw [← hsb] at E2 b2 ⊢
                rw [← hsc] at E3 t3 ⊢
                rw [← hsd] at E4 t4 ⊢
                clear hsa hsb hsc hsd
                have w0 := wrap_w (x := x) (by omega)
                by_cases hja : (j : Int) ≤ (A : Int)
                · have hc1 : (j : Int) + 1 ≤ (A : Int) + 1 := by omega
                  have r1 := E1.out
                  have r2 := E2.out
                  have r3 := E3.out
                  have r4 := E4.out
                  rw [if_pos hc1] at r1
                  rw [if_pos hc1] at r2
                  rw [if_pos hc1] at r3
                  rw [if_pos hc1] at r4
                  have R1 := hid_mk r1
                  have R2 := hid_mk r2
                  have R3 := hid_mk r3
                  have R4 := hid_mk r4
                  clear r1 r2 r3 r4 E1 E2 E3 E4 hc1
                  have HSj := HS
                  clear HS
                  go_wp2
                  go_roundw
                  case rel => exact ⟨j + 1, by go_num, by rw [R1.out]; try go_num, by rw [R2.out]; try go_num, by first | (rw [R3.out]; done) | (rw [R3.out]; congr 2; omega), by first | (rw [R4.out]; done) | (rw [R4.out]; congr 2; omega), by omega, HSj.out⟩
                  case measure => simp [intOf]; omega
                · have hc1 : ¬ (j : Int) + 1 ≤ (A : Int) + 1 := by omega
                  have r1 := E1.out
                  have r2 := E2.out
                  have r3 := E3.out
                  have r4 := E4.out
                  rw [if_neg hc1] at r1
                  rw [if_neg hc1] at r2
                  rw [if_neg hc1] at r3
                  rw [if_neg hc1] at r4
                  have R1 := hid_mk r1
                  have R2 := hid_mk r2
                  have R3 := hid_mk r3
                  have R4 := hid_mk r4
                  clear r1 r2 r3 r4 E1 E2 E3 E4 hc1
                  have HSj := HS
                  clear HS
                  go_wp2
                  go_roundw
                  case rel => exact ⟨j + 1, by go_num, by rw [R1.out]; try go_num, by rw [R2.out]; try go_num, by first | (rw [R3.out]; done) | (rw [R3.out]; congr 2; omega), by first | (rw [R4.out]; done) | (rw [R4.out]; congr 2; omega), by omega, HSj.out⟩
                  case measure => simp [intOf]; omega
              · obtain rfl : j = k := by omega
                have hji : ¬ (j : Int) < (j : Int) := by omega
                have hjA : A + 1 < j := hAk
                obtain ⟨t1, t2, t3, t4, t5, t6, t7⟩ := HQc.out.tells HS.out.tb (by omega) hAk hp.out hq.out
                have hk10 : j + i + 1 ≤ 10000 := by omega
                have HWf := hid_mk HS.out.wf
                rw [hNi] at t2 t3 t7
                have Y1 : Hid (∀ wx, Fd wx F4 B G3 f4 → Calls Try.prog 10 #[.pointer (some ⟨B, 0, none⟩), .int .i64 0] wx fun e w' => e = .returned (.int .i64 ((A : Int) + 1)) ∧ Below wx.heap.size wx w') := fun wx h => by
                  have := fosize_any h 0 (by unfold B64; omega) HWf.out hk10
                  rw [t1] at this
                  exact this
                have Y2 : Hid (∀ wx, Fd wx F4 B G3 f4 → Calls Try.prog 10 #[.pointer (some ⟨B, 0, none⟩), .int .i64 (i : Int)] wx fun e w' => e = .returned (.int .i64 ((j : Int) - (A : Int) - 1)) ∧ Below wx.heap.size wx w') := fun wx h => by
                  have := fosize_any h (i : Int) (by unfold B64; omega) HWf.out hk10
                  rw [t2] at this
                  exact this
                have Y3 : Hid (∀ wx, Fd wx F4 B G3 f4 → Calls Try.prog 11 #[.pointer (some ⟨B, 0, none⟩), .int .i64 0, .int .i64 (i : Int)] wx fun e w' => e = .returned (.bool false) ∧ Below wx.heap.size wx w') := fun wx h => by
                  have := fosame_any h 0 (i : Int) (by unfold B64; omega) (by unfold B64; omega) HWf.out hk10
                  rw [t3] at this
                  exact this
                have Y4 : Hid (∀ wx, Fd wx F4 B G3 f4 → Calls Try.prog 13 #[.pointer (some ⟨B, 0, none⟩), .int .i64 (A : Int)] wx fun e w' => e = .returned (.int .i64 (sumN (leS (pv ls) A) j)) ∧ Below wx.heap.size wx w') := fun wx h => by
                  have := fosum_any h (A : Int) (by unfold B64; omega) HWf.out hk10
                  rw [t4] at this
                  exact this
                have Y5 : Hid (∀ wx, Fd wx F4 B G3 f4 → Calls Try.prog 13 #[.pointer (some ⟨B, 0, none⟩), .int .i64 ((A : Int) + 1)] wx fun e w' => e = .returned (.int .i64 (sumN (riS (pv ls) A) j)) ∧ Below wx.heap.size wx w') := fun wx h => by
                  have := fosum_any h ((A : Int) + 1) (by unfold B64; omega) HWf.out hk10
                  rw [t5] at this
                  exact this
                have Y6 : Hid (∀ wx, Fd wx F4 B G3 f4 → Calls Try.prog 14 #[.pointer (some ⟨B, 0, none⟩), .int .i64 0] wx fun e w' => e = .returned (.int .i64 (min 255 (minN (leL (qv ls) A) j))) ∧ Below wx.heap.size wx w') := fun wx h => by
                  have := foleast_any h 0 (by unfold B64; omega) HWf.out hk10
                  rw [t6] at this
                  exact this
                have Y7 : Hid (∀ wx, Fd wx F4 B G3 f4 → Calls Try.prog 14 #[.pointer (some ⟨B, 0, none⟩), .int .i64 (i : Int)] wx fun e w' => e = .returned (.int .i64 (min 255 (minN (riL (qv ls) A) j))) ∧ Below wx.heap.size wx w') := fun wx h => by
                  have := foleast_any h (i : Int) (by unfold B64; omega) HWf.out hk10
                  rw [t7] at this
                  exact this
                have hcL : Hid (∀ wx, Fd wx F4 B G3 f4 → Calls Try.prog 9 #[.pointer (some ⟨B, 0, none⟩), .int .i64 ((A : Int) + 1), .int .i64 (i : Int), .int .i64 0] wx fun e w' => ∃ F' G', e = .returned (.int .i64 0) ∧ Fd w' F' B G' (f4.link ((A : Int) + 1) ((j : Int) - 1) 0) ∧ Step F4 F' wx w') := fun wx h => by
                  have := folink_any h ((A : Int) + 1) ((j : Int) - 1) 0 (by unfold B64; omega) (by unfold B64; omega) (by unfold B64; omega) HWf.out hk10
                  rw [HQc.out.linkR hAk] at this
                  rw [show Value.int .i64 ((j : Int) - 1) = Value.int .i64 (i : Int) by rw [hNi]] at this
                  exact this
                have hW2 := HWf.out.link hk10 ((A : Int) + 1) ((j : Int) - 1) 0
                have HTB := hid_mk HS.out.tb
                clear t1 t2 t3 t4 t5 t6 t7
                obtain ⟨f5, hf5⟩ : ∃ f5, f5 = f4.link ((A : Int) + 1) ((j : Int) - 1) 0 := ⟨_, rfl⟩
                rw [← hf5] at hcL hW2
                have LST : Hid (Tb f5.t → (f5.total A).c = (j : Int) ∧ (f5.total 0).s = sumN (leS (pv ls) A) j + sumN (riS (pv ls) A) j) := fun hB2 => by
                  rw [hf5] at hB2 ⊢
                  obtain ⟨_, l2, l3, l4⟩ := HQc.out.link HTB.out hAk hB2
                  have hv5 : ∀ v, (f4.link ((A : Int) + 1) ((j : Int) - 1) 0).vi v = if 0 ≤ v ∧ v < (j : Int) then v + 1 else 0 := fun v => by rw [l3]; exact HQc.out.vi v
                  exact ⟨(l2.all (A := A) hB2 hv5 l4 (by omega) hp.out hq.out (v := A) (by omega)).1, (l2.all (A := A) hB2 hv5 l4 (by omega) hp.out hq.out (v := 0) (by omega)).2⟩
                clear hf5 HQc HTB
                have b1 := sumN_bd (f := leS (pv ls) A) (n := j) (c := 255) (by omega) (fun u hu => by have := hp.out u (by omega); unfold leS; split <;> omega)
                have b2 := sumN_bd (f := riS (pv ls) A) (n := j) (c := 255) (by omega) (fun u hu => by have := hp.out u (by omega); unfold riS; split <;> omega)
                generalize sumN (leS (pv ls) A) j = sa at *
                generalize sumN (riS (pv ls) A) j = sb at *
                generalize min 255 (minN (leL (qv ls) A) j) = sc at *
                generalize min 255 (minN (riL (qv ls) A) j) = sd at *
                go_wp2_with fail
                refine (Y1.out _ HS.out.f).mono ?_
                rintro e y1 ⟨rfl, hb⟩
                have HR1 := hid_mk (HS.out.grow hb)
                clear hb HS Y1
                go_wp2_with fail
                refine (Y2.out _ HR1.out.f).mono ?_
                rintro e y2 ⟨rfl, hb⟩
                have HR2 := hid_mk (HR1.out.grow hb)
                clear hb HR1 Y2
                go_wp2_with fail
                refine (Y3.out _ HR2.out.f).mono ?_
                rintro e y3 ⟨rfl, hb⟩
                have HR3 := hid_mk (HR2.out.grow hb)
                clear hb HR2 Y3
                go_wp2_with fail
                refine (Y4.out _ HR3.out.f).mono ?_
                rintro e y4 ⟨rfl, hb⟩
                have HR4 := hid_mk (HR3.out.grow hb)
                clear hb HR3 Y4
                go_wp2_with fail
                refine (Y5.out _ HR4.out.f).mono ?_
                rintro e y5 ⟨rfl, hb⟩
                have HR5 := hid_mk (HR4.out.grow hb)
                clear hb HR4 Y5
                go_wp2_with fail
                refine (Y6.out _ HR5.out.f).mono ?_
                rintro e y6 ⟨rfl, hb⟩
                have HR6 := hid_mk (HR5.out.grow hb)
                clear hb HR5 Y6
                go_wp2_with fail
                refine (Y7.out _ HR6.out.f).mono ?_
                rintro e y7 ⟨rfl, hb⟩
                have HR7 := hid_mk (HR6.out.grow hb)
                clear hb HR6 Y7
                go_wp2_with fail
                refine (hcL.out _ HR7.out.f).mono ?_
                rintro e y8 ⟨F5, G5, rfl, hT, hS⟩
                have HR8 := hid_mk (HR7.out.step hT hS hW2)
                obtain ⟨l1, l2⟩ := LST.out HR8.out.tb
                have Z1 : Hid (∀ wx, Fd wx F5 B G5 f5 → Calls Try.prog 10 #[.pointer (some ⟨B, 0, none⟩), .int .i64 (A : Int)] wx fun e w' => e = .returned (.int .i64 (j : Int)) ∧ Below wx.heap.size wx w') := fun wx h => by
                  have := fosize_any h (A : Int) (by unfold B64; omega) hW2 (by omega)
                  rw [l1] at this
                  exact this
                have Z2 : Hid (∀ wx, Fd wx F5 B G5 f5 → Calls Try.prog 13 #[.pointer (some ⟨B, 0, none⟩), .int .i64 0] wx fun e w' => e = .returned (.int .i64 (sa + sb)) ∧ Below wx.heap.size wx w') := fun wx h => by
                  have := fosum_any h 0 (by unfold B64; omega) hW2 (by omega)
                  rw [l2] at this
                  exact this
                clear hT hS HR7 hcL LST l1 l2
                go_wp2_with fail
                refine (Z1.out _ HR8.out.f).mono ?_
                rintro e y9 ⟨rfl, hb⟩
                have HR9 := hid_mk (HR8.out.grow hb)
                clear hb HR8 Z1
                go_wp2_with fail
                refine (Z2.out _ HR9.out.f).mono ?_
                rintro e y10 ⟨rfl, hb⟩
                have HR10 := hid_mk (HR9.out.grow hb)
                clear hb HR9 Z2
                go_wp2_with fail
                refine (WK.out _ HR10.out.below).mono ?_
                rintro e y11 ⟨rfl, hb⟩
                have HBZ := hid_mk hb
                clear hb HR10
                go_wp2
                go_ret
                exact ⟨rfl, HBZ.out⟩
end Go.Proofs.Ytkpfonfcgoocfab
