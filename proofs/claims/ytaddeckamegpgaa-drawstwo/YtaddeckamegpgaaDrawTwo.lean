/- The walk of DrawsTwo. -/
import Derived.Test.YtaddeckamegpgaaDrawTells
import Derived.Deep.AppendLies
namespace Go.Proofs.Ytaddeckamegpgaa
open Go.RowKit
set_option linter.unusedVariables false

/-- The first p numbers that are drawn. -/
def drawsTo (xs : List Int) (p : Nat) : List Int := (List.range p).map (drawN xs)
theorem drawsTo_len (xs : List Int) (p : Nat) : (drawsTo xs p).length = p := by simp [drawsTo]
theorem drawsTo_at (xs : List Int) {p i : Nat} (h : i < p) : lAt (drawsTo xs p) i = drawN xs i := by
  rw [lAt_eq (by rw [drawsTo_len]; exact h)]; simp [drawsTo]
theorem drawsTo_succ (xs : List Int) (p : Nat) : us (drawsTo xs (p + 1)) = us (drawsTo xs p) ++ [.int .u32 (drawN xs p)] := by
  simp [us, drawsTo, List.range_succ]
theorem own_row {W : World} {base n : Nat} {v : Value} {xs : List Int} (hn : xs.length = n) (h : W.ownsRow base 30 1 v n (us xs)) : ∃ ao cap, v = .slice ao n cap ∧ UAt W ao xs := by
  subst hn
  have hc := h
  rcases h.2 with ⟨rfl, h0⟩ | ⟨g, cap, cur, rfl, hb, hg, hn, _, hs, _⟩
  · exact ⟨none, 0, by rw [h0], .inl (List.eq_nil_of_length_eq_zero h0)⟩
  · refine ⟨_, cap, rfl, .inr ⟨g, 0, rfl, fun i hi => ?_⟩⟩
    have h1 := hc.cells rfl _ _ (us_at hi)
    rwa [add_eq] at h1
theorem one_new {W : World} {h : Nat} {x : Int} (hh : Blk W h 30 #[.int .u32 x]) : ∀ j u, ([.int .u32 x] : List Value)[j]? = some u → W.cell? ((⟨h, 0, none⟩ : Addr).add j) = some u := by
  intro j u hu
  rw [add_eq]
  match j, hu with
  | 0, hu => cases hu; exact hh.at rfl
/-- Two rows that share no block. -/
def Parted (v u : Value) : Prop := ∀ k, v.ownBlock = some k → u.ownBlock ≠ some k
theorem Parted.symm {v u : Value} (h : Parted v u) : Parted u v := fun k h1 h2 => h k h2 h1
theorem Parted.put {v u v' : Value} {W : World} {base g n : Nat} {xs : List Value} (h : Parted v u) (hu : W.ownsRow base 30 1 u n xs) (hv : v'.ownBlock = some g) (hg : v.ownBlock = some g ∨ W.heap.size ≤ g) : Parted v' u := by
  intro k h1 h2
  rw [hv] at h1
  cases h1
  rcases hg with hg | hg
  · exact h g hg h2
  · have := (World.ownsRow.lt hu g h2).2; omega
theorem own_but {W W' : World} {base n K : Nat} {v : Value} {xs : List Value} (h : W.ownsRow base 30 1 v n xs) (hb : But W.heap.size K W W') (hK : K < base) : W'.ownsRow base 30 1 v n xs :=
  World.ownsRow.kept h hb.grown (by
    cases hv : v.ownBlock with
    | none => exact .inl rfl
    | some g => right; intro e; cases e; have := (World.ownsRow.lt h K hv).1; omega)
theorem own_apart {W W' : World} {base n : Nat} {v u : Value} {xs : List Value} (h : W.ownsRow base 30 1 u n xs) (hg : W.grownBy W' v.ownBlock) (hp : Parted v u) : W'.ownsRow base 30 1 u n xs :=
  World.ownsRow.kept h hg (by
    cases hv : u.ownBlock with
    | none => exact .inl rfl
    | some g => right; intro e; exact hp g e.symm hv)
theorem drw_grown {W W' : World} {base B G n k : Nat} {v : Value} {xs : List Int} {ys : List Value} (h : Drw W B G xs n) (hg : W.grownBy W' v.ownBlock) (hv : W.ownsRow base 30 1 v k ys) (hB : B < base) (hG : G < base) : Drw W' B G xs n :=
  h.kept (hg.block B h.lt (fun e => by have := (World.ownsRow.lt hv B e.symm).1; omega)) (hg.block G h.gl (fun e => by have := (World.ownsRow.lt hv G e.symm).1; omega)) hg.size

set_option maxRecDepth 100000 in
set_option maxHeartbeats 3200000 in
theorem dtwo_walk (ao : Option Addr) (cap : Nat) (xs : List Int) (bo : Option Addr) (bcap : Nat) (bs : List Bool) (w : World) (hk : UAt w ao xs) (hw : Wu xs) (hl : xs.length ≤ 9223372036854775807) (hk' : BAt w bo bs) (hl' : bs.length ≤ 9223372036854775807) :
    Calls Try.prog 7 #[.slice ao xs.length cap, .slice bo bs.length bcap] w fun e w' => e = .returned (.bool true) ∧ Below w.heap.size w w' := by
  have HK : Hid (UAt w ao xs) := hk
  have HW : Hid (Wu xs) := hw
  have HKb : Hid (BAt w bo bs) := hk'
  clear hk hw hk'
  obtain ⟨a, ha⟩ : ∃ a, a = xs.length := ⟨_, rfl⟩
  have HN : Hid (xs.length = a) := ha.symm
  obtain ⟨m, hb⟩ : ∃ m, m = bs.length := ⟨_, rfl⟩
  have HNb : Hid (bs.length = m) := hb.symm
  rw [← ha] at hl ⊢
  rw [← hb] at hl' ⊢
  clear ha hb
  by_cases hbig : 500 < a ∨ 300 < m
  · go_enter Try.func7, Try.ntmps7
    go_wp2_with fail
    refine (dawake_any _).mono ?_
    rintro e w1 ⟨rfl, hb1⟩
    by_cases h5 : 500 < a
    · go_wp2
      go_ret
      exact ⟨rfl, hb1⟩
    · have h3 : 300 < m := by omega
      go_wp2
      go_ret
      exact ⟨rfl, hb1⟩
  have h5 : a ≤ 500 := by omega
  have h3 : m ≤ 300 := by omega
  clear hbig hl hl'
  obtain ⟨i0, hi, hz0, hz1, hz2⟩ := info_parts Try.infoW
  go_enter Try.func7, Try.ntmps7
  go_wp2_with fail
  refine (dawake_any _).mono ?_
  rintro e w1 ⟨rfl, hb1⟩
  have hs1 := hb1.size
  go_wp2_with fail
  refine (dnew_yes ao a cap xs w1 HN.out (HK.out.below hb1) HW.out (by omega)).mono ?_
  rintro e w2 ⟨B1, G1, rfl, hB1, hG1, hD, hb⟩
  have hb2 := below_step hb1 hb (Nat.le_refl _)
  have X2 : Hid (Drw w2 B1 G1 xs 0) := hD
  have hB1l := hD.lt
  have hG1l := hD.gl
  have hs2 := hb.size
  clear hD hb hb1
  go_wp2_with fail
  refine (dnew_yes ao a cap xs w2 HN.out (HK.out.below hb2) HW.out (by omega)).mono ?_
  rintro e w3 ⟨B2, G2, rfl, hB2, hG2, hD, hb⟩
  have hb3 := below_step hb2 hb (Nat.le_refl _)
  have X3 : Hid (Drw w3 B1 G1 xs 0) := X2.out.below hb
  have Y3 : Hid (Drw w3 B2 G2 xs 0) := hD
  have hB2l := hD.lt
  have hG2l := hD.gl
  have hs3 := hb.size
  clear hD hb hb2 X2
  go_wp2
  go_loopw [9, 10, 11] (fun a b i wr => ∃ (vx vy : Value) (p q : Nat), vx = a ∧ vy = b ∧ p + q ≤ m ∧ i = .int .i64 ((p + q : Nat) : Int) ∧ Hid (wr.ownsRow w3.heap.size 30 1 vx p (us (drawsTo xs p))) ∧ Hid (wr.ownsRow w3.heap.size 30 1 vy q (us (drawsTo xs q))) ∧ Hid (Parted vx vy) ∧ Hid (Drw wr B1 G1 xs p) ∧ Hid (Drw wr B2 G2 xs q) ∧ Below w.heap.size w wr ∧ w3.heap.size ≤ wr.heap.size) (fun _ _ i _ => m - (intOf i).toNat)
  case atStart => exact ⟨_, _, 0, 0, rfl, rfl, by omega, rfl, World.ownsRow_nil _ _ _ _, World.ownsRow_nil _ _ _ _, (fun k h => (by cases h)), X3, Y3, hb3, Nat.le_refl _⟩
  case round =>
    clear X3 Y3 hb3
    obtain ⟨vx, vy, p, q, rfl, rfl, hpq, rfl, OX, OY, HP, X, Y, hB, hsz⟩ := hrel
    by_cases hlt : p + q < m
    · rcases HKb.out with h | ⟨b, off, rfl, hbb⟩
      · have := HNb.out; rw [h] at this; simp at this; omega
      have c0 := hbb (p + q) (by rw [HNb.out]; exact hlt)
      have c1 := (hB.cell (p := ⟨b, off + (p + q), none⟩) (cell_lt c0)).trans c0
      clear hbb c0
      generalize bAt bs (p + q) = tb at *
      generalize hk : p + q = k at *
      have HKK : Hid (p + q = k) := hk
      clear hk
      cases tb with
      | true =>
        have hpk := HKK.out
        go_wp2_with fail
        refine (next_any X.out (by omega)).mono ?_
        rintro e w4 ⟨rfl, hD, hu⟩
        have D4 : Hid (Drw w4 B1 G1 xs (p + 1)) := hD
        have E4 : Hid (Drw w4 B2 G2 xs q) := Y.out.but hu (by omega) (by omega)
        have O4 : Hid (w4.ownsRow w3.heap.size 30 1 vx p (us (drawsTo xs p))) := own_but OX.out hu (by omega)
        have R4 : Hid (w4.ownsRow w3.heap.size 30 1 vy q (us (drawsTo xs q))) := own_but OY.out hu (by omega)
        have hb4 := hB.trans ((hu.mono hB.size).below (by omega))
        have hs4 := hu.size
        have HSS : Hid (us (drawsTo xs (p + 1)) = us (drawsTo xs p) ++ [.int .u32 (drawN xs p)]) := drawsTo_succ xs p
        clear hD hu X Y OX OY hB c1
        generalize drawN xs p = d at *
        go_wp2_with (at_builtin; refine wpList_append_lies _ rfl _ _ 26 rfl w3.heap.size 30 i0 (.int .u32 0) 1 4 Try.underlying26 hi hz0 hz1 hz2 rfl (by decide) _ _ _ rfl (O4.out.alloc _) ⟨w4.heap.size, 0, none⟩ 1 1 [.int .u32 d] rfl rfl (one_new (Blk.new w4 _ _)) (by simp [Value.oneCell']) (by decide) (by unfold maxLen; omega) (by omega) (by simp; omega) _ rfl ?_)
        intro g capg w5 hown hgrow hat hgl
        have hb5 := (below_new hb4 (Nat.le_refl _) (.cells #[.int .u32 d] 30)).grown hgrow (by simp; omega) (fun r hr => by have := (O4.out.lt r hr).1; omega)
        have hs5 := hgrow.size
        simp at hs5
        have hA := (Below.refl w4.heap.size w4).alloc (Nat.le_refl _) (.cells #[.int .u32 d] 30)
        have D5 : Hid (Drw w5 B1 G1 xs (p + 1)) := drw_grown (D4.out.below hA) hgrow (O4.out.alloc _) (by omega) (by omega)
        have E5 : Hid (Drw w5 B2 G2 xs q) := drw_grown (E4.out.below hA) hgrow (O4.out.alloc _) (by omega) (by omega)
        have O5 : Hid (w5.ownsRow w3.heap.size 30 1 (.slice (some ⟨g, 0, none⟩) (p + 1) capg) (p + 1) (us (drawsTo xs (p + 1)))) := by show World.ownsRow _ _ _ _ _ _ _; rw [HSS.out]; exact hown
        have R5 : Hid (w5.ownsRow w3.heap.size 30 1 vy q (us (drawsTo xs q))) := own_apart (R4.out.alloc _) hgrow HP.out
        have P5 : Hid (Parted (.slice (some ⟨g, 0, none⟩) (p + 1) capg) vy) := Parted.put HP.out (R4.out.alloc (.cells #[.int .u32 d] 30)) rfl (hat.imp id (fun e => by rw [e]; simp))
        clear hown hgrow hat D4 E4 O4 R4 hA
        go_wp2
        go_roundw
        case rel => first | exact ⟨_, _, p + 1, q, rfl, rfl, by omega, by rw [show p + 1 + q = k + 1 by omega]; go_num, O5, R5, P5, D5, E5, hb5, by omega⟩ | ((repeat apply Exists.intro); exact ⟨⟨_, _, p + 1, q, rfl, rfl, by omega, by rw [show p + 1 + q = k + 1 by omega]; go_num, O5, R5, P5, D5, E5, hb5, by omega⟩, rfl⟩)
        case measure => simp [intOf]; omega
      | false =>
        have hpk := HKK.out
        go_wp2_with fail
        refine (next_any Y.out (by omega)).mono ?_
        rintro e w4 ⟨rfl, hD, hu⟩
        have D4 : Hid (Drw w4 B2 G2 xs (q + 1)) := hD
        have E4 : Hid (Drw w4 B1 G1 xs p) := X.out.but hu (by omega) (by omega)
        have O4 : Hid (w4.ownsRow w3.heap.size 30 1 vy q (us (drawsTo xs q))) := own_but OY.out hu (by omega)
        have R4 : Hid (w4.ownsRow w3.heap.size 30 1 vx p (us (drawsTo xs p))) := own_but OX.out hu (by omega)
        have hb4 := hB.trans ((hu.mono hB.size).below (by omega))
        have hs4 := hu.size
        have HSS : Hid (us (drawsTo xs (q + 1)) = us (drawsTo xs q) ++ [.int .u32 (drawN xs q)]) := drawsTo_succ xs q
        clear hD hu X Y OX OY hB c1
        generalize drawN xs q = d at *
        go_wp2_with (at_builtin; refine wpList_append_lies _ rfl _ _ 26 rfl w3.heap.size 30 i0 (.int .u32 0) 1 4 Try.underlying26 hi hz0 hz1 hz2 rfl (by decide) _ _ _ rfl (O4.out.alloc _) ⟨w4.heap.size, 0, none⟩ 1 1 [.int .u32 d] rfl rfl (one_new (Blk.new w4 _ _)) (by simp [Value.oneCell']) (by decide) (by unfold maxLen; omega) (by omega) (by simp; omega) _ rfl ?_)
        intro g capg w5 hown hgrow hat hgl
        have hb5 := (below_new hb4 (Nat.le_refl _) (.cells #[.int .u32 d] 30)).grown hgrow (by simp; omega) (fun r hr => by have := (O4.out.lt r hr).1; omega)
        have hs5 := hgrow.size
        simp at hs5
        have hA := (Below.refl w4.heap.size w4).alloc (Nat.le_refl _) (.cells #[.int .u32 d] 30)
        have D5 : Hid (Drw w5 B2 G2 xs (q + 1)) := drw_grown (D4.out.below hA) hgrow (O4.out.alloc _) (by omega) (by omega)
        have E5 : Hid (Drw w5 B1 G1 xs p) := drw_grown (E4.out.below hA) hgrow (O4.out.alloc _) (by omega) (by omega)
        have O5 : Hid (w5.ownsRow w3.heap.size 30 1 (.slice (some ⟨g, 0, none⟩) (q + 1) capg) (q + 1) (us (drawsTo xs (q + 1)))) := by show World.ownsRow _ _ _ _ _ _ _; rw [HSS.out]; exact hown
        have R5 : Hid (w5.ownsRow w3.heap.size 30 1 vx p (us (drawsTo xs p))) := own_apart (R4.out.alloc _) hgrow HP.out.symm
        have P5 : Hid (Parted (.slice (some ⟨g, 0, none⟩) (q + 1) capg) vx) := Parted.put HP.out.symm (R4.out.alloc (.cells #[.int .u32 d] 30)) rfl (hat.imp id (fun e => by rw [e]; simp))
        clear hown hgrow hat D4 E4 O4 R4 hA
        go_wp2
        go_roundw
        case rel => first | exact ⟨_, _, p, q + 1, rfl, rfl, by omega, by rw [show p + (q + 1) = k + 1 by omega]; go_num, R5, O5, P5.out.symm, E5, D5, hb5, by omega⟩ | ((repeat apply Exists.intro); exact ⟨⟨_, _, p, q + 1, rfl, rfl, by omega, by rw [show p + (q + 1) = k + 1 by omega]; go_num, R5, O5, P5.out.symm, E5, D5, hb5, by omega⟩, rfl⟩)
        case measure => simp [intOf]; omega
    · obtain rfl : m = p + q := by omega
      obtain ⟨ax, cx, rfl, hux⟩ := own_row (drawsTo_len xs p) OX.out
      obtain ⟨ay, cy, rfl, huy⟩ := own_row (drawsTo_len xs q) OY.out
      have UX : Hid (UAt wr ax (drawsTo xs p)) := hux
      have UY : Hid (UAt wr ay (drawsTo xs q)) := huy
      clear hux huy OX OY HP hi hz0 hz1 hz2
      have hpb : p ≤ 300 := by omega
      have hqb : q ≤ 300 := by omega
      generalize wr = wo at *
      go_wp2
      by_cases hc : q < p
      · go_loopw [12] (fun i wr => ∃ k : Nat, k ≤ q ∧ i = .int .i64 k ∧ Below wo.heap.size wo wr) (fun i _ => q - (intOf i).toNat)
        case atStart => exact ⟨0, by omega, rfl, Below.refl _ _⟩
        case round =>
          obtain ⟨k, hkn, rfl, hV⟩ := hrel
          by_cases hlt' : k < q
          · rcases UX.out with h | ⟨gx, ox, rfl, hcx⟩
            · have := drawsTo_len xs p; rw [h] at this; simp at this; omega
            rcases UY.out with h | ⟨gy, oy, rfl, hcy⟩
            · have := drawsTo_len xs q; rw [h] at this; simp at this; omega
            have a0 := hcx k (by rw [drawsTo_len]; omega)
            have b0 := hcy k (by rw [drawsTo_len]; omega)
            rw [drawsTo_at xs (by omega)] at a0 b0
            have g0 := Grow.cell (cell_lt ((hV.cell (p := ⟨gx, _, none⟩) (cell_lt a0)).trans a0)) ((hV.cell (p := ⟨gx, _, none⟩) (cell_lt a0)).trans a0)
            have g1 := Grow.cell (cell_lt ((hV.cell (p := ⟨gy, _, none⟩) (cell_lt b0)).trans b0)) ((hV.cell (p := ⟨gy, _, none⟩) (cell_lt b0)).trans b0)
            have gn := Grow.ne wr
            clear hcx hcy a0 b0
            generalize drawN xs k = d at *
            go_wp2
            refine wp_region_grow (by kernel_rfl) (by kernel_rfl) ?_
            repeat (go_big_quiet_step (fail))
            refine wpQuiet_nil ?_
            rintro w6 ⟨⟨_, hb6⟩, rfl⟩
            clear g0 g1 gn
            have hV6 := below_step hV hb6 (Nat.le_refl _)
            go_wp2
            go_roundw
            case rel => exact ⟨k + 1, by omega, by go_num, hV6⟩
            case measure => simp [intOf]; omega
          · have X6 : Hid (Drw wr B1 G1 xs p) := X.out.below hV
            have Y6 : Hid (Drw wr B2 G2 xs q) := Y.out.below hV
            have hB6 := below_step hB hV (Nat.le_refl _)
            clear X Y UX UY
            go_wp2_with fail
            refine (dlen_any X6.out).mono ?_
            rintro e w7 ⟨rfl, rfl⟩
            go_wp2_with fail
            refine (dlen_any Y6.out).mono ?_
            rintro e w7 ⟨rfl, rfl⟩
            go_wp2
            go_ret
            exact ⟨rfl, hB6⟩
      · go_loopw [12] (fun i wr => ∃ k : Nat, k ≤ p ∧ i = .int .i64 k ∧ Below wo.heap.size wo wr) (fun i _ => p - (intOf i).toNat)
        case atStart => exact ⟨0, by omega, rfl, Below.refl _ _⟩
        case round =>
          obtain ⟨k, hkn, rfl, hV⟩ := hrel
          by_cases hlt' : k < p
          · rcases UX.out with h | ⟨gx, ox, rfl, hcx⟩
            · have := drawsTo_len xs p; rw [h] at this; simp at this; omega
            rcases UY.out with h | ⟨gy, oy, rfl, hcy⟩
            · have := drawsTo_len xs q; rw [h] at this; simp at this; omega
            have a0 := hcx k (by rw [drawsTo_len]; omega)
            have b0 := hcy k (by rw [drawsTo_len]; omega)
            rw [drawsTo_at xs (by omega)] at a0 b0
            have g0 := Grow.cell (cell_lt ((hV.cell (p := ⟨gx, _, none⟩) (cell_lt a0)).trans a0)) ((hV.cell (p := ⟨gx, _, none⟩) (cell_lt a0)).trans a0)
            have g1 := Grow.cell (cell_lt ((hV.cell (p := ⟨gy, _, none⟩) (cell_lt b0)).trans b0)) ((hV.cell (p := ⟨gy, _, none⟩) (cell_lt b0)).trans b0)
            have gn := Grow.ne wr
            clear hcx hcy a0 b0
            generalize drawN xs k = d at *
            go_wp2
            refine wp_region_grow (by kernel_rfl) (by kernel_rfl) ?_
            repeat (go_big_quiet_step (fail))
            refine wpQuiet_nil ?_
            rintro w6 ⟨⟨_, hb6⟩, rfl⟩
            clear g0 g1 gn
            have hV6 := below_step hV hb6 (Nat.le_refl _)
            go_wp2
            go_roundw
            case rel => exact ⟨k + 1, by omega, by go_num, hV6⟩
            case measure => simp [intOf]; omega
          · have X6 : Hid (Drw wr B1 G1 xs p) := X.out.below hV
            have Y6 : Hid (Drw wr B2 G2 xs q) := Y.out.below hV
            have hB6 := below_step hB hV (Nat.le_refl _)
            clear X Y UX UY
            go_wp2_with fail
            refine (dlen_any X6.out).mono ?_
            rintro e w7 ⟨rfl, rfl⟩
            go_wp2_with fail
            refine (dlen_any Y6.out).mono ?_
            rintro e w7 ⟨rfl, rfl⟩
            go_wp2
            go_ret
            exact ⟨rfl, hB6⟩
end Go.Proofs.Ytaddeckamegpgaa
