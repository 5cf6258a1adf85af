/- The document's machine of layer 3: Fill. -/
import Derived.Test.YtcflbekjiohfnaaCellRefBatch
namespace Go.Proofs.Ytcflbekjiohfnaa
open Go.RowKit
set_option linter.unusedVariables false

/-- Is the cell in the rectangle? -/
abbrev inR (zw x y a b j : Int) : Prop := x ≤ j % zw ∧ j % zw < x + a ∧ y ≤ j / zw ∧ j / zw < y + b
def nextTo (zw x y a b k : Int) (L : List Int) (i : Nat) : List Int := (List.range L.length).map fun j : Nat => if j < i ∧ inR zw x y a b j then k else lAt L j
theorem nextTo_len (zw x y a b k : Int) (L : List Int) (i : Nat) : (nextTo zw x y a b k L i).length = L.length := by simp [nextTo]
theorem nextTo_at {zw x y a b k : Int} {L : List Int} {i j : Nat} (hj : j < L.length) : lAt (nextTo zw x y a b k L i) j = if j < i ∧ inR zw x y a b j then k else lAt L j := by
  rw [lAt_eq (by rw [nextTo_len]; exact hj)]
  simp only [nextTo, List.getElem_map, List.getElem_range]
theorem nextTo_zero (zw x y a b k : Int) (L : List Int) : nextTo zw x y a b k L 0 = L := by
  refine list_ext (nextTo_len _ _ _ _ _ _ _ _) (fun i hi => ?_)
  rw [nextTo_len] at hi
  rw [nextTo_at hi, if_neg (by omega)]
theorem nextTo_yes {zw x y a b k : Int} {L : List Int} {j : Nat} (hj : j < L.length) (h : inR zw x y a b j) : nextTo zw x y a b k L (j + 1) = put (nextTo zw x y a b k L j) j k := by
  refine list_ext (by rw [put_len, nextTo_len, nextTo_len]) (fun i hi => ?_)
  rw [nextTo_len] at hi
  rw [lAt_put (by omega) (by rw [nextTo_len]; exact hi), nextTo_at hi, nextTo_at hi]
  by_cases e : i = j
  · subst e; rw [if_pos ⟨by omega, h⟩, if_pos rfl]
  · rw [if_neg (show ¬ ((i : Int) = (j : Int)) by omega)]
    by_cases h2 : i < j
    · by_cases h3 : inR zw x y a b i
      · rw [if_pos ⟨by omega, h3⟩, if_pos ⟨h2, h3⟩]
      · rw [if_neg (fun hh => h3 hh.2), if_neg (fun hh => h3 hh.2)]
    · rw [if_neg (fun hh => by omega), if_neg (fun hh => h2 hh.1)]
theorem nextTo_no {zw x y a b k : Int} {L : List Int} {j : Nat} (h : ¬ inR zw x y a b j) : nextTo zw x y a b k L (j + 1) = nextTo zw x y a b k L j := by
  refine list_ext (by rw [nextTo_len, nextTo_len]) (fun i hi => ?_)
  rw [nextTo_len] at hi
  rw [nextTo_at hi, nextTo_at hi]
  by_cases e : i = j
  · subst e; rw [if_neg (fun hh => h hh.2), if_neg (fun hh => h hh.2)]
  · by_cases h2 : i < j
    · by_cases h3 : inR zw x y a b i
      · rw [if_pos ⟨by omega, h3⟩, if_pos ⟨h2, h3⟩]
      · rw [if_neg (fun hh => h3 hh.2), if_neg (fun hh => h3 hh.2)]
    · rw [if_neg (fun hh => by omega), if_neg (fun hh => h2 hh.1)]
theorem div_of {W x y : Int} (hx0 : 0 ≤ x) (hx : x < W) : (y * W + x) / W = y := by
  rw [Int.add_comm, Int.add_mul_ediv_right _ _ (by omega), Int.ediv_eq_zero_of_lt hx0 hx]; omega
theorem rect_in {zw x y : Int} {a b : Nat} {k : Int} (h0 : 1 ≤ zw) (hx : 0 ≤ x) (hy : 0 ≤ y) (hw : x + a ≤ zw) (j : Int) : (∃ e ∈ rectE zw x y a k b, e.1 = j) ↔ inR zw x y a b j := by
  constructor
  · rintro ⟨e, he, rfl⟩
    obtain ⟨r, hr, h1, h2, _⟩ := rectE_mem.1 he
    have hm := Pl.idx_mod (W := zw) (x := e.1 - (y + r) * zw) (y := y + r) (by omega) (by omega)
    have hd := div_of (W := zw) (x := e.1 - (y + r) * zw) (y := y + r) (by omega) (by omega)
    rw [show (y + r) * zw + (e.1 - (y + r) * zw) = e.1 by omega] at hm hd
    unfold inR
    rw [hm, hd]
    omega
  · rintro ⟨h1, h2, h3, h4⟩
    have hj : zw * (j / zw) + j % zw = j := Int.mul_ediv_add_emod j zw
    rw [Int.mul_comm] at hj
    refine ⟨(j, k), rectE_mem.2 ⟨(j / zw - y).toNat, by omega, ?_⟩, rfl⟩
    rw [show y + ((j / zw - y).toNat : Int) = j / zw by omega]
    exact ⟨by show j / zw * zw + x ≤ j; omega, by show j < j / zw * zw + x + a; omega, rfl⟩
theorem next_all {zw x y k : Int} {a b : Nat} {L : List Int} (h0 : 1 ≤ zw) (hx : 0 ≤ x) (hy : 0 ≤ y) (hw : x + a ≤ zw) : nextTo zw x y a b k L L.length = puts L (rectE zw x y a k b) := by
  refine list_ext (by rw [nextTo_len, puts_len]) (fun i hi => ?_)
  rw [nextTo_len] at hi
  rw [nextTo_at hi]
  have hf : ∀ e ∈ rectE zw x y a k b, 0 ≤ e.1 ∧ e.2 = (fun _ => k) e.1 := fun e he => by
    have := rectE_ahead (by omega) hx hy hw he
    exact ⟨this.2.1, this.2.2⟩
  by_cases h : inR zw x y a b i
  · rw [if_pos ⟨hi, h⟩, lAt_puts_fun (fun _ => k) _ L hi hf ((rect_in h0 hx hy hw i).2 h)]
  · rw [if_neg (fun hh => h hh.2), lAt_puts_out i _ _ (fun e he => ⟨(hf e he).1, fun e' => h ((rect_in h0 hx hy hw i).1 ⟨e, he, e'.symm⟩)⟩)]
theorem errF_six {nk zw zh x y a b k : Int} (hk : hasN nk k = true) (h : rectB zw zh x y a b = false) : errF nk zw zh x y a b k = 6 := by unfold errF; rw [hk, h]; rfl
theorem rectB_no {zw zh x y a b : Int} (h : ¬ (0 ≤ x ∧ x < zw ∧ 0 ≤ y ∧ y < zh ∧ 1 ≤ a ∧ a ≤ zw - x ∧ 1 ≤ b ∧ b ≤ zh - y)) : rectB zw zh x y a b = false := by
  cases hh : rectB zw zh x y a b with
  | false => rfl
  | true =>
    obtain ⟨h1, h2⟩ := rectB_iff.1 hh
    obtain ⟨_, h3⟩ := Pl.atB_iff.1 h1
    exact absurd ⟨h3.1, h3.2.1, h3.2.2.1, h3.2.2.2, h2⟩ h

set_option maxRecDepth 100000 in
set_option maxHeartbeats 4000000 in
theorem rfill_any {w : World} {base RB kn kc : Nat} {zw zh cl : Int} {ao : Option Addr} {L : List Int} (h : RG w base RB zw zh (.slice ao kn kc) cl L) (hrt : Pl.rt zw zh = true) (hlen : (L.length : Int) = zw * zh) (x y a b k : Int) (hb : base ≤ w.heap.size) (hkn : kn ≤ 16) :
    Calls Try.prog 42 #[.pointer (some ⟨RB, 0, none⟩), .int .i64 x, .int .i64 y, .int .i64 a, .int .i64 b, .int .i64 k] w fun e w' => ∃ v, e = .returned (.tuple #[v, .int .i64 (errF kn zw zh x y a b k)]) ∧ IS w' w.heap.size v (diffs L (fillL kn zw zh L x y a b k)) ∧ RG w' base RB zw zh (.slice ao kn kc) cl (fillL kn zw zh L x y a b k) ∧ But w.heap.size RB w w' := by
  have HG : Hid (RG w base RB zw zh (.slice ao kn kc) cl L) := h
  obtain ⟨lb, lc, hblk, h2, h3, h4, h5⟩ := h.ex
  obtain ⟨z1, z2, z3, z4, _⟩ := Pl.rt_iff.1 hrt
  have hRB := hblk.lt
  have c0 : w.cell? ⟨RB, 0, none⟩ = some (.int .i64 zw) := hblk.at (j := 0) rfl
  have c0' : w.cell? ⟨RB, 1, none⟩ = some (.int .i64 zh) := hblk.at (j := 1) rfl
  have c1 : w.cell? ⟨RB, 2, none⟩ = some (.slice ao kn kc) := hblk.at (j := 2) rfl
  have c4 : w.cell? ⟨RB, 4, none⟩ = some (.slice (some ⟨lb, 0, none⟩) L.length lc) := hblk.at (j := 4) rfl
  have hl1 := h.l1
  have hl2 := h.l2
  have HR : Hid (RowC w lb L) := h5
  have HBk : Hid (Blk w RB 53 (refCells zw zh (.slice ao kn kc) cl (.slice (some ⟨lb, 0, none⟩) L.length lc))) := hblk
  have HRt : Hid (Pl.rt zw zh = true) := hrt
  have HLn : Hid ((L.length : Int) = zw * zh) := hlen
  obtain ⟨i0, hi, hz0, hz1, hz2⟩ := info_parts Try.infoI
  obtain ⟨r, hr⟩ : ∃ r, errF kn zw zh x y a b k = r := ⟨_, rfl⟩
  have HF1 : Hid (r ≠ 0 → fillL kn zw zh L x y a b k = L) := fun hh => by unfold fillL; rw [hr, if_neg hh]
  have HF0 : Hid (r = 0 → fillL kn zw zh L x y a b k = puts L (rectE zw x y a.toNat k b.toNat)) := fun hh => by unfold fillL; rw [hr, if_pos hh]
  have HE7 : Hid (hasN kn k = false → r = 7) := fun hh => by rw [← hr]; unfold errF; rw [hh]; rfl
  rw [hr]
  by_cases k0 : k < 0
  · have hr7 : r = 7 := HE7.out (hasN_neg k0)
    subst hr7
    have hfl : Hid (fillL kn zw zh L x y a b k = L) := HF1.out (by decide)
    have HG2 : Hid (RG w base RB zw zh (.slice ao kn kc) cl L) := h
    clear h hblk h5 hr HE7 HF1 HF0 hrt hlen
    go_enter Try.func42, Try.ntmps42
    go_wp2
    go_ret2
    rw [hfl.out, diffs_self]
    exact ⟨_, rfl, IS.nil _ _, HG2.out, But.refl _ _ _⟩
  by_cases k1 : (kn : Int) ≤ k
  · have hr7 : r = 7 := HE7.out (by
      have := hasN_pos (n := (kn : Int)) k0
      rw [show decide ((kn : Int) ≤ k) = true by simpa using k1] at this
      simpa using this)
    subst hr7
    have hfl : Hid (fillL kn zw zh L x y a b k = L) := HF1.out (by decide)
    have HG2 : Hid (RG w base RB zw zh (.slice ao kn kc) cl L) := h
    clear h hblk h5 hr HE7 HF1 HF0 hrt hlen
    go_enter Try.func42, Try.ntmps42
    go_wp2
    go_ret2
    rw [hfl.out, diffs_self]
    exact ⟨_, rfl, IS.nil _ _, HG2.out, But.refl _ _ _⟩
  have hk : hasN kn k = true := hasN_iff.2 ⟨by omega, by omega⟩
  have HE6 : Hid (¬ (0 ≤ x ∧ x < zw ∧ 0 ≤ y ∧ y < zh ∧ 1 ≤ a ∧ a ≤ zw - x ∧ 1 ≤ b ∧ b ≤ zh - y) → r = 6) := fun hh => by rw [← hr]; exact errF_six hk (rectB_no hh)
  have HE0 : Hid ((0 ≤ x ∧ x < zw ∧ 0 ≤ y ∧ y < zh ∧ 1 ≤ a ∧ a ≤ zw - x ∧ 1 ≤ b ∧ b ≤ zh - y) → r = 0) := fun hh => by
    rw [← hr]
    unfold errF
    rw [hk, show rectB zw zh x y a b = true from rectB_iff.2 ⟨Pl.atB_iff.2 ⟨hrt, hh.1, hh.2.1, hh.2.2.1, hh.2.2.2.1⟩, hh.2.2.2.2⟩]
    rfl
  clear h hblk h5 hr HE7 hk hrt hlen
  by_cases q1 : a < 1
  · have hr6 : r = 6 := HE6.out (fun hh => by omega)
    subst hr6
    have hfl : Hid (fillL kn zw zh L x y a b k = L) := HF1.out (by decide)
    have HG2 : Hid (RG w base RB zw zh (.slice ao kn kc) cl L) := HG.out
    clear HE6 HE0 HF1 HF0
    go_enter Try.func42, Try.ntmps42
    go_wp2
    go_ret2
    rw [hfl.out, diffs_self]
    exact ⟨_, rfl, IS.nil _ _, HG2.out, But.refl _ _ _⟩
  by_cases q2 : b < 1
  · have hr6 : r = 6 := HE6.out (fun hh => by omega)
    subst hr6
    have hfl : Hid (fillL kn zw zh L x y a b k = L) := HF1.out (by decide)
    have HG2 : Hid (RG w base RB zw zh (.slice ao kn kc) cl L) := HG.out
    clear HE6 HE0 HF1 HF0
    go_enter Try.func42, Try.ntmps42
    go_wp2
    go_ret2
    rw [hfl.out, diffs_self]
    exact ⟨_, rfl, IS.nil _ _, HG2.out, But.refl _ _ _⟩
  by_cases q3 : x < 0
  · have hr6 : r = 6 := HE6.out (fun hh => by omega)
    subst hr6
    have hfl : Hid (fillL kn zw zh L x y a b k = L) := HF1.out (by decide)
    have HG2 : Hid (RG w base RB zw zh (.slice ao kn kc) cl L) := HG.out
    clear HE6 HE0 HF1 HF0
    go_enter Try.func42, Try.ntmps42
    go_wp2
    go_ret2
    rw [hfl.out, diffs_self]
    exact ⟨_, rfl, IS.nil _ _, HG2.out, But.refl _ _ _⟩
  by_cases q4 : y < 0
  · have hr6 : r = 6 := HE6.out (fun hh => by omega)
    subst hr6
    have hfl : Hid (fillL kn zw zh L x y a b k = L) := HF1.out (by decide)
    have HG2 : Hid (RG w base RB zw zh (.slice ao kn kc) cl L) := HG.out
    clear HE6 HE0 HF1 HF0
    go_enter Try.func42, Try.ntmps42
    go_wp2
    go_ret2
    rw [hfl.out, diffs_self]
    exact ⟨_, rfl, IS.nil _ _, HG2.out, But.refl _ _ _⟩
  by_cases q5 : zw ≤ x
  · have hr6 : r = 6 := HE6.out (fun hh => by omega)
    subst hr6
    have hfl : Hid (fillL kn zw zh L x y a b k = L) := HF1.out (by decide)
    have HG2 : Hid (RG w base RB zw zh (.slice ao kn kc) cl L) := HG.out
    clear HE6 HE0 HF1 HF0
    go_enter Try.func42, Try.ntmps42
    go_wp2
    go_ret2
    rw [hfl.out, diffs_self]
    exact ⟨_, rfl, IS.nil _ _, HG2.out, But.refl _ _ _⟩
  by_cases q6 : zh ≤ y
  · have hr6 : r = 6 := HE6.out (fun hh => by omega)
    subst hr6
    have hfl : Hid (fillL kn zw zh L x y a b k = L) := HF1.out (by decide)
    have HG2 : Hid (RG w base RB zw zh (.slice ao kn kc) cl L) := HG.out
    clear HE6 HE0 HF1 HF0
    go_enter Try.func42, Try.ntmps42
    go_wp2
    go_ret2
    rw [hfl.out, diffs_self]
    exact ⟨_, rfl, IS.nil _ _, HG2.out, But.refl _ _ _⟩
  by_cases q7 : zw - x < a
  · have hr6 : r = 6 := HE6.out (fun hh => by omega)
    subst hr6
    have hfl : Hid (fillL kn zw zh L x y a b k = L) := HF1.out (by decide)
    have HG2 : Hid (RG w base RB zw zh (.slice ao kn kc) cl L) := HG.out
    clear HE6 HE0 HF1 HF0
    go_enter Try.func42, Try.ntmps42
    go_wp2
    go_ret2
    rw [hfl.out, diffs_self]
    exact ⟨_, rfl, IS.nil _ _, HG2.out, But.refl _ _ _⟩
  by_cases q8 : zh - y < b
  · have hr6 : r = 6 := HE6.out (fun hh => by omega)
    subst hr6
    have hfl : Hid (fillL kn zw zh L x y a b k = L) := HF1.out (by decide)
    have HG2 : Hid (RG w base RB zw zh (.slice ao kn kc) cl L) := HG.out
    clear HE6 HE0 HF1 HF0
    go_enter Try.func42, Try.ntmps42
    go_wp2
    go_ret2
    rw [hfl.out, diffs_self]
    exact ⟨_, rfl, IS.nil _ _, HG2.out, But.refl _ _ _⟩
  have hr0 : r = 0 := HE0.out (by omega)
  subst hr0
  obtain ⟨an, rfl⟩ : ∃ an : Nat, a = (an : Int) := ⟨a.toNat, by omega⟩
  obtain ⟨bn, rfl⟩ : ∃ bn : Nat, b = (bn : Int) := ⟨b.toNat, by omega⟩
  have HNx : Hid (fillL kn zw zh L x y an bn k = nextTo zw x y an bn k L L.length) := by
    show _ = _
    rw [HF0.out rfl, Int.toNat_natCast, Int.toNat_natCast, next_all z1 (by omega) (by omega) (by omega)]
  clear HE6 HE0 HF1 HF0
  obtain ⟨M, hM⟩ : ∃ M, L.length = M := ⟨_, rfl⟩
  have HM : Hid (L.length = M) := hM
  rw [hM] at c4 hl1 hl2 HBk HLn HNx
  have HAt : Hid (∀ j : Nat, j < M → Pl.inB zw zh j = true) := fun j hj => Pl.inB_iff.2 ⟨HRt.out, by omega, by have := HLn.out; omega⟩
  clear hM
  have hbk : Below w.heap.size w (w.alloc (.cells #[] 3)) := (Below.refl _ _).alloc (Nat.le_refl _) _
  have hsrc : ∀ j u, (ints L)[j]? = some u → (w.alloc (.cells #[] 3)).cell? ((⟨lb, 0, none⟩ : Addr).add j) = some u := fun j u hu => by
    have hj : j < L.length := by have := (List.getElem?_eq_some_iff.1 hu).1; rwa [ints_len] at this
    rw [ints_at hj] at hu
    rw [add_eq, Nat.zero_add, hbk.cell (p := ⟨lb, j, none⟩) h4, (HR.out j hj).1]
    exact hu
  have hone : ∀ u ∈ ints L, u.oneCell' = true := fun u hu => by
    obtain ⟨q, _, rfl⟩ := List.mem_map.1 hu
    rfl
  have HSr : Hid (∀ j u, (ints L)[j]? = some u → (w.alloc (.cells #[] 3)).cell? ((⟨lb, 0, none⟩ : Addr).add j) = some u) := hsrc
  have HOn : Hid (∀ u ∈ ints L, u.oneCell' = true) := hone
  clear hsrc hone
  go_enter Try.func42, Try.ntmps42
  go_wp2_with (at_builtin; refine wpList_append_own _ rfl _ _ 29 rfl w.heap.size 3 i0 (.int .i64 0) 1 8 Try.underlying29 hi hz0 hz1 hz2 rfl (by decide) _ _ _ rfl (World.ownsRow_made w #[] 0 (Nat.le_refl _) (Nat.zero_le _) rfl) ⟨lb, 0, none⟩ M lc (ints L) rfl (by rw [ints_len, HM.out, Nat.mul_one]) HSr.out HOn.out (by unfold maxLen; omega) (by omega) (by simp) ?_)
  intro v' w3 hown hgrow _
  have hB3 := hbk.grown hgrow (by simp) (by intro q hq; simp [Value.ownBlock] at hq; omega)
  have hIS : IS w3 w.heap.size v' L := by
    unfold IS
    rw [HM.out]
    simpa using hown
  obtain ⟨ng, nc, hv', hng, hngl, hrow⟩ := hIS.rowC (by rw [HM.out]; exact hl1)
  rw [HM.out] at hv'
  subst hv'
  have HRow : Hid (RowC w3 ng (nextTo zw x y an bn k L 0)) := by rw [nextTo_zero]; exact hrow
  have HL1 : Hid (nextTo zw x y an bn k L M = nextTo zw x y an bn k L L.length) := by show _ = _; rw [HM.out]
  obtain ⟨B0, hB0⟩ : ∃ B0, B0 = w3.heap.size := ⟨_, rfl⟩
  have hB0w : w.heap.size ≤ B0 := by rw [hB0]; exact hB3.size
  have hngB : ng < B0 := by rw [hB0]; exact hngl
  have hB0' : B0 ≤ w3.heap.size := by rw [hB0]; exact Nat.le_refl _
  clear hown hgrow hIS hrow HSr HOn hbk hB0
  go_wp2
  go_loopw [15, 16] (fun s i wr => ∃ (j : Nat) (sv : Value), sv = s ∧ j ≤ M ∧ i = .int .i64 j ∧ Hid (RowC wr ng (nextTo zw x y an bn k L j)) ∧ Hid (IS wr B0 sv (diffsTo L (nextTo zw x y an bn k L M) j)) ∧ Below w.heap.size w wr ∧ B0 ≤ wr.heap.size) (fun _ i _ => M - (intOf i).toNat)
  case atStart => exact ⟨0, _, rfl, Nat.zero_le _, rfl, HRow, IS.nil _ _, hB3, hB0'⟩
  case round =>
    obtain ⟨j, s, hs, hjn, rfl, HRj, HI, hB, hBz⟩ := hrel
    subst hs
    have c0r := (hB.cell (p := ⟨RB, 0, none⟩) hRB).trans c0
    have c0r' := (hB.cell (p := ⟨RB, 1, none⟩) hRB).trans c0'
    by_cases hlt : j < M
    · have hjL : j < L.length := by rw [HM.out]; exact hlt
      have hA := HAt.out j hlt
      have hbd := Pl.at_bd hA
      have HA : Hid (Pl.inB zw zh j = true) := hA
      have HS : Hid (diffsTo L (nextTo zw x y an bn k L M) (j + 1) = diffsTo L (nextTo zw x y an bn k L M) j ++ (if lAt (nextTo zw x y an bn k L M) j = lAt L j then [] else [(j : Int)])) := diffsTo_succ _ _ _
      have hdl := diffsTo_len L (nextTo zw x y an bn k L M) j
      have hnl : (nextTo zw x y an bn k L j).length = M := by rw [nextTo_len]; exact HM.out
      obtain ⟨d1, d2, d3, d4⟩ : 0 ≤ (j : Int) % zw ∧ (j : Int) % zw < zw ∧ 0 ≤ (j : Int) / zw ∧ (j : Int) / zw < zh := ⟨hbd.2.2.2.2.2.2.1, hbd.2.2.2.2.2.2.2.1, hbd.2.2.2.2.2.2.2.2.1, hbd.2.2.2.2.2.2.2.2.2.1⟩
      obtain ⟨u, hu⟩ : ∃ u, (j : Int) % zw = u := ⟨_, rfl⟩
      obtain ⟨v, hv⟩ : ∃ v, (j : Int) / zw = v := ⟨_, rfl⟩
      rw [hu] at d1 d2
      rw [hv] at d3 d4
      have HU : Hid ((j : Int) % zw = u ∧ (j : Int) / zw = v) := ⟨hu, hv⟩
      clear hA hbd hu hv
      go_wp2_with fail
      refine (Pl.rat_yes zw zh j _ HA.out).mono ?_
      rintro e w4 ⟨rfl, hb4⟩
      rw [HU.out.1, HU.out.2]
      have hB4 := below_step hB hb4 (Nat.le_refl _)
      have hBz4 := Nat.le_trans hBz hb4.size
      have HR4 : Hid (RowC w4 ng (nextTo zw x y an bn k L j)) := HRj.out.below hb4
      have HI4 : Hid (IS w4 B0 s (diffsTo L (nextTo zw x y an bn k L M) j)) := HI.out.below hb4
      clear HRj HI hb4 hB hBz c0r c0r'
      by_cases hin : inR zw x y an bn j
      · have hin' : x ≤ u ∧ u < x + an ∧ y ≤ v ∧ v < y + bn := by
          have := hin
          unfold inR at this
          rw [HU.out.1, HU.out.2] at this
          exact this
        obtain ⟨p1, p2, p3, p4⟩ := hin'
        have HV : Hid (lAt (nextTo zw x y an bn k L M) j = k) := by show _ = _; rw [nextTo_at hjL, if_pos ⟨hlt, hin⟩]
        have HNx2 : Hid (nextTo zw x y an bn k L (j + 1) = put (nextTo zw x y an bn k L j) j k) := nextTo_yes hjL hin
        have hrc := HR4.out j (by omega)
        have hng4 : ng < w4.heap.size := by omega
        have HR5 : Hid (RowC (w4.setCell ⟨ng, j, none⟩ (.int .i64 k)) ng (nextTo zw x y an bn k L (j + 1))) := by
          show RowC _ _ _
          rw [HNx2.out]
          have := HR4.out.put (c := (j : Int)) k (by omega) (by rw [hnl]; omega)
          rwa [Int.toNat_natCast] at this
        have hset : But w4.heap.size ng w4 (w4.setCell ⟨ng, j, none⟩ (.int .i64 k)) := (But.refl _ _ _).set j _
        have HI5 : Hid (IS (w4.setCell ⟨ng, j, none⟩ (.int .i64 k)) B0 s (diffsTo L (nextTo zw x y an bn k L M) j)) := HI4.out.but hset hngB
        have hB5 := hB4.setCell (p := ⟨ng, j, none⟩) hng (.int .i64 k)
        have k4 := hrc.1
        have f4 := hrc.2
        have hsz5 : (w4.setCell ⟨ng, j, none⟩ (.int .i64 k)).heap.size = w4.heap.size := by simp
        have y0 : (w4.setCell ⟨ng, j, none⟩ (.int .i64 k)).cell? ⟨ng, j, none⟩ = some (.int .i64 k) := World.cell?_setCell_same _ _ _ k4
        have y1 := (hB5.cell (p := ⟨lb, j, none⟩) h4).trans (HR.out j hjL).1
        have y4 := (hB5.cell (p := ⟨RB, 4, none⟩) hRB).trans c4
        rw [HV.out] at HS
        clear hrc HNx2 HR4 HI4 hset hin HV hB4
        generalize lAt L j = qv at *
        generalize diffsTo L (nextTo zw x y an bn k L M) j = fs at *
        have g0 := Grow.cell (cell_lt y0) y0
        have g1 := Grow.cell (cell_lt y1) y1
        have g4 := Grow.cell (cell_lt y4) y4
        have gn := Grow.ne (w4.setCell ⟨ng, j, none⟩ (.int .i64 k))
        go_wp2
        refine wp_region_grow (by kernel_rfl) (by kernel_rfl) ?_
        repeat (go_big_quiet_step (fail))
        refine wpQuiet_nil ?_
        rintro w7 ⟨⟨_, hb7⟩, rfl⟩
        clear g0 g1 g4 gn
        have hB7 := below_step hB5 hb7 (Nat.le_refl _)
        have HI7 : Hid (IS w7 B0 s fs) := HI5.out.below hb7
        have HR7 : Hid (RowC w7 ng (nextTo zw x y an bn k L (j + 1))) := HR5.out.below hb7
        have hsz7 : B0 ≤ w7.heap.size := by have := hb7.size; omega
        by_cases hpq : k = qv
        · have e0 : (k != qv) = false := by simp [hpq]
          rw [e0]
          have HS' : Hid (diffsTo L (nextTo zw x y an bn k L M) (j + 1) = fs) := by show _ = _; rw [HS.out, if_pos hpq, List.append_nil]
          clear HS
          go_wp2
          go_roundw
          case rel => exact ⟨j + 1, _, rfl, by omega, by go_num, HR7, by rw [HS'.out]; exact HI7, hB7, hsz7⟩
          case measure => simp [intOf]; omega
        · have e0 : (k != qv) = true := by simp [hpq]
          rw [e0]
          have HS' : Hid (diffsTo L (nextTo zw x y an bn k L M) (j + 1) = fs ++ [(j : Int)]) := by show _ = _; rw [HS.out, if_neg hpq]
          have hown : w7.ownsRow B0 3 1 s fs.length (ints fs) := HI7.out
          clear HS e0
          go_wp2_with (at_builtin; refine wpList_append_own _ rfl _ _ 29 rfl B0 3 i0 (.int .i64 0) 1 8 Try.underlying29 hi hz0 hz1 hz2 rfl (by decide) _ _ _ rfl (hown.alloc _) ⟨w7.heap.size, 0, none⟩ 1 1 [.int .i64 j] rfl rfl (int_news (Blk.new w7 3 #[.int .i64 j])) (by simp [Value.oneCell']) (by unfold maxLen; omega) (by omega) (by simp; omega) ?_)
          intro v8 w8 hown2 hgrow _
          have hB8 := (below_new hB7 (Nat.le_refl _) (.cells #[.int .i64 j] 3)).grown hgrow (by simp; omega) (fun r hr => by have := (hown.lt r hr).1; omega)
          have hgz := hgrow.size
          simp at hgz
          have HR8 : Hid (RowC w8 ng (nextTo zw x y an bn k L (j + 1))) := by
            have hal : Below w7.heap.size w7 (w7.alloc (.cells #[.int .i64 j] 3)) := (Below.refl _ _).alloc (Nat.le_refl _) _
            have hra := HR7.out.below hal
            intro i hi'
            have hq := hra i hi'
            have hne : some ng ≠ s.ownBlock := fun e => by have := (hown.lt ng e.symm).1; omega
            have hbq := hgrow.block ng (by simp; omega) hne
            exact ⟨(World.cell?_of_block (w := w7.alloc (.cells #[.int .i64 j] 3)) hbq).trans hq.1, (frozen_block hbq).trans hq.2⟩
          have HI8 : Hid (IS w8 B0 v8 (fs ++ [(j : Int)])) := by
            show IS _ _ _ _
            unfold IS
            rw [show (fs ++ [(j : Int)]).length = fs.length + 1 by simp, show ints (fs ++ [(j : Int)]) = ints fs ++ [.int .i64 j] by simp [ints]]
            exact hown2
          clear hown2 hgrow hown
          go_wp2
          go_roundw
          case rel => exact ⟨j + 1, _, rfl, by omega, by go_num, HR8, by rw [HS'.out]; exact HI8, hB8, by omega⟩
          case measure => simp [intOf]; omega
      · have HV : Hid (lAt (nextTo zw x y an bn k L M) j = lAt L j) := by show _ = _; rw [nextTo_at hjL, if_neg (fun hh => hin hh.2)]
        have HNx2 : Hid (nextTo zw x y an bn k L (j + 1) = nextTo zw x y an bn k L j) := nextTo_no hin
        have HS' : Hid (diffsTo L (nextTo zw x y an bn k L M) (j + 1) = diffsTo L (nextTo zw x y an bn k L M) j) := by show _ = _; rw [HS.out, if_pos HV.out, List.append_nil]
        have y0 := (HR4.out j (by omega)).1
        rw [nextTo_at hjL, if_neg (fun hh => hin hh.2)] at y0
        have y1 := (hB4.cell (p := ⟨lb, j, none⟩) h4).trans (HR.out j hjL).1
        have y4 := (hB4.cell (p := ⟨RB, 4, none⟩) hRB).trans c4
        have hin' : ¬ (x ≤ u ∧ u < x + an ∧ y ≤ v ∧ v < y + bn) := fun hh => hin (by
          unfold inR
          rw [HU.out.1, HU.out.2]
          exact hh)
        clear HS hin HV
        generalize lAt L j = qv at *
        have g0 := Grow.cell (cell_lt y0) y0
        have g1 := Grow.cell (cell_lt y1) y1
        have g4 := Grow.cell (cell_lt y4) y4
        have gn := Grow.ne w4
        by_cases p1 : x ≤ u
        · by_cases p2 : u < x + an
          · by_cases p3 : y ≤ v
            · have p4 : ¬ v < y + bn := fun hh => hin' ⟨p1, p2, p3, hh⟩
              go_wp2
              refine wp_region_grow (by kernel_rfl) (by kernel_rfl) ?_
              repeat (go_big_quiet_step (fail))
              refine wpQuiet_nil ?_
              rintro w7 ⟨⟨_, hb7⟩, rfl⟩
              clear g0 g1 g4 gn
              have hB7 := below_step hB4 hb7 (Nat.le_refl _)
              have HI7 : Hid (IS w7 B0 s (diffsTo L (nextTo zw x y an bn k L M) (j + 1))) := by rw [HS'.out]; exact HI4.out.below hb7
              have HR7 : Hid (RowC w7 ng (nextTo zw x y an bn k L (j + 1))) := by rw [HNx2.out]; exact HR4.out.below hb7
              have hsz7 : B0 ≤ w7.heap.size := Nat.le_trans hBz4 hb7.size
              try rw [show (qv != qv) = false by simp]
              clear HI4 HR4 HS' HNx2
              go_wp2
              go_roundw
              case rel => exact ⟨j + 1, _, rfl, by omega, by go_num, HR7, HI7, hB7, hsz7⟩
              case measure => simp [intOf]; omega
            · go_wp2
              refine wp_region_grow (by kernel_rfl) (by kernel_rfl) ?_
              repeat (go_big_quiet_step (fail))
              refine wpQuiet_nil ?_
              rintro w7 ⟨⟨_, hb7⟩, rfl⟩
              clear g0 g1 g4 gn
              have hB7 := below_step hB4 hb7 (Nat.le_refl _)
              have HI7 : Hid (IS w7 B0 s (diffsTo L (nextTo zw x y an bn k L M) (j + 1))) := by rw [HS'.out]; exact HI4.out.below hb7
              have HR7 : Hid (RowC w7 ng (nextTo zw x y an bn k L (j + 1))) := by rw [HNx2.out]; exact HR4.out.below hb7
              have hsz7 : B0 ≤ w7.heap.size := Nat.le_trans hBz4 hb7.size
              try rw [show (qv != qv) = false by simp]
              clear HI4 HR4 HS' HNx2
              go_wp2
              go_roundw
              case rel => exact ⟨j + 1, _, rfl, by omega, by go_num, HR7, HI7, hB7, hsz7⟩
              case measure => simp [intOf]; omega
          · go_wp2
            refine wp_region_grow (by kernel_rfl) (by kernel_rfl) ?_
            repeat (go_big_quiet_step (fail))
            refine wpQuiet_nil ?_
            rintro w7 ⟨⟨_, hb7⟩, rfl⟩
            clear g0 g1 g4 gn
            have hB7 := below_step hB4 hb7 (Nat.le_refl _)
            have HI7 : Hid (IS w7 B0 s (diffsTo L (nextTo zw x y an bn k L M) (j + 1))) := by rw [HS'.out]; exact HI4.out.below hb7
            have HR7 : Hid (RowC w7 ng (nextTo zw x y an bn k L (j + 1))) := by rw [HNx2.out]; exact HR4.out.below hb7
            have hsz7 : B0 ≤ w7.heap.size := Nat.le_trans hBz4 hb7.size
            try rw [show (qv != qv) = false by simp]
            clear HI4 HR4 HS' HNx2
            go_wp2
            go_roundw
            case rel => exact ⟨j + 1, _, rfl, by omega, by go_num, HR7, HI7, hB7, hsz7⟩
            case measure => simp [intOf]; omega
        · go_wp2
          refine wp_region_grow (by kernel_rfl) (by kernel_rfl) ?_
          repeat (go_big_quiet_step (fail))
          refine wpQuiet_nil ?_
          rintro w7 ⟨⟨_, hb7⟩, rfl⟩
          clear g0 g1 g4 gn
          have hB7 := below_step hB4 hb7 (Nat.le_refl _)
          have HI7 : Hid (IS w7 B0 s (diffsTo L (nextTo zw x y an bn k L M) (j + 1))) := by rw [HS'.out]; exact HI4.out.below hb7
          have HR7 : Hid (RowC w7 ng (nextTo zw x y an bn k L (j + 1))) := by rw [HNx2.out]; exact HR4.out.below hb7
          have hsz7 : B0 ≤ w7.heap.size := Nat.le_trans hBz4 hb7.size
          try rw [show (qv != qv) = false by simp]
          clear HI4 HR4 HS' HNx2
          go_wp2
          go_roundw
          case rel => exact ⟨j + 1, _, rfl, by omega, by go_num, HR7, HI7, hB7, hsz7⟩
          case measure => simp [intOf]; omega
    · have hI9 : IS wr B0 s (diffs L (nextTo zw x y an bn k L M)) := by
        have := HI.out
        rwa [show j = L.length by rw [HM.out]; omega] at this
      have hR9 : RowC wr ng (nextTo zw x y an bn k L M) := by
        have := HRj.out
        rwa [show j = M by omega] at this
      have HI9 : Hid (IS wr B0 s (diffs L (nextTo zw x y an bn k L M))) := hI9
      have HR9 : Hid (RowC wr ng (nextTo zw x y an bn k L M)) := hR9
      have hnl : (nextTo zw x y an bn k L M).length = M := by rw [nextTo_len]; exact HM.out
      have y4 := (hB.cell (p := ⟨RB, 4, none⟩) hRB).trans c4
      have hBl9 := (HBk.out.below hB)
      have hRB9 := hBl9.lt
      have f4 := hBl9.frozen 4
      have HB9 : Hid (Blk wr RB 53 (refCells zw zh (.slice ao kn kc) cl (.slice (some ⟨lb, 0, none⟩) M lc))) := hBl9
      clear hI9 HI hBl9 hR9 HRj c0r c0r'
      go_wp2
      go_ret2
      rw [HNx.out]
      have hset : But wr.heap.size RB wr (wr.setCell ⟨RB, 4, none⟩ (.slice (some ⟨ng, 0, none⟩) M nc)) := (But.refl _ _ _).set 4 _
      refine ⟨s, rfl, (IS.but (HI9.out) hset (by omega)).mono hB0w, ⟨⟨ng, nc, ?_, by omega, by omega, by simp; omega, HR9.out.but hset (by omega)⟩, HG.out.rb, by omega, by omega⟩, (Below.but RB hB).set 4 _⟩
      have := HB9.out.setAt 4 (.slice (some ⟨ng, 0, none⟩) M nc)
      rw [hnl]
      exact this
end Go.Proofs.Ytcflbekjiohfnaa
