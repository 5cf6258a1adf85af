/- The walk of PlaceTells: it returns true in whatever world; nothing that lay turns. -/
import Derived.Test.YtdmdoddlhjkkiaaStepsWalk
import Derived.Test.YtdmdoddlhjkkiaaRef
import Derived.Sort.CutIn
import Derived.Test.YtdmdoddlhjkkiaaTail
namespace Go.Proofs.Ytdmdoddlhjkkiaa
open Go.RowKit Go.Shelf
attribute [local go_sem] Oper.semAt_some

def atX (W H c : Int) : Int := if inB W H c = true then c % W else 0
def atY (W H c : Int) : Int := if inB W H c = true then c / W else 0
theorem at_any (W H c : Int) (w : World) : Calls Try.prog 10 #[sz W H, .int .i64 c] w fun e w' => e = .returned (.tuple #[.int .i64 (atX W H c), .int .i64 (atY W H c), .bool (inB W H c)]) ∧ Below w.heap.size w w' := by
  cases h : inB W H c with
  | false => unfold atX atY; rw [h]; exact at_no W H c w h
  | true => unfold atX atY; rw [h]; exact at_yes W H c w h
theorem rat_any (W H c : Int) (w : World) : Calls Try.prog 19 #[sz W H, .int .i64 c] w fun e w' => e = .returned (.tuple #[.int .i64 (atX W H c), .int .i64 (atY W H c), .bool (inB W H c)]) ∧ Below w.heap.size w w' := by
  cases h : inB W H c with
  | false => unfold atX atY; rw [h]; exact rat_no W H c w h
  | true => unfold atX atY; rw [h]; exact rat_yes W H c w h

/-- A slice of ints that lies in a block g. -/
def SliceAt (w : World) (p : Option Addr) (g : Nat) (n : Nat) (xs : List Int) : Prop :=
  xs.length = n ∧ (n = 0 ∨ p = some ⟨g, 0, none⟩ ∧ ∀ (k : Nat) (h : k < xs.length), w.cell? ⟨g, k, none⟩ = some (.int .i64 (xs[k])))

theorem rnear_sl (W H c : Int) (w : World) : Calls Try.prog 20 #[sz W H, .int .i64 c] w fun e w' =>
    ∃ p g cap cur, e = .returned (.slice p (nearL W H c).length cap) ∧ (nearL W H c = [] ∨ p = some ⟨g, 0, none⟩ ∧ Blk w' g 3 cur ∧ w.heap.size ≤ g ∧ (nearL W H c).length ≤ cap ∧ cur.toList.take (nearL W H c).length = intsV (nearL W H c)) ∧ Below w.heap.size w w' := by
  refine (rnear_any W H c w).mono ?_
  rintro e w' ⟨v, rfl, ⟨hlen, hor⟩, hB⟩
  rcases hor with ⟨rfl, h0⟩ | ⟨g, cap, cur, rfl, hle, hb, hn, hcap, hsz, htk⟩
  · exact ⟨none, 0, 0, #[], by rw [h0], .inl (List.eq_nil_of_length_eq_zero h0), hB⟩
  · exact ⟨_, g, cap, cur, rfl, .inr ⟨rfl, hb, by omega, hn, by simpa using htk⟩, hB⟩

/-- Where the list L lies: nowhere, or at the head of block g. -/
def RowIs (L : List Int) (p : Option Addr) (g M6 M cap : Nat) (cur : Array Value) (X : World) : Prop :=
  L = [] ∨ p = some ⟨g, 0, none⟩ ∧ Blk X g 3 cur ∧ M6 ≤ g ∧ g < M ∧ L.length ≤ cap ∧ cur.toList.take L.length = intsV L
theorem RowIs.grown {L : List Int} {p : Option Addr} {g M6 M cap : Nat} {cur : Array Value} {X Y : World} {row : Option Nat} (h : RowIs L p g M6 M cap cur X) (hg : X.grownBy Y row) (hrow : ∀ r, row = some r → ∃ o : Obj, X.heap[r]? = some o ∧ o.isCells = false) : RowIs L p g M6 M cap cur Y :=
  h.imp id (fun k => ⟨k.1, blk_grown k.2.1 hg hrow, k.2.2⟩)
theorem RowIs.below {L : List Int} {p : Option Addr} {g M6 M cap : Nat} {cur : Array Value} {X Y : World} (h : RowIs L p g M6 M cap cur X) (hb : Below X.heap.size X Y) : RowIs L p g M6 M cap cur Y :=
  h.imp id (fun k => ⟨k.1, k.2.1.below hb, k.2.2⟩)
theorem RowIs.set {L : List Int} {p : Option Addr} {g M6 M cap : Nat} {cur : Array Value} {X : World} (h : RowIs L p g M6 M cap cur X) {B : Nat} (hB : B < M6 ∨ M ≤ B) (v : Value) : RowIs L p g M6 M cap cur (X.setCell ⟨B, 0, none⟩ v) :=
  h.imp id (fun k => ⟨k.1, k.2.1.other (by have := k.2.2.1; have := k.2.2.2.1; omega) _, k.2.2⟩)
theorem RowIs.at {L pre t : List Int} {y : Int} {p : Option Addr} {g M6 M cap : Nat} {cur : Array Value} {X : World} (h : RowIs L p g M6 M cap cur X) (e : L = pre ++ y :: t) : p = some ⟨g, 0, none⟩ ∧ X.cell? ⟨g, pre.length, none⟩ = some (.int .i64 y) := by
  rcases h with h | ⟨h1, h2, _, _, h5, h6⟩
  · rw [h] at e; simp at e
  · refine ⟨h1, ?_⟩
    have hk : (cur.toList.take L.length)[pre.length]? = some (Value.int .i64 y) := by rw [h6, e]; simp [intsV]
    rw [List.getElem?_take_of_lt (by rw [e]; simp)] at hk
    have hk2 : cur[pre.length]? = some (Value.int .i64 y) := by simpa using hk
    simp [World.cell?, show X.heap[g]? = _ from h2, hk2]
theorem next_of_part {L pre : List Int} (h : pre <+: L) (hk : pre.length < L.length) : ∃ y t, L = pre ++ y :: t := by
  obtain ⟨t, rfl⟩ := h
  cases t with
  | nil => simp at hk
  | cons y t => exact ⟨y, t, rfl⟩

set_option maxRecDepth 100000 in
set_option maxHeartbeats 4000000 in
theorem tells_any (W H a b x y : Int) (w : World) : Calls Try.prog 4 #[sz W H, .int .i64 a, .int .i64 b, .int .i64 x, .int .i64 y] w fun e w' => e = .returned (.bool true) ∧ Below w.heap.size w w' := by
  obtain ⟨N, hN⟩ : ∃ N, cellsN W H = N := ⟨_, rfl⟩
  have HR : Hid (rt W H = decide (0 < N)) := by
    show _ = _
    rw [← hN]
    cases hr : rt W H with
    | false => rw [show cellsN W H = 0 from by unfold cellsN; rw [hr]; rfl]; rfl
    | true =>
      obtain ⟨a1, a2, a3, a4, a5⟩ := rt_iff.1 hr
      have := mul_bd a1 a2 a3 a4
      rw [show cellsN W H = W * H from by unfold cellsN; rw [hr]; rfl]
      exact (decide_eq_true (by omega)).symm
  have HN : Hid (cellsN W H = N) := hN; clear hN
  obtain ⟨D, hD⟩ : ∃ D, awayN W H a b = D := ⟨_, rfl⟩
  have HD : Hid (awayN W H a b = D) := hD; clear hD
  refine (callsIn_wide (n := 9)).1 ?_
  refine callsIn_of_wp_marks Try.func4 rfl trivial ?_ rfl
  simp only [Try.ntmps4, List.size_toArray, List.length_cons, List.length_nil, Nat.reduceAdd, Nat.reduceSub, Array.replicate_succ, Array.replicate_zero, List.push_toArray, List.append_toArray, List.nil_append, List.cons_append]
  gi_wp2_with fail
  refine ⟨trivial, ?_⟩
  refine (callsIn_wide.2 (awake_any _)).mono ?_
  rintro _ w1 ⟨rfl, hb1⟩
  have hz := (((Blk.new w 23 #[.int .i64 W, .int .i64 H]).alloc (.cells #[.int .i64 b] 3)).alloc (.cells #[.bool false] 4)).below hb1
  have hy := ((Blk.new (w.alloc (.cells #[.int .i64 W, .int .i64 H] 23)) 3 #[.int .i64 b]).alloc (.cells #[.bool false] 4)).below hb1
  have hr := (Blk.new ((w.alloc (.cells #[.int .i64 W, .int .i64 H] 23)).alloc (.cells #[.int .i64 b] 3)) 4 #[.bool false]).below hb1
  have hB1 : Below w.heap.size w w1 := below_step (below_new (below_new (below_new (Below.refl _ w) (Nat.le_refl _) _) (Nat.le_refl _) _) (Nat.le_refl _) _) hb1 (Nat.le_refl _)
  simp only [World.size_alloc] at hy hr
  clear hb1
  obtain ⟨z0, z1⟩ := hz.cells2
  gi_wp2_with fail
  refine ⟨trivial, ?_⟩
  refine (callsIn_wide.2 (rcells_as _ HN.out)).mono ?_
  rintro _ w2 ⟨rfl, hb2⟩
  replace hz := hz.below hb2
  replace hy := hy.below hb2
  replace hr := hr.below hb2
  have hB2 := below_step hB1 hb2 (Nat.le_refl _)
  clear z0 z1 hb2 hB1
  have a0 := Grow.cell hz.lt hz.cells2.1
  have a1 := Grow.cell hz.lt hz.cells2.2
  have b0 := Grow.cell hy.lt hy.cell1
  have hne := Grow.ne w2
  gi_wp2
  refine wpIn_wide.2 ?_
  refine wp_region_grow (by kernel_rfl) (by kernel_rfl) ?_
  repeat (go_big_quiet_step (first | (go_at_call 15; exact grow_call (right_as _ HR.out)) | (go_at_call 17; exact grow_call (cells_as _ HN.out)) | (go_at_call 14; exact grow_call (away_as _ HD.out)) | (go_at_call 18; exact grow_call (raway_as _ HD.out))))
  refine wpQuiet_nil ?_
  rintro w3 ⟨⟨_, hb3⟩, rfl⟩
  replace hz := hz.below hb3
  replace hy := hy.below hb3
  replace hr := hr.below hb3
  have hB3 := below_step hB2 hb3 (Nat.le_refl _)
  clear a0 a1 b0 hne hb3 hB2
  obtain ⟨z0, z1⟩ := hz.cells2
  gi_wp2_with fail
  refine ⟨trivial, ?_⟩
  refine (callsIn_wide.2 (index_any _ _ _ _ _)).mono ?_
  rintro _ w4 ⟨rfl, hb4⟩
  replace hz := hz.below hb4
  replace hy := hy.below hb4
  replace hr := hr.below hb4
  have hB4 := below_step hB3 hb4 (Nat.le_refl _)
  clear z0 z1 hb4 hB3
  obtain ⟨z0, z1⟩ := hz.cells2
  obtain ⟨A, hA⟩ : ∃ A, atB W H x y = A := ⟨_, rfl⟩
  obtain ⟨I, hI⟩ : ∃ I, idxN W H x y = I := ⟨_, rfl⟩
  rw [hA, hI]
  have HA : Hid (atB W H x y = A) := hA; clear hA
  have HI : Hid (idxN W H x y = I) := hI; clear hI
  gi_upto_region 7 with (fail)
  gi_cut [14] from 25 (fun s14 w' => s14 = .bool A ∧ w' = w4)
  case first =>
    by_cases h1 : 0 < N
    · by_cases h2 : 0 ≤ x
      · by_cases h3 : 0 ≤ y
        · by_cases h4 : x < W
          · by_cases h5 : y < H
            · have hA : A = true := by rw [← HA.out]; exact atB_iff.2 ⟨by rw [HR.out]; simpa using h1, h2, h4, h3, h5⟩
              subst hA
              gi_wp2
              gi_meet
              exact ⟨rfl, rfl⟩
            · have d5 : decide (y < H) = false := by simpa using h5
              have hA : A = false := by rw [← HA.out]; cases hh : atB W H x y with | false => rfl | true => have := atB_iff.1 hh; omega
              subst hA
              gi_wp2
              gi_meet
              exact ⟨rfl, rfl⟩
          · have d4 : decide (x < W) = false := by simpa using h4
            have hA : A = false := by rw [← HA.out]; cases hh : atB W H x y with | false => rfl | true => have := atB_iff.1 hh; omega
            subst hA
            gi_wp2
            gi_meet
            exact ⟨rfl, rfl⟩
        · have d3 : decide (0 ≤ y) = false := by simpa using h3
          have hA : A = false := by rw [← HA.out]; cases hh : atB W H x y with | false => rfl | true => have := atB_iff.1 hh; omega
          subst hA
          gi_wp2
          gi_meet
          exact ⟨rfl, rfl⟩
      · have d2 : decide (0 ≤ x) = false := by simpa using h2
        have hA : A = false := by rw [← HA.out]; cases hh : atB W H x y with | false => rfl | true => have := atB_iff.1 hh; omega
        subst hA
        gi_wp2
        gi_meet
        exact ⟨rfl, rfl⟩
    · have d1 : decide (0 < N) = false := by simpa using h1
      have hA : A = false := by
        rw [← HA.out]
        cases hh : atB W H x y with
        | false => rfl
        | true => have := (atB_iff.1 hh).1; rw [HR.out, d1] at this; cases this
      subst hA
      gi_wp2
      gi_meet
      exact ⟨rfl, rfl⟩
  case rest =>
  obtain ⟨rfl, rfl⟩ := hcut
  gi_upto_region 8 with (fail)
  gi_cut [103] from 25 (fun s103 w' => s103 = .bool false ∧ w' = wc)
  case first =>
    cases A with
    | true =>
      have hA := HA.out
      obtain ⟨k1, k2, k3, k4, k5⟩ := atB_iff.1 hA
      obtain ⟨r1, r2, r3, r4, r5⟩ := rt_iff.1 k1
      have hm := idx_lt k1 k2 k3 k4 k5
      have hm1 : 0 ≤ y * W := Int.mul_nonneg k4 (by omega)
      have hI : y * W + x = I := by rw [← HI.out]; unfold idxN; rw [if_pos hA]
      subst hI
      clear HA HI hA k1
      gi_wp2
      gi_meet
      exact ⟨rfl, rfl⟩
    | false =>
      have hI : I = 0 := by rw [← HI.out]; unfold idxN; rw [HA.out]; rfl
      subst hI
      clear HA HI
      gi_wp2
      gi_meet
      exact ⟨rfl, rfl⟩
  case rest =>
  obtain ⟨rfl, rfl⟩ := hcut
  clear HA HI HR HN z0 z1
  obtain ⟨z0, z1⟩ := hz.cells2
  gi_wp2_with fail
  refine ⟨trivial, ?_⟩
  refine (callsIn_wide.2 (at_any _ _ _ _)).mono ?_
  rintro _ w5 ⟨rfl, hb5⟩
  replace hz := hz.below hb5
  replace hy := hy.below hb5
  replace hr := hr.below hb5
  have hB5 := below_step hB4 hb5 (Nat.le_refl _)
  clear z0 z1 hb5 hB4
  obtain ⟨z0, z1⟩ := hz.cells2
  gi_wp2_with fail
  refine ⟨trivial, ?_⟩
  refine (callsIn_wide.2 (rat_any _ _ _ _)).mono ?_
  rintro _ w6 ⟨rfl, hb6⟩
  replace hz := hz.below hb6
  replace hy := hy.below hb6
  replace hr := hr.below hb6
  have hB6 := below_step hB5 hb6 (Nat.le_refl _)
  clear z0 z1 hb6 hB5
  obtain ⟨z0, z1⟩ := hz.cells2
  gi_wp2_with (refine ⟨trivial, ?_⟩; gi_at_call 20; refine (callsIn_wide.2 (rnear_sl _ _ _ _)).mono ?_; rintro _ w7 ⟨p, g, cap, cur, rfl, hsl, hb7⟩; obtain ⟨z70, z71⟩ := (((((hz.below hb7).alloc (.cells #[.slice p (nearL W H a).length cap] 36)).alloc (.cells #[.int .i64 0] 3)).alloc (.cells #[.bool false] 4))).cells2; clear z0 z1)
  refine ⟨trivial, ?_⟩
  refine (callsIn_wide.2 (near_ab _ _ _ _)).mono ?_
  rintro _ w8 ⟨B1, C1, rfl, hh1, lB1, lC1, hb8⟩
  have up7 : ∀ {B : Nat} {t : TypeId} {cs : Array Value}, Blk w7 B t cs → Blk w8 B t cs := fun h => (((h.alloc (.cells #[.slice p (nearL W H a).length cap] 36)).alloc (.cells #[.int .i64 0] 3)).alloc (.cells #[.bool false] 4)).below hb8
  have hl8 := (((Blk.new w7 36 #[.slice p (nearL W H a).length cap]).alloc (.cells #[.int .i64 0] 3)).alloc (.cells #[.bool false] 4)).below hb8
  have hi8 := ((Blk.new (w7.alloc (.cells #[.slice p (nearL W H a).length cap] 36)) 3 #[.int .i64 0]).alloc (.cells #[.bool false] 4)).below hb8
  have hq8 := (Blk.new ((w7.alloc (.cells #[.slice p (nearL W H a).length cap] 36)).alloc (.cells #[.int .i64 0] 3)) 4 #[.bool false]).below hb8
  have hB8 := below_step (below_new (below_new (below_new (below_step hB6 hb7 (Nat.le_refl _)) (Nat.le_refl _) (.cells #[.slice p (nearL W H a).length cap] 36)) (Nat.le_refl _) (.cells #[.int .i64 0] 3)) (Nat.le_refl _) (.cells #[.bool false] 4)) hb8 (Nat.le_refl _)
  simp only [World.size_alloc] at hi8 hq8
  have hsl8 : nearL W H a = [] ∨ p = some ⟨g, 0, none⟩ ∧ Blk w8 g 3 cur ∧ w6.heap.size ≤ g ∧ g < w7.heap.size ∧ (nearL W H a).length ≤ cap ∧ cur.toList.take (nearL W H a).length = intsV (nearL W H a) :=
    hsl.imp id (fun h => ⟨h.1, up7 h.2.1, h.2.2.1, h.2.1.lt, h.2.2.2⟩)
  have hz8 := up7 (hz.below hb7)
  have hy8 := up7 (hy.below hb7)
  have hr8 := up7 (hr.below hb7)
  have rl6 := hr.lt
  have l67 := hb7.size
  have lq8 := hq8.lt
  have hnf := nearF_nil B1 C1
  obtain ⟨z80, z81⟩ := hz8.cells2
  clear hsl hb7 hb8 up7 z70 z71 hz hy hr hB6 hh1 lB1 lC1
  gi_wp2_with (refine ⟨trivial, ?_⟩; gi_at_call 11; refine (callsIn_wide.2 (near_ab _ _ _ _)).mono ?_; rintro _ w9 ⟨B, C, rfl, hh, lB, lC, hb9⟩)
  have hz9 := hz8.below hb9
  have hy9 := hy8.below hb9
  have hr9 := hr8.below hb9
  have hl9 := hl8.below hb9
  have hi9 := hi8.below hb9
  have hq9 := hq8.below hb9
  have hB9 := below_step hB8 hb9 (Nat.le_refl _)
  have hsl9 : nearL W H a = [] ∨ p = some ⟨g, 0, none⟩ ∧ Blk w9 g 3 cur ∧ w6.heap.size ≤ g ∧ g < w7.heap.size ∧ (nearL W H a).length ≤ cap ∧ cur.toList.take (nearL W H a).length = intsV (nearL W H a) :=
    hsl8.imp id (fun h => ⟨h.1, h.2.1.below hb9, h.2.2⟩)
  generalize w7.heap.size = M at *
  generalize w6.heap.size = M6 at *
  clear hz8 hy8 hr8 hl8 hi8 hq8 hB8 hsl8 hb9 z80 z81 hnf
  have hsl9 : RowIs (nearL W H a) p g M6 M cap cur w9 := hsl9
  have hL4 := nearL_len W H a
  have HBS : Hid (∀ X, Calls Try.prog 13 #[sz W H, .int .i64 a, .int .i64 b] X fun e w' => e = .returned (.bool (decide (b ∈ nearL W H a))) ∧ Below X.heap.size X w') := fun X => beside_any W H a b X
  have HST : Hid (SeqStopsK Fence.wide (9 - 1) Try.prog 22 #[.pointer (some ⟨B, 0, none⟩), .pointer (some ⟨C, 0, none⟩)] (fun x : Int => #[.int .i64 x]) (Kept2 B C) (AllOf (nearL W H a)) (PartOf (nearL W H a)) 4 w9) := near1_stops (9 - 1) (by omega) B C W H a w9 hh
  generalize nearL W H a = L at *
  refine wpIn_rangeFunc_ownF rfl (by omega) (gf := 22) (lb := #[.pointer (some ⟨B, 0, none⟩), .pointer (some ⟨C, 0, none⟩)]) rfl trivial (enters_of Try.func22 (by kernel_rfl) rfl)
    HST.out (fun h k => kept2_t h k) (kept2_b (Array.getElem?_eq_some_iff.1 hh.1).1 (Array.getElem?_eq_some_iff.1 hh.2).1) (Below.refl _ _) (fun _ => rfl)
    (fun pre W' => (Blk W' (M + 1) 3 #[.int .i64 pre.length] ∧ Blk W' (M + 1 + 1) 4 #[.bool (decide (b ∈ pre))] ∧ Blk W' M 36 #[.slice p L.length cap] ∧ Blk W' w.heap.size 23 #[.int .i64 W, .int .i64 H] ∧ Blk W' (w.heap.size + 1) 3 #[.int .i64 b] ∧ Blk W' (w.heap.size + 1 + 1) 4 #[.bool false] ∧ RowIs L p g M6 M cap cur W' ∧ pre <+: L ∧ Has2 B C W H a W') ∧ Below w.heap.size w W')
    (fun c pre W' => c = .ret ∧ ¬ pre <+: L)
    (OwnFrom.and (Own.from (fun s A B row hs hg hr => ⟨blk_grown hs.1 hg hr, blk_grown hs.2.1 hg hr, blk_grown hs.2.2.1 hg hr, blk_grown hs.2.2.2.1 hg hr, blk_grown hs.2.2.2.2.1 hg hr, blk_grown hs.2.2.2.2.2.1 hg hr, hs.2.2.2.2.2.2.1.grown hg hr, hs.2.2.2.2.2.2.2.1, has2_grown hs.2.2.2.2.2.2.2.2 hg hr⟩) _) (ownFrom_below (Nat.le_refl _) (by have := hB9.size; omega)))
    (fun _ _ _ _ _ hs _ _ => hs)
    ⟨⟨hi9, hq9, hl9, hz9, hy9, hr9, hsl9, List.nil_prefix, hh⟩, hB9⟩
    ?a1 ?assign ?body ?done ?stop
  case assign =>
    intro l x X K hK
    gi_wp2
    exact hK
  case body =>
    rintro l pre x X ⟨⟨hi, hq, hl, hz, hy, hr, hrow, hpre, hh⟩, hB⟩ hlen
    have c1 := hi.cell1
    have f1 := hi.frozen 0
    have c2 := hq.cell1
    have f2 := hq.frozen 0
    have c3 := hl.cell1
    have y0 := hy.cell1
    have r0 := hr.cell1
    have r1 := hr.frozen 0
    by_cases hk : pre.length < L.length
    · obtain ⟨y, t, hL⟩ := next_of_part hpre hk
      obtain ⟨hp, hc⟩ := hrow.at hL
      have HL : Hid (L = pre ++ y :: t) := hL
      have HP : Hid (pre <+: L) := hpre
      rw [hp] at c3
      have HPP : Hid (p = some ⟨g, 0, none⟩) := hp
      clear hL hp hpre
      have hki : (pre.length : Int) < (L.length : Int) := by omega
      have hk0 : (0 : Int) ≤ (pre.length : Int) := by omega
      by_cases hx : x = y
      · subst hx
        have hN : pre ++ [x] <+: L := by rw [HL.out]; exact ⟨t, by simp⟩
        by_cases hbm : b ∈ pre
        · rw [decide_eq_true hbm] at c2
          gi_wp2
          have hk2 := kept2_t (kept2_set (X := X) (B := B) (C := C) (N := M + 1 + 1) (.bool true) (by omega) (by omega)) (kept2_set (N := M + 1) (.int .i64 ((pre.length : Int) + 1)) (by omega) (by omega))
          exact ⟨(KeepsOthers.setCell _ _ _).trans (KeepsOthers.setCell _ _ _), hk2,
            ⟨by rw [List.length_append]; exact (hi.other (by omega) _).set1 _, by rw [decide_eq_true (List.mem_append.2 (.inl hbm))]; exact (hq.set1 _).other (by omega) _, (hl.other (by omega) _).other (by omega) _, (hz.other (by omega) _).other (by omega) _, (hy.other (by omega) _).other (by omega) _, (hr.other (by omega) _).other (by omega) _,
              (hrow.set (.inr (by omega)) _).set (.inr (by omega)) _, hN, hh.kept hk2⟩, (hB.setCell (p := ⟨M + 1 + 1, 0, none⟩) (by simp; omega) _).setCell (p := ⟨M + 1, 0, none⟩) (by simp; omega) _⟩
        · rw [decide_eq_false hbm] at c2
          have HBm : Hid (decide (b ∈ pre ++ [x]) = (x == b)) := by
            show _ = _
            rw [Bool.eq_iff_iff, decide_eq_true_iff, beq_iff_eq]
            exact ⟨fun h => (List.mem_append.1 h).elim (fun h => absurd h hbm) (fun h => (List.mem_singleton.1 h).symm), fun h => List.mem_append.2 (.inr (List.mem_singleton.2 h.symm))⟩
          gi_wp2
          have hk2 := kept2_t (kept2_set (X := X) (B := B) (C := C) (N := M + 1 + 1) (.bool (x == b)) (by omega) (by omega)) (kept2_set (N := M + 1) (.int .i64 ((pre.length : Int) + 1)) (by omega) (by omega))
          exact ⟨(KeepsOthers.setCell _ _ _).trans (KeepsOthers.setCell _ _ _), hk2,
            ⟨by rw [List.length_append]; exact (hi.other (by omega) _).set1 _, by rw [HBm.out]; exact (hq.set1 _).other (by omega) _, (hl.other (by omega) _).other (by omega) _, (hz.other (by omega) _).other (by omega) _, (hy.other (by omega) _).other (by omega) _, (hr.other (by omega) _).other (by omega) _,
              (hrow.set (.inr (by omega)) _).set (.inr (by omega)) _, hN, hh.kept hk2⟩, (hB.setCell (p := ⟨M + 1 + 1, 0, none⟩) (by simp; omega) _).setCell (p := ⟨M + 1, 0, none⟩) (by simp; omega) _⟩
      · have hxn : (x != y) = true := by rw [bne_iff_ne]; exact hx
        have HX : Hid (¬ pre ++ [x] <+: L) := fun h => by
          rw [HL.out, List.prefix_append_right_inj] at h
          obtain ⟨_, ht⟩ := h
          simp at ht
          exact hx ht.1
        gi_wp2
        exact ⟨KeepsOthers.setCell _ _ _, rfl, HX.out⟩
    · have HX : Hid (¬ pre ++ [x] <+: L) := fun h => by have := h.length_le; simp at this; omega
      have hki : (L.length : Int) ≤ (pre.length : Int) := by omega
      gi_wp2
      exact ⟨KeepsOthers.setCell _ _ _, rfl, HX.out⟩
  case done =>
    rintro D ys X hD hall ⟨⟨hi, hq, hl, hz, hy, hr, hrow, _, _⟩, hB⟩ hK
    obtain rfl : ys = L := hall
    have a0 := Grow.cell hz.lt hz.cells2.1
    have a1 := Grow.cell hz.lt hz.cells2.2
    have b0 := Grow.cell hy.lt hy.cell1
    have i0 := Grow.cell hi.lt hi.cell1
    have q0 := Grow.cell hq.lt hq.cell1
    have l0 := Grow.cell hl.lt hl.cell1
    have hne := Grow.ne X
    gi_wp2
    refine wpIn_wide.2 ?_
    refine wp_region_tail 12 (by kernel_rfl) (by kernel_rfl) (by kernel_rfl) ?_
    simp only [stillAt, stillOp, List.set_cons_succ, List.set_cons_zero, List.getElem?_cons_succ, List.getElem?_cons_zero, Option.getD_some, List.drop_succ_cons, List.drop_zero]
    repeat (go_big_quiet_step ((go_at_call 13; exact grow_call (HBS.out _))))
    refine wpQuiet_nil ?_
    rintro w10 ⟨⟨_, hb10⟩, rfl⟩
    have hr10 := hr.below hb10
    have r0 := hr10.cell1
    have r1 := hr10.frozen 0
    clear a0 a1 b0 i0 q0 l0 hne
    go_wp2
    gi_wp2
    have hK2 := (below_others hb10).same D _ hK rfl
    have hK' := (KeepsOthers.setCell w10 ⟨w.heap.size + 1 + 1, 0, none⟩ (.bool true)).same D _ hK2 rfl
    refine ⟨by simp, .inl ⟨_, _, rfl, run_takeDeferred hK', ?_⟩⟩
    have hc5 := cell_kept (hr10.set1 (.bool true)).cell1 (grownBy_putObj' _ D (.deferred none)) (fun r e => by cases e; exact ⟨_, hK', rfl⟩)
    refine ⟨.bool true, ?_, rfl, ((below_step hB hb10 (Nat.le_refl _)).setCell (p := ⟨w.heap.size + 1 + 1, 0, none⟩) (by simp; omega) _).trans (belowK_b (w := w) (Nat.le_refl _) _ D _ _ (Nat.le_trans hB9.size hD) hK' rfl rfl)⟩
    simp [results, Try.f4, go_sem, hc5]
  case stop =>
    rintro D c pre X _ hpre ⟨rfl, hbad⟩ _
    exact absurd hpre hbad

end Go.Proofs.Ytdmdoddlhjkkiaa
