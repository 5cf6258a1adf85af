/- Layer 11 (union): Join. -/
import Derived.Test.YtcbgeahcnjamdacUnionMade
namespace Go.Proofs.Ytcbgeahcnjamdac
open Go.RowKit
set_option linter.unusedVariables false

/-- All blocks but a union's three are as they were. -/
structure Thru (B G H : Nat) (w w' : World) : Prop where
  os : w'.os = w.os
  tape : w'.tape = w.tape
  output : w'.output = w.output
  size : w.heap.size ≤ w'.heap.size
  block : ∀ k, k < w.heap.size → k ≠ B → k ≠ G → k ≠ H → w'.heap[k]? = w.heap[k]?
theorem Thru.refl (B G H : Nat) (w : World) : Thru B G H w w := ⟨rfl, rfl, rfl, Nat.le_refl _, fun _ _ _ _ _ => rfl⟩
theorem Thru.trans {B G H : Nat} {a b c : World} (h : Thru B G H a b) (k : Thru B G H b c) : Thru B G H a c :=
  ⟨k.os.trans h.os, k.tape.trans h.tape, k.output.trans h.output, Nat.le_trans h.size k.size, fun i hi h1 h2 h3 => (k.block i (Nat.lt_of_lt_of_le hi h.size) h1 h2 h3).trans (h.block i hi h1 h2 h3)⟩
theorem Thru.of {B G H : Nat} {w w' : World} (h : Below w.heap.size w w') : Thru B G H w w' := ⟨h.os, h.tape, h.output, h.size, fun k hk _ _ _ => h.block k hk⟩
theorem Thru.start {B G H n : Nat} {a w w' : World} (hb : Below n a w) (hn : n ≤ a.heap.size) (h : Thru B G H w w') (hB : n ≤ B ∧ n ≤ G ∧ n ≤ H) : Below n a w' :=
  hb.trans ⟨h.os, h.tape, h.output, h.size, fun k hk => h.block k (by have := hb.size; omega) (by omega) (by omega) (by omega)⟩
theorem Thru.set {B G H k o : Nat} (w : World) (u : Value) (hk : k = B ∨ k = G ∨ k = H) : Thru B G H w (w.setCell ⟨k, o, none⟩ u) :=
  ⟨rfl, rfl, rfl, by show _ ≤ (w.heap.modify _ _).size; rw [Array.size_modify]; exact Nat.le_refl _, fun j _ h1 h2 h3 => Below.heap_setCell w ⟨k, o, none⟩ u j (by show j ≠ k; omega)⟩
/-- Another union is as it was. -/
theorem Un.thru {B G H B' G' H' : Nat} {w w' : World} {L : List Int} (h : Un w B G H L) (ht : Thru B' G' H' w w') (hd : ∀ k, k = B ∨ k = G ∨ k = H → k ≠ B' ∧ k ≠ G' ∧ k ≠ H') : Un w' B G H L := by
  obtain ⟨l1, l2, l3⟩ := h.lt
  exact h.kept fun k hk => by
    obtain ⟨a, b, c⟩ := hd k hk
    exact ht.block k (by rcases hk with rfl | rfl | rfl <;> assumption) a b c
section
variable {w w' : World} {B G H n : Nat} {A M : Nat → Int} {s : Int}
theorem UnX.below (h : UnX w B G H n A M s) (hb : Below w.heap.size w w') : UnX w' B G H n A M s := ⟨h.blk.below hb, h.ra.below hb, h.rm.below hb, h.ne⟩
theorem UnX.setA (h : UnX w B G H n A M s) (i : Nat) (v : Int) : UnX (w.setCell ⟨G, i, none⟩ (.int .i32 v)) B G H n (updA A i v) M s :=
  ⟨h.blk.kept (grownBy_set w G i _) (by have := h.ne; simp; omega), h.ra.set i v, h.rm.other _ (by have := h.ne; omega), h.ne⟩
theorem UnX.setM (h : UnX w B G H n A M s) (i : Nat) (v : Int) : UnX (w.setCell ⟨H, i, none⟩ (.int .i32 v)) B G H n A (updA M i v) s :=
  ⟨h.blk.kept (grownBy_set w H i _) (by have := h.ne; simp; omega), h.ra.other _ (by have := h.ne; omega), h.rm.set i v, h.ne⟩
theorem UnX.setS (h : UnX w B G H n A M s) (v : Int) : UnX (w.setCell ⟨B, 2, none⟩ (.int .i64 v)) B G H n A M v :=
  ⟨by simpa using h.blk.setAt 2 (.int .i64 v), h.ra.other _ (by have := h.ne; omega), h.rm.other _ (by have := h.ne; omega), h.ne⟩
end

set_option maxHeartbeats 800000 in
theorem ujoin_no {w : World} {p : Value} {L : List Int} (h : UV w p L) {a b : Int} (hj : joinB L a b = false) : Calls Try.prog 8 #[p, .int .i64 a, .int .i64 b] w fun e w' => e = .returned (.bool false) ∧ w' = w := by
  have HU : Hid (UV w p L) := h
  have hl := h.len
  cases ha : memN L a with
  | false =>
    have HM : Hid (memN L a = false) := ha
    clear h ha hj
    go_enter Try.func8, Try.ntmps8
    go_wp2_with fail
    refine (umember_any HU.out a).mono ?_
    rintro e w1 ⟨rfl, rfl⟩
    rw [HM.out]
    go_wp2
    go_ret
    exact ⟨rfl, rfl⟩
  | true =>
  cases hb : memN L b with
  | false =>
    have HM : Hid (memN L a = true) := ha
    have HM2 : Hid (memN L b = false) := hb
    clear h ha hb hj
    go_enter Try.func8, Try.ntmps8
    go_wp2_with fail
    refine (umember_any HU.out a).mono ?_
    rintro e w1 ⟨rfl, rfl⟩
    rw [HM.out]
    go_wp2_with fail
    refine (umember_any HU.out b).mono ?_
    rintro e w1 ⟨rfl, rfl⟩
    rw [HM2.out]
    go_wp2
    go_ret
    exact ⟨rfl, rfl⟩
  | true =>
    have hz : lAt L a.toNat = lAt L b.toNat := by
      unfold joinB at hj; rw [ha, hb] at hj; simpa using hj
    have HM : Hid (memN L a = true) := ha
    have HM2 : Hid (memN L b = true) := hb
    obtain ⟨B, G, H, A, M, rfl, hx, hu⟩ := h.mk ha
    obtain ⟨r, r1, r2, r3, ht⟩ := hx.top hu hl ha
    obtain ⟨q, q1, q2, q3, hq⟩ := hx.top hu hl hb
    obtain rfl := hu.one r q r1 q1 r2 q2 (by rw [r3, q3, hz])
    have HT : Hid (∀ w', Below w.heap.size w w' → Calls Try.prog 15 #[.pointer (some ⟨B, 0, none⟩), .int .i64 a] w' fun e w'' => e = .returned (.int .i32 r) ∧ w'' = w') := ht
    have HQ : Hid (∀ w', Below w.heap.size w w' → Calls Try.prog 15 #[.pointer (some ⟨B, 0, none⟩), .int .i64 b] w' fun e w'' => e = .returned (.int .i32 r) ∧ w'' = w') := hq
    clear h ha hb hz hx hu ht hq r2 r3 q2 q3 hj
    go_enter Try.func8, Try.ntmps8
    go_wp2_with fail
    refine (umember_any HU.out a).mono ?_
    rintro e w1 ⟨rfl, rfl⟩
    rw [HM.out]
    go_wp2_with fail
    refine (umember_any HU.out b).mono ?_
    rintro e w1 ⟨rfl, rfl⟩
    rw [HM2.out]
    go_wp2_with fail
    refine (HT.out _ (Below.refl _ _)).mono ?_
    rintro e w1 ⟨rfl, rfl⟩
    go_wp2_with fail
    refine (HQ.out _ (Below.refl _ _)).mono ?_
    rintro e w1 ⟨rfl, rfl⟩
    clear HT HQ HU HM HM2
    go_wp2
    go_ret
    exact ⟨rfl, rfl⟩

/-- Behind the choice: the small set comes below the great one. -/
theorem ujoin_end {w w4 w6 : World} {B G H : Nat} {L : List Int} {A M : Nat → Int} {g s : Nat} {a b : Int} (hx : UnX w B G H L.length A M (setsN L)) (hu : Ut L.length A M L) (hl : L.length ≤ 4194304) (hj : joinB L a b = true) (hg : g < L.length) (hs : s < L.length) (hAg : A g < 0) (hAs : A s < 0) (hgs : g ≠ s)
    (hn : (lAt L g = lAt L a.toNat ∧ lAt L s = lAt L b.toNat) ∨ (lAt L g = lAt L b.toNat ∧ lAt L s = lAt L a.toNat))
    (hb4 : Below w.heap.size w w4) (hb6 : Below (w4.setCell ⟨G, g, none⟩ (.int .i32 (A g + A s))).heap.size (w4.setCell ⟨G, g, none⟩ (.int .i32 (A g + A s))) w6) :
    Un ((((w6.setCell ⟨H, g, none⟩ (.int .i32 (min (M g) (M s)))).setCell ⟨G, s, none⟩ (.int .i32 g)).setCell ⟨B, 2, none⟩ (.int .i64 (setsN L - 1)))) B G H (joinL L a b) ∧ Thru B G H w ((((w6.setCell ⟨H, g, none⟩ (.int .i32 (min (M g) (M s)))).setCell ⟨G, s, none⟩ (.int .i32 g)).setCell ⟨B, 2, none⟩ (.int .i64 (setsN L - 1)))) := by
  have h1 := (((((hx.below hb4).setA g (A g + A s)).below hb6).setM g (min (M g) (M s))).setA s (g : Int)).setS (setsN L - 1)
  have h2 := hu.join hj hg hs hAg hAs hgs hn
  have t := (((((Thru.of (B := B) (G := G) (H := H) hb4).trans (Thru.set w4 (o := g) (.int .i32 (A g + A s)) (.inr (.inl rfl)))).trans (Thru.of hb6)).trans (Thru.set w6 (o := g) (.int .i32 (min (M g) (M s))) (.inr (.inr rfl)))).trans (Thru.set _ (o := s) (.int .i32 (g : Int)) (.inr (.inl rfl)))).trans (Thru.set _ (o := 2) (.int .i64 (setsN L - 1)) (.inl rfl))
  refine ⟨⟨⟨_, _, ?_, by rw [joinL_len]; exact h2⟩, by rw [joinL_len]; exact hl⟩, t⟩
  rw [joinL_len, setsN_join hu.nm hj]
  exact h1

set_option maxRecDepth 100000 in
set_option maxHeartbeats 3200000 in
theorem ujoin_yes {w : World} {B G H : Nat} {L : List Int} (h : Un w B G H L) {a b : Int} (hj : joinB L a b = true) : Calls Try.prog 8 #[.pointer (some ⟨B, 0, none⟩), .int .i64 a, .int .i64 b] w fun e w' => e = .returned (.bool true) ∧ Un w' B G H (joinL L a b) ∧ Thru B G H w w' := by
  obtain ⟨ha, hb, hne⟩ := joinB_iff.1 hj
  have HU : Hid (UV w (.pointer (some ⟨B, 0, none⟩)) L) := h.uv
  have hl := h.len
  obtain ⟨A, M, hx, hu⟩ := h.ex
  have HM : Hid (memN L a = true) := ha
  have HM2 : Hid (memN L b = true) := hb
  obtain ⟨r, r1, r2, r3, ht⟩ := hx.top hu hl ha
  obtain ⟨q, q1, q2, q3, hq⟩ := hx.top hu hl hb
  have hrq : r ≠ q := fun e => hne (by rw [← r3, ← q3, e])
  have HT : Hid (∀ w', Below w.heap.size w w' → Calls Try.prog 15 #[.pointer (some ⟨B, 0, none⟩), .int .i64 a] w' fun e w'' => e = .returned (.int .i32 r) ∧ w'' = w') := ht
  have HQ : Hid (∀ w', Below w.heap.size w w' → Calls Try.prog 15 #[.pointer (some ⟨B, 0, none⟩), .int .i64 b] w' fun e w'' => e = .returned (.int .i32 q) ∧ w'' = w') := hq
  have E1 : Hid (∀ {w4 w6 : World}, Below w.heap.size w w4 → Below (w4.setCell ⟨G, r, none⟩ (.int .i32 (A r + A q))).heap.size (w4.setCell ⟨G, r, none⟩ (.int .i32 (A r + A q))) w6 → _) := fun hb4 hb6 => ujoin_end hx hu hl hj r1 q1 r2 q2 hrq (.inl ⟨r3, q3⟩) hb4 hb6
  have E2 : Hid (∀ {w4 w6 : World}, Below w.heap.size w w4 → Below (w4.setCell ⟨G, q, none⟩ (.int .i32 (A q + A r))).heap.size (w4.setCell ⟨G, q, none⟩ (.int .i32 (A q + A r))) w6 → _) := fun hb4 hb6 => ujoin_end hx hu hl hj q1 r1 q2 r2 (Ne.symm hrq) (.inr ⟨q3, r3⟩) hb4 hb6
  have HX : Hid (UnX w B G H L.length A M (setsN L)) := hx
  have hBl := hx.blk.lt
  have hGl := hx.ra.lt
  have hHl := hx.rm.lt
  have hABr := hu.bd r r1
  have hABq := hu.bd q q1
  have hMr := hu.least r r1 r2
  have hMq := hu.least q q1 q2
  have hMr0 := hu.nm.lo r r1
  have hMq0 := hu.nm.lo q q1
  rw [← hMr] at hMr0
  rw [← hMq] at hMq0
  have hsb := setsN_bd L
  have s1 : 1 ≤ setsN L := by have := setsN_join hu.nm hj; have := setsN_bd (joinL L a b); omega
  have c0 := hx.blk.at (j := 0) rfl
  have ar := hx.ra.at r1
  have aq := hx.ra.at q1
  simp only [List.getElem_toArray, List.getElem_cons_zero] at c0
  have hd : decide ((r : Int) = (q : Int)) = false := by simp; omega
  clear h ha hb hx hu ht hq r3 q3 hj hne hMr hMq
  generalize setsN L = ss at *
  generalize hL : joinL L a b = L' at *
  generalize L.length = n at *
  clear hL
  generalize hAr : A r = xr at *
  generalize hAq : A q = xq at *
  have AA : Hid (A r = xr ∧ A q = xq) := ⟨hAr, hAq⟩
  clear hAr hAq
  generalize hMr : M r = mr at *
  generalize hMq : M q = mq at *
  have MM : Hid (M r = mr ∧ M q = mq) := ⟨hMr, hMq⟩
  clear hMr hMq
  by_cases hgt : xq < xr
  · go_enter Try.func8, Try.ntmps8
    go_wp2_with fail
    refine (umember_any HU.out a).mono ?_
    rintro e w1 ⟨rfl, rfl⟩
    rw [HM.out]
    go_wp2_with fail
    refine (umember_any HU.out b).mono ?_
    rintro e w1 ⟨rfl, rfl⟩
    rw [HM2.out]
    go_wp2_with fail
    refine (HT.out _ (Below.refl _ _)).mono ?_
    rintro e w1 ⟨rfl, rfl⟩
    go_wp2_with fail
    refine (HQ.out _ (Below.refl _ _)).mono ?_
    rintro e w1 ⟨rfl, rfl⟩
    clear HT HQ HU HM HM2
    go_wp2
    go_quiet (fail)
    go_wp2
    generalize hw3 : World.drewN w1 _ = w3
    have hb3 : Below w1.heap.size w1 w3 := by rw [← hw3]; exact below_drew _ _
    clear hw3
    have hX3 := HX.out.below hb3
    have gn := Grow.ne w3
    have g0 : ∀ g : Grow w3, g.w.cell? ⟨B, 0, none⟩ = some (.slice (some ⟨G, 0, none⟩) n n) := fun g => Grow.cell hX3.blk.lt (by have := hX3.blk.at (j := 0) rfl; simpa using this) g
    have g1 : ∀ g : Grow w3, g.w.cell? ⟨G, q, none⟩ = some (.int .i32 xq) := fun g => Grow.cell hX3.ra.lt (by rw [← AA.out.2]; exact hX3.ra.at q1) g
    have g2 : ∀ g : Grow w3, g.w.cell? ⟨G, r, none⟩ = some (.int .i32 xr) := fun g => Grow.cell hX3.ra.lt (by rw [← AA.out.1]; exact hX3.ra.at r1) g
    have HB3 := hid_mk hb3
    clear hX3 hb3 c0 ar aq
    refine wp_region_tail 16 (by kernel_rfl) (by kernel_rfl) (by kernel_rfl) ?_
    simp only [stillAt, stillOp, List.set_cons_succ, List.set_cons_zero, List.getElem?_cons_succ, List.getElem?_cons_zero, Option.getD_some, List.drop_succ_cons, List.drop_zero]
    repeat (go_big_quiet_step (fail))
    refine wpQuiet_nil ?_
    rintro w4 ⟨⟨_, hb4⟩, rfl⟩
    have HB4 := hid_mk (below_step HB3.out hb4 (Nat.le_refl _))
    have hX4 := HX.out.below HB4.out
    have k1 : w4.cell? ⟨G, q, none⟩ = some (.int .i32 xq) := by rw [← AA.out.2]; exact hX4.ra.at q1
    have f1 := hX4.ra.frozen q
    have HX5 := hid_mk (hX4.setA q (xq + xr))
    clear hX4 hb4 g0 g1 g2 gn HB3
    go_wp2
    generalize hw5 : w4.setCell ⟨G, q, none⟩ (.int .i32 (xq + xr)) = w5 at *
    have HW5 := hid_mk hw5
    clear hw5 k1 f1
    have hX5 := HX5.out
    have gn := Grow.ne w5
    have g0 : ∀ g : Grow w5, g.w.cell? ⟨B, 1, none⟩ = some (.slice (some ⟨H, 0, none⟩) n n) := fun g => Grow.cell hX5.blk.lt (by have := hX5.blk.at (j := 1) rfl; simpa using this) g
    have g1 : ∀ g : Grow w5, g.w.cell? ⟨H, q, none⟩ = some (.int .i32 mq) := fun g => Grow.cell hX5.rm.lt (by rw [← MM.out.2]; exact hX5.rm.at q1) g
    have g2 : ∀ g : Grow w5, g.w.cell? ⟨H, r, none⟩ = some (.int .i32 mr) := fun g => Grow.cell hX5.rm.lt (by rw [← MM.out.1]; exact hX5.rm.at r1) g
    clear hX5
    refine wp_region_tail 21 (by kernel_rfl) (by kernel_rfl) (by kernel_rfl) ?_
    simp only [stillAt, stillOp, List.set_cons_succ, List.set_cons_zero, List.getElem?_cons_succ, List.getElem?_cons_zero, Option.getD_some, List.drop_succ_cons, List.drop_zero]
    repeat (go_big_quiet_step (fail))
    refine wpQuiet_nil ?_
    rintro w6 ⟨⟨_, hb6⟩, rfl⟩
    have HB6 := hid_mk hb6
    have hX6 := HX5.out.below hb6
    have k1 : w6.cell? ⟨H, q, none⟩ = some (.int .i32 mq) := by rw [← MM.out.2]; exact hX6.rm.at q1
    have f1 := hX6.rm.frozen q
    have hX7 := hX6.setM q (min mq mr)
    have k2 : (w6.setCell ⟨H, q, none⟩ (.int .i32 (min mq mr))).cell? ⟨B, 0, none⟩ = some (.slice (some ⟨G, 0, none⟩) n n) := by have := hX7.blk.at (j := 0) rfl; simpa using this
    have k3 := hX7.ra.at r1
    have f3 := hX7.ra.frozen r
    have hX8 := hX7.setA r (q : Int)
    have k4 : ((w6.setCell ⟨H, q, none⟩ (.int .i32 (min mq mr))).setCell ⟨G, r, none⟩ (.int .i32 q)).cell? ⟨B, 2, none⟩ = some (.int .i64 ss) := by have := hX8.blk.at (j := 2) rfl; simpa using this
    have f4 := hX8.blk.frozen 2
    have HE := hid_mk (E2.out HB4.out (w6 := w6) (by rw [HW5.out]; exact HB6.out))
    clear hb6 hX6 hX7 hX8 g0 g1 g2 gn HB4 HB6 HX5 HW5 HX E1 E2 AA MM
    go_wp2
    go_ret
    exact ⟨rfl, HE.out⟩
  · go_enter Try.func8, Try.ntmps8
    go_wp2_with fail
    refine (umember_any HU.out a).mono ?_
    rintro e w1 ⟨rfl, rfl⟩
    rw [HM.out]
    go_wp2_with fail
    refine (umember_any HU.out b).mono ?_
    rintro e w1 ⟨rfl, rfl⟩
    rw [HM2.out]
    go_wp2_with fail
    refine (HT.out _ (Below.refl _ _)).mono ?_
    rintro e w1 ⟨rfl, rfl⟩
    go_wp2_with fail
    refine (HQ.out _ (Below.refl _ _)).mono ?_
    rintro e w1 ⟨rfl, rfl⟩
    clear HT HQ HU HM HM2
    go_wp2
    go_quiet (fail)
    go_wp2
    generalize hw3 : World.drewN w1 _ = w3
    have hb3 : Below w1.heap.size w1 w3 := by rw [← hw3]; exact below_drew _ _
    clear hw3
    have hX3 := HX.out.below hb3
    have gn := Grow.ne w3
    have g0 : ∀ g : Grow w3, g.w.cell? ⟨B, 0, none⟩ = some (.slice (some ⟨G, 0, none⟩) n n) := fun g => Grow.cell hX3.blk.lt (by have := hX3.blk.at (j := 0) rfl; simpa using this) g
    have g1 : ∀ g : Grow w3, g.w.cell? ⟨G, r, none⟩ = some (.int .i32 xr) := fun g => Grow.cell hX3.ra.lt (by rw [← AA.out.1]; exact hX3.ra.at r1) g
    have g2 : ∀ g : Grow w3, g.w.cell? ⟨G, q, none⟩ = some (.int .i32 xq) := fun g => Grow.cell hX3.ra.lt (by rw [← AA.out.2]; exact hX3.ra.at q1) g
    have HB3 := hid_mk hb3
    clear hX3 hb3 c0 ar aq
    refine wp_region_tail 16 (by kernel_rfl) (by kernel_rfl) (by kernel_rfl) ?_
    simp only [stillAt, stillOp, List.set_cons_succ, List.set_cons_zero, List.getElem?_cons_succ, List.getElem?_cons_zero, Option.getD_some, List.drop_succ_cons, List.drop_zero]
    repeat (go_big_quiet_step (fail))
    refine wpQuiet_nil ?_
    rintro w4 ⟨⟨_, hb4⟩, rfl⟩
    have HB4 := hid_mk (below_step HB3.out hb4 (Nat.le_refl _))
    have hX4 := HX.out.below HB4.out
    have k1 : w4.cell? ⟨G, r, none⟩ = some (.int .i32 xr) := by rw [← AA.out.1]; exact hX4.ra.at r1
    have f1 := hX4.ra.frozen r
    have HX5 := hid_mk (hX4.setA r (xr + xq))
    clear hX4 hb4 g0 g1 g2 gn HB3
    go_wp2
    generalize hw5 : w4.setCell ⟨G, r, none⟩ (.int .i32 (xr + xq)) = w5 at *
    have HW5 := hid_mk hw5
    clear hw5 k1 f1
    have hX5 := HX5.out
    have gn := Grow.ne w5
    have g0 : ∀ g : Grow w5, g.w.cell? ⟨B, 1, none⟩ = some (.slice (some ⟨H, 0, none⟩) n n) := fun g => Grow.cell hX5.blk.lt (by have := hX5.blk.at (j := 1) rfl; simpa using this) g
    have g1 : ∀ g : Grow w5, g.w.cell? ⟨H, r, none⟩ = some (.int .i32 mr) := fun g => Grow.cell hX5.rm.lt (by rw [← MM.out.1]; exact hX5.rm.at r1) g
    have g2 : ∀ g : Grow w5, g.w.cell? ⟨H, q, none⟩ = some (.int .i32 mq) := fun g => Grow.cell hX5.rm.lt (by rw [← MM.out.2]; exact hX5.rm.at q1) g
    clear hX5
    refine wp_region_tail 21 (by kernel_rfl) (by kernel_rfl) (by kernel_rfl) ?_
    simp only [stillAt, stillOp, List.set_cons_succ, List.set_cons_zero, List.getElem?_cons_succ, List.getElem?_cons_zero, Option.getD_some, List.drop_succ_cons, List.drop_zero]
    repeat (go_big_quiet_step (fail))
    refine wpQuiet_nil ?_
    rintro w6 ⟨⟨_, hb6⟩, rfl⟩
    have HB6 := hid_mk hb6
    have hX6 := HX5.out.below hb6
    have k1 : w6.cell? ⟨H, r, none⟩ = some (.int .i32 mr) := by rw [← MM.out.1]; exact hX6.rm.at r1
    have f1 := hX6.rm.frozen r
    have hX7 := hX6.setM r (min mr mq)
    have k2 : (w6.setCell ⟨H, r, none⟩ (.int .i32 (min mr mq))).cell? ⟨B, 0, none⟩ = some (.slice (some ⟨G, 0, none⟩) n n) := by have := hX7.blk.at (j := 0) rfl; simpa using this
    have k3 := hX7.ra.at q1
    have f3 := hX7.ra.frozen q
    have hX8 := hX7.setA q (r : Int)
    have k4 : ((w6.setCell ⟨H, r, none⟩ (.int .i32 (min mr mq))).setCell ⟨G, q, none⟩ (.int .i32 r)).cell? ⟨B, 2, none⟩ = some (.int .i64 ss) := by have := hX8.blk.at (j := 2) rfl; simpa using this
    have f4 := hX8.blk.frozen 2
    have HE := hid_mk (E1.out HB4.out (w6 := w6) (by rw [HW5.out]; exact HB6.out))
    clear hb6 hX6 hX7 hX8 g0 g1 g2 gn HB4 HB6 HX5 HW5 HX E1 E2 AA MM
    go_wp2
    go_ret
    exact ⟨rfl, HE.out⟩
end Go.Proofs.Ytcbgeahcnjamdac
