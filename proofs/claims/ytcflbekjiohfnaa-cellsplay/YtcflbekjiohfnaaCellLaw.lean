/- The statements' own helpers: Two, Made, same, kinds. -/
import Derived.Test.YtcflbekjiohfnaaCellTwin
namespace Go.Proofs.Ytcflbekjiohfnaa
open Go.RowKit
set_option linter.unusedVariables false

def twoL : List Kd := [(1, 1), (3, 0)]
theorem twoL_wk : Wk twoL := by intro x hx; simp only [twoL, List.mem_cons, List.not_mem_nil, or_false] at hx; rcases hx with rfl | rfl <;> decide
set_option maxHeartbeats 400000 in
theorem two_any (w : World) : Calls Try.prog 10 #[] w fun e w' => e = .returned (.slice (some ⟨w.heap.size, 0, none⟩) 2 2) ∧ w' = w.alloc (.cells #[.int .i64 1, .int .u8 1, .int .i64 3, .int .u8 0] 74) := by
  go_enter Try.func10, Try.ntmps10
  go_wp2
  go_ret
  exact ⟨rfl, rfl⟩
theorem two_at (w : World) : KAt (w.alloc (.cells #[.int .i64 1, .int .u8 1, .int .i64 3, .int .u8 0] 74)) (some ⟨w.heap.size, 0, none⟩) twoL := by
  refine .inr ⟨w.heap.size, 0, rfl, fun i hi => ?_⟩
  have h := Blk.new w 74 #[.int .i64 1, .int .u8 1, .int .i64 3, .int .u8 0]
  match i, hi with
  | 0, _ | 1, _ => exact ⟨h.at rfl, h.at rfl⟩

/-- Is there a grid of these? -/
def madeB (zw zh : Int) (ks : List Kd) (cl : Int) : Bool := okT ks cl && Pl.rt zw zh

set_option maxRecDepth 100000 in
set_option maxHeartbeats 800000 in
theorem made_no (zw zh : Int) (ao : Option Addr) (cap n : Nat) (ks : List Kd) (cl : Int) (w : World) (hn : ks.length = n) (hk : KAt w ao ks) (hw : Wk ks) (hm : madeB zw zh ks cl = false) :
    Calls Try.prog 9 #[Pl.sz zw zh, .slice ao n cap, .int .i64 cl] w fun e w' => e = .returned (.tuple #[.pointer none, .bool false]) ∧ Below w.heap.size w w' := by
  subst hn
  cases ho : okT ks cl with
  | false =>
    have HO : Hid (okT ks cl = false) := ho
    have HK : Hid (KAt (w.alloc (.cells #[.int .i64 zw, .int .i64 zh] 26)) ao ks) := hk.below ((Below.refl _ _).alloc (Nat.le_refl _) _)
    clear hm ho hk
    go_enter Try.func9, Try.ntmps9
    go_wp2_with fail
    refine (new_no ao cap ks cl _ HK.out hw HO.out).mono ?_
    rintro e w1 ⟨rfl, hb⟩
    go_wp2
    go_ret2
    exact ⟨rfl, below_step ((Below.refl _ _).alloc (Nat.le_refl _) _) hb (Nat.le_refl _)⟩
  | true =>
    have hr : Pl.rt zw zh = false := by unfold madeB at hm; rw [ho] at hm; simpa using hm
    have HR : Hid (Pl.rt zw zh = false) := hr
    have HO : Hid (okT ks cl = true) := ho
    have h0 := (okT_iff.1 ho).1
    rcases hk with h | ⟨b, off, rfl, hk⟩
    · rw [h] at h0; simp at h0
    · have HK : Hid (∀ i, i < ks.length → (w.alloc (.cells #[.int .i64 zw, .int .i64 zh] 26)).cell? ⟨b, off + i * 2, none⟩ = some (.int .i64 (kAt ks i).1) ∧ (w.alloc (.cells #[.int .i64 zw, .int .i64 zh] 26)).cell? ⟨b, off + i * 2 + 1, none⟩ = some (.int .u8 (kAt ks i).2)) := fun i hi =>
        ⟨(((Below.refl _ w).alloc (Nat.le_refl _) _).cell (p := ⟨b, _, none⟩) (cell_lt (hk i hi).1)).trans (hk i hi).1, (((Below.refl _ w).alloc (Nat.le_refl _) _).cell (p := ⟨b, _, none⟩) (cell_lt (hk i hi).2)).trans (hk i hi).2⟩
      clear hm ho hk hr
      go_enter Try.func9, Try.ntmps9
      go_wp2_with fail
      refine (new_yes b off cap ks cl _ HK.out hw HO.out).mono ?_
      rintro e w1 ⟨T, rfl, ht, hb⟩
      have HT : Hid (Tab w1 _ T ks cl) := ht
      obtain ⟨x0, x1⟩ := ((Blk.new w 26 #[.int .i64 zw, .int .i64 zh]).below hb).cells2
      clear ht
      go_wp2_with fail
      refine (gnew_wide zw zh _ _ HR.out).mono ?_
      rintro e w2 ⟨rfl, hb2⟩
      go_wp2
      go_ret2
      exact ⟨rfl, below_step (below_step ((Below.refl _ _).alloc (Nat.le_refl _) _) hb (Nat.le_refl _)) hb2 (Nat.le_refl _)⟩

set_option maxRecDepth 100000 in
set_option maxHeartbeats 800000 in
theorem made_yes (zw zh : Int) (ao : Option Addr) (cap n : Nat) (ks : List Kd) (cl : Int) (w : World) (hn : ks.length = n) (hk : KAt w ao ks) (hw : Wk ks) (hm : madeB zw zh ks cl = true) :
    Calls Try.prog 9 #[Pl.sz zw zh, .slice ao n cap, .int .i64 cl] w fun e w' => ∃ F B K T, e = .returned (.tuple #[.pointer (some ⟨B, 0, none⟩), .bool true]) ∧ w.heap.size ≤ B ∧ w.heap.size ≤ K ∧ Own w' F B K T zw zh ks cl (List.replicate (zw * zh).toNat 0) ∧ (∀ b, F b → w.heap.size ≤ b) ∧ Below w.heap.size w w' := by
  subst hn
  have ho : okT ks cl = true := by unfold madeB at hm; simp at hm; exact hm.1
  have hr : Pl.rt zw zh = true := by unfold madeB at hm; simp at hm; exact hm.2
  have HR : Hid (Pl.rt zw zh = true) := hr
  have HO : Hid (okT ks cl = true) := ho
  have h0 := (okT_iff.1 ho).1
  rcases hk with h | ⟨b, off, rfl, hk⟩
  · rw [h] at h0; simp at h0
  · have HK : Hid (∀ i, i < ks.length → (w.alloc (.cells #[.int .i64 zw, .int .i64 zh] 26)).cell? ⟨b, off + i * 2, none⟩ = some (.int .i64 (kAt ks i).1) ∧ (w.alloc (.cells #[.int .i64 zw, .int .i64 zh] 26)).cell? ⟨b, off + i * 2 + 1, none⟩ = some (.int .u8 (kAt ks i).2)) := fun i hi =>
      ⟨(((Below.refl _ w).alloc (Nat.le_refl _) _).cell (p := ⟨b, _, none⟩) (cell_lt (hk i hi).1)).trans (hk i hi).1, (((Below.refl _ w).alloc (Nat.le_refl _) _).cell (p := ⟨b, _, none⟩) (cell_lt (hk i hi).2)).trans (hk i hi).2⟩
    clear hm ho hk hr
    go_enter Try.func9, Try.ntmps9
    go_wp2_with fail
    refine (new_yes b off cap ks cl _ HK.out hw HO.out).mono ?_
    rintro e w1 ⟨T, rfl, ht, hb⟩
    have hsz := hb.size
    simp at hsz
    have HT : Hid (Tab w1 (fun b => w.heap.size + 1 ≤ b ∧ b < w1.heap.size) T ks cl) := ht.mono (fun b h1 h2 => ⟨by simpa using h1, h2⟩)
    obtain ⟨x0, x1⟩ := ((Blk.new w 26 #[.int .i64 zw, .int .i64 zh]).below hb).cells2
    have hb1 := below_step ((Below.refl _ _).alloc (Nat.le_refl _) _) hb (Nat.le_refl _)
    clear ht
    go_wp2_with fail
    refine (gnew_yes zw zh _ T ks cl w1 HT.out (fun b h => h.2) h0 HR.out).mono ?_
    rintro e w2 ⟨B, K, rfl, hB, hK, hO, hb2⟩
    have HW : Hid (Own w2 _ B K T zw zh ks cl (List.replicate (zw * zh).toNat 0)) := hO
    clear hO
    go_wp2
    go_ret2
    exact ⟨_, B, K, T, rfl, by omega, by omega, HW.out, fun b h => by omega, below_step hb1 hb2 (Nat.le_refl _)⟩

theorem IS.form {W : World} {base : Nat} {v : Value} {xs : List Int} (h : IS W base v xs) : ∃ ao cap, v = .slice ao xs.length cap ∧ (xs = [] ∨ ∃ g, ao = some ⟨g, 0, none⟩ ∧ base ≤ g ∧ g < W.heap.size ∧ ∀ i, i < xs.length → W.cell? ⟨g, i, none⟩ = some (.int .i64 (lAt xs i))) := by
  have hc := h
  rcases h.2 with ⟨rfl, h1⟩ | ⟨g, cap, cur, rfl, hb, hg, hn, _⟩
  · exact ⟨none, 0, by rw [h1], .inl (List.length_eq_zero_iff.1 h1)⟩
  · refine ⟨_, cap, rfl, .inr ⟨g, rfl, hb, (Array.getElem?_eq_some_iff.1 hg).1, fun i hi => ?_⟩⟩
    have h1 := World.ownsRow.cells hc rfl _ _ (ints_at hi)
    rw [add_eq, Nat.zero_add] at h1
    exact h1

/-- A slice of integers, wherever it lies. -/
def IAt (W : World) (v : Value) (xs : List Int) : Prop := ∃ ao cap, v = .slice ao xs.length cap ∧ (xs = [] ∨ ∃ g off, ao = some ⟨g, off, none⟩ ∧ ∀ i, i < xs.length → W.cell? ⟨g, off + i, none⟩ = some (.int .i64 (lAt xs i)))
theorem IS.iat {W : World} {base : Nat} {v : Value} {xs : List Int} (h : IS W base v xs) : IAt W v xs := by
  obtain ⟨ao, cap, e, h⟩ := h.form
  exact ⟨ao, cap, e, h.imp id (fun ⟨g, e, _, _, h⟩ => ⟨g, 0, e, fun i hi => by rw [Nat.zero_add]; exact h i hi⟩)⟩
theorem IAt.blk {W : World} {g : Nat} {t : TypeId} {xs : List Int} (cap : Nat) (h : Blk W g t (iRow xs)) : IAt W (.slice (some ⟨g, 0, none⟩) xs.length cap) xs :=
  ⟨_, cap, rfl, .inr ⟨g, 0, rfl, fun i hi => by rw [Nat.zero_add]; exact h.at (iRow_at hi)⟩⟩
theorem IAt.below {W W' : World} {v : Value} {xs : List Int} (h : IAt W v xs) (hb : Below W.heap.size W W') : IAt W' v xs := by
  obtain ⟨ao, cap, e, h⟩ := h
  exact ⟨ao, cap, e, h.imp id (fun ⟨g, off, e, h⟩ => ⟨g, off, e, fun i hi => (hb.cell (p := ⟨g, _, none⟩) (cell_lt (h i hi))).trans (h i hi)⟩)⟩
theorem IAt.nil (W : World) : IAt W (.slice none 0 0) [] := ⟨none, 0, rfl, .inl rfl⟩

theorem below_drewN {n : Nat} {a w : World} (h : Below n a w) (k : Nat) : Below n a (w.drewN k) := by
  rw [show w.drewN k = { w with drawn := w.drawn + k } from by first | rfl | simp [World.drewN]]
  exact ⟨h.os, h.tape, h.output, h.size, h.block⟩

set_option maxRecDepth 100000 in
set_option maxHeartbeats 800000 in
/-- same: the same numbers? -/
theorem same_any {w : World} {v u : Value} {xs ys : List Int} (hx : IAt w v xs) (hy : IAt w u ys) (h1 : xs.length ≤ 9000000000000000000) (h2 : ys.length ≤ 9000000000000000000) :
    Calls Try.prog 21 #[v, u] w fun e w' => e = .returned (.bool (decide (xs = ys))) ∧ Below w.heap.size w w' := by
  obtain ⟨ax, cx, rfl, hx⟩ := hx
  obtain ⟨ay, cy, rfl, hy⟩ := hy
  by_cases hl : xs.length = ys.length
  · have HX : Hid (xs = [] ∨ ∃ g off, ax = some ⟨g, off, none⟩ ∧ ∀ i, i < xs.length → w.cell? ⟨g, off + i, none⟩ = some (.int .i64 (lAt xs i))) := hx
    have HY : Hid (ys = [] ∨ ∃ g off, ay = some ⟨g, off, none⟩ ∧ ∀ i, i < ys.length → w.cell? ⟨g, off + i, none⟩ = some (.int .i64 (lAt ys i))) := hy
    clear hx hy
    have HD : Hid (∀ k, k < xs.length → lAt xs k ≠ lAt ys k → decide (xs = ys) = false) := fun k hk h => by
      have : xs ≠ ys := fun e => h (by rw [e])
      simpa using this
    have HE : Hid ((∀ i, i < xs.length → lAt xs i = lAt ys i) → decide (xs = ys) = true) := fun h => by
      have : xs = ys := list_ext hl h
      simpa using this
    generalize hN : xs.length = N at *
    rw [← hl]
    go_enter Try.func21, Try.ntmps21
    go_wp2
    go_loopw [5] (fun i wr => ∃ k : Nat, k ≤ N ∧ i = .int .i64 k ∧ Hid (∀ i, i < k → lAt xs i = lAt ys i) ∧ Below w.heap.size w wr) (fun i _ => N - (intOf i).toNat)
    case atStart => exact ⟨0, Nat.zero_le _, rfl, fun i hi => absurd hi (Nat.not_lt_zero _), Below.refl _ _⟩
    case round =>
      obtain ⟨k, hkn, rfl, HA, hB⟩ := hrel
      by_cases hlt : k < N
      · rcases HX.out with h | ⟨gx, ox, rfl, hxc⟩
        · rw [h] at hN; simp at hN; omega
        · rcases HY.out with h | ⟨gy, oy, rfl, hyc⟩
          · rw [h] at hl; simp at hl; omega
          · have a0 := hxc k (by omega)
            have b0 := hyc k (by omega)
            have a1 := (hB.cell (p := ⟨gx, _, none⟩) (cell_lt a0)).trans a0
            have b1 := (hB.cell (p := ⟨gy, _, none⟩) (cell_lt b0)).trans b0
            have g0 := Grow.cell (cell_lt a1) a1
            have g1 := Grow.cell (cell_lt b1) b1
            have gn := Grow.ne wr
            have HDk := HD.out k hlt
            have HDk' : Hid (lAt xs k ≠ lAt ys k → decide (xs = ys) = false) := HDk
            have HS : Hid (lAt xs k = lAt ys k → ∀ i, i < k + 1 → lAt xs i = lAt ys i) := fun e i hi => by
              by_cases h : i < k
              · exact HA.out i h
              · rw [show i = k by omega]; exact e
            clear hxc hyc a0 b0 HDk
            generalize lAt xs k = p at *
            generalize lAt ys k = q at *
            go_wp2
            refine wp_region_grow (by kernel_rfl) (by kernel_rfl) ?_
            repeat (go_big_quiet_step (fail))
            refine wpQuiet_nil ?_
            rintro w6 ⟨⟨_, hb6⟩, rfl⟩
            clear g0 g1 gn
            have hB6 := below_step hB hb6 (Nat.le_refl _)
            by_cases hpq : p = q
            · have e0 : (p != q) = false := by simp [hpq]
              rw [e0]
              have HS' : Hid (∀ i, i < k + 1 → lAt xs i = lAt ys i) := HS.out hpq
              clear HS e0
              go_wp2
              go_roundw
              case rel => exact ⟨k + 1, by omega, by go_num, HS', hB6⟩
              case measure => simp [intOf]; omega
            · have e0 : (p != q) = true := by simp [hpq]
              rw [e0]
              clear e0
              go_wp2
              go_ret
              exact ⟨ret_of (congrArg Value.bool (HDk'.out hpq).symm), hB6⟩
      · have hke : k = N := by omega
        subst hke
        go_wp2
        go_ret
        exact ⟨ret_of (congrArg Value.bool (HE.out HA.out).symm), hB⟩
  · have e0 : decide (xs = ys) = false := by
      have : xs ≠ ys := fun e => hl (by rw [e])
      simpa using this
    rw [e0]
    clear hx hy e0
    generalize xs.length = n at *
    generalize ys.length = m at *
    have e1 : ((n : Int) == (m : Int)) = false := by simp; omega
    go_enter Try.func21, Try.ntmps21
    go_wp2
    go_ret
    exact ⟨rfl, Below.refl _ _⟩
end Go.Proofs.Ytcflbekjiohfnaa
