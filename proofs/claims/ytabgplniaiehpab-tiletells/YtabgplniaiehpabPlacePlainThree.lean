/- More of the plain mathematics of layer 1: from a cell, those beside it are one nearer to another cell, or one farther. -/
import Derived.Test.YtabgplniaiehpabPlacePlainTwo
namespace Go.Proofs.Ytabgplniaiehpab.Pl

theorem away_bd (W H a b : Int) : -1 ≤ awayN W H a b ∧ awayN W H a b ≤ 8190 := by
  cases ha : inB W H a with
  | false => rw [away_no1 ha]; omega
  | true =>
    cases hb : inB W H b with
    | false => rw [away_no2 hb]; omega
    | true =>
      rw [away_of ha hb]
      obtain ⟨a1, a2, a3, a4, a5, a6, a7, a8, a9, a10, a11⟩ := at_bd ha
      obtain ⟨_, _, _, _, _, _, b7, b8, b9, b10, b11⟩ := at_bd hb
      unfold apartN; omega
theorem away_in {W H a b : Int} (h : 0 ≤ awayN W H a b) : inB W H a = true ∧ inB W H b = true := by
  cases ha : inB W H a with
  | false => rw [away_no1 ha] at h; omega
  | true =>
    cases hb : inB W H b with
    | false => rw [away_no2 hb] at h; omega
    | true => exact ⟨rfl, rfl⟩
theorem away_nonneg {W H a b : Int} (ha : inB W H a = true) (hb : inB W H b = true) : 0 ≤ awayN W H a b := by
  rw [away_of ha hb]; unfold apartN; omega

/-- How many of a list. -/
def cntI (p : Int → Bool) (l : List Int) : Int := (l.filter p).length
theorem cntI_append (p : Int → Bool) (l m : List Int) : cntI p (l ++ m) = cntI p l + cntI p m := by unfold cntI; simp
theorem cntI_one (p : Int → Bool) (x : Int) : cntI p [x] = if p x = true then 1 else 0 := by
  unfold cntI; by_cases h : p x = true <;> simp [h]
theorem cntI_nil (p : Int → Bool) : cntI p [] = 0 := rfl
theorem cntI_bd (p : Int → Bool) (l : List Int) : 0 ≤ cntI p l ∧ cntI p l ≤ l.length := by
  unfold cntI; have := List.length_filter_le p l; omega

/-- How far the four beside a cell are from b. -/
theorem steps_away {W H a b : Int} (ha : inB W H a = true) (hb : inB W H b = true) :
    (0 < a / W → awayN W H (a - W) b = apartN (a % W) (b % W) + apartN (a / W - 1) (b / W)) ∧
    (0 < a % W → awayN W H (a - 1) b = apartN (a % W - 1) (b % W) + apartN (a / W) (b / W)) ∧
    (a % W < W - 1 → awayN W H (a + 1) b = apartN (a % W + 1) (b % W) + apartN (a / W) (b / W)) ∧
    (a / W < H - 1 → awayN W H (a + W) b = apartN (a % W) (b % W) + apartN (a / W + 1) (b / W)) := by
  have hr := (inB_iff.1 ha).1
  obtain ⟨a1, a2, a3, a4, a5, a6, a7, a8, a9, a10, a11⟩ := at_bd ha
  have fin : ∀ c u v : Int, 0 ≤ u → u < W → 0 ≤ v → v < H → c = v * W + u → awayN W H c b = apartN u (b % W) + apartN v (b / W) := by
    intro c u v h1 h2 h3 h4 h5
    obtain ⟨k1, k2, k3⟩ := coords hr h1 h2 h3 h4 h5
    rw [away_of k1 hb, k2, k3]
  refine ⟨fun h => fin _ _ _ a7 a8 (by omega) (by omega) (by rw [Int.sub_mul]; omega), fun h => fin _ _ _ (by omega) (by omega) (by omega) (by omega) (by omega),
    fun h => fin _ _ _ (by omega) (by omega) (by omega) (by omega) (by omega), fun h => fin _ _ _ a7 a8 (by omega) (by omega) (by rw [Int.add_mul]; omega)⟩

theorem steps_one {W H a b c : Int} (ha : inB W H a = true) (hb : inB W H b = true) (hc : c ∈ nearL W H a) : awayN W H c b = awayN W H a b - 1 ∨ awayN W H c b = awayN W H a b + 1 := by
  obtain ⟨s1, s2, s3, s4⟩ := steps_away ha hb
  rw [away_of ha hb]
  rcases (near_mem ha).1 hc with ⟨h, rfl⟩ | ⟨h, rfl⟩ | ⟨h, rfl⟩ | ⟨h, rfl⟩
  · rw [s1 h]; unfold apartN; omega
  · rw [s2 h]; unfold apartN; omega
  · rw [s3 h]; unfold apartN; omega
  · rw [s4 h]; unfold apartN; omega

theorem cntI_if {q : Prop} [Decidable q] {r : Prop} [Decidable r] (p : Int → Bool) (x : Int) (h : q → (p x = true ↔ r)) (k : r → q) : cntI p (if q then [x] else []) = if r then 1 else 0 := by
  by_cases hq : q
  · rw [if_pos hq, cntI_one]
    by_cases hr : r
    · rw [if_pos hr, if_pos ((h hq).2 hr)]
    · rw [if_neg hr, if_neg (fun e => hr ((h hq).1 e))]
  · rw [if_neg hq, cntI_nil, if_neg (fun e => hq (k e))]

theorem steps_cnt {W H a b : Int} (ha : inB W H a = true) (hb : inB W H b = true) :
    cntI (fun c => decide (awayN W H c b < awayN W H a b)) (nearL W H a) ≤ 2 ∧ (0 < cntI (fun c => decide (awayN W H c b < awayN W H a b)) (nearL W H a) ↔ 0 < awayN W H a b) := by
  obtain ⟨s1, s2, s3, s4⟩ := steps_away ha hb
  obtain ⟨a1, a2, a3, a4, a5, a6, a7, a8, a9, a10, a11⟩ := at_bd ha
  obtain ⟨_, _, _, _, _, _, b7, b8, b9, b10, b11⟩ := at_bd hb
  have e : cntI (fun c => decide (awayN W H c b < awayN W H a b)) (nearL W H a) = (if b / W < a / W then 1 else 0) + (if b % W < a % W then 1 else 0) + (if a % W < b % W then 1 else 0) + (if a / W < b / W then 1 else 0) := by
    unfold nearL
    rw [if_pos ha, cntI_append, cntI_append, cntI_append]
    rw [cntI_if (r := b / W < a / W) _ _ (fun h => by rw [decide_eq_true_iff, s1 h, away_of ha hb]; unfold apartN; omega) (fun h => by omega)]
    rw [cntI_if (r := b % W < a % W) _ _ (fun h => by rw [decide_eq_true_iff, s2 h, away_of ha hb]; unfold apartN; omega) (fun h => by omega)]
    rw [cntI_if (r := a % W < b % W) _ _ (fun h => by rw [decide_eq_true_iff, s3 h, away_of ha hb]; unfold apartN; omega) (fun h => by omega)]
    rw [cntI_if (r := a / W < b / W) _ _ (fun h => by rw [decide_eq_true_iff, s4 h, away_of ha hb]; unfold apartN; omega) (fun h => by omega)]
  rw [e, away_of ha hb]
  unfold apartN
  constructor
  · (repeat' split) <;> omega
  · constructor
    · intro h
      by_cases h1 : b / W < a / W
      · omega
      · by_cases h2 : b % W < a % W
        · omega
        · by_cases h3 : a % W < b % W
          · omega
          · by_cases h4 : a / W < b / W
            · omega
            · rw [if_neg h1, if_neg h2, if_neg h3, if_neg h4] at h; omega
    · intro h
      (repeat' split) <;> omega
end Go.Proofs.Ytabgplniaiehpab.Pl
