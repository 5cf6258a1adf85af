/- More of the plain mathematics of layer 1: what is beside a cell is 1 away, and the other way about. -/
import Derived.Test.YtabgplniaiehpabPlacePlain
namespace Go.Proofs.Ytabgplniaiehpab.Pl

theorem away_of {W H a b : Int} (ha : inB W H a = true) (hb : inB W H b = true) : awayN W H a b = apartN (a % W) (b % W) + apartN (a / W) (b / W) := by
  unfold awayN; rw [if_pos ⟨ha, hb⟩]
theorem away_no1 {W H a b : Int} (ha : inB W H a = false) : awayN W H a b = -1 := by
  unfold awayN; rw [if_neg (by rw [ha]; simp)]
theorem away_no2 {W H a b : Int} (hb : inB W H b = false) : awayN W H a b = -1 := by
  unfold awayN; rw [if_neg (by rw [hb]; simp)]
theorem near_no {W H a : Int} (ha : inB W H a = false) : nearL W H a = [] := by
  unfold nearL; rw [if_neg (by rw [ha]; simp)]
theorem apartN_comm (m n : Int) : apartN m n = apartN n m := by unfold apartN; omega

theorem near_mem {W H a b : Int} (ha : inB W H a = true) : b ∈ nearL W H a ↔ (0 < a / W ∧ b = a - W) ∨ (0 < a % W ∧ b = a - 1) ∨ (a % W < W - 1 ∧ b = a + 1) ∨ (a / W < H - 1 ∧ b = a + W) := by
  unfold nearL
  rw [if_pos ha]
  simp only [List.mem_append]
  constructor
  · rintro (((h | h) | h) | h) <;> split at h <;> simp at h <;> simp [*]
  · rintro (⟨h, rfl⟩ | ⟨h, rfl⟩ | ⟨h, rfl⟩ | ⟨h, rfl⟩) <;> simp [h]

/-- A number that is v rows and u columns on. -/
theorem coords {W H u v : Int} (hr : rt W H = true) (hu0 : 0 ≤ u) (hu : u < W) (hv0 : 0 ≤ v) (hv : v < H) {b : Int} (hb : b = v * W + u) : inB W H b = true ∧ b % W = u ∧ b / W = v := by
  subst hb
  exact ⟨idx_in hr hu0 hu hv0 hv, idx_mod hu0 hu, idx_div hu0 hu⟩

theorem near_iff {W H a b : Int} (ha : inB W H a = true) : b ∈ nearL W H a ↔ (inB W H b = true ∧ awayN W H a b = 1) := by
  rw [near_mem ha]
  have hr := (inB_iff.1 ha).1
  obtain ⟨a1, a2, a3, a4, a5, a6, a7, a8, a9, a10, a11⟩ := at_bd ha
  constructor
  · have fin : ∀ u v : Int, 0 ≤ u → u < W → 0 ≤ v → v < H → b = v * W + u → apartN (a % W) u + apartN (a / W) v = 1 → inB W H b = true ∧ awayN W H a b = 1 := by
      intro u v h1 h2 h3 h4 h5 h6
      obtain ⟨k1, k2, k3⟩ := coords hr h1 h2 h3 h4 h5
      exact ⟨k1, by rw [away_of ha k1, k2, k3]; exact h6⟩
    rintro (⟨h, e⟩ | ⟨h, e⟩ | ⟨h, e⟩ | ⟨h, e⟩)
    · exact fin (a % W) (a / W - 1) a7 a8 (by omega) (by omega) (by rw [Int.sub_mul]; omega) (by unfold apartN; omega)
    · exact fin (a % W - 1) (a / W) (by omega) (by omega) (by omega) (by omega) (by omega) (by unfold apartN; omega)
    · exact fin (a % W + 1) (a / W) (by omega) (by omega) (by omega) (by omega) (by omega) (by unfold apartN; omega)
    · exact fin (a % W) (a / W + 1) a7 a8 (by omega) (by omega) (by rw [Int.add_mul]; omega) (by unfold apartN; omega)
  · rintro ⟨hb, h1⟩
    rw [away_of ha hb] at h1
    obtain ⟨_, _, _, _, _, _, b7, b8, b9, b10, b11⟩ := at_bd hb
    unfold apartN at h1
    have hx : a % W = b % W ∨ a % W = b % W + 1 ∨ a % W + 1 = b % W := by omega
    rcases hx with hx | hx | hx
    · have hy : a / W = b / W + 1 ∨ a / W + 1 = b / W := by omega
      rcases hy with hy | hy
      · exact .inl ⟨by omega, by rw [hy, Int.add_mul] at a11; omega⟩
      · exact .inr (.inr (.inr ⟨by omega, by rw [← hy, Int.add_mul] at b11; omega⟩))
    · have hy : a / W = b / W := by omega
      exact .inr (.inl ⟨by omega, by rw [hy] at a11; omega⟩)
    · have hy : a / W = b / W := by omega
      exact .inr (.inr (.inl ⟨by omega, by rw [hy] at a11; omega⟩))

/-- Beside, said by the distance. -/
theorem beside_eq (W H a b : Int) : decide (b ∈ nearL W H a) = decide (awayN W H a b = 1) := by
  cases ha : inB W H a with
  | false => rw [near_no ha, away_no1 ha]; rfl
  | true =>
    cases hb : inB W H b with
    | false => rw [away_no2 hb, decide_eq_false (fun h => by have := ((near_iff ha).1 h).1; rw [hb] at this; cases this)]; rfl
    | true =>
      rw [Bool.eq_iff_iff]
      simp only [decide_eq_true_iff]
      rw [near_iff ha]
      exact ⟨fun h => h.2, fun h => ⟨hb, h⟩⟩

theorem atB_swap (W H x y : Int) : atB H W y x = atB W H x y := by
  rw [Bool.eq_iff_iff, atB_iff, atB_iff, rt_swap H W]
  constructor <;> (rintro ⟨a, b, c, d, e⟩; exact ⟨a, d, e, b, c⟩)
theorem idxN_in {W H x y : Int} (h : atB W H x y = true) : inB W H (idxN W H x y) = true ∧ idxN W H x y % W = x ∧ idxN W H x y / W = y := by
  obtain ⟨hr, h1, h2, h3, h4⟩ := atB_iff.1 h
  exact coords hr h1 h2 h3 h4 (by unfold idxN; rw [if_pos h])
theorem away_idx {W H x y u v : Int} (h : atB W H x y = true) (k : atB W H u v = true) : awayN W H (idxN W H x y) (idxN W H u v) = apartN x u + apartN y v := by
  obtain ⟨h1, h2, h3⟩ := idxN_in h
  obtain ⟨k1, k2, k3⟩ := idxN_in k
  rw [away_of h1 k1, h2, h3, k2, k3]
theorem away_turn {W H x y u v : Int} (h : atB W H x y = true) (k : atB W H u v = true) : awayN H W (idxN H W y x) (idxN H W v u) = awayN W H (idxN W H x y) (idxN W H u v) := by
  rw [away_idx h k, away_idx (by rw [atB_swap]; exact h) (by rw [atB_swap]; exact k)]; omega
end Go.Proofs.Ytabgplniaiehpab.Pl
