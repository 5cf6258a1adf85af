/- The plain mathematics of layer 1 (place): sizes, cells, columns and rows, over Int alone; nothing of the program. -/
import Derived.WalkKit
namespace Go.Proofs.Ytabgplniaiehpab.Pl

/-- A side that may be. -/
def sideB (n : Int) : Bool := decide (1 ≤ n) && decide (n ≤ 4096)
/-- A size that may be. -/
def rt (W H : Int) : Bool := sideB W && sideB H && decide (W * H ≤ 4194304)
/-- How many cells. -/
def cellsN (W H : Int) : Int := if rt W H = true then W * H else 0
/-- 0 ≤ n < e. -/
def blw (n e : Int) : Bool := decide (0 ≤ n) && decide (n < e)
/-- Is there such a cell? -/
def inB (W H c : Int) : Bool := blw c (cellsN W H)

theorem sideB_iff {n : Int} : sideB n = true ↔ 1 ≤ n ∧ n ≤ 4096 := by simp [sideB]
theorem blw_iff {n e : Int} : blw n e = true ↔ 0 ≤ n ∧ n < e := by simp [blw]
theorem mul_bd {W H : Int} (a : 1 ≤ W) (b : W ≤ 4096) (c : 1 ≤ H) (d : H ≤ 4096) : 1 ≤ W * H ∧ W * H ≤ 16777216 := by
  have h1 : W * 1 ≤ W * H := Int.mul_le_mul_of_nonneg_left c (by omega)
  have h2 : W * H ≤ W * 4096 := Int.mul_le_mul_of_nonneg_left d (by omega)
  omega
theorem rt_iff {W H : Int} : rt W H = true ↔ 1 ≤ W ∧ W ≤ 4096 ∧ 1 ≤ H ∧ H ≤ 4096 ∧ W * H ≤ 4194304 := by
  simp [rt, sideB, and_assoc]
theorem rt_swap (W H : Int) : rt W H = rt H W := by
  rw [Bool.eq_iff_iff, rt_iff, rt_iff, Int.mul_comm W H]; omega
theorem cellsN_swap (W H : Int) : cellsN W H = cellsN H W := by
  unfold cellsN; rw [rt_swap W H, Int.mul_comm W H]
theorem cellsN_bd (W H : Int) : 0 ≤ cellsN W H ∧ cellsN W H ≤ 4194304 := by
  unfold cellsN
  split
  · rename_i h
    obtain ⟨a, b, c, d, e⟩ := rt_iff.1 h
    exact ⟨by have := mul_bd a b c d; omega, e⟩
  · omega
theorem inB_iff {W H c : Int} : inB W H c = true ↔ rt W H = true ∧ 0 ≤ c ∧ c < W * H := by
  unfold inB
  rw [blw_iff]
  unfold cellsN
  split
  · rename_i h; simp [h]
  · rename_i h; simp [h]

/-- A cell's column and row, and back. -/
theorem at_bd {W H c : Int} (h : inB W H c = true) : 1 ≤ W ∧ W ≤ 4096 ∧ 1 ≤ H ∧ H ≤ 4096 ∧ 0 ≤ c ∧ c < 4194304 ∧ 0 ≤ c % W ∧ c % W < W ∧ 0 ≤ c / W ∧ c / W < H ∧ c / W * W + c % W = c := by
  obtain ⟨hr, h0, h1⟩ := inB_iff.1 h
  obtain ⟨a, b, d, e, f⟩ := rt_iff.1 hr
  refine ⟨a, b, d, e, h0, by omega, Int.emod_nonneg _ (by omega), Int.emod_lt_of_pos _ (by omega), Int.ediv_nonneg h0 (by omega), ?_, ?_⟩
  · exact Int.ediv_lt_of_lt_mul (by omega) (by rw [Int.mul_comm]; exact h1)
  · rw [Int.mul_comm]; exact Int.mul_ediv_add_emod c W

theorem idx_lt {W H x y : Int} (hr : rt W H = true) (hx0 : 0 ≤ x) (hx : x < W) (hy0 : 0 ≤ y) (hy : y < H) : 0 ≤ y * W + x ∧ y * W + x < W * H := by
  obtain ⟨a, b, d, e, f⟩ := rt_iff.1 hr
  have h1 : 0 ≤ y * W := Int.mul_nonneg hy0 (by omega)
  have h2 : y * W ≤ (H - 1) * W := Int.mul_le_mul_of_nonneg_right (by omega) (by omega)
  have h3 : (H - 1) * W = W * H - W := by rw [Int.sub_mul, Int.mul_comm H W]; omega
  omega
theorem idx_in {W H x y : Int} (hr : rt W H = true) (hx0 : 0 ≤ x) (hx : x < W) (hy0 : 0 ≤ y) (hy : y < H) : inB W H (y * W + x) = true :=
  inB_iff.2 ⟨hr, idx_lt hr hx0 hx hy0 hy⟩
theorem idx_mod {W x y : Int} (hx0 : 0 ≤ x) (hx : x < W) : (y * W + x) % W = x := by
  rw [Int.add_comm, Int.add_mul_emod_self_right]; exact Int.emod_eq_of_lt hx0 hx
theorem idx_div {W x y : Int} (hx0 : 0 ≤ x) (hx : x < W) : (y * W + x) / W = y := by
  rw [Int.add_comm, Int.add_mul_ediv_right _ _ (by omega), Int.ediv_eq_zero_of_lt hx0 hx]; omega

/-- Is there a cell at x, y? -/
def atB (W H x y : Int) : Bool := rt W H && blw x W && blw y H
theorem atB_iff {W H x y : Int} : atB W H x y = true ↔ rt W H = true ∧ 0 ≤ x ∧ x < W ∧ 0 ≤ y ∧ y < H := by
  simp [atB, blw, and_assoc]
/-- Its number. -/
def idxN (W H x y : Int) : Int := if atB W H x y = true then y * W + x else 0

/-- How far two numbers are. -/
def apartN (m n : Int) : Int := max m n - min m n
/-- How far two cells are. -/
def awayN (W H a b : Int) : Int := if inB W H a = true ∧ inB W H b = true then apartN (a % W) (b % W) + apartN (a / W) (b / W) else -1

/-- The cells beside one. -/
def nearL (W H c : Int) : List Int :=
  if inB W H c = true then
    (if 0 < c / W then [c - W] else []) ++ (if 0 < c % W then [c - 1] else []) ++ (if c % W < W - 1 then [c + 1] else []) ++ (if c / W < H - 1 then [c + W] else [])
  else []
theorem nearL_len (W H c : Int) : (nearL W H c).length ≤ 4 := by
  unfold nearL
  (repeat' split) <;> simp
end Go.Proofs.Ytabgplniaiehpab.Pl
