/- The plain mathematics of layer 12 (tile): a size in tiles, a cell's tile, where a tile is, its cells, how far a cell is from it; over Int alone. -/
import Derived.Test.YtabgplniaiehpabPlacePlainFour
namespace Go.Proofs.Ytabgplniaiehpab.Pl

/-- So many columns in tiles. -/
def sideT (n : Int) : Int := (n + 7) / 8
/-- The size in tiles. -/
def tW (W H : Int) : Int := if rt W H = true then sideT W else 0
def tH (W H : Int) : Int := if rt W H = true then sideT H else 0
theorem rt00 : rt 0 0 = false := by decide
theorem sideT_bd {n : Int} (a : 1 ≤ n) (b : n ≤ 4096) : 1 ≤ sideT n ∧ sideT n ≤ 512 ∧ sideT n ≤ n ∧ (sideT n - 1) * 8 < n ∧ n ≤ sideT n * 8 := by unfold sideT; omega
theorem tWH_yes {W H : Int} (h : rt W H = true) : tW W H = sideT W ∧ tH W H = sideT H := by unfold tW tH; rw [if_pos h, if_pos h]; exact ⟨rfl, rfl⟩
theorem tWH_no {W H : Int} (h : rt W H = false) : tW W H = 0 ∧ tH W H = 0 := by unfold tW tH; rw [if_neg (by rw [h]; simp), if_neg (by rw [h]; simp)]; exact ⟨rfl, rfl⟩
theorem rt_t (W H : Int) : rt (tW W H) (tH W H) = rt W H := by
  cases h : rt W H with
  | false => rw [(tWH_no h).1, (tWH_no h).2]; exact rt00
  | true =>
    obtain ⟨a, b, c, d, e⟩ := rt_iff.1 h
    rw [(tWH_yes h).1, (tWH_yes h).2, rt_iff]
    have h1 := sideT_bd a b
    have h2 := sideT_bd c d
    refine ⟨h1.1, by omega, h2.1, by omega, ?_⟩
    have h3 : sideT W * sideT H ≤ 512 * sideT H := Int.mul_le_mul_of_nonneg_right h1.2.1 (by omega)
    have h4 : (512 : Int) * sideT H ≤ 512 * 512 := Int.mul_le_mul_of_nonneg_left h2.2.1 (by omega)
    omega
/-- How many tiles. -/
def countN (W H : Int) : Int := cellsN (tW W H) (tH W H)
/-- Is there such a tile? -/
def tileB (W H t : Int) : Bool := inB (tW W H) (tH W H) t
/-- A cell's tile. -/
def ofN (W H c : Int) : Int := if inB W H c = true then c / W / 8 * tW W H + c % W / 8 else 0
/-- A tile's first column and row, how many of each. -/
def bxN (W H t : Int) : Int := if tileB W H t = true then t % tW W H * 8 else 0
def byN (W H t : Int) : Int := if tileB W H t = true then t / tW W H * 8 else 0
def bwN (W H t : Int) : Int := if tileB W H t = true then min 8 (W - t % tW W H * 8) else 0
def bhN (W H t : Int) : Int := if tileB W H t = true then min 8 (H - t / tW W H * 8) else 0

theorem count_yes {W H : Int} (h : rt W H = true) : countN W H = sideT W * sideT H := by
  unfold countN cellsN; rw [rt_t, if_pos h, (tWH_yes h).1, (tWH_yes h).2]
theorem count_no {W H : Int} (h : rt W H = false) : countN W H = 0 := by
  unfold countN cellsN; rw [rt_t, if_neg (by rw [h]; simp)]
theorem tileB_iff {W H t : Int} : tileB W H t = true ↔ 0 ≤ t ∧ t < countN W H := by unfold tileB inB; rw [blw_iff]; rfl
theorem tileB_rt {W H t : Int} (h : tileB W H t = true) : rt W H = true := by rw [← rt_t]; exact (inB_iff.1 h).1
theorem inB_rt {W H c : Int} (h : inB W H c = true) : rt W H = true := (inB_iff.1 h).1

/-- Where a tile is. -/
theorem box_bd {W H t : Int} (h : tileB W H t = true) :
    1 ≤ W ∧ W ≤ 4096 ∧ 1 ≤ H ∧ H ≤ 4096 ∧ 0 ≤ bxN W H t ∧ 0 ≤ byN W H t ∧ 1 ≤ bwN W H t ∧ bwN W H t ≤ 8 ∧ 1 ≤ bhN W H t ∧ bhN W H t ≤ 8 ∧ bxN W H t + bwN W H t ≤ W ∧ byN W H t + bhN W H t ≤ H ∧
    bxN W H t = t % tW W H * 8 ∧ byN W H t = t / tW W H * 8 ∧ bwN W H t = min 8 (W - bxN W H t) ∧ bhN W H t = min 8 (H - byN W H t) := by
  have hr := tileB_rt h
  obtain ⟨a, b, c, d, e⟩ := rt_iff.1 hr
  obtain ⟨_, _, _, _, _, _, p1, p2, p3, p4, p5⟩ := at_bd (show inB (tW W H) (tH W H) t = true from h)
  have h1 := sideT_bd a b
  have h2 := sideT_bd c d
  have e1 := (tWH_yes hr).1
  have e2 := (tWH_yes hr).2
  have q1 : bxN W H t = t % tW W H * 8 := by unfold bxN; rw [if_pos h]
  have q2 : byN W H t = t / tW W H * 8 := by unfold byN; rw [if_pos h]
  have q3 : bwN W H t = min 8 (W - bxN W H t) := by unfold bwN; rw [if_pos h, q1]
  have q4 : bhN W H t = min 8 (H - byN W H t) := by unfold bhN; rw [if_pos h, q2]
  generalize bxN W H t = x at *
  generalize byN W H t = y at *
  generalize bwN W H t = w at *
  generalize bhN W H t = hh at *
  generalize t % tW W H = u at *
  generalize t / tW W H = v at *
  rw [e1] at p2
  rw [e2] at p4
  refine ⟨a, b, c, d, by omega, by omega, by omega, by omega, by omega, by omega, by omega, by omega, q1, q2, q3, q4⟩
theorem box_no {W H t : Int} (h : tileB W H t = false) : bxN W H t = 0 ∧ byN W H t = 0 ∧ bwN W H t = 0 ∧ bhN W H t = 0 := by
  unfold bxN byN bwN bhN
  have k : ¬ tileB W H t = true := by rw [h]; simp
  rw [if_neg k, if_neg k, if_neg k, if_neg k]
  exact ⟨rfl, rfl, rfl, rfl⟩

/-- A cell's tile is there, and holds it. -/
theorem of_bd {W H c : Int} (h : inB W H c = true) : tileB W H (ofN W H c) = true ∧ ofN W H c % tW W H = c % W / 8 ∧ ofN W H c / tW W H = c / W / 8 ∧ atB (tW W H) (tH W H) (c % W / 8) (c / W / 8) = true ∧ idxN (tW W H) (tH W H) (c % W / 8) (c / W / 8) = ofN W H c := by
  have hr := inB_rt h
  obtain ⟨a, b, d, e, f, g, p1, p2, p3, p4, p5⟩ := at_bd h
  have e1 := (tWH_yes hr).1
  have e2 := (tWH_yes hr).2
  have h1 := sideT_bd a b
  have h2 := sideT_bd d e
  have k : atB (tW W H) (tH W H) (c % W / 8) (c / W / 8) = true := by
    rw [atB_iff, rt_t, e1, e2]
    unfold sideT
    exact ⟨hr, by omega, by omega, by omega, by omega⟩
  have q : idxN (tW W H) (tH W H) (c % W / 8) (c / W / 8) = ofN W H c := by
    unfold idxN ofN; rw [if_pos k, if_pos h]
  have z := idxN_in k
  rw [q] at z
  exact ⟨z.1, z.2.1, z.2.2, k, q⟩
theorem of_iff {W H c t : Int} (h : inB W H c = true) (ht : tileB W H t = true) : ofN W H c = t ↔ bxN W H t ≤ c % W ∧ c % W < bxN W H t + bwN W H t ∧ byN W H t ≤ c / W ∧ c / W < byN W H t + bhN W H t := by
  obtain ⟨_, _, _, _, _, _, p1, p2, p3, p4, p5⟩ := at_bd h
  obtain ⟨o1, o2, o3, _⟩ := of_bd h
  obtain ⟨b1, b2, b3, b4, b5, b6, b7, b8, b9, b10, b11, b12, b13, b14, b15, b16⟩ := box_bd ht
  constructor
  · rintro rfl
    rw [o2] at b13
    rw [o3] at b14
    omega
  · rintro ⟨k1, k2, k3, k4⟩
    have t5 := (at_bd (show inB (tW W H) (tH W H) t = true from ht)).2.2.2.2.2.2.2.2.2.2
    have s5 := (at_bd (show inB (tW W H) (tH W H) (ofN W H c) = true from o1)).2.2.2.2.2.2.2.2.2.2
    have e1 : t % tW W H = c % W / 8 := by omega
    have e2 : t / tW W H = c / W / 8 := by omega
    rw [e1, e2] at t5
    rw [o2, o3] at s5
    omega

/-- Some numbers from one on. -/
def spanL (f : Int) (n : Nat) : List Int := (List.range n).map fun k => f + ((k : Nat) : Int)
theorem span_mem {f : Int} {n : Nat} {c : Int} : c ∈ spanL f n ↔ f ≤ c ∧ c < f + n := by
  unfold spanL
  simp only [List.mem_map, List.mem_range]
  constructor
  · rintro ⟨k, hk, rfl⟩; omega
  · rintro ⟨h1, h2⟩; exact ⟨(c - f).toNat, by omega, by omega⟩
theorem span_succ (f : Int) (n : Nat) : spanL f (n + 1) = spanL f n ++ [f + n] := by
  unfold spanL; rw [List.range_succ, List.map_append]; rfl
theorem span_len (f : Int) (n : Nat) : (spanL f n).length = n := by unfold spanL; simp
theorem span_sorted (f : Int) : ∀ n : Nat, (spanL f n).Pairwise (· < ·) := by
  intro n
  induction n with
  | zero => exact List.Pairwise.nil
  | succ n ih =>
    rw [span_succ, List.pairwise_append]
    refine ⟨ih, List.pairwise_singleton _ _, fun a ha b hb => ?_⟩
    obtain rfl := List.mem_singleton.1 hb
    have := (span_mem.1 ha).2
    omega
/-- The cells of some rows of a rectangle. -/
def rectL (W x y : Int) (w : Nat) (r : Nat) : List Int := (List.range r).flatMap fun k => spanL ((y + ((k : Nat) : Int)) * W + x) w
theorem rect_succ (W x y : Int) (w r : Nat) : rectL W x y w (r + 1) = rectL W x y w r ++ spanL ((y + r) * W + x) w := by
  unfold rectL; rw [List.range_succ, List.flatMap_append]; simp
theorem rect_zero (W x y : Int) (w : Nat) : rectL W x y w 0 = [] := rfl
theorem rect_len (W x y : Int) (w r : Nat) : (rectL W x y w r).length = r * w := by
  induction r with
  | zero => simp [rect_zero]
  | succ r ih => rw [rect_succ, List.length_append, ih, span_len, Nat.succ_mul]
theorem rect_mem {W x y : Int} {w r : Nat} (hx : 0 ≤ x) (hw : x + w ≤ W) {c : Int} : c ∈ rectL W x y w r ↔ x ≤ c % W ∧ c % W < x + w ∧ y ≤ c / W ∧ c / W < y + r := by
  unfold rectL
  simp only [List.mem_flatMap, List.mem_range, span_mem]
  constructor
  · rintro ⟨k, hk, h1, h2⟩
    have e : c = (y + (k : Int)) * W + (c - (y + (k : Int)) * W) := by omega
    have m : c % W = c - (y + (k : Int)) * W := by
      have := idx_mod (W := W) (x := c - (y + (k : Int)) * W) (y := y + (k : Int)) (by omega) (by omega)
      rw [← e] at this; exact this
    have d : c / W = y + (k : Int) := by
      have := idx_div (W := W) (x := c - (y + (k : Int)) * W) (y := y + (k : Int)) (by omega) (by omega)
      rw [← e] at this; exact this
    rw [m, d]; omega
  · rintro ⟨h1, h2, h3, h4⟩
    refine ⟨(c / W - y).toNat, by omega, ?_⟩
    have e : y + (((c / W - y).toNat : Nat) : Int) = c / W := by omega
    rw [e]
    have q := Int.mul_ediv_add_emod c W
    rw [Int.mul_comm] at q
    omega
theorem rect_sorted {W x y : Int} {w : Nat} (hx : 0 ≤ x) (hw : x + w ≤ W) (r : Nat) : (rectL W x y w r).Pairwise (· < ·) := by
  induction r with
  | zero => exact List.Pairwise.nil
  | succ r ih =>
    rw [rect_succ, List.pairwise_append]
    refine ⟨ih, span_sorted _ _, fun a ha b hb => ?_⟩
    have h1 := (rect_mem hx hw).1 ha
    have h2 := span_mem.1 hb
    by_cases hW : W ≤ 0
    · omega
    · have q := Int.mul_ediv_add_emod a W
      rw [Int.mul_comm] at q
      have m : a / W * W ≤ (y + r - 1) * W := Int.mul_le_mul_of_nonneg_right (by omega) (by omega)
      rw [Int.sub_mul] at m
      omega
/-- A tile's cells. -/
def cellsL (W H t : Int) : List Int := rectL W (bxN W H t) (byN W H t) (bwN W H t).toNat (bhN W H t).toNat
theorem cells_none {W H t : Int} (h : tileB W H t = false) : cellsL W H t = [] := by
  unfold cellsL; rw [(box_no h).2.2.2]; rfl
theorem box_in {W H t c : Int} (h : tileB W H t = true) (k : bxN W H t ≤ c % W ∧ c % W < bxN W H t + bwN W H t ∧ byN W H t ≤ c / W ∧ c / W < byN W H t + bhN W H t) : inB W H c = true := by
  obtain ⟨b1, b2, b3, b4, b5, b6, b7, b8, b9, b10, b11, b12, _⟩ := box_bd h
  have q := Int.mul_ediv_add_emod c W
  rw [Int.mul_comm] at q
  have := idx_in (W := W) (H := H) (x := c % W) (y := c / W) (tileB_rt h) (by omega) (by omega) (by omega) (by omega)
  rw [q] at this; exact this
theorem cells_mem {W H t c : Int} : c ∈ cellsL W H t ↔ tileB W H t = true ∧ inB W H c = true ∧ ofN W H c = t := by
  cases h : tileB W H t with
  | false => rw [cells_none h]; simp
  | true =>
    obtain ⟨b1, b2, b3, b4, b5, b6, b7, b8, b9, b10, b11, b12, _⟩ := box_bd h
    unfold cellsL
    rw [rect_mem b5 (by omega)]
    have e1 : (((bwN W H t).toNat : Nat) : Int) = bwN W H t := by omega
    have e2 : (((bhN W H t).toNat : Nat) : Int) = bhN W H t := by omega
    rw [e1, e2]
    constructor
    · intro k
      have hi := box_in h k
      exact ⟨rfl, hi, (of_iff hi h).2 k⟩
    · rintro ⟨_, hi, k⟩
      exact (of_iff hi h).1 k
theorem cells_sorted (W H t : Int) : (cellsL W H t).Pairwise (· < ·) := by
  cases h : tileB W H t with
  | false => rw [cells_none h]; exact List.Pairwise.nil
  | true =>
    obtain ⟨b1, b2, b3, b4, b5, b6, b7, b8, b9, b10, b11, b12, _⟩ := box_bd h
    exact rect_sorted b5 (by omega) _
theorem cells_len {W H t : Int} : ((cellsL W H t).length : Int) = bwN W H t * bhN W H t := by
  unfold cellsL
  rw [rect_len]
  cases h : tileB W H t with
  | false => rw [(box_no h).2.2.1, (box_no h).2.2.2]; rfl
  | true =>
    obtain ⟨b1, b2, b3, b4, b5, b6, b7, b8, b9, b10, _⟩ := box_bd h
    rw [Int.natCast_mul, Int.mul_comm]
    congr 1 <;> omega
theorem cells_len64 (W H t : Int) : (cellsL W H t).length ≤ 64 := by
  unfold cellsL
  rw [rect_len]
  have h1 : (bwN W H t).toNat ≤ 8 := by unfold bwN; split <;> omega
  have h2 : (bhN W H t).toNat ≤ 8 := by unfold bhN; split <;> omega
  calc _ ≤ 8 * 8 := Nat.mul_le_mul h2 h1
    _ = 64 := rfl
/-- The nearest to n of so many numbers from one on. -/
def withinN (n f m : Int) : Int := min (max n f) (f + m - 1)
theorem within_bd {n f m : Int} (h : 1 ≤ m) : f ≤ withinN n f m ∧ withinN n f m < f + m := by unfold withinN; omega
theorem within_near {n f m k : Int} (h1 : f ≤ k) (h2 : k < f + m) : apartN n (withinN n f m) ≤ apartN n k := by unfold withinN apartN; omega
/-- The nearest cell of a tile. -/
def nearestN (W H c t : Int) : Int := idxN W H (withinN (c % W) (bxN W H t) (bwN W H t)) (withinN (c / W) (byN W H t) (bhN W H t))
/-- How far a cell is from a tile. -/
def tawayN (W H c t : Int) : Int := if inB W H c = true ∧ tileB W H t = true then awayN W H c (nearestN W H c t) else -1
theorem nearest_at {W H c t : Int} (ht : tileB W H t = true) : atB W H (withinN (c % W) (bxN W H t) (bwN W H t)) (withinN (c / W) (byN W H t) (bhN W H t)) = true := by
  obtain ⟨b1, b2, b3, b4, b5, b6, b7, b8, b9, b10, b11, b12, _⟩ := box_bd ht
  have h1 := within_bd (n := c % W) (f := bxN W H t) b7
  have h2 := within_bd (n := c / W) (f := byN W H t) b9
  exact atB_iff.2 ⟨tileB_rt ht, by omega, by omega, by omega, by omega⟩
theorem nearest_mem {W H c t : Int} (ht : tileB W H t = true) : nearestN W H c t ∈ cellsL W H t := by
  obtain ⟨b1, b2, b3, b4, b5, b6, b7, b8, b9, b10, b11, b12, _⟩ := box_bd ht
  have h1 := within_bd (n := c % W) (f := bxN W H t) b7
  have h2 := within_bd (n := c / W) (f := byN W H t) b9
  obtain ⟨k1, k2, k3⟩ := idxN_in (nearest_at (c := c) ht)
  exact cells_mem.2 ⟨ht, k1, (of_iff k1 ht).2 (by rw [k2, k3]; omega)⟩
theorem taway_le {W H c t d : Int} (hd : d ∈ cellsL W H t) (hc : inB W H c = true) : tawayN W H c t ≤ awayN W H c d := by
  obtain ⟨ht, hi, ho⟩ := cells_mem.1 hd
  have k := (of_iff hi ht).1 ho
  obtain ⟨k1, k2, k3⟩ := idxN_in (nearest_at (c := c) ht)
  unfold tawayN
  rw [if_pos ⟨hc, ht⟩, away_of hc hi]
  unfold nearestN
  rw [away_of hc k1, k2, k3]
  have q1 := within_near (n := c % W) k.1 k.2.1
  have q2 := within_near (n := c / W) k.2.2.1 k.2.2.2
  omega
theorem taway_at {W H c t : Int} (hc : inB W H c = true) (ht : tileB W H t = true) : nearestN W H c t ∈ cellsL W H t ∧ awayN W H c (nearestN W H c t) = tawayN W H c t := by
  refine ⟨nearest_mem ht, ?_⟩
  unfold tawayN; rw [if_pos ⟨hc, ht⟩]
theorem taway_no {W H c t : Int} (h : ¬ (inB W H c = true ∧ tileB W H t = true)) : tawayN W H c t = -1 := by unfold tawayN; rw [if_neg h]
theorem taway_nonneg {W H c t : Int} (hc : inB W H c = true) (ht : tileB W H t = true) : 0 ≤ tawayN W H c t := by
  obtain ⟨h1, h2⟩ := taway_at hc ht
  rw [← h2]
  exact away_nonneg hc (cells_mem.1 h1).2.1
theorem taway_bd (W H c t : Int) : -1 ≤ tawayN W H c t ∧ tawayN W H c t ≤ 8190 := by
  unfold tawayN
  split
  · exact away_bd _ _ _ _
  · omega
theorem taway_zero {W H c t : Int} : tawayN W H c t = 0 ↔ inB W H c = true ∧ tileB W H t = true ∧ ofN W H c = t := by
  constructor
  · intro h
    by_cases k : inB W H c = true ∧ tileB W H t = true
    · obtain ⟨h1, h2⟩ := taway_at k.1 k.2
      rw [h] at h2
      have e := away_zero h2
      rw [← e] at h1
      exact ⟨k.1, k.2, (cells_mem.1 h1).2.2⟩
    · rw [taway_no k] at h; omega
  · rintro ⟨h1, h2, h3⟩
    have := taway_le (cells_mem.2 ⟨h2, h1, h3⟩) h1
    have h0 := taway_nonneg h1 h2
    have : awayN W H c c = 0 := by rw [away_of h1 h1]; unfold apartN; omega
    omega
/-- The tiles beside one. -/
def tbesL (W H t : Int) : List Int := nearL (tW W H) (tH W H) t
end Go.Proofs.Ytabgplniaiehpab.Pl
