/- The plain mathematics of layer 12's statements. -/
import Derived.Test.YtabgplniaiehpabTilePlain
namespace Go.Proofs.Ytabgplniaiehpab.Pl
theorem taway_step {W H c x t : Int} (hc : inB W H c = true) (ht : tileB W H t = true) (hx : x ∈ nearL W H c) : 0 ≤ tawayN W H x t ∧ tawayN W H c t - 1 ≤ tawayN W H x t ∧ tawayN W H x t ≤ tawayN W H c t + 1 := by
  obtain ⟨hxi, h1⟩ := (near_iff hc).1 hx
  obtain ⟨m1, e1⟩ := taway_at hc ht
  obtain ⟨m2, e2⟩ := taway_at hxi ht
  have n1 := (cells_mem.1 m1).2.1
  have n2 := (cells_mem.1 m2).2.1
  have a1 := away_nonneg hc n1
  have a2 := away_nonneg hxi n2
  have l1 := taway_le m1 hxi
  have l2 := taway_le m2 hc
  have t1 := away_tri (W := W) (H := H) (a := x) (b := c) (c := nearestN W H c t) (by rw [away_comm]; omega) a1
  have t2 := away_tri (W := W) (H := H) (a := c) (b := x) (c := nearestN W H x t) (by omega) a2
  rw [away_comm W H x c] at t1
  exact ⟨taway_nonneg hxi ht, by omega, by omega⟩
theorem taway_in {W H c t : Int} (h : ¬ tawayN W H c t < 0) : inB W H c = true ∧ tileB W H t = true := by
  by_cases k : inB W H c = true ∧ tileB W H t = true
  · exact k
  · rw [taway_no k] at h; omega
/-- Is one of them just so far? -/
def metB (W H c d : Int) (l : List Int) : Bool := l.any fun x => awayN W H c x == d
theorem metB_snoc (W H c d : Int) (l : List Int) (x : Int) : metB W H c d (l ++ [x]) = (metB W H c d l || (awayN W H c x == d)) := by unfold metB; simp
theorem metB_all {W H c t : Int} (hc : inB W H c = true) (ht : tileB W H t = true) : metB W H c (tawayN W H c t) (cellsL W H t) = true := by
  obtain ⟨m1, e1⟩ := taway_at hc ht
  exact List.any_eq_true.2 ⟨_, m1, by simpa using e1⟩
end Go.Proofs.Ytabgplniaiehpab.Pl
