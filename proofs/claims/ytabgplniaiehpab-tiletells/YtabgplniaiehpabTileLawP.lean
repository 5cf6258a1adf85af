/- The plain mathematics of layer 12's statements. -/
import Derived.Test.YtabgplniaiehpabTilePlain
namespace Go.Proofs.Ytabgplniaiehpab.Pl
theorem taway_step {W H c x t : Int} (hc : inB W H c = true) (ht : tileB W H t = true) (hx : x ∈ nearL W H c) : 0 ≤ tawayN W H x t ∧ tawayN W H c t - 1 ≤ tawayN W H x t ∧ tawayN W H x t ≤ tawayN W H c t + 1 := by
  obtain ⟨hxi, h1⟩ := (near_iff hc).1 hx
  obtain ⟨m1, e1⟩ := taway_at hc ht
  obtain ⟨m2, e2⟩ := taway_at hxi ht
  have n1 := (cells_mem.1 m1).2.1
  have n2 := (cells_mem.1 m2).2.1
  have a1 := away_nonneg hc n1
  have a2 := away_nonneg hxi n2
  have l1 := taway_le m1 hxi
  have l2 := taway_le m2 hc
  have t1 := away_tri (W := W) (H := H) (a := x) (b := c) (c := nearestN W H c t) (by rw [away_comm]; omega) a1
  have t2 := away_tri (W := W) (H := H) (a := c) (b := x) (c := nearestN W H x t) (by omega) a2
  rw [away_comm W H x c] at t1
  exact ⟨taway_nonneg hxi ht, by omega, by omega⟩
theorem taway_in {W H c t : Int} (h : ¬ tawayN W H c t < 0) : inB W H c = true ∧ tileB W H t = true := by
  by_cases k : inB W H c = true ∧ tileB W H t = true
  · exact k
  · rw [taway_no k] at h; omega
/-- Is one of them just so far? -/
def metB (W H c d : Int) (l : List Int) : Bool := l.any fun x => awayN W H c x == d
theorem metB_snoc (W H c d : Int) (l : List Int) (x : Int) : metB W H c d (l ++ [x]) = (metB W H c d l || (awayN W H c x == d)) := by unfold metB; simp
theorem metB_all {W H c t : Int} (hc : inB W H c = true) (ht : tileB W H t = true) : metB W H c (tawayN W H c t) (cellsL W H t) = true := by
  obtain ⟨m1, e1⟩ := taway_at hc ht
  exact List.any_eq_true.2 ⟨_, m1, by simpa using e1⟩
/-- How many cells the first tiles have. -/
def sumT (W H : Int) : Nat → Int
  | 0 => 0
  | k + 1 => sumT W H k + bwN W H k * bhN W H k
theorem box_mul {W H t : Int} (h : tileB W H t = true) : 1 ≤ bwN W H t * bhN W H t ∧ bwN W H t * bhN W H t ≤ 64 := by
  obtain ⟨b1, b2, b3, b4, b5, b6, b7, b8, b9, b10, _⟩ := box_bd h
  have h1 : 1 * bhN W H t ≤ bwN W H t * bhN W H t := Int.mul_le_mul_of_nonneg_right b7 (by omega)
  have h2 : bwN W H t * bhN W H t ≤ 8 * bhN W H t := Int.mul_le_mul_of_nonneg_right b8 (by omega)
  omega
theorem sumT_bd {W H : Int} {k : Nat} (hk : (k : Int) ≤ countN W H) : 0 ≤ sumT W H k ∧ sumT W H k ≤ 64 * k := by
  induction k with
  | zero => simp [sumT]
  | succ k ih =>
    have := ih (by omega)
    have := box_mul (tileB_iff.2 ⟨by omega, (by omega : (k : Int) < countN W H)⟩)
    unfold sumT
    omega
theorem span_nodup (f : Int) (n : Nat) : (spanL f n).Nodup := (span_sorted f n).imp (fun h e => by omega)
theorem sum_filter {l : List Int} {g : Int → Int} {k : Int} : (l.filter fun c => decide (g c < k + 1)).length = (l.filter fun c => decide (g c < k)).length + (l.filter fun c => decide (g c = k)).length := by
  induction l with
  | nil => rfl
  | cons a l ih =>
    simp only [List.filter_cons]
    by_cases h1 : g a < k
    · have h2 : g a < k + 1 := by omega
      have h3 : ¬ g a = k := by omega
      rw [if_pos (decide_eq_true h2), if_pos (decide_eq_true h1), if_neg (by simpa using h3), List.length_cons, List.length_cons]; omega
    · by_cases h3 : g a = k
      · have h2 : g a < k + 1 := by omega
        rw [if_pos (decide_eq_true h2), if_neg (by simpa using h1), if_pos (decide_eq_true h3), List.length_cons, List.length_cons]; omega
      · have h2 : ¬ g a < k + 1 := by omega
        rw [if_neg (by simpa using h2), if_neg (by simpa using h1), if_neg (by simpa using h3)]; exact ih
theorem cells_filter {W H t : Int} (n : Nat) (hn : (n : Int) = cellsN W H) (ht : tileB W H t = true) : ((spanL 0 n).filter fun c => decide (ofN W H c = t)).length = (cellsL W H t).length := by
  refine List.Perm.length_eq ((List.perm_ext_iff_of_nodup ((span_nodup 0 n).sublist List.filter_sublist) ((cells_sorted W H t).imp fun h e => by omega)).2 fun c => ?_)
  rw [List.mem_filter, span_mem, cells_mem]
  simp only [decide_eq_true_eq]
  constructor
  · rintro ⟨⟨h1, h2⟩, h3⟩
    exact ⟨ht, blw_iff.2 ⟨h1, by omega⟩, h3⟩
  · rintro ⟨_, h2, h3⟩
    obtain ⟨k1, k2⟩ := blw_iff.1 (show blw c (cellsN W H) = true from h2)
    exact ⟨⟨k1, by omega⟩, h3⟩
theorem sumT_eq {W H : Int} (n : Nat) (hn : (n : Int) = cellsN W H) {k : Nat} (hk : (k : Int) ≤ countN W H) : sumT W H k = ((spanL 0 n).filter fun c => decide (ofN W H c < k)).length := by
  induction k with
  | zero =>
    have : (spanL 0 n).filter (fun c => decide (ofN W H c < (0 : Nat))) = [] := List.filter_eq_nil_iff.2 fun c hc => by
      have hc' := span_mem.1 hc
      have hi : inB W H c = true := blw_iff.2 ⟨hc'.1, by omega⟩
      have := (tileB_iff.1 (of_bd hi).1).1
      simp; omega
    rw [this]; rfl
  | succ k ih =>
    have ht : tileB W H k = true := tileB_iff.2 ⟨by omega, by omega⟩
    have h1 := sum_filter (l := spanL 0 n) (g := ofN W H) (k := (k : Int))
    rw [cells_filter n hn ht] at h1
    show sumT W H k + bwN W H k * bhN W H k = _
    rw [ih (by omega), ← cells_len]
    have h2 : (((k + 1 : Nat)) : Int) = (k : Int) + 1 := by omega
    rw [h2, h1]
    omega
theorem sumT_all {W H : Int} {k : Nat} (hk : (k : Int) = countN W H) : sumT W H k = cellsN W H := by
  have hb := cellsN_bd W H
  obtain ⟨n, hn⟩ : ∃ n : Nat, (n : Int) = cellsN W H := ⟨(cellsN W H).toNat, by omega⟩
  rw [sumT_eq n hn (by omega), ← hn]
  have : (spanL 0 n).filter (fun c => decide (ofN W H c < k)) = spanL 0 n := List.filter_eq_self.2 fun c hc => by
    have hc' := span_mem.1 hc
    have hi : inB W H c = true := blw_iff.2 ⟨hc'.1, by omega⟩
    have := (tileB_iff.1 (of_bd hi).1).2
    simp; omega
  rw [this, span_len]
/-- The last cell is in the last tile. -/
theorem of_last {W H : Int} (h : 1 ≤ cellsN W H) : inB W H (cellsN W H - 1) = true ∧ ofN W H (cellsN W H - 1) = countN W H - 1 ∧ rt W H = true := by
  have hr : rt W H = true := by
    cases k : rt W H with
    | true => rfl
    | false => unfold cellsN at h; rw [k] at h; simp at h
  have hi : inB W H (cellsN W H - 1) = true := blw_iff.2 ⟨by omega, by omega⟩
  obtain ⟨a, b, c, d, e⟩ := rt_iff.1 hr
  have hc : cellsN W H = W * H := by unfold cellsN; rw [if_pos hr]
  have e1 : (cellsN W H - 1) = (H - 1) * W + (W - 1) := by rw [hc, Int.sub_mul, Int.mul_comm H W]; omega
  obtain ⟨k1, k2, k3⟩ := coords hr (u := W - 1) (v := H - 1) (by omega) (by omega) (by omega) (by omega) e1
  refine ⟨hi, ?_, hr⟩
  unfold ofN
  rw [if_pos hi, k2, k3, count_yes hr, (tWH_yes hr).1]
  have f1 : (H - 1) / 8 = sideT H - 1 := by unfold sideT; omega
  have f2 : (W - 1) / 8 = sideT W - 1 := by unfold sideT; omega
  rw [f1, f2, Int.sub_mul, Int.mul_comm (sideT H)]
  omega
/-- Cells beside one another are in one tile, or in two that are beside one another. -/
theorem of_near {W H c x : Int} (hc : inB W H c = true) (hx : x ∈ nearL W H c) : inB W H x = true ∧ (ofN W H c = ofN W H x ∨ ofN W H x ∈ tbesL W H (ofN W H c)) := by
  obtain ⟨hxi, h1⟩ := (near_iff hc).1 hx
  refine ⟨hxi, ?_⟩
  obtain ⟨o1, o2, o3, o4, o5⟩ := of_bd hc
  obtain ⟨p1, p2, p3, p4, p5⟩ := of_bd hxi
  rw [away_of hc hxi] at h1
  obtain ⟨_, _, _, _, _, _, a7, a8, a9, a10, _⟩ := at_bd hc
  obtain ⟨_, _, _, _, _, _, b7, b8, b9, b10, _⟩ := at_bd hxi
  have ht : inB (tW W H) (tH W H) (ofN W H c) = true := o1
  have hs : inB (tW W H) (tH W H) (ofN W H x) = true := p1
  have hd := away_of ht hs
  rw [o2, o3, p2, p3] at hd
  unfold apartN at h1 hd
  have hle : awayN (tW W H) (tH W H) (ofN W H c) (ofN W H x) = 0 ∨ awayN (tW W H) (tH W H) (ofN W H c) (ofN W H x) = 1 := by
    rw [hd]
    omega
  rcases hle with h | h
  · exact .inl (away_zero h)
  · exact .inr ((near_iff ht).2 ⟨hs, h⟩)
theorem tbes_back {W H a b : Int} (ha : tileB W H a = true) (hb : b ∈ tbesL W H a) : a ∈ tbesL W H b ∧ b ≠ a := by
  have ha' : inB (tW W H) (tH W H) a = true := ha
  obtain ⟨h1, h2⟩ := (near_iff ha').1 hb
  refine ⟨(near_iff h1).2 ⟨ha', by rw [away_comm]; exact h2⟩, fun e => ?_⟩
  subst e
  rw [away_of ha' ha'] at h2
  unfold apartN at h2; omega
/-- Is one of them it? -/
def hasB' (b : Int) (l : List Int) : Bool := l.any fun x => x == b
theorem hasB'_snoc (b : Int) (l : List Int) (x : Int) : hasB' b (l ++ [x]) = (hasB' b l || (x == b)) := by unfold hasB'; simp
theorem hasB'_mem {b : Int} {l : List Int} (h : b ∈ l) : hasB' b l = true := List.any_eq_true.2 ⟨b, h, by simp⟩
/-- There, and back. -/
theorem there_back {W H c x : Int} (hc : inB W H c = true) (hx : x ∈ nearL W H c) : ((ofN W H c == ofN W H x) || hasB' (ofN W H x) (tbesL W H (ofN W H c))) = true ∧ ((ofN W H c == ofN W H x) || hasB' (ofN W H c) (tbesL W H (ofN W H x))) = true := by
  obtain ⟨h1, h2⟩ := of_near hc hx
  rcases h2 with h2 | h2
  · rw [h2]; simp
  · have h3 := tbes_back (of_bd hc).1 h2
    rw [hasB'_mem h2, hasB'_mem h3.1]; simp
theorem tbes_own {W H c : Int} {pre : List Int} {x : Int} (hc : inB W H c = true) (h : pre ++ [x] <+: tbesL W H (ofN W H c)) : x ≠ ofN W H c := (tbes_back (of_bd hc).1 (h.subset (by simp))).2
end Go.Proofs.Ytabgplniaiehpab.Pl
