/- The document's own machine of layer 11 (tidewalkref11): each member's name. -/
import Derived.Test.YtcbgeahcnjamdabUnionLaw
namespace Go.Proofs.Ytcbgeahcnjamdab
open Go.RowKit
set_option linter.unusedVariables false

/-- The document's names, in the block RB. -/
structure RU (W : World) (RB K : Nat) (L : List Int) : Prop where
  ex : ∃ ao cap, Blk W RB 44 #[.slice ao L.length cap] ∧ (L = [] ∨ (ao = some ⟨K, 0, none⟩ ∧ K ≠ RB ∧ RowK 3 .i64 W K L.length (lAt L)))
  kl : K < W.heap.size
theorem RU.lt {W : World} {RB K : Nat} {L : List Int} (h : RU W RB K L) : RB < W.heap.size := by obtain ⟨ao, cap, h, _⟩ := h.ex; exact h.lt
theorem RU.kept {W W' : World} {RB K : Nat} {L : List Int} (h : RU W RB K L) (hb : ∀ k, k = RB ∨ k = K → W'.heap[k]? = W.heap[k]?) (hs : W.heap.size ≤ W'.heap.size) : RU W' RB K L := by
  obtain ⟨ao, cap, h1, h2⟩ := h.ex
  exact ⟨⟨ao, cap, (hb _ (.inl rfl)).trans h1, h2.imp id fun ⟨a, b, c⟩ => ⟨a, b, c.kept (hb _ (.inr rfl))⟩⟩, Nat.lt_of_lt_of_le h.kl hs⟩
theorem RU.below {W W' : World} {RB K : Nat} {L : List Int} (h : RU W RB K L) (hb : Below W.heap.size W W') : RU W' RB K L :=
  h.kept (fun k hk => hb.block k (by rcases hk with rfl | rfl; exact h.lt; exact h.kl)) hb.size

set_option maxHeartbeats 400000 in
theorem urname_any {w : World} {RB K : Nat} {L : List Int} (h : RU w RB K L) (hl : L.length ≤ 4194304) (a : Int) : Calls Try.prog 16 #[.pointer (some ⟨RB, 0, none⟩), .int .i64 a] w fun e w' => e = .returned (.int .i64 (nameN L a)) ∧ w' = w := by
  obtain ⟨ao, cap, h1, h2⟩ := h.ex
  have c0 := h1.at (j := 0) rfl
  by_cases h0 : 0 ≤ a
  · by_cases ha : a < L.length
    · have hz : nameN L a = lAt L a.toNat := by unfold nameN; rw [if_pos (memN_iff.2 ⟨h0, ha⟩)]
      rcases h2 with rfl | ⟨rfl, _, hr⟩
      · simp at ha; omega
      have c1 := hr.at (i := a.toNat) (by omega)
      rw [hz]
      clear h h1 hr hz
      generalize lAt L a.toNat = x at *
      generalize L.length = n at *
      go_enter Try.func16, Try.ntmps16
      go_wp2
      go_ret
      exact ⟨rfl, rfl⟩
    · have hz : nameN L a = -1 := by unfold nameN; rw [if_neg (by rw [memN_iff]; omega)]
      rw [hz]
      clear h h1 h2 hz
      generalize L.length = n at *
      go_enter Try.func16, Try.ntmps16
      go_wp2
      go_ret
      exact ⟨rfl, rfl⟩
  · have hz : nameN L a = -1 := by unfold nameN; rw [if_neg (by rw [memN_iff]; omega)]
    rw [hz]
    clear h h1 h2 hz
    generalize L.length = n at *
    go_enter Try.func16, Try.ntmps16
    go_wp2
    go_ret
    exact ⟨rfl, rfl⟩

/-- The first k names changed. -/
def subTo (x y : Int) (k : Nat) (A : Nat → Int) : Nat → Int := fun j => if j < k then subN x y (A j) else A j
theorem subTo_succ (x y : Int) (k : Nat) (A : Nat → Int) : subTo x y (k + 1) A = updA (subTo x y k A) k (subN x y (A k)) := by
  funext j
  unfold subTo updA
  by_cases e : j = k
  · subst e; simp
  · rw [if_neg e]
    show _ = if j < k then _ else _
    by_cases h : j < k
    · rw [if_pos h, if_pos (by omega)]
    · rw [if_neg h, if_neg (by omega)]
theorem subTo_same {x y : Int} {k : Nat} {A : Nat → Int} (h : A k ≠ max x y) : subTo x y (k + 1) A = subTo x y k A := by
  rw [subTo_succ]
  have : subN x y (A k) = A k := if_neg h
  rw [this]
  funext j
  unfold updA subTo
  by_cases e : j = k
  · subst e; simp
  · rw [if_neg e]

/-- How many of the first k have the name x. -/
theorem count_take (L : List Int) (x : Int) {k : Nat} (h : k < L.length) : (L.take (k + 1)).count x = (L.take k).count x + if lAt L k = x then 1 else 0 := by
  rw [ltake_snoc h, List.count_append, List.count_cons, List.count_nil]; simp

def iv (L : List Int) : List Value := L.map (Value.int .i64)
theorem iv_at {L : List Int} {i : Nat} (h : i < L.length) : (iv L)[i]? = some (.int .i64 (lAt L i)) := by unfold iv; rw [List.getElem?_map, lAt_some h]; rfl
theorem iv_len (L : List Int) : (iv L).length = L.length := by simp [iv]
theorem iv_succ (n : Nat) : iv (idN (n + 1)) = iv (idN n) ++ [.int .i64 n] := by rw [idN_succ]; simp [iv]
theorem Try.infoI64 : (Try.prog.info? 3).map (fun i => (i.zero, i.size, i.bytes)) = some (some (.int .i64 0), 1, 8) := by kernel_rfl
theorem one_i {W : World} {h : Nat} {x : Int} (hh : Blk W h 3 #[.int .i64 x]) : ∀ j u, ([.int .i64 x] : List Value)[j]? = some u → W.cell? ((⟨h, 0, none⟩ : Addr).add j) = some u := by
  intro j u hu
  rw [add_eq]
  match j, hu with
  | 0, hu => cases hu; exact hh.at rfl
theorem own_form {W : World} {base ty size n : Nat} {v : Value} {xs : List Value} (h : W.ownsRow base ty size v n xs) : ∃ ao cap, v = .slice ao n cap := by
  rcases h.2 with ⟨rfl, h0⟩ | ⟨g, cap, cur, rfl, _⟩
  · exact ⟨none, 0, by rw [h0]⟩
  · exact ⟨_, _, rfl⟩
/-- A row of one's own, as the document's names. -/
theorem own_ru {W : World} {RB : Nat} {v : Value} {L : List Int} (hb : Blk W RB 44 #[v]) (h : W.ownsRow (RB + 1) 3 1 v L.length (iv L)) : ∃ K, RU W RB K L ∧ (K = RB ∨ RB + 1 ≤ K) := by
  have hc := h
  rcases h.2 with ⟨rfl, h0⟩ | ⟨g, cap, cur, rfl, hg, hgb, hn, _, hs, _⟩
  · have hl : L = [] := by cases L with
      | nil => rfl
      | cons x L => simp at h0
    subst hl
    exact ⟨RB, ⟨⟨none, 0, hb, .inl rfl⟩, hb.lt⟩, .inl rfl⟩
  · refine ⟨g, ⟨⟨_, cap, hb, .inr ⟨rfl, by omega, ⟨cur, hgb, fun i hi => ?_⟩⟩⟩, (Array.getElem?_eq_some_iff.1 hgb).1⟩, .inr hg⟩
    have h1 := hc.cells rfl _ _ (iv_at hi)
    rw [add_eq, Nat.zero_add] at h1
    simp [World.cell?, hgb] at h1
    exact h1
set_option maxRecDepth 100000 in
set_option maxHeartbeats 3200000 in
theorem urnew_any (n : Nat) (w : World) (hn : n ≤ 4194304) : Calls Try.prog 14 #[.int .i64 n] w fun e w' => ∃ RB K, e = .returned (.pointer (some ⟨RB, 0, none⟩)) ∧ RU w' RB K (idN n) ∧ w.heap.size ≤ RB ∧ w.heap.size ≤ K ∧ Below w.heap.size w w' := by
  obtain ⟨i0, hi, hz0, hz1, hz2⟩ := info_parts Try.infoI64
  have HS := hid_mk iv_succ
  have hX0 := Blk.new w 44 #[.slice none 0 0]
  obtain ⟨RB, hRB⟩ : ∃ RB, RB = w.heap.size := ⟨_, rfl⟩
  rw [← hRB] at hX0
  have hb0 : Below w.heap.size w (w.alloc (.cells #[.slice none 0 0] 44)) := (Below.refl _ _).alloc (Nat.le_refl _) _
  have hsz : (w.alloc (.cells #[.slice none 0 0] 44)).heap.size = RB + 1 := by rw [hRB]; simp
  have HRB := hid_mk hRB
  clear hRB hsz
  go_enter Try.func14, Try.ntmps14
  go_wp2
  rw [← HRB.out]
  go_loopw [4] (fun v wr => ∃ (k : Nat) (x : Value), k ≤ n ∧ v = .int .i64 k ∧ Hid (Blk wr RB 44 #[x]) ∧ Hid (wr.ownsRow (RB + 1) 3 1 x k (iv (idN k))) ∧ Below w.heap.size w wr) (fun v _ => n - (intOf v).toNat)
  case atStart => exact ⟨0, _, by omega, rfl, hX0, World.ownsRow_nil _ _ _ _, hb0⟩
  case round =>
    clear hX0 hb0
    obtain ⟨k, x, hk, rfl, HX, HO, hB⟩ := hrel
    have c0 := HX.out.at (j := 0) rfl
    simp only [List.getElem_toArray, List.getElem_cons_zero] at c0
    have hRl := HX.out.lt
    by_cases hlt : k < n
    · have hA := (Below.refl wr.heap.size wr).alloc (Nat.le_refl _) (.cells #[.int .i64 k] 3)
      have c0' := (hA.cell (p := ⟨RB, 0, none⟩) hRl).trans c0
      have HX' := hid_mk (HX.out.below hA)
      have HB' := hid_mk (hB.trans (hA.mono hB.size))
      have HRl := hid_mk hRl
      have hrs := hB.size
      have HRB' : Hid (RB + 1 ≤ wr.heap.size) := hRl
      clear hB hA
      go_wp2_with (at_builtin; refine wpList_append_own _ rfl _ _ 42 rfl (RB + 1) 3 i0 (.int .i64 0) 1 8 Try.underlying42 hi hz0 hz1 hz2 rfl (by decide) _ _ _ rfl (HO.out.alloc _) ⟨wr.heap.size, 0, none⟩ 1 1 [.int .i64 k] rfl rfl (one_i (Blk.new wr _ _)) (by simp [Value.oneCell']) (by unfold maxLen; omega) (by omega) (by simp; have := HRB'.out; omega) ?_)
      intro v' w5 hown hgrow _
      obtain ⟨ao', cap', hv'⟩ := own_form hown
      subst hv'
      have hX5 : Blk w5 RB 44 #[x] := HX'.out.append (by omega) (HO.out.alloc _) hgrow
      have d0 := hX5.at (j := 0) rfl
      have f0 := hX5.frozen 0
      simp only [List.getElem_toArray, List.getElem_cons_zero] at d0
      have hB5 : Below w.heap.size w w5 := HB'.out.grown hgrow (by simp; have := HRB'.out; have := HRB.out; omega) (fun r hr => by have := (HO.out.lt r hr).1; have := HRB.out; omega)
      have HX6 : Hid (Blk (w5.setCell ⟨RB, 0, none⟩ (.slice ao' (k + 1) cap')) RB 44 #[.slice ao' (k + 1) cap']) := hX5.set1 (.slice ao' (k + 1) cap')
      have HO6 : Hid ((w5.setCell ⟨RB, 0, none⟩ (.slice ao' (k + 1) cap')).ownsRow (RB + 1) 3 1 (.slice ao' (k + 1) cap') (k + 1) (iv (idN (k + 1)))) := by
        show World.ownsRow _ _ _ _ _ _ _
        rw [HS.out]
        refine World.ownsRow.kept hown (grownBy_set w5 RB 0 (.slice ao' (k + 1) cap')) ?_
        cases hv : (Value.slice ao' (k + 1) cap').ownBlock with
        | none => exact .inl rfl
        | some g => right; intro e; cases e; have := (hown.lt RB hv).1; omega
      have HB6 : Hid (Below w.heap.size w (w5.setCell ⟨RB, 0, none⟩ (.slice ao' (k + 1) cap'))) := Below.setCell (p := ⟨RB, 0, none⟩) hB5 (by have := HRB.out; show w.heap.size ≤ RB; omega) (.slice ao' (k + 1) cap')
      clear hown hgrow hX5 hB5 c0 c0' HX' HB' HX HO
      go_wp2
      go_roundw
      case rel => exact ⟨k + 1, _, by omega, by go_num, HX6, HO6, HB6.out⟩
      case measure => simp [intOf]; omega
    · obtain rfl : k = n := by omega
      have HE : Hid (∃ K, RU wr RB K (idN k) ∧ w.heap.size ≤ RB ∧ w.heap.size ≤ K) := by
        obtain ⟨K, h1, h2⟩ := own_ru HX.out (by rw [idN_len]; exact HO.out)
        have := HRB.out
        exact ⟨K, h1, by omega, by omega⟩
      clear HX HO c0
      go_wp2
      go_ret
      obtain ⟨K, h1, h2, h3⟩ := HE.out
      exact ⟨RB, K, rfl, h1, h2, h3, hB⟩
end Go.Proofs.Ytcbgeahcnjamdab
