/- Layer 3 (cells) in memory: a grid that New made, a bare one, none; what its readers answer. -/
import Derived.Test.YtcflbekjiohfnaaTerrAny
import Derived.Test.YtcflbekjiohfnaaPlaceCore
import Derived.Test.YtcflbekjiohfnaaCellPlain
import Derived.Laws.Rows
namespace Go.Proofs.Ytcflbekjiohfnaa
open Go.RowKit
set_option linter.unusedVariables false

def rowOf (L : List Int) : Array Value := (L.map (Value.int .u8)).toArray
theorem rowOf_at {L : List Int} {i : Nat} (h : i < L.length) : (rowOf L)[i]? = some (.int .u8 (lAt L i)) := by
  unfold rowOf; rw [List.getElem?_toArray, List.getElem?_map, lAt_some h]; rfl
theorem rowOf_put (L : List Int) (c k : Int) : (rowOf L).setIfInBounds c.toNat (.int .u8 k) = rowOf (put L c k) := by
  unfold rowOf put; rw [List.setIfInBounds_toArray, List.map_set]
theorem rowOf_zeros (n : Nat) : Array.replicate n (Value.int .u8 0) = rowOf (List.replicate n 0) := by
  unfold rowOf; rw [List.map_replicate, List.toArray_replicate]

abbrev gridCells (zw zh : Int) (tp kv : Value) : Array Value := #[.int .i64 zw, .int .i64 zh, tp, kv]
/-- A grid in block B. -/
structure Grd (W : World) (B : Nat) (zw zh : Int) (tp : Value) (ks : List Kd) (cl : Int) (ko : Option Addr) (L : List Int) : Prop where
  blk : Blk W B 63 (gridCells zw zh tp (.slice ko L.length L.length))
  tab : TabV W tp ks cl
  row : (L = [] ∧ ko = none) ∨ ∃ K, ko = some ⟨K, 0, none⟩ ∧ Blk W K 5 (rowOf L)
  kin : Kin ks.length L
  len : L.length ≤ 4194304
/-- What a pointer to a grid leads to. -/
def GV (W : World) (p : Value) (ks : List Kd) (cl : Int) (L : List Int) : Prop := (p = .pointer none ∧ L = [] ∧ ks = [] ∧ cl = 0) ∨ ∃ B zw zh tp ko, p = .pointer (some ⟨B, 0, none⟩) ∧ Grd W B zw zh tp ks cl ko L
theorem Grd.below {W W' : World} {B : Nat} {zw zh : Int} {tp : Value} {ks : List Kd} {cl : Int} {ko : Option Addr} {L : List Int} (h : Grd W B zw zh tp ks cl ko L) (hb : Below W.heap.size W W') : Grd W' B zw zh tp ks cl ko L :=
  ⟨h.blk.below hb, h.tab.below hb, h.row.imp id (fun ⟨K, e, h⟩ => ⟨K, e, h.below hb⟩), h.kin, h.len⟩
theorem GV.below {W W' : World} {p : Value} {ks : List Kd} {cl : Int} {L : List Int} (h : GV W p ks cl L) (hb : Below W.heap.size W W') : GV W' p ks cl L :=
  h.imp id (fun ⟨B, zw, zh, tp, ko, e, h⟩ => ⟨B, zw, zh, tp, ko, e, h.below hb⟩)
theorem GV.len {W : World} {p : Value} {ks : List Kd} {cl : Int} {L : List Int} (h : GV W p ks cl L) : L.length ≤ 4194304 := by
  rcases h with ⟨_, rfl, _⟩ | ⟨B, zw, zh, tp, ko, e, h⟩
  · simp
  · exact h.len
theorem GV.ks {W : World} {p : Value} {ks : List Kd} {cl : Int} {L : List Int} (h : GV W p ks cl L) : ks.length ≤ 16 := by
  rcases h with ⟨_, _, rfl, _⟩ | ⟨B, zw, zh, tp, ko, e, h⟩
  · simp
  · exact h.tab.facts.2.1
theorem GV.kin {W : World} {p : Value} {ks : List Kd} {cl : Int} {L : List Int} (h : GV W p ks cl L) : Kin ks.length L := by
  rcases h with ⟨_, rfl, _⟩ | ⟨B, zw, zh, tp, ko, e, h⟩
  · intro x hx; cases hx
  · exact h.kin

def getN (L : List Int) (c : Int) : Int := if hasN L.length c then lAt L c.toNat else 0

set_option maxHeartbeats 400000 in
theorem gtable_any {p : Value} {ks : List Kd} {cl : Int} {L : List Int} {w : World} (h : GV w p ks cl L) : Calls Try.prog 27 #[p] w fun e w' => ∃ tp, e = .returned tp ∧ TabV w tp ks cl ∧ w' = w := by
  rcases h with ⟨rfl, rfl, rfl, rfl⟩ | ⟨B, zw, zh, tp, ko, rfl, h⟩
  · go_enter Try.func27, Try.ntmps27
    go_wp2
    go_ret
    exact ⟨_, rfl, .inl ⟨rfl, rfl, rfl⟩, rfl⟩
  · have c0 : w.cell? ⟨B, 2, none⟩ = some tp := h.blk.at (j := 2) rfl
    have H : Hid (TabV w tp ks cl) := h.tab
    clear h
    go_enter Try.func27, Try.ntmps27
    go_wp2
    go_ret
    exact ⟨_, rfl, H.out, rfl⟩

set_option maxHeartbeats 400000 in
theorem ghasKind_any {p : Value} {ks : List Kd} {cl : Int} {L : List Int} {w : World} (h : GV w p ks cl L) (k : Int) : Calls Try.prog 32 #[p, .int .i64 k] w fun e w' => e = .returned (.bool (hasN ks.length k)) ∧ w' = w := by
  have H : Hid (GV w p ks cl L) := h
  clear h
  by_cases c1 : 0 ≤ k
  · go_enter Try.func32, Try.ntmps32
    go_wp2_with fail
    refine (gtable_any H.out).mono ?_
    rintro e w1 ⟨tp, rfl, ht, rfl⟩
    have HT : Hid (TabV w1 tp ks cl) := ht
    clear ht
    go_wp2_with fail
    refine (kinds_any HT.out).mono ?_
    rintro e w2 ⟨rfl, rfl⟩
    go_wp2
    go_ret
    exact ⟨ret_of (congrArg Value.bool (by simp [hasN, c1])), rfl⟩
  · have hd : decide (0 ≤ k) = false := by simpa using c1
    go_enter Try.func32, Try.ntmps32
    go_wp2
    go_ret
    exact ⟨ret_of (congrArg Value.bool (show _ = hasN ks.length k from by unfold hasN; rw [hd]; rfl)), rfl⟩

set_option maxHeartbeats 400000 in
theorem ghasCell_any {p : Value} {ks : List Kd} {cl : Int} {L : List Int} {w : World} (h : GV w p ks cl L) (c : Int) : Calls Try.prog 33 #[p, .int .i64 c] w fun e w' => e = .returned (.bool (hasN L.length c)) ∧ w' = w := by
  rcases h with ⟨rfl, rfl, rfl, rfl⟩ | ⟨B, zw, zh, tp, ko, rfl, h⟩
  · go_enter Try.func33, Try.ntmps33
    go_wp2
    go_ret
    exact ⟨ret_of (congrArg Value.bool (by simp [hasN])), rfl⟩
  · have c0 : w.cell? ⟨B, 3, none⟩ = some (.slice ko L.length L.length) := h.blk.at (j := 3) rfl
    clear h
    by_cases c1 : 0 ≤ c
    · go_enter Try.func33, Try.ntmps33
      go_wp2
      go_ret
      exact ⟨ret_of (congrArg Value.bool (by simp [hasN, c1])), rfl⟩
    · have hd : decide (0 ≤ c) = false := by simpa using c1
      go_enter Try.func33, Try.ntmps33
      go_wp2
      go_ret
      exact ⟨ret_of (congrArg Value.bool (show _ = hasN L.length c from by unfold hasN; rw [hd]; rfl)), rfl⟩

set_option maxHeartbeats 400000 in
theorem get_any {p : Value} {ks : List Kd} {cl : Int} {L : List Int} {w : World} (h : GV w p ks cl L) (c : Int) : Calls Try.prog 14 #[p, .int .i64 c] w fun e w' => e = .returned (.tuple #[.int .i64 (getN L c), .bool (hasN L.length c)]) ∧ w' = w := by
  have H : Hid (GV w p ks cl L) := h
  cases hh : hasN L.length c with
  | false =>
    have HH : Hid (hasN L.length c = false) := hh
    have hz : getN L c = 0 := by unfold getN; rw [hh]; rfl
    rw [hz]
    clear h hh hz
    go_enter Try.func14, Try.ntmps14
    go_wp2_with fail
    refine (ghasCell_any H.out _).mono ?_
    rintro e w1 ⟨rfl, rfl⟩
    rw [HH.out]
    go_wp2
    go_ret2
    exact ⟨rfl, rfl⟩
  | true =>
    have HH : Hid (hasN L.length c = true) := hh
    obtain ⟨k0, k1⟩ := hasN_iff.1 hh
    have hz : getN L c = lAt L c.toNat := by unfold getN; rw [hh]; rfl
    rw [hz]
    rcases h with ⟨_, rfl, _⟩ | ⟨B, zw, zh, tp, ko, rfl, h⟩
    · simp at k1; omega
    · have c0 : w.cell? ⟨B, 3, none⟩ = some (.slice ko L.length L.length) := h.blk.at (j := 3) rfl
      rcases h.row with ⟨rfl, _⟩ | ⟨K, rfl, hr⟩
      · simp at k1; omega
      · have c1 := hr.at (rowOf_at (L := L) (i := c.toNat) (by omega))
        have hkin := h.kin.at (i := c.toNat) (by omega)
        have n1 := h.tab.facts.2.1
        have hlen := h.len
        clear h hh hz hr
        generalize lAt L c.toNat = x at *
        go_enter Try.func14, Try.ntmps14
        go_wp2_with fail
        refine (ghasCell_any H.out _).mono ?_
        rintro e w1 ⟨rfl, rfl⟩
        rw [HH.out]
        go_wp2
        go_ret2
        exact ⟨rfl, rfl⟩

def gmayN (ks : List Kd) (cl : Int) (L : List Int) (c x : Int) : Bool := hasN L.length x && mayB ks cl c (getN L x)
def gcostN (ks : List Kd) (L : List Int) (x : Int) : Int := if hasN L.length x then costN ks (getN L x) else 0

set_option maxHeartbeats 400000 in
theorem gmay_any {p : Value} {ks : List Kd} {cl : Int} {L : List Int} {w : World} (h : GV w p ks cl L) (c x : Int) : Calls Try.prog 22 #[p, .int .i64 c, .int .i64 x] w fun e w' => e = .returned (.bool (gmayN ks cl L c x)) ∧ Below w.heap.size w w' := by
  have H : Hid (GV w p ks cl L) := h
  cases hh : hasN L.length x with
  | false =>
    have HH : Hid (hasN L.length x = false) := hh
    clear h hh
    go_enter Try.func22, Try.ntmps22
    go_wp2_with fail
    refine (get_any H.out _).mono ?_
    rintro e w1 ⟨rfl, rfl⟩
    rw [HH.out]
    go_wp2
    go_ret
    exact ⟨ret_of (congrArg Value.bool (show false = gmayN ks cl L c x from by unfold gmayN; rw [HH.out]; rfl)), Below.refl _ _⟩
  | true =>
    have HH : Hid (hasN L.length x = true) := hh
    obtain ⟨k0, k1⟩ := hasN_iff.1 hh
    rcases h with ⟨_, rfl, _⟩ | ⟨B, zw, zh, tp, ko, rfl, h⟩
    · simp at k1; omega
    · have c0 : w.cell? ⟨B, 2, none⟩ = some tp := h.blk.at (j := 2) rfl
      have HT : Hid (TabV w tp ks cl) := h.tab
      clear h hh
      go_enter Try.func22, Try.ntmps22
      go_wp2_with fail
      refine (get_any H.out _).mono ?_
      rintro e w1 ⟨rfl, rfl⟩
      rw [HH.out]
      go_wp2_with fail
      refine (may_any HT.out _ _).mono ?_
      rintro e w2 ⟨rfl, hb⟩
      go_wp2
      go_ret
      exact ⟨ret_of (congrArg Value.bool (show _ = gmayN ks cl L c x from by unfold gmayN; rw [HH.out]; rfl)), hb⟩

set_option maxHeartbeats 400000 in
theorem gcost_any {p : Value} {ks : List Kd} {cl : Int} {L : List Int} {w : World} (h : GV w p ks cl L) (x : Int) : Calls Try.prog 24 #[p, .int .i64 x] w fun e w' => e = .returned (.int .i64 (gcostN ks L x)) ∧ w' = w := by
  have H : Hid (GV w p ks cl L) := h
  cases hh : hasN L.length x with
  | false =>
    have HH : Hid (hasN L.length x = false) := hh
    clear h hh
    go_enter Try.func24, Try.ntmps24
    go_wp2_with fail
    refine (get_any H.out _).mono ?_
    rintro e w1 ⟨rfl, rfl⟩
    rw [HH.out]
    go_wp2
    go_ret
    exact ⟨ret_of (congrArg (Value.int IntKind.i64) (show _ = gcostN ks L x from by unfold gcostN; rw [HH.out]; rfl)), rfl⟩
  | true =>
    have HH : Hid (hasN L.length x = true) := hh
    obtain ⟨k0, k1⟩ := hasN_iff.1 hh
    rcases h with ⟨_, rfl, _⟩ | ⟨B, zw, zh, tp, ko, rfl, h⟩
    · simp at k1; omega
    · have c0 : w.cell? ⟨B, 2, none⟩ = some tp := h.blk.at (j := 2) rfl
      have HT : Hid (TabV w tp ks cl) := h.tab
      clear h hh
      go_enter Try.func24, Try.ntmps24
      go_wp2_with fail
      refine (get_any H.out _).mono ?_
      rintro e w1 ⟨rfl, rfl⟩
      rw [HH.out]
      go_wp2_with fail
      refine (cost_any HT.out _).mono ?_
      rintro e w2 ⟨rfl, rfl⟩
      go_wp2
      go_ret
      exact ⟨ret_of (congrArg (Value.int IntKind.i64) (show _ = gcostN ks L x from by unfold gcostN; rw [HH.out]; rfl)), rfl⟩

/-- Size of none, of a grid. -/
theorem size_nil (w : World) : Calls Try.prog 26 #[.pointer none] w fun e w' => e = .returned (Pl.sz 0 0) ∧ Below w.heap.size w w' := by
  go_enter Try.func26, Try.ntmps26
  go_wp2
  refine bodyPost_ret (results_cell_row rfl _ _ w.heap.size 26 #[.int .i64 0, .int .i64 0] (0, 0) _ rfl (Blk.new w 26 _) Try.underlying26 rfl (by kernel_rfl)) rfl ?_
  exact ⟨rfl, (Below.refl _ _).alloc (Nat.le_refl _) _⟩
theorem size_grd {w : World} {B : Nat} {zw zh : Int} {tp : Value} {ks : List Kd} {cl : Int} {ko : Option Addr} {L : List Int} (h : Grd w B zw zh tp ks cl ko L) :
    Calls Try.prog 26 #[.pointer (some ⟨B, 0, none⟩)] w fun e w' => e = .returned (Pl.sz zw zh) ∧ Below w.heap.size w w' := by
  have c0 : w.cell? ⟨B, 0, none⟩ = some (.int .i64 zw) := h.blk.at (j := 0) rfl
  have c1 : w.cell? ⟨B, 1, none⟩ = some (.int .i64 zh) := h.blk.at (j := 1) rfl
  have hlt := h.blk.lt
  clear h
  go_enter Try.func26, Try.ntmps26
  go_wp2
  refine bodyPost_ret (results_cell_row rfl _ _ w.heap.size 26 #[.int .i64 zw, .int .i64 zh] (0, 0) _ rfl (Blk.new w 26 _) Try.underlying26 rfl (by kernel_rfl)) rfl ?_
  exact ⟨rfl, (Below.refl _ _).alloc (Nat.le_refl _) _⟩
end Go.Proofs.Ytcflbekjiohfnaa
