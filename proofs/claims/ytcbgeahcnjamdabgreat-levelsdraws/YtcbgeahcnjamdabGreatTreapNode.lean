/- Layer 6 (treap): the contracts of what reads and writes one node. -/
import Derived.Test.YtcbgeahcnjamdabGreatTreapWorld
import Derived.Handy
namespace Go.Proofs.YtcbgeahcnjamdabGreat
open Go.RowKit
set_option linter.unusedVariables false
variable {Xh : Hx}

/-- A value, in Go's form. -/
abbrev vlc (v : Vl) : Value := .agg #[.int .i64 v.c, .int .i64 v.s, .int .i64 v.l, .int .u8 v.m]
/-- None, or an item. -/
def okI (N : List Nt) (i : Int) : Prop := i = 0 ∨ tk N i = true
def szOf (N : List Nt) (i : Int) : Int := if i = 0 then 0 else (nd N i).size
def smOf (N : List Nt) (i : Int) : Vl := if i = 0 then noV else (nd N i).sum

section
variable {d : Option Addr} {w : World} {F : Nat → Prop} {B G : Nat} {N : List Nt} {fr : List Int}
theorem at_tk (h : Frs Xh d w F B G N fr) (hN : N.length ≤ 2147483647) {i : Int} (hi : tk N i = true) :
    Calls Tryz.prog 119 #[.pointer (some ⟨B, 0, none⟩), .int .i32 i] w fun e w' => e = .returned (.pointer (some ⟨G, loc i, none⟩)) ∧ w' = w := by
  have HA := AN.at_at h i hi (by rw [slN_len]; exact hN)
  rw [show (i - 1).toNat * 14 = loc i from rfl] at HA
  clear h hi
  go_enter Tryz.func119, Tryz.ntmps119
  go_wp2_with fail
  refine HA.mono ?_
  rintro e w0 ⟨rfl, rfl⟩
  go_wp2
  go_ret
  exact ⟨rfl, rfl⟩
theorem at_un (h : Frs Xh d w F B G N fr) (hN : N.length ≤ 2147483647) {i : Int} (hb : -2147483648 ≤ i ∧ i ≤ 2147483647) (hi : tk N i = false) :
    Calls Tryz.prog 119 #[.pointer (some ⟨B, 0, none⟩), .int .i32 i] w fun e w' => e = .returned (.pointer none) ∧ w' = w := by
  have HA := AN.at_no h hb hi (by rw [slN_len]; exact hN)
  clear h hi
  go_enter Tryz.func119, Tryz.ntmps119
  go_wp2_with fail
  refine HA.mono ?_
  rintro e w0 ⟨rfl, rfl⟩
  go_wp2
  go_ret
  exact ⟨rfl, rfl⟩
theorem at_nil' (i : Int) (w : World) : Calls Tryz.prog 119 #[.pointer none, .int .i32 i] w fun e w' => e = .returned (.pointer none) ∧ w' = w := by
  go_enter Tryz.func119, Tryz.ntmps119
  go_wp2
  go_ret
  exact ⟨rfl, rfl⟩
theorem tk_bd {N : List Nt} (hN : N.length ≤ 2147483647) {i : Int} (h : tk N i = true) : -2147483648 ≤ i ∧ i ≤ 2147483647 := by have := tk_iff.1 h; omega
theorem size_any (h : Frs Xh d w F B G N fr) (hN : N.length ≤ 2147483647) {i : Int} (hi : okI N i) :
    Calls Tryz.prog 120 #[.pointer (some ⟨B, 0, none⟩), .int .i32 i] w fun e w' => e = .returned (.int .i64 (szOf N i)) ∧ w' = w := by
  rcases hi with rfl | hi
  · rw [show szOf N 0 = 0 from rfl]
    clear h
    go_enter Tryz.func120, Tryz.ntmps120
    go_wp2
    go_ret
    exact ⟨rfl, rfl⟩
  · have h0 := tk_ne hi
    rw [show szOf N i = (nd N i).size from if_neg h0]
    have HA := at_tk h hN hi
    have hc := h.at hi (j := 8) rfl
    clear h hi
    go_enter Tryz.func120, Tryz.ntmps120
    go_wp2_with fail
    refine HA.mono ?_
    rintro e w0 ⟨rfl, rfl⟩
    go_wp2
    go_ret
    exact ⟨rfl, rfl⟩
theorem hang_any (h : Frs Xh d w F B G N fr) (hN : N.length ≤ 2147483647) {i p : Int} (hi : okI N i) :
    Calls Tryz.prog 146 #[.pointer (some ⟨B, 0, none⟩), .int .i32 i, .int .i32 p] w fun e w' => e = .returned (.tuple #[]) ∧ Frs Xh d w' F B G (if i = 0 then N else setN N i ((nd N i).wu p)) fr ∧ Step F F w w' := by
  rcases hi with rfl | hi
  · rw [if_pos rfl]
    have HX : Hid (Frs Xh d w F B G N fr) := h
    clear h
    go_enter Tryz.func146, Tryz.ntmps146
    go_wp2
    go_returns
    exact ⟨rfl, HX.out, Step.refl _ _⟩
  · have h0 := tk_ne hi
    rw [if_neg h0]
    have HA := at_tk h hN hi
    have hc := h.at hi (j := 12) rfl
    have hf := h.fz hi (loc i + 12)
    have HP : Hid (Frs Xh d (w.setCell ⟨G, loc i + 12, none⟩ (.int .i32 p)) F B G (setN N i ((nd N i).wu p)) fr ∧ Step F F w (w.setCell ⟨G, loc i + 12, none⟩ (.int .i32 p))) := h.put hi (by omega) rfl
    clear h hi
    go_enter Tryz.func146, Tryz.ntmps146
    go_wp2_with fail
    refine HA.mono ?_
    rintro e w0 ⟨rfl, rfl⟩
    go_wp2
    go_returns
    exact ⟨rfl, HP.out.1, HP.out.2⟩
set_option maxHeartbeats 1000000 in
theorem tog_any (a b : Vl) (w : World) : Calls Tryz.prog 121 #[vlc a, vlc b] w fun e w' => e = .returned (vlc (tog a b)) ∧ Below w.heap.size w w' := by
  by_cases hl : b.l < a.l
  · rw [show tog a b = ⟨wrap64 (a.c + b.c), wrap64 (a.s + b.s), b.l, bits BinOp.or IntKind.u8 a.m b.m⟩ by unfold tog; rw [Int.min_eq_right (by omega)]; rfl]
    go_enter Tryz.func121, Tryz.ntmps121
    go_wp2
    go_returns
    exact ⟨rfl, below_new (below_new ((Below.refl _ _).alloc (Nat.le_refl _) _) (Nat.le_refl _) _) (Nat.le_refl _) _⟩
  · rw [show tog a b = ⟨wrap64 (a.c + b.c), wrap64 (a.s + b.s), a.l, bits BinOp.or IntKind.u8 a.m b.m⟩ by unfold tog; rw [Int.min_eq_left (by omega)]; rfl]
    go_enter Tryz.func121, Tryz.ntmps121
    go_wp2
    go_returns
    exact ⟨rfl, below_new (below_new ((Below.refl _ _).alloc (Nat.le_refl _) _) (Nat.le_refl _) _) (Nat.le_refl _) _⟩
set_option maxHeartbeats 1000000 in
theorem sum_any (h : Frs Xh d w F B G N fr) (hN : N.length ≤ 2147483647) {i : Int} (hi : okI N i) :
    Calls Tryz.prog 122 #[.pointer (some ⟨B, 0, none⟩), .int .i32 i] w fun e w' => e = .returned (vlc (smOf N i)) ∧ Below w.heap.size w w' := by
  rcases hi with rfl | hi
  · rw [show smOf N 0 = noV from rfl]
    clear h
    go_enter Tryz.func122, Tryz.ntmps122
    go_wp2
    go_returns
    exact ⟨rfl, (Below.refl _ _).alloc (Nat.le_refl _) _⟩
  · have h0 := tk_ne hi
    rw [show smOf N i = (nd N i).sum from if_neg h0]
    have HA : Hid (∀ w1, Below w.heap.size w w1 → Calls Tryz.prog 119 #[.pointer (some ⟨B, 0, none⟩), .int .i32 i] w1 fun e w' => e = .returned (.pointer (some ⟨G, loc i, none⟩)) ∧ w' = w1) := fun w1 hb => at_tk (h.below hb) hN hi
    have HC : Hid (∀ w1, Below w.heap.size w w1 → ∀ (j : Nat) u, (ndc (nd N i))[j]? = some u → w1.cell? ⟨G, loc i + j, none⟩ = some u) := fun w1 hb j u hj => Frs.at (h.below hb) hi hj
    clear h hi
    go_enter Tryz.func122, Tryz.ntmps122
    go_wp2_with fail
    have hb1 := (Below.refl w.heap.size w).alloc (Nat.le_refl _) (.cells #[.int .i64 0, .int .i64 0, .int .i64 0, .int .u8 0] 128)
    refine (HA.out _ hb1).mono ?_
    rintro e w0 ⟨rfl, rfl⟩
    have c0 := HC.out _ hb1 4 _ rfl
    have c1 := HC.out _ hb1 5 _ rfl
    have c2 := HC.out _ hb1 6 _ rfl
    have c3 := HC.out _ hb1 7 _ rfl
    clear hb1
    go_wp2
    go_returns
    exact ⟨rfl, (Below.refl _ _).alloc (Nat.le_refl _) _⟩
set_option maxHeartbeats 2000000 in
/-- What a node tells of the tree below it is reckoned anew. -/
theorem reckon_any (h : Frs Xh d w F B G N fr) (hN : N.length ≤ 2147483647) {i : Int} (hi : tk N i = true) (hl : okI N (nd N i).l) (hr : okI N (nd N i).r) (hls : 0 ≤ szOf N (nd N i).l ∧ szOf N (nd N i).l ≤ 2147483647) (hrs : 0 ≤ szOf N (nd N i).r ∧ szOf N (nd N i).r ≤ 2147483647) :
    Calls Tryz.prog 95 #[.pointer (some ⟨B, 0, none⟩), .int .i32 i] w fun e w' => e = .returned (.tuple #[]) ∧
      Frs Xh d w' F B G (setN N i ((nd N i).ws (szOf N (nd N i).l + 1 + szOf N (nd N i).r) (tog (tog (smOf N (nd N i).l) (nd N i).own) (smOf N (nd N i).r)))) fr ∧ Step F F w w' := by
  have HA := at_tk h hN hi
  have HF : Hid (Frs Xh d w F B G N fr) := h
  have HI : Hid (tk N i = true) := hi
  have HZ : Hid (∀ (g : Grow w) (j : Int), okI N j → Calls Tryz.prog 120 #[.pointer (some ⟨B, 0, none⟩), .int .i32 j] g.w fun e w' => e = .returned (.int .i64 (szOf N j)) ∧ Below g.w.heap.size g.w w') :=
    fun g j hj => (size_any (h.below g.h) hN hj).mono fun e w' ⟨h1, h2⟩ => ⟨h1, by rw [h2]; exact Below.refl _ _⟩
  have OL : Hid (okI N (nd N i).l) := hl
  have OR : Hid (okI N (nd N i).r) := hr
  have cl := h.at hi (j := 10) rfl
  have cr := h.at hi (j := 11) rfl
  have cz := h.at hi (j := 8) rfl
  have hf := h.fz hi
  have hG := h.lt G (h.g hi).1
  have gl : ∀ g : Grow w, g.w.cell? ⟨G, loc i + 10, none⟩ = some (.int .i32 (nd N i).l) := Grow.cell hG cl
  have gr : ∀ g : Grow w, g.w.cell? ⟨G, loc i + 11, none⟩ = some (.int .i32 (nd N i).r) := Grow.cell hG cr
  have hne := Grow.ne w
  clear h hi hl hr cl cr
  generalize hsl : szOf N (nd N i).l = sl at *
  generalize hsr : szOf N (nd N i).r = sr at *
  have HSL : Hid (szOf N (nd N i).l = sl) := hsl
  have HSR : Hid (szOf N (nd N i).r = sr) := hsr
  clear hsl hsr
  go_enter Tryz.func95, Tryz.ntmps95
  go_wp2_with fail
  refine HA.mono ?_
  rintro e w0 ⟨rfl, rfl⟩
  clear HA
  go_wp2_with fail
  refine wp_region_tail 17 (by kernel_rfl) (by kernel_rfl) (by kernel_rfl) ?_
  simp only [stillAt, stillOp, List.set_cons_succ, List.set_cons_zero, List.getElem?_cons_succ, List.getElem?_cons_zero, Option.getD_some, List.drop_succ_cons, List.drop_zero]
  repeat (go_big_quiet_step ((go_at_call 120; exact grow_call (HZ.out _ _ (by first | exact OL.out | exact OR.out)))))
  refine wpQuiet_nil ?_
  rintro w3 ⟨⟨_, hb3⟩, rfl⟩
  rw [HSL.out, HSR.out, show wrap64 (wrap64 (sl + 1) + sr) = sl + 1 + sr by unfold wrap64; omega]
  clear hne
  have HF3 := HF.out.below hb3
  have c3 := HF3.at HI.out (j := 8) rfl
  have f3 := HF3.fz HI.out (loc i + 8)
  obtain ⟨a4, b4⟩ := HF3.put HI.out (j := 8) (u := .int .i64 (sl + 1 + sr)) (n := (nd N i).ws (sl + 1 + sr) (nd N i).sum) (by omega) rfl
  have b5 := (Step.of_below (F := F) hb3).trans b4
  have HS5 : Hid (Step F F w0 (w3.setCell ⟨G, loc i + 8, none⟩ (.int .i64 (sl + 1 + sr)))) := b5
  have HI1 : Hid (tk (setN N i ((nd N i).ws (sl + 1 + sr) (nd N i).sum)) i = true) := by show tk _ _ = _; rw [tk_setN _ HI.out]; exact HI.out
  clear HF3 b4 b5 hb3 HZ HF cz gl gr
  go_wp2_with fail
  generalize hW4 : w3.setCell ⟨G, loc i + 8, none⟩ (.int .i64 (sl + 1 + sr)) = w4 at *
  clear hW4 c3 f3
  generalize hN1 : setN N i ((nd N i).ws (sl + 1 + sr) (nd N i).sum) = N1 at *
  have e1 : nd N1 = upd (nd N) i ((nd N i).ws (sl + 1 + sr) (nd N i).sum) := by rw [← hN1]; exact nd_setN _ HI.out
  have e2 : ∀ j, smOf N1 j = smOf N j := fun j => by
    unfold smOf; rw [e1]; unfold upd; split
    · rfl
    · split
      · rename_i e; rw [e]; rfl
      · rfl
  have e3 : ∀ j, okI N j → okI N1 j := fun j hj => hj.imp id (fun h => by rw [← hN1, tk_setN _ HI.out]; exact h)
  have HS : Hid (∀ (g : Grow w4) (j : Int), okI N j → Calls Tryz.prog 122 #[.pointer (some ⟨B, 0, none⟩), .int .i32 j] g.w fun e w' => e = .returned (vlc (smOf N j)) ∧ Below g.w.heap.size g.w w') :=
    fun g j hj => by rw [← e2 j]; exact sum_any (a4.below g.h) (by rw [← hN1, setN_len]; exact hN) (e3 j hj)
  have hl1 : (nd N1 i).l = (nd N i).l := by rw [e1, upd_at]; rfl
  have hr1 : (nd N1 i).r = (nd N i).r := by rw [e1, upd_at]; rfl
  have ho1 : (nd N1 i).own = (nd N i).own := by rw [e1, upd_at]; rfl
  have hG4 := a4.lt G (a4.g HI1.out).1
  have gl : ∀ g : Grow w4, g.w.cell? ⟨G, loc i + 10, none⟩ = some (.int .i32 (nd N i).l) := Grow.cell hG4 (by rw [← hl1]; exact a4.at HI1.out rfl)
  have gr : ∀ g : Grow w4, g.w.cell? ⟨G, loc i + 11, none⟩ = some (.int .i32 (nd N i).r) := Grow.cell hG4 (by rw [← hr1]; exact a4.at HI1.out rfl)
  have g0 : ∀ g : Grow w4, g.w.cell? ⟨G, loc i, none⟩ = some (.int .i64 (nd N i).own.c) := Grow.cell hG4 (by rw [← ho1]; exact a4.at HI1.out (j := 0) rfl)
  have g1 : ∀ g : Grow w4, g.w.cell? ⟨G, loc i + 1, none⟩ = some (.int .i64 (nd N i).own.s) := Grow.cell hG4 (by rw [← ho1]; exact a4.at HI1.out rfl)
  have g2 : ∀ g : Grow w4, g.w.cell? ⟨G, loc i + 2, none⟩ = some (.int .i64 (nd N i).own.l) := Grow.cell hG4 (by rw [← ho1]; exact a4.at HI1.out rfl)
  have g3 : ∀ g : Grow w4, g.w.cell? ⟨G, loc i + 3, none⟩ = some (.int .u8 (nd N i).own.m) := Grow.cell hG4 (by rw [← ho1]; exact a4.at HI1.out rfl)
  have HA4 : Hid (Frs Xh d w4 F B G N1 fr) := a4
  have HN1 : Hid (setN N i ((nd N i).ws (sl + 1 + sr) (nd N i).sum) = N1) := hN1
  have HE1 : Hid (nd N1 = upd (nd N) i ((nd N i).ws (sl + 1 + sr) (nd N i).sum)) := e1
  clear a4 hN1 e1 e2 e3 hl1 hr1 ho1 hf
  have hne4 := Grow.ne w4
  refine wp_region_tail 21 (by kernel_rfl) (by kernel_rfl) (by kernel_rfl) ?_
  simp only [stillAt, stillOp, List.set_cons_succ, List.set_cons_zero, List.getElem?_cons_succ, List.getElem?_cons_zero, Option.getD_some, List.drop_succ_cons, List.drop_zero]
  repeat (go_big_quiet_step (first | (go_at_call 122; exact grow_call (HS.out _ _ (by first | exact OL.out | exact OR.out))) | (go_at_call 121; exact grow_call (tog_any _ _ _))))
  refine wpQuiet_nil ?_
  rintro w5 ⟨⟨_, hb5⟩, rfl⟩
  generalize hV : tog (tog (smOf N (nd N i).l) (nd N i).own) (smOf N (nd N i).r) = V at *
  have HV : Hid (tog (tog (smOf N (nd N i).l) (nd N i).own) (smOf N (nd N i).r) = V) := hV
  clear hV
  have HF5 := HA4.out.below hb5
  have c4 := HF5.at HI1.out (j := 4) rfl
  have c5 := HF5.at HI1.out (j := 5) rfl
  have c6 := HF5.at HI1.out (j := 6) rfl
  have c7 := HF5.at HI1.out (j := 7) rfl
  have f4 := HF5.fz HI1.out (loc i + 4)
  have f5 := HF5.fz HI1.out (loc i + 5)
  have f6 := HF5.fz HI1.out (loc i + 6)
  have f7 := HF5.fz HI1.out (loc i + 7)
  obtain ⟨a6, b6⟩ := HF5.putSum HI1.out V
  rw [← HN1.out, setN_setN, HN1.out, HE1.out, upd_at] at a6
  have HA6 : Hid _ := a6
  have HS6 : Hid (Step F F w0 _) := HS5.out.trans ((Step.of_below (F := F) hb5).trans b6)
  clear a6 b6 HF5 hb5 gl gr g0 g1 g2 g3 HS HA4 HN1 HE1
  go_wp2
  go_returns
  rw [HV.out]
  exact ⟨rfl, HA6.out, HS6.out⟩
/-- What a node has below it is set, and reckoned. -/
def linkL (N : List Nt) (i c : Int) : List Nt := setN N i ((nd N i).wl c)
def linkR (N : List Nt) (i c : Int) : List Nt := setN N i ((nd N i).wr c)
def hangN (N : List Nt) (i p : Int) : List Nt := if i = 0 then N else setN N i ((nd N i).wu p)
def reckN (N : List Nt) (i : Int) : List Nt := setN N i ((nd N i).ws (szOf N (nd N i).l + 1 + szOf N (nd N i).r) (tog (tog (smOf N (nd N i).l) (nd N i).own) (smOf N (nd N i).r)))
theorem okI_setN {i : Int} (n : Nd) (h : tk N i = true) {j : Int} (hj : okI N j) : okI (setN N i n) j := hj.imp id (fun h' => by rw [tk_setN n h]; exact h')
theorem tk_hangN {i p : Int} (hi : okI N i) (j : Int) : tk (hangN N i p) j = tk N j := by
  unfold hangN
  rcases hi with rfl | hi
  · rw [if_pos rfl]
  · rw [if_neg (tk_ne hi), tk_setN _ hi]
theorem nd_hangN {i p : Int} (hi : okI N i) (j : Int) : nd (hangN N i p) j = if j = i ∧ i ≠ 0 then (nd N j).wu p else nd N j := by
  unfold hangN
  rcases hi with rfl | hi
  · simp
  · rw [if_neg (tk_ne hi), nd_setN _ hi]
    unfold upd
    by_cases e : j = i
    · subst e; simp [tk_ne hi]
    · simp [e]
theorem hangN_len {i p : Int} : (hangN N i p).length = N.length := by unfold hangN; split <;> simp [setN]
theorem szOf_wu {N N' : List Nt} {j : Int} (h : (nd N' j).size = (nd N j).size) : szOf N' j = szOf N j := by unfold szOf; rw [h]
theorem smOf_wu {N N' : List Nt} {j : Int} (h : (nd N' j).sum = (nd N j).sum) : smOf N' j = smOf N j := by unfold smOf; rw [h]
set_option maxHeartbeats 1000000 in
theorem setLeft_any (h : Frs Xh d w F B G N fr) (hN : N.length ≤ 2147483647) {i c : Int} (hi : tk N i = true) (hc : okI N c) (hr : okI N (nd N i).r) (hls : 0 ≤ szOf N c ∧ szOf N c ≤ 2147483647) (hrs : 0 ≤ szOf N (nd N i).r ∧ szOf N (nd N i).r ≤ 2147483647) :
    Calls Tryz.prog 144 #[.pointer (some ⟨B, 0, none⟩), .int .i32 i, .int .i32 c] w fun e w' => e = .returned (.tuple #[]) ∧ Frs Xh d w' F B G (reckN (hangN (linkL N i c) c i) i) fr ∧ Step F F w w' := by
  have HA := at_tk h hN hi
  have c0 := h.at hi (j := 10) rfl
  have f0 := h.fz hi (loc i + 10)
  have hP := h.put hi (j := 10) (u := .int .i32 c) (n := (nd N i).wl c) (by omega) rfl
  have hc1 : okI (linkL N i c) c := okI_setN _ hi hc
  have H2 : Hid (∀ w1, Frs Xh d w1 F B G (linkL N i c) fr → Calls Tryz.prog 146 #[.pointer (some ⟨B, 0, none⟩), .int .i32 c, .int .i32 i] w1 fun e w' => e = .returned (.tuple #[]) ∧ Frs Xh d w' F B G (hangN (linkL N i c) c i) fr ∧ Step F F w1 w') :=
    fun w1 h1 => hang_any h1 (by unfold linkL; rw [setN_len]; exact hN) hc1
  have n1 : ∀ j, (nd (linkL N i c) j).size = (nd N j).size ∧ (nd (linkL N i c) j).r = (nd N j).r := fun j => by
    unfold linkL; rw [nd_setN _ hi]; unfold upd; split
    · rename_i e; rw [e]; exact ⟨rfl, rfl⟩
    · exact ⟨rfl, rfl⟩
  have n2 : ∀ j, (nd (hangN (linkL N i c) c i) j).size = (nd N j).size ∧ (nd (hangN (linkL N i c) c i) j).r = (nd N j).r ∧ (nd (hangN (linkL N i c) c i) j).l = (nd (linkL N i c) j).l := fun j => by
    rw [nd_hangN hc1, ← (n1 j).1, ← (n1 j).2]; split <;> exact ⟨rfl, rfl, rfl⟩
  have nl : (nd (hangN (linkL N i c) c i) i).l = c := by rw [(n2 i).2.2]; unfold linkL; rw [nd_setN _ hi, upd_at]; rfl
  have t1 : ∀ j, tk (hangN (linkL N i c) c i) j = tk N j := fun j => by rw [tk_hangN hc1]; unfold linkL; rw [tk_setN _ hi]
  have z : ∀ j, szOf (hangN (linkL N i c) c i) j = szOf N j := fun j => szOf_wu (n2 j).1
  have H3 : Hid (∀ w1, Frs Xh d w1 F B G (hangN (linkL N i c) c i) fr → Calls Tryz.prog 95 #[.pointer (some ⟨B, 0, none⟩), .int .i32 i] w1 fun e w' => e = .returned (.tuple #[]) ∧ Frs Xh d w' F B G (reckN (hangN (linkL N i c) c i) i) fr ∧ Step F F w1 w') :=
    fun w1 h1 => reckon_any h1 (by rw [hangN_len]; unfold linkL; rw [setN_len]; exact hN) (by rw [t1]; exact hi) (by rw [nl]; exact hc.imp id (fun h' => by rw [t1]; exact h')) (by rw [(n2 i).2.1]; exact hr.imp id (fun h' => by rw [t1]; exact h')) (by rw [nl, z]; exact hls) (by rw [(n2 i).2.1, z]; exact hrs)
  have HP : Hid _ := hP
  clear h hi hc hr hls hrs hP hc1 n1 n2 nl t1 z
  go_enter Tryz.func144, Tryz.ntmps144
  go_wp2_with fail
  refine HA.mono ?_
  rintro e w0 ⟨rfl, rfl⟩
  clear HA
  go_wp2_with fail
  refine (H2.out _ HP.out.1).mono ?_
  rintro e w2 ⟨rfl, a2, b2⟩
  have A2 : Hid _ := a2
  have B2 : Hid (Step F F w0 w2) := HP.out.2.trans b2
  clear a2 b2 HP H2 c0 f0
  go_wp2_with fail
  refine (H3.out _ A2.out).mono ?_
  rintro e w3 ⟨rfl, a3, b3⟩
  have A3 : Hid _ := a3
  have B3 : Hid (Step F F w0 w3) := B2.out.trans b3
  clear a3 b3 A2 B2 H3
  go_wp2
  go_returns
  exact ⟨rfl, A3.out, B3.out⟩
end
end Go.Proofs.YtcbgeahcnjamdabGreat

/- Layer 6 (treap): setRight, lower. -/
namespace Go.Proofs.YtcbgeahcnjamdabGreat
open Go.RowKit
set_option linter.unusedVariables false
variable {Xh : Hx}

section
variable {d : Option Addr} {w : World} {F : Nat → Prop} {B G : Nat} {N : List Nt} {fr : List Int}
set_option maxHeartbeats 1000000 in
theorem setRight_any (h : Frs Xh d w F B G N fr) (hN : N.length ≤ 2147483647) {i c : Int} (hi : tk N i = true) (hc : okI N c) (hl : okI N (nd N i).l) (hls : 0 ≤ szOf N (nd N i).l ∧ szOf N (nd N i).l ≤ 2147483647) (hrs : 0 ≤ szOf N c ∧ szOf N c ≤ 2147483647) :
    Calls Tryz.prog 145 #[.pointer (some ⟨B, 0, none⟩), .int .i32 i, .int .i32 c] w fun e w' => e = .returned (.tuple #[]) ∧ Frs Xh d w' F B G (reckN (hangN (linkR N i c) c i) i) fr ∧ Step F F w w' := by
  have HA := at_tk h hN hi
  have c0 := h.at hi (j := 11) rfl
  have f0 := h.fz hi (loc i + 11)
  have hP := h.put hi (j := 11) (u := .int .i32 c) (n := (nd N i).wr c) (by omega) rfl
  have hc1 : okI (linkR N i c) c := okI_setN _ hi hc
  have H2 : Hid (∀ w1, Frs Xh d w1 F B G (linkR N i c) fr → Calls Tryz.prog 146 #[.pointer (some ⟨B, 0, none⟩), .int .i32 c, .int .i32 i] w1 fun e w' => e = .returned (.tuple #[]) ∧ Frs Xh d w' F B G (hangN (linkR N i c) c i) fr ∧ Step F F w1 w') :=
    fun w1 h1 => hang_any h1 (by unfold linkR; rw [setN_len]; exact hN) hc1
  have n1 : ∀ j, (nd (linkR N i c) j).size = (nd N j).size ∧ (nd (linkR N i c) j).l = (nd N j).l := fun j => by
    unfold linkR; rw [nd_setN _ hi]; unfold upd; split
    · rename_i e; rw [e]; exact ⟨rfl, rfl⟩
    · exact ⟨rfl, rfl⟩
  have n2 : ∀ j, (nd (hangN (linkR N i c) c i) j).size = (nd N j).size ∧ (nd (hangN (linkR N i c) c i) j).l = (nd N j).l ∧ (nd (hangN (linkR N i c) c i) j).r = (nd (linkR N i c) j).r := fun j => by
    rw [nd_hangN hc1, ← (n1 j).1, ← (n1 j).2]; split <;> exact ⟨rfl, rfl, rfl⟩
  have nl : (nd (hangN (linkR N i c) c i) i).r = c := by rw [(n2 i).2.2]; unfold linkR; rw [nd_setN _ hi, upd_at]; rfl
  have t1 : ∀ j, tk (hangN (linkR N i c) c i) j = tk N j := fun j => by rw [tk_hangN hc1]; unfold linkR; rw [tk_setN _ hi]
  have z : ∀ j, szOf (hangN (linkR N i c) c i) j = szOf N j := fun j => szOf_wu (n2 j).1
  have H3 : Hid (∀ w1, Frs Xh d w1 F B G (hangN (linkR N i c) c i) fr → Calls Tryz.prog 95 #[.pointer (some ⟨B, 0, none⟩), .int .i32 i] w1 fun e w' => e = .returned (.tuple #[]) ∧ Frs Xh d w' F B G (reckN (hangN (linkR N i c) c i) i) fr ∧ Step F F w1 w') :=
    fun w1 h1 => reckon_any h1 (by rw [hangN_len]; unfold linkR; rw [setN_len]; exact hN) (by rw [t1]; exact hi) (by rw [(n2 i).2.1]; exact hl.imp id (fun h' => by rw [t1]; exact h')) (by rw [nl]; exact hc.imp id (fun h' => by rw [t1]; exact h')) (by rw [(n2 i).2.1, z]; exact hls) (by rw [nl, z]; exact hrs)
  have HP : Hid _ := hP
  clear h hi hc hl hls hrs hP hc1 n1 n2 nl t1 z
  go_enter Tryz.func145, Tryz.ntmps145
  go_wp2_with fail
  refine HA.mono ?_
  rintro e w0 ⟨rfl, rfl⟩
  clear HA
  go_wp2_with fail
  refine (H2.out _ HP.out.1).mono ?_
  rintro e w2 ⟨rfl, a2, b2⟩
  have A2 : Hid _ := a2
  have B2 : Hid (Step F F w0 w2) := HP.out.2.trans b2
  clear a2 b2 HP H2 c0 f0
  go_wp2_with fail
  refine (H3.out _ A2.out).mono ?_
  rintro e w3 ⟨rfl, a3, b3⟩
  have A3 : Hid _ := a3
  have B3 : Hid (Step F F w0 w3) := B2.out.trans b3
  clear a3 b3 A2 B2 H3
  go_wp2
  go_returns
  exact ⟨rfl, A3.out, B3.out⟩
/-- Whether the last one is next in a zip; 0 is never next. -/
def lowB (N : List Nt) (a b : Int) : Bool := if a = 0 then false else if b = 0 then true else decide ((nd N a).pr < (nd N b).pr)
theorem lower_any (h : Frs Xh d w F B G N fr) (hN : N.length ≤ 2147483647) {a b : Int} (ha : okI N a) (hb : okI N b) :
    Calls Tryz.prog 147 #[.pointer (some ⟨B, 0, none⟩), .int .i32 a, .int .i32 b] w fun e w' => e = .returned (.bool (lowB N a b)) ∧ Below w.heap.size w w' := by
  by_cases h0 : a = 0
  · subst h0
    rw [show lowB N 0 b = false from if_pos rfl]
    clear h ha hb
    go_enter Tryz.func147, Tryz.ntmps147
    go_wp2
    go_returns
    exact ⟨rfl, Below.refl _ _⟩
  · by_cases h1 : b = 0
    · subst h1
      rw [show lowB N a 0 = true by unfold lowB; rw [if_neg h0, if_pos rfl]]
      clear h ha hb
      have h0' : (a != 0) = true := by simpa using h0
      have h0'' : (a == 0) = false := by simpa using h0
      go_enter Tryz.func147, Tryz.ntmps147
      go_wp2
      go_ret
      exact ⟨rfl, Below.refl _ _⟩
    · have ha' := ha.resolve_left h0
      have hb' := hb.resolve_left h1
      rw [show lowB N a b = decide ((nd N a).pr < (nd N b).pr) by unfold lowB; rw [if_neg h0, if_neg h1]]
      have HA : Hid (∀ (g : Grow w) (j : Int), tk N j = true → Calls Tryz.prog 119 #[.pointer (some ⟨B, 0, none⟩), .int .i32 j] g.w fun e w' => e = .returned (.pointer (some ⟨G, loc j, none⟩)) ∧ Below g.w.heap.size g.w w') :=
        fun g j hj => (at_tk (h.below g.h) hN hj).mono fun e w' ⟨h1, h2⟩ => ⟨h1, by rw [h2]; exact Below.refl _ _⟩
      have hG := h.lt G (h.g ha').1
      have ca : ∀ g : Grow w, g.w.cell? ⟨G, loc a + 9, none⟩ = some (.int .u32 (nd N a).pr) := Grow.cell hG (h.at ha' (j := 9) rfl)
      have cb : ∀ g : Grow w, g.w.cell? ⟨G, loc b + 9, none⟩ = some (.int .u32 (nd N b).pr) := Grow.cell hG (h.at hb' (j := 9) rfl)
      have T1 : Hid (tk N a = true) := ha'
      have T2 : Hid (tk N b = true) := hb'
      have hne := Grow.ne w
      have h0' : (a == 0) = false := by simpa using h0
      have h1' : (b == 0) = false := by simpa using h1
      clear h ha hb ha' hb'
      go_enter Tryz.func147, Tryz.ntmps147
      go_wp2_with fail
      refine wp_region_grow (by kernel_rfl) (by kernel_rfl) ?_
      repeat (go_big_quiet_step ((go_at_call 119; exact grow_call (HA.out _ _ (by first | exact T1.out | exact T2.out)))))
      refine wpQuiet_nil ?_
      rintro w3 ⟨⟨_, hb3⟩, rfl⟩
      go_wp2
      go_ret
      exact ⟨rfl, hb3⟩
end
end Go.Proofs.YtcbgeahcnjamdabGreat
