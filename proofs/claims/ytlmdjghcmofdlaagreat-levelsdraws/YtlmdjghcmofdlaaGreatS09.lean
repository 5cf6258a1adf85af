/- Lemmas. -/
import Derived.Test.YtlmdjghcmofdlaaGreatS07
import Derived.Handy
set_option maxRecDepth 100000
set_option maxHeartbeats 64000000
namespace Go.Proofs.YtlmdjghcmofdlaaGreat
open Go.RowKit
set_option linter.unusedVariables false
variable {Xh : Hx}
abbrev vlc (v : Vl) : Value := .agg #[.int .i64 v.c, .int .i64 v.s, .int .i64 v.l, .int .u8 v.m]
def okI (N : List Nt) (i : Int) : Prop := i = 0 ∨ tk N i = true
def szOf (N : List Nt) (i : Int) : Int := if i = 0 then 0 else (nd N i).size
def smOf (N : List Nt) (i : Int) : Vl := if i = 0 then noV else (nd N i).sum
section
variable {d : Option Addr} {w : World} {F : Nat → Prop} {B G : Nat} {N : List Nt} {fr : List Int}
theorem at_tk (h : Frs Xh d w F B G N fr) (hN : N.length ≤ 2147483647) {i : Int} (hi : tk N i = true) :
    Calls Tryz.prog 121 #[.pointer (some ⟨B, 0, none⟩), .int .i32 i] w fun e w' => e = .returned (.pointer (some ⟨G, loc i, none⟩)) ∧ w' = w := by
  have HA := AN.at_at h i hi (by rw [slN_len]; exact hN)
  rw [show (i - 1).toNat * 14 = loc i from rfl] at HA
  clear h hi
  go_enter Tryz.func121, Tryz.ntmps121
  go_wp2_with fail
  refine HA.mono ?_
  rintro e w0 ⟨rfl, rfl⟩
  go_wp2
  go_ret
  exact ⟨rfl, rfl⟩
theorem at_un (h : Frs Xh d w F B G N fr) (hN : N.length ≤ 2147483647) {i : Int} (hb : -2147483648 ≤ i ∧ i ≤ 2147483647) (hi : tk N i = false) :
    Calls Tryz.prog 121 #[.pointer (some ⟨B, 0, none⟩), .int .i32 i] w fun e w' => e = .returned (.pointer none) ∧ w' = w := by
  have HA := AN.at_no h hb hi (by rw [slN_len]; exact hN)
  clear h hi
  go_enter Tryz.func121, Tryz.ntmps121
  go_wp2_with fail
  refine HA.mono ?_
  rintro e w0 ⟨rfl, rfl⟩
  go_wp2
  go_ret
  exact ⟨rfl, rfl⟩
theorem size_any (h : Frs Xh d w F B G N fr) (hN : N.length ≤ 2147483647) {i : Int} (hi : okI N i) :
    Calls Tryz.prog 122 #[.pointer (some ⟨B, 0, none⟩), .int .i32 i] w fun e w' => e = .returned (.int .i64 (szOf N i)) ∧ w' = w := by
  rcases hi with rfl | hi
  · rw [show szOf N 0 = 0 from rfl]
    clear h
    go_enter Tryz.func122, Tryz.ntmps122
    go_wp2
    go_ret
    exact ⟨rfl, rfl⟩
  · have h0 := tk_ne hi
    rw [show szOf N i = (nd N i).size from if_neg h0]
    have HA := at_tk h hN hi
    have hc := h.at hi (j := 8) rfl
    clear h hi
    go_enter Tryz.func122, Tryz.ntmps122
    go_wp2_with fail
    refine HA.mono ?_
    rintro e w0 ⟨rfl, rfl⟩
    go_wp2
    go_ret
    exact ⟨rfl, rfl⟩
theorem hang_any (h : Frs Xh d w F B G N fr) (hN : N.length ≤ 2147483647) {i p : Int} (hi : okI N i) :
    Calls Tryz.prog 148 #[.pointer (some ⟨B, 0, none⟩), .int .i32 i, .int .i32 p] w fun e w' => e = .returned (.tuple #[]) ∧ Frs Xh d w' F B G (if i = 0 then N else setN N i ((nd N i).wu p)) fr ∧ Step F F w w' := by
  rcases hi with rfl | hi
  · rw [if_pos rfl]
    have HX : Hid (Frs Xh d w F B G N fr) := h
    clear h
    go_enter Tryz.func148, Tryz.ntmps148
    go_wp2
    go_returns
    exact ⟨rfl, HX.out, Step.refl _ _⟩
  · have h0 := tk_ne hi
    rw [if_neg h0]
    have HA := at_tk h hN hi
    have hc := h.at hi (j := 12) rfl
    have hf := h.fz hi (loc i + 12)
    have HP : Hid (Frs Xh d (w.setCell ⟨G, loc i + 12, none⟩ (.int .i32 p)) F B G (setN N i ((nd N i).wu p)) fr ∧ Step F F w (w.setCell ⟨G, loc i + 12, none⟩ (.int .i32 p))) := h.put hi (by omega) rfl
    clear h hi
    go_enter Tryz.func148, Tryz.ntmps148
    go_wp2_with fail
    refine HA.mono ?_
    rintro e w0 ⟨rfl, rfl⟩
    go_wp2
    go_returns
    exact ⟨rfl, HP.out.1, HP.out.2⟩
theorem tog_any (a b : Vl) (w : World) : Calls Tryz.prog 123 #[vlc a, vlc b] w fun e w' => e = .returned (vlc (tog a b)) ∧ Below w.heap.size w w' := by
  by_cases hl : b.l < a.l
  · rw [show tog a b = ⟨wrap64 (a.c + b.c), wrap64 (a.s + b.s), b.l, bits BinOp.or IntKind.u8 a.m b.m⟩ by unfold tog; rw [Int.min_eq_right (by omega)]; rfl]
    go_enter Tryz.func123, Tryz.ntmps123
    go_wp2
    go_returns
    exact ⟨rfl, below_new (below_new ((Below.refl _ _).alloc (Nat.le_refl _) _) (Nat.le_refl _) _) (Nat.le_refl _) _⟩
  · rw [show tog a b = ⟨wrap64 (a.c + b.c), wrap64 (a.s + b.s), a.l, bits BinOp.or IntKind.u8 a.m b.m⟩ by unfold tog; rw [Int.min_eq_left (by omega)]; rfl]
    go_enter Tryz.func123, Tryz.ntmps123
    go_wp2
    go_returns
    exact ⟨rfl, below_new (below_new ((Below.refl _ _).alloc (Nat.le_refl _) _) (Nat.le_refl _) _) (Nat.le_refl _) _⟩
theorem sum_any (h : Frs Xh d w F B G N fr) (hN : N.length ≤ 2147483647) {i : Int} (hi : okI N i) :
    Calls Tryz.prog 124 #[.pointer (some ⟨B, 0, none⟩), .int .i32 i] w fun e w' => e = .returned (vlc (smOf N i)) ∧ Below w.heap.size w w' := by
  rcases hi with rfl | hi
  · rw [show smOf N 0 = noV from rfl]
    clear h
    go_enter Tryz.func124, Tryz.ntmps124
    go_wp2
    go_returns
    exact ⟨rfl, (Below.refl _ _).alloc (Nat.le_refl _) _⟩
  · have h0 := tk_ne hi
    rw [show smOf N i = (nd N i).sum from if_neg h0]
    have HA : Hid (∀ w1, Below w.heap.size w w1 → Calls Tryz.prog 121 #[.pointer (some ⟨B, 0, none⟩), .int .i32 i] w1 fun e w' => e = .returned (.pointer (some ⟨G, loc i, none⟩)) ∧ w' = w1) := fun w1 hb => at_tk (h.below hb) hN hi
    have HC : Hid (∀ w1, Below w.heap.size w w1 → ∀ (j : Nat) u, (ndc (nd N i))[j]? = some u → w1.cell? ⟨G, loc i + j, none⟩ = some u) := fun w1 hb j u hj => Frs.at (h.below hb) hi hj
    clear h hi
    go_enter Tryz.func124, Tryz.ntmps124
    go_wp2_with fail
    have hb1 := (Below.refl w.heap.size w).alloc (Nat.le_refl _) (.cells #[.int .i64 0, .int .i64 0, .int .i64 0, .int .u8 0] 129)
    refine (HA.out _ hb1).mono ?_
    rintro e w0 ⟨rfl, rfl⟩
    have c0 := HC.out _ hb1 4 _ rfl
    have c1 := HC.out _ hb1 5 _ rfl
    have c2 := HC.out _ hb1 6 _ rfl
    have c3 := HC.out _ hb1 7 _ rfl
    clear hb1
    go_wp2
    go_returns
    exact ⟨rfl, (Below.refl _ _).alloc (Nat.le_refl _) _⟩
theorem reckon_any (h : Frs Xh d w F B G N fr) (hN : N.length ≤ 2147483647) {i : Int} (hi : tk N i = true) (hl : okI N (nd N i).l) (hr : okI N (nd N i).r) (hls : 0 ≤ szOf N (nd N i).l ∧ szOf N (nd N i).l ≤ 2147483647) (hrs : 0 ≤ szOf N (nd N i).r ∧ szOf N (nd N i).r ≤ 2147483647) :
    Calls Tryz.prog 97 #[.pointer (some ⟨B, 0, none⟩), .int .i32 i] w fun e w' => e = .returned (.tuple #[]) ∧
      Frs Xh d w' F B G (setN N i ((nd N i).ws (szOf N (nd N i).l + 1 + szOf N (nd N i).r) (tog (tog (smOf N (nd N i).l) (nd N i).own) (smOf N (nd N i).r)))) fr ∧ Step F F w w' := by
  have HA := at_tk h hN hi
  have HF : Hid (Frs Xh d w F B G N fr) := h
  have HI : Hid (tk N i = true) := hi
  have HZ : Hid (∀ (g : Grow w) (j : Int), okI N j → Calls Tryz.prog 122 #[.pointer (some ⟨B, 0, none⟩), .int .i32 j] g.w fun e w' => e = .returned (.int .i64 (szOf N j)) ∧ Below g.w.heap.size g.w w') :=
    fun g j hj => (size_any (h.below g.h) hN hj).mono fun e w' ⟨h1, h2⟩ => ⟨h1, by rw [h2]; exact Below.refl _ _⟩
  have OL : Hid (okI N (nd N i).l) := hl
  have OR : Hid (okI N (nd N i).r) := hr
  have cl := h.at hi (j := 10) rfl
  have cr := h.at hi (j := 11) rfl
  have cz := h.at hi (j := 8) rfl
  have hf := h.fz hi
  have hG := h.lt G (h.g hi).1
  have gl : ∀ g : Grow w, g.w.cell? ⟨G, loc i + 10, none⟩ = some (.int .i32 (nd N i).l) := Grow.cell hG cl
  have gr : ∀ g : Grow w, g.w.cell? ⟨G, loc i + 11, none⟩ = some (.int .i32 (nd N i).r) := Grow.cell hG cr
  have hne := Grow.ne w
  clear h hi hl hr cl cr
  generalize hsl : szOf N (nd N i).l = sl at *
  generalize hsr : szOf N (nd N i).r = sr at *
  have HSL : Hid (szOf N (nd N i).l = sl) := hsl
  have HSR : Hid (szOf N (nd N i).r = sr) := hsr
  clear hsl hsr
  go_enter Tryz.func97, Tryz.ntmps97
  go_wp2_with fail
  refine HA.mono ?_
  rintro e w0 ⟨rfl, rfl⟩
  clear HA
  go_wp2_with fail
  refine wp_region_tail 17 (by kernel_rfl) (by kernel_rfl) (by kernel_rfl) ?_
  simp only [stillAt, stillOp, List.set_cons_succ, List.set_cons_zero, List.getElem?_cons_succ, List.getElem?_cons_zero, Option.getD_some, List.drop_succ_cons, List.drop_zero]
  repeat (go_big_quiet_step ((go_at_call 122; exact grow_call (HZ.out _ _ (by first | exact OL.out | exact OR.out)))))
  refine wpQuiet_nil ?_
  rintro w3 ⟨⟨_, hb3⟩, rfl⟩
  rw [HSL.out, HSR.out, show wrap64 (wrap64 (sl + 1) + sr) = sl + 1 + sr by unfold wrap64; omega]
  clear hne
  have HF3 := HF.out.below hb3
  have c3 := HF3.at HI.out (j := 8) rfl
  have f3 := HF3.fz HI.out (loc i + 8)
  obtain ⟨a4, b4⟩ := HF3.put HI.out (j := 8) (u := .int .i64 (sl + 1 + sr)) (n := (nd N i).ws (sl + 1 + sr) (nd N i).sum) (by omega) rfl
  have b5 := (Step.of_below (F := F) hb3).trans b4
  have HS5 : Hid (Step F F w0 (w3.setCell ⟨G, loc i + 8, none⟩ (.int .i64 (sl + 1 + sr)))) := b5
  have HI1 : Hid (tk (setN N i ((nd N i).ws (sl + 1 + sr) (nd N i).sum)) i = true) := by show tk _ _ = _; rw [tk_setN _ HI.out]; exact HI.out
  clear HF3 b4 b5 hb3 HZ HF cz gl gr
  go_wp2_with fail
  generalize hW4 : w3.setCell ⟨G, loc i + 8, none⟩ (.int .i64 (sl + 1 + sr)) = w4 at *
  clear hW4 c3 f3
  generalize hN1 : setN N i ((nd N i).ws (sl + 1 + sr) (nd N i).sum) = N1 at *
  have e1 : nd N1 = upd (nd N) i ((nd N i).ws (sl + 1 + sr) (nd N i).sum) := by rw [← hN1]; exact nd_setN _ HI.out
  have e2 : ∀ j, smOf N1 j = smOf N j := fun j => by
    unfold smOf; rw [e1]; unfold upd; split
    · rfl
    · split
      · rename_i e; rw [e]; rfl
      · rfl
  have e3 : ∀ j, okI N j → okI N1 j := fun j hj => hj.imp id (fun h => by rw [← hN1, tk_setN _ HI.out]; exact h)
  have HS : Hid (∀ (g : Grow w4) (j : Int), okI N j → Calls Tryz.prog 124 #[.pointer (some ⟨B, 0, none⟩), .int .i32 j] g.w fun e w' => e = .returned (vlc (smOf N j)) ∧ Below g.w.heap.size g.w w') :=
    fun g j hj => by rw [← e2 j]; exact sum_any (a4.below g.h) (by rw [← hN1, setN_len]; exact hN) (e3 j hj)
  have hl1 : (nd N1 i).l = (nd N i).l := by rw [e1, upd_at]; rfl
  have hr1 : (nd N1 i).r = (nd N i).r := by rw [e1, upd_at]; rfl
  have ho1 : (nd N1 i).own = (nd N i).own := by rw [e1, upd_at]; rfl
  have hG4 := a4.lt G (a4.g HI1.out).1
  have gl : ∀ g : Grow w4, g.w.cell? ⟨G, loc i + 10, none⟩ = some (.int .i32 (nd N i).l) := Grow.cell hG4 (by rw [← hl1]; exact a4.at HI1.out rfl)
  have gr : ∀ g : Grow w4, g.w.cell? ⟨G, loc i + 11, none⟩ = some (.int .i32 (nd N i).r) := Grow.cell hG4 (by rw [← hr1]; exact a4.at HI1.out rfl)
  have g0 : ∀ g : Grow w4, g.w.cell? ⟨G, loc i, none⟩ = some (.int .i64 (nd N i).own.c) := Grow.cell hG4 (by rw [← ho1]; exact a4.at HI1.out (j := 0) rfl)
  have g1 : ∀ g : Grow w4, g.w.cell? ⟨G, loc i + 1, none⟩ = some (.int .i64 (nd N i).own.s) := Grow.cell hG4 (by rw [← ho1]; exact a4.at HI1.out rfl)
  have g2 : ∀ g : Grow w4, g.w.cell? ⟨G, loc i + 2, none⟩ = some (.int .i64 (nd N i).own.l) := Grow.cell hG4 (by rw [← ho1]; exact a4.at HI1.out rfl)
  have g3 : ∀ g : Grow w4, g.w.cell? ⟨G, loc i + 3, none⟩ = some (.int .u8 (nd N i).own.m) := Grow.cell hG4 (by rw [← ho1]; exact a4.at HI1.out rfl)
  have HA4 : Hid (Frs Xh d w4 F B G N1 fr) := a4
  have HN1 : Hid (setN N i ((nd N i).ws (sl + 1 + sr) (nd N i).sum) = N1) := hN1
  have HE1 : Hid (nd N1 = upd (nd N) i ((nd N i).ws (sl + 1 + sr) (nd N i).sum)) := e1
  clear a4 hN1 e1 e2 e3 hl1 hr1 ho1 hf
  have hne4 := Grow.ne w4
  refine wp_region_tail 21 (by kernel_rfl) (by kernel_rfl) (by kernel_rfl) ?_
  simp only [stillAt, stillOp, List.set_cons_succ, List.set_cons_zero, List.getElem?_cons_succ, List.getElem?_cons_zero, Option.getD_some, List.drop_succ_cons, List.drop_zero]
  repeat (go_big_quiet_step (first | (go_at_call 124; exact grow_call (HS.out _ _ (by first | exact OL.out | exact OR.out))) | (go_at_call 123; exact grow_call (tog_any _ _ _))))
  refine wpQuiet_nil ?_
  rintro w5 ⟨⟨_, hb5⟩, rfl⟩
  generalize hV : tog (tog (smOf N (nd N i).l) (nd N i).own) (smOf N (nd N i).r) = V at *
  have HV : Hid (tog (tog (smOf N (nd N i).l) (nd N i).own) (smOf N (nd N i).r) = V) := hV
  clear hV
  have HF5 := HA4.out.below hb5
  have c4 := HF5.at HI1.out (j := 4) rfl
  have c5 := HF5.at HI1.out (j := 5) rfl
  have c6 := HF5.at HI1.out (j := 6) rfl
  have c7 := HF5.at HI1.out (j := 7) rfl
  have f4 := HF5.fz HI1.out (loc i + 4)
  have f5 := HF5.fz HI1.out (loc i + 5)
  have f6 := HF5.fz HI1.out (loc i + 6)
  have f7 := HF5.fz HI1.out (loc i + 7)
  obtain ⟨a6, b6⟩ := HF5.putSum HI1.out V
  rw [← HN1.out, setN_setN, HN1.out, HE1.out, upd_at] at a6
  have HA6 : Hid _ := a6
  have HS6 : Hid (Step F F w0 _) := HS5.out.trans ((Step.of_below (F := F) hb5).trans b6)
  clear a6 b6 HF5 hb5 gl gr g0 g1 g2 g3 HS HA4 HN1 HE1
  go_wp2
  go_returns
  rw [HV.out]
  exact ⟨rfl, HA6.out, HS6.out⟩
def linkL (N : List Nt) (i c : Int) : List Nt := setN N i ((nd N i).wl c)
def linkR (N : List Nt) (i c : Int) : List Nt := setN N i ((nd N i).wr c)
def hangN (N : List Nt) (i p : Int) : List Nt := if i = 0 then N else setN N i ((nd N i).wu p)
def reckN (N : List Nt) (i : Int) : List Nt := setN N i ((nd N i).ws (szOf N (nd N i).l + 1 + szOf N (nd N i).r) (tog (tog (smOf N (nd N i).l) (nd N i).own) (smOf N (nd N i).r)))
theorem okI_setN {i : Int} (n : Nd) (h : tk N i = true) {j : Int} (hj : okI N j) : okI (setN N i n) j := hj.imp id (fun h' => by rw [tk_setN n h]; exact h')
theorem tk_hangN {i p : Int} (hi : okI N i) (j : Int) : tk (hangN N i p) j = tk N j := by
  unfold hangN
  rcases hi with rfl | hi
  · rw [if_pos rfl]
  · rw [if_neg (tk_ne hi), tk_setN _ hi]
theorem nd_hangN {i p : Int} (hi : okI N i) (j : Int) : nd (hangN N i p) j = if j = i ∧ i ≠ 0 then (nd N j).wu p else nd N j := by
  unfold hangN
  rcases hi with rfl | hi
  · simp
  · rw [if_neg (tk_ne hi), nd_setN _ hi]
    unfold upd
    by_cases e : j = i
    · subst e; simp [tk_ne hi]
    · simp [e]
theorem hangN_len {i p : Int} : (hangN N i p).length = N.length := by unfold hangN; split <;> simp [setN]
theorem szOf_wu {N N' : List Nt} {j : Int} (h : (nd N' j).size = (nd N j).size) : szOf N' j = szOf N j := by unfold szOf; rw [h]
theorem smOf_wu {N N' : List Nt} {j : Int} (h : (nd N' j).sum = (nd N j).sum) : smOf N' j = smOf N j := by unfold smOf; rw [h]
theorem setLeft_any (h : Frs Xh d w F B G N fr) (hN : N.length ≤ 2147483647) {i c : Int} (hi : tk N i = true) (hc : okI N c) (hr : okI N (nd N i).r) (hls : 0 ≤ szOf N c ∧ szOf N c ≤ 2147483647) (hrs : 0 ≤ szOf N (nd N i).r ∧ szOf N (nd N i).r ≤ 2147483647) :
    Calls Tryz.prog 146 #[.pointer (some ⟨B, 0, none⟩), .int .i32 i, .int .i32 c] w fun e w' => e = .returned (.tuple #[]) ∧ Frs Xh d w' F B G (reckN (hangN (linkL N i c) c i) i) fr ∧ Step F F w w' := by
  have HA := at_tk h hN hi
  have c0 := h.at hi (j := 10) rfl
  have f0 := h.fz hi (loc i + 10)
  have hP := h.put hi (j := 10) (u := .int .i32 c) (n := (nd N i).wl c) (by omega) rfl
  have hc1 : okI (linkL N i c) c := okI_setN _ hi hc
  have H2 : Hid (∀ w1, Frs Xh d w1 F B G (linkL N i c) fr → Calls Tryz.prog 148 #[.pointer (some ⟨B, 0, none⟩), .int .i32 c, .int .i32 i] w1 fun e w' => e = .returned (.tuple #[]) ∧ Frs Xh d w' F B G (hangN (linkL N i c) c i) fr ∧ Step F F w1 w') :=
    fun w1 h1 => hang_any h1 (by unfold linkL; rw [setN_len]; exact hN) hc1
  have n1 : ∀ j, (nd (linkL N i c) j).size = (nd N j).size ∧ (nd (linkL N i c) j).r = (nd N j).r := fun j => by
    unfold linkL; rw [nd_setN _ hi]; unfold upd; split
    · rename_i e; rw [e]; exact ⟨rfl, rfl⟩
    · exact ⟨rfl, rfl⟩
  have n2 : ∀ j, (nd (hangN (linkL N i c) c i) j).size = (nd N j).size ∧ (nd (hangN (linkL N i c) c i) j).r = (nd N j).r ∧ (nd (hangN (linkL N i c) c i) j).l = (nd (linkL N i c) j).l := fun j => by
    rw [nd_hangN hc1, ← (n1 j).1, ← (n1 j).2]; split <;> exact ⟨rfl, rfl, rfl⟩
  have nl : (nd (hangN (linkL N i c) c i) i).l = c := by rw [(n2 i).2.2]; unfold linkL; rw [nd_setN _ hi, upd_at]; rfl
  have t1 : ∀ j, tk (hangN (linkL N i c) c i) j = tk N j := fun j => by rw [tk_hangN hc1]; unfold linkL; rw [tk_setN _ hi]
  have z : ∀ j, szOf (hangN (linkL N i c) c i) j = szOf N j := fun j => szOf_wu (n2 j).1
  have H3 : Hid (∀ w1, Frs Xh d w1 F B G (hangN (linkL N i c) c i) fr → Calls Tryz.prog 97 #[.pointer (some ⟨B, 0, none⟩), .int .i32 i] w1 fun e w' => e = .returned (.tuple #[]) ∧ Frs Xh d w' F B G (reckN (hangN (linkL N i c) c i) i) fr ∧ Step F F w1 w') :=
    fun w1 h1 => reckon_any h1 (by rw [hangN_len]; unfold linkL; rw [setN_len]; exact hN) (by rw [t1]; exact hi) (by rw [nl]; exact hc.imp id (fun h' => by rw [t1]; exact h')) (by rw [(n2 i).2.1]; exact hr.imp id (fun h' => by rw [t1]; exact h')) (by rw [nl, z]; exact hls) (by rw [(n2 i).2.1, z]; exact hrs)
  have HP : Hid _ := hP
  clear h hi hc hr hls hrs hP hc1 n1 n2 nl t1 z
  go_enter Tryz.func146, Tryz.ntmps146
  go_wp2_with fail
  refine HA.mono ?_
  rintro e w0 ⟨rfl, rfl⟩
  clear HA
  go_wp2_with fail
  refine (H2.out _ HP.out.1).mono ?_
  rintro e w2 ⟨rfl, a2, b2⟩
  have A2 : Hid _ := a2
  have B2 : Hid (Step F F w0 w2) := HP.out.2.trans b2
  clear a2 b2 HP H2 c0 f0
  go_wp2_with fail
  refine (H3.out _ A2.out).mono ?_
  rintro e w3 ⟨rfl, a3, b3⟩
  have A3 : Hid _ := a3
  have B3 : Hid (Step F F w0 w3) := B2.out.trans b3
  clear a3 b3 A2 B2 H3
  go_wp2
  go_returns
  exact ⟨rfl, A3.out, B3.out⟩
end
end Go.Proofs.YtlmdjghcmofdlaaGreat
/- Layer 6 (treap): setRight, lower. -/
namespace Go.Proofs.YtlmdjghcmofdlaaGreat
open Go.RowKit
set_option linter.unusedVariables false
variable {Xh : Hx}
section
variable {d : Option Addr} {w : World} {F : Nat → Prop} {B G : Nat} {N : List Nt} {fr : List Int}
theorem setRight_any (h : Frs Xh d w F B G N fr) (hN : N.length ≤ 2147483647) {i c : Int} (hi : tk N i = true) (hc : okI N c) (hl : okI N (nd N i).l) (hls : 0 ≤ szOf N (nd N i).l ∧ szOf N (nd N i).l ≤ 2147483647) (hrs : 0 ≤ szOf N c ∧ szOf N c ≤ 2147483647) :
    Calls Tryz.prog 147 #[.pointer (some ⟨B, 0, none⟩), .int .i32 i, .int .i32 c] w fun e w' => e = .returned (.tuple #[]) ∧ Frs Xh d w' F B G (reckN (hangN (linkR N i c) c i) i) fr ∧ Step F F w w' := by
  have HA := at_tk h hN hi
  have c0 := h.at hi (j := 11) rfl
  have f0 := h.fz hi (loc i + 11)
  have hP := h.put hi (j := 11) (u := .int .i32 c) (n := (nd N i).wr c) (by omega) rfl
  have hc1 : okI (linkR N i c) c := okI_setN _ hi hc
  have H2 : Hid (∀ w1, Frs Xh d w1 F B G (linkR N i c) fr → Calls Tryz.prog 148 #[.pointer (some ⟨B, 0, none⟩), .int .i32 c, .int .i32 i] w1 fun e w' => e = .returned (.tuple #[]) ∧ Frs Xh d w' F B G (hangN (linkR N i c) c i) fr ∧ Step F F w1 w') :=
    fun w1 h1 => hang_any h1 (by unfold linkR; rw [setN_len]; exact hN) hc1
  have n1 : ∀ j, (nd (linkR N i c) j).size = (nd N j).size ∧ (nd (linkR N i c) j).l = (nd N j).l := fun j => by
    unfold linkR; rw [nd_setN _ hi]; unfold upd; split
    · rename_i e; rw [e]; exact ⟨rfl, rfl⟩
    · exact ⟨rfl, rfl⟩
  have n2 : ∀ j, (nd (hangN (linkR N i c) c i) j).size = (nd N j).size ∧ (nd (hangN (linkR N i c) c i) j).l = (nd N j).l ∧ (nd (hangN (linkR N i c) c i) j).r = (nd (linkR N i c) j).r := fun j => by
    rw [nd_hangN hc1, ← (n1 j).1, ← (n1 j).2]; split <;> exact ⟨rfl, rfl, rfl⟩
  have nl : (nd (hangN (linkR N i c) c i) i).r = c := by rw [(n2 i).2.2]; unfold linkR; rw [nd_setN _ hi, upd_at]; rfl
  have t1 : ∀ j, tk (hangN (linkR N i c) c i) j = tk N j := fun j => by rw [tk_hangN hc1]; unfold linkR; rw [tk_setN _ hi]
  have z : ∀ j, szOf (hangN (linkR N i c) c i) j = szOf N j := fun j => szOf_wu (n2 j).1
  have H3 : Hid (∀ w1, Frs Xh d w1 F B G (hangN (linkR N i c) c i) fr → Calls Tryz.prog 97 #[.pointer (some ⟨B, 0, none⟩), .int .i32 i] w1 fun e w' => e = .returned (.tuple #[]) ∧ Frs Xh d w' F B G (reckN (hangN (linkR N i c) c i) i) fr ∧ Step F F w1 w') :=
    fun w1 h1 => reckon_any h1 (by rw [hangN_len]; unfold linkR; rw [setN_len]; exact hN) (by rw [t1]; exact hi) (by rw [(n2 i).2.1]; exact hl.imp id (fun h' => by rw [t1]; exact h')) (by rw [nl]; exact hc.imp id (fun h' => by rw [t1]; exact h')) (by rw [(n2 i).2.1, z]; exact hls) (by rw [nl, z]; exact hrs)
  have HP : Hid _ := hP
  clear h hi hc hl hls hrs hP hc1 n1 n2 nl t1 z
  go_enter Tryz.func147, Tryz.ntmps147
  go_wp2_with fail
  refine HA.mono ?_
  rintro e w0 ⟨rfl, rfl⟩
  clear HA
  go_wp2_with fail
  refine (H2.out _ HP.out.1).mono ?_
  rintro e w2 ⟨rfl, a2, b2⟩
  have A2 : Hid _ := a2
  have B2 : Hid (Step F F w0 w2) := HP.out.2.trans b2
  clear a2 b2 HP H2 c0 f0
  go_wp2_with fail
  refine (H3.out _ A2.out).mono ?_
  rintro e w3 ⟨rfl, a3, b3⟩
  have A3 : Hid _ := a3
  have B3 : Hid (Step F F w0 w3) := B2.out.trans b3
  clear a3 b3 A2 B2 H3
  go_wp2
  go_returns
  exact ⟨rfl, A3.out, B3.out⟩
def lowB (N : List Nt) (a b : Int) : Bool := if a = 0 then false else if b = 0 then true else decide ((nd N a).pr < (nd N b).pr)
theorem lower_any (h : Frs Xh d w F B G N fr) (hN : N.length ≤ 2147483647) {a b : Int} (ha : okI N a) (hb : okI N b) :
    Calls Tryz.prog 149 #[.pointer (some ⟨B, 0, none⟩), .int .i32 a, .int .i32 b] w fun e w' => e = .returned (.bool (lowB N a b)) ∧ Below w.heap.size w w' := by
  by_cases h0 : a = 0
  · subst h0
    rw [show lowB N 0 b = false from if_pos rfl]
    clear h ha hb
    go_enter Tryz.func149, Tryz.ntmps149
    go_wp2
    go_returns
    exact ⟨rfl, Below.refl _ _⟩
  · by_cases h1 : b = 0
    · subst h1
      rw [show lowB N a 0 = true by unfold lowB; rw [if_neg h0, if_pos rfl]]
      clear h ha hb
      have h0' : (a != 0) = true := by simpa using h0
      have h0'' : (a == 0) = false := by simpa using h0
      go_enter Tryz.func149, Tryz.ntmps149
      go_wp2
      go_ret
      exact ⟨rfl, Below.refl _ _⟩
    · have ha' := ha.resolve_left h0
      have hb' := hb.resolve_left h1
      rw [show lowB N a b = decide ((nd N a).pr < (nd N b).pr) by unfold lowB; rw [if_neg h0, if_neg h1]]
      have HA : Hid (∀ (g : Grow w) (j : Int), tk N j = true → Calls Tryz.prog 121 #[.pointer (some ⟨B, 0, none⟩), .int .i32 j] g.w fun e w' => e = .returned (.pointer (some ⟨G, loc j, none⟩)) ∧ Below g.w.heap.size g.w w') :=
        fun g j hj => (at_tk (h.below g.h) hN hj).mono fun e w' ⟨h1, h2⟩ => ⟨h1, by rw [h2]; exact Below.refl _ _⟩
      have hG := h.lt G (h.g ha').1
      have ca : ∀ g : Grow w, g.w.cell? ⟨G, loc a + 9, none⟩ = some (.int .u32 (nd N a).pr) := Grow.cell hG (h.at ha' (j := 9) rfl)
      have cb : ∀ g : Grow w, g.w.cell? ⟨G, loc b + 9, none⟩ = some (.int .u32 (nd N b).pr) := Grow.cell hG (h.at hb' (j := 9) rfl)
      have T1 : Hid (tk N a = true) := ha'
      have T2 : Hid (tk N b = true) := hb'
      have hne := Grow.ne w
      have h0' : (a == 0) = false := by simpa using h0
      have h1' : (b == 0) = false := by simpa using h1
      clear h ha hb ha' hb'
      go_enter Tryz.func149, Tryz.ntmps149
      go_wp2_with fail
      refine wp_region_grow (by kernel_rfl) (by kernel_rfl) ?_
      repeat (go_big_quiet_step ((go_at_call 121; exact grow_call (HA.out _ _ (by first | exact T1.out | exact T2.out)))))
      refine wpQuiet_nil ?_
      rintro w3 ⟨⟨_, hb3⟩, rfl⟩
      go_wp2
      go_ret
      exact ⟨rfl, hb3⟩
end
end Go.Proofs.YtlmdjghcmofdlaaGreat
namespace Go.Proofs.YtlmdjghcmofdlaaGreat
open Go.RowKit
set_option linter.unusedVariables false
def AllTk (N : List Nt) (xs : List Int) : Prop := ∀ j ∈ xs, tk N j = true
theorem len_le {N : List Nt} {xs : List Int} (hn : xs.Nodup) (h : AllTk N xs) : xs.length ≤ N.length := by
  have := hn.length_le_of_subset (l₂ := List.map (fun k : Nat => (k : Int) + 1) (List.range N.length)) (fun j hj => by
    obtain ⟨h1, h2, _⟩ := tk_iff.1 (h j hj)
    exact List.mem_map.2 ⟨(j - 1).toNat, List.mem_range.2 (by omega), by omega⟩)
  simpa using this
theorem top_ok {N : List Nt} {p : Int} {t : Tr} (h : Hang (nd N) p t) (ht : AllTk N t.seq) : okI N t.top ∧ szOf N t.top = t.seq.length ∧ smOf N t.top = sumV (own (nd N) t.seq) := by
  cases t with
  | nil => exact ⟨.inl rfl, rfl, rfl⟩
  | node l i r =>
    have hi := ht i (by simp [Tr.seq])
    obtain ⟨h1, h2, h3, h4, h5, h6, h7⟩ := h
    exact ⟨.inr hi, (if_neg (tk_ne hi)).trans h4, (if_neg (tk_ne hi)).trans h5⟩
theorem top_bd {N : List Nt} {p : Int} {t : Tr} (h : Hang (nd N) p t) (ht : AllTk N t.seq) (hn : t.seq.Nodup) (hN : N.length ≤ 2147483647) : 0 ≤ szOf N t.top ∧ szOf N t.top ≤ 2147483647 := by
  have := len_le hn ht
  rw [(top_ok h ht).2.1]
  omega
def stepL (N : List Nt) (k c : Int) : List Nt := reckN (hangN (linkL N k c) c k) k
def stepR (N : List Nt) (k c : Int) : List Nt := reckN (hangN (linkR N k c) c k) k
theorem nd_stepL {N : List Nt} {k c : Int} (hk : tk N k = true) (hc : okI N c) (hne : c ≠ k) : (stepL N k c).length = N.length ∧ (∀ j, tk (stepL N k c) j = tk N j) ∧
    nd (stepL N k c) k = ((nd N k).wl c).ws (szOf N c + 1 + szOf N (nd N k).r) (tog (tog (smOf N c) (nd N k).own) (smOf N (nd N k).r)) ∧
    (c ≠ 0 → nd (stepL N k c) c = (nd N c).wu k) ∧ (∀ j, j ≠ k → j ≠ c → nd (stepL N k c) j = nd N j) := by
  have hc1 : okI (linkL N k c) c := okI_setN _ hk hc
  have hk1 : tk (linkL N k c) k = true := by unfold linkL; rw [tk_setN _ hk]; exact hk
  have hk2 : tk (hangN (linkL N k c) c k) k = true := by rw [tk_hangN hc1]; exact hk1
  have n1 : ∀ j, nd (linkL N k c) j = if j = k then (nd N k).wl c else nd N j := fun j => by unfold linkL; rw [nd_setN _ hk]; rfl
  have n2 : ∀ j, nd (hangN (linkL N k c) c k) j = if j = c ∧ c ≠ 0 then (nd N j).wu k else if j = k then (nd N k).wl c else nd N j := fun j => by
    rw [nd_hangN hc1, n1]
    by_cases e : j = c ∧ c ≠ 0
    · rw [if_pos e, if_pos e, if_neg (by rw [e.1]; exact hne)]
    · rw [if_neg e, if_neg e]
  have nk : nd (hangN (linkL N k c) c k) k = (nd N k).wl c := by rw [n2, if_neg (fun e => hne e.1.symm), if_pos rfl]
  have sz : ∀ j, szOf (hangN (linkL N k c) c k) j = szOf N j := fun j => szOf_wu (by
    rw [n2]; split
    · rfl
    · split
      · rename_i e; rw [e]; rfl
      · rfl)
  have sm : ∀ j, smOf (hangN (linkL N k c) c k) j = smOf N j := fun j => smOf_wu (by
    rw [n2]; split
    · rfl
    · split
      · rename_i e; rw [e]; rfl
      · rfl)
  have n3 : ∀ j, nd (stepL N k c) j = if j = k then ((nd N k).wl c).ws (szOf N c + 1 + szOf N (nd N k).r) (tog (tog (smOf N c) (nd N k).own) (smOf N (nd N k).r)) else nd (hangN (linkL N k c) c k) j := fun j => by
    unfold stepL reckN
    rw [nd_setN _ hk2, nk, sz, sz, sm, sm]
    rfl
  refine ⟨?_, fun j => ?_, by rw [n3, if_pos rfl], fun h0 => by rw [n3, if_neg hne, n2, if_pos ⟨rfl, h0⟩], fun j h1 h2 => by rw [n3, if_neg h1, n2, if_neg (fun e => h2 e.1), if_neg h1]⟩
  · unfold stepL reckN; rw [setN_len, hangN_len]; unfold linkL; rw [setN_len]
  · unfold stepL reckN; rw [tk_setN _ hk2, tk_hangN hc1]; unfold linkL; rw [tk_setN _ hk]
theorem treeL {N : List Nt} {k p : Int} {t s : Tr} (ht : Hang (nd N) p t) (hs : Hang (nd N) k s) (hr : (nd N k).r = s.top) (hn : (t.seq ++ k :: s.seq).Nodup) (ha : AllTk N (t.seq ++ k :: s.seq)) :
    Hang (nd (stepL N k t.top)) (nd N k).u (.node t k s) ∧ Keeps (fun j => j = k ∨ j ∈ t.seq) N (stepL N k t.top) ∧ (∀ j, j ≠ k → j ∉ t.seq → nd (stepL N k t.top) j = nd N j) := by
  have hk : tk N k = true := ha k (by simp)
  have hat : AllTk N t.seq := fun j hj => ha j (by simp [hj])
  have has : AllTk N s.seq := fun j hj => ha j (by simp [hj])
  have hn1 := List.nodup_append.1 hn
  have hn2 := List.nodup_cons.1 hn1.2.1
  have hkt : ∀ j ∈ t.seq, j ≠ k := fun j hj e => hn1.2.2 j hj k (by simp) e
  obtain ⟨to, tz, tm⟩ := top_ok ht hat
  obtain ⟨so, sz, sm⟩ := top_ok hs has
  have hne : t.top ≠ k := by
    cases t with
    | nil => exact fun e => tk_ne hk e.symm
    | node l i r => exact hkt i (by simp [Tr.seq])
  obtain ⟨e1, e2, e3, e4, e5⟩ := nd_stepL hk to hne
  have out : ∀ j, j ≠ k → j ∉ t.seq → nd (stepL N k t.top) j = nd N j := fun j h1 h2 => by
    by_cases h0 : j = t.top
    · cases t with
      | nil =>
        rw [h0]
        have : nd (stepL N k (Tr.top .nil)) 0 = nd N 0 := by unfold nd; rw [if_neg (by decide), if_neg (by decide)]
        exact this
      | node l i r => exact absurd (by rw [h0]; simp [Tr.seq, Tr.top]) h2
    · exact e5 j h1 h0
  have top : t ≠ .nil → nd (stepL N k t.top) t.top = (nd N t.top).wu k := fun h => e4 (tk_ne (hat _ (Tr.top_mem h)))
  have own' : ∀ j, (nd (stepL N k t.top) j).own = (nd N j).own := fun j => by
    by_cases h1 : j = k
    · rw [h1, e3]; rfl
    · by_cases h2 : j = t.top
      · by_cases h3 : t = .nil
        · rw [h2, h3]
          show (nd _ 0).own = (nd _ 0).own
          unfold nd; rw [if_neg (by decide), if_neg (by decide)]
        · rw [h2, top h3]; rfl
      · rw [e5 j h1 h2]
  refine ⟨⟨by rw [e3]; rfl, by rw [e3]; rfl, by rw [e3]; exact hr, ?_, ?_, ?_, ?_⟩, ⟨e1, e2, own', fun j hj => out j (fun e => hj (.inl e)) (fun e => hj (.inr e))⟩, out⟩
  · rw [e3]
    show szOf N t.top + 1 + szOf N (nd N k).r = _
    rw [hr, tz, sz]
    simp [Tr.seq]
    omega
  · rw [e3]
    show tog (tog (smOf N t.top) (nd N k).own) (smOf N (nd N k).r) = _
    rw [hr, tm, sm, sumV_node, own_congr (g := nd N) (fun j _ => own' j)]
    simp [Tr.seq, own]
  · exact ht.rehang hn1.1 (fun j hj h0 => e5 j (hkt j hj) h0) (fun h => top h)
  · exact hs.congr (fun j hj => out j (fun e => hn2.1 (e ▸ hj)) (fun h => hn1.2.2 j h j (by simp [hj]) rfl))
theorem nd_stepR {N : List Nt} {k c : Int} (hk : tk N k = true) (hc : okI N c) (hne : c ≠ k) : (stepR N k c).length = N.length ∧ (∀ j, tk (stepR N k c) j = tk N j) ∧
    nd (stepR N k c) k = ((nd N k).wr c).ws (szOf N (nd N k).l + 1 + szOf N c) (tog (tog (smOf N (nd N k).l) (nd N k).own) (smOf N c)) ∧
    (c ≠ 0 → nd (stepR N k c) c = (nd N c).wu k) ∧ (∀ j, j ≠ k → j ≠ c → nd (stepR N k c) j = nd N j) := by
  have hc1 : okI (linkR N k c) c := okI_setN _ hk hc
  have hk1 : tk (linkR N k c) k = true := by unfold linkR; rw [tk_setN _ hk]; exact hk
  have hk2 : tk (hangN (linkR N k c) c k) k = true := by rw [tk_hangN hc1]; exact hk1
  have n1 : ∀ j, nd (linkR N k c) j = if j = k then (nd N k).wr c else nd N j := fun j => by unfold linkR; rw [nd_setN _ hk]; rfl
  have n2 : ∀ j, nd (hangN (linkR N k c) c k) j = if j = c ∧ c ≠ 0 then (nd N j).wu k else if j = k then (nd N k).wr c else nd N j := fun j => by
    rw [nd_hangN hc1, n1]
    by_cases e : j = c ∧ c ≠ 0
    · rw [if_pos e, if_pos e, if_neg (by rw [e.1]; exact hne)]
    · rw [if_neg e, if_neg e]
  have nk : nd (hangN (linkR N k c) c k) k = (nd N k).wr c := by rw [n2, if_neg (fun e => hne e.1.symm), if_pos rfl]
  have sz : ∀ j, szOf (hangN (linkR N k c) c k) j = szOf N j := fun j => szOf_wu (by
    rw [n2]; split
    · rfl
    · split
      · rename_i e; rw [e]; rfl
      · rfl)
  have sm : ∀ j, smOf (hangN (linkR N k c) c k) j = smOf N j := fun j => smOf_wu (by
    rw [n2]; split
    · rfl
    · split
      · rename_i e; rw [e]; rfl
      · rfl)
  have n3 : ∀ j, nd (stepR N k c) j = if j = k then ((nd N k).wr c).ws (szOf N (nd N k).l + 1 + szOf N c) (tog (tog (smOf N (nd N k).l) (nd N k).own) (smOf N c)) else nd (hangN (linkR N k c) c k) j := fun j => by
    unfold stepR reckN
    rw [nd_setN _ hk2, nk, sz, sz, sm, sm]
    rfl
  refine ⟨?_, fun j => ?_, by rw [n3, if_pos rfl], fun h0 => by rw [n3, if_neg hne, n2, if_pos ⟨rfl, h0⟩], fun j h1 h2 => by rw [n3, if_neg h1, n2, if_neg (fun e => h2 e.1), if_neg h1]⟩
  · unfold stepR reckN; rw [setN_len, hangN_len]; unfold linkR; rw [setN_len]
  · unfold stepR reckN; rw [tk_setN _ hk2, tk_hangN hc1]; unfold linkR; rw [tk_setN _ hk]
theorem treeR {N : List Nt} {k p : Int} {t s : Tr} (ht : Hang (nd N) p t) (hs : Hang (nd N) k s) (hr : (nd N k).l = s.top) (hn : (s.seq ++ k :: t.seq).Nodup) (ha : AllTk N (s.seq ++ k :: t.seq)) :
    Hang (nd (stepR N k t.top)) (nd N k).u (.node s k t) ∧ Keeps (fun j => j = k ∨ j ∈ t.seq) N (stepR N k t.top) ∧ (∀ j, j ≠ k → j ∉ t.seq → nd (stepR N k t.top) j = nd N j) := by
  have hk : tk N k = true := ha k (by simp)
  have hat : AllTk N t.seq := fun j hj => ha j (by simp [hj])
  have has : AllTk N s.seq := fun j hj => ha j (by simp [hj])
  have hn1 := List.nodup_append.1 hn
  have hn2 := List.nodup_cons.1 hn1.2.1
  have hkt : ∀ j ∈ t.seq, j ≠ k := fun j hj e => hn2.1 (e ▸ hj)
  obtain ⟨to, tz, tm⟩ := top_ok ht hat
  obtain ⟨so, sz, sm⟩ := top_ok hs has
  have hne : t.top ≠ k := by
    cases t with
    | nil => exact fun e => tk_ne hk e.symm
    | node l i r => exact hkt i (by simp [Tr.seq])
  obtain ⟨e1, e2, e3, e4, e5⟩ := nd_stepR hk to hne
  have out : ∀ j, j ≠ k → j ∉ t.seq → nd (stepR N k t.top) j = nd N j := fun j h1 h2 => by
    by_cases h0 : j = t.top
    · cases t with
      | nil =>
        rw [h0]
        have : nd (stepR N k (Tr.top .nil)) 0 = nd N 0 := by unfold nd; rw [if_neg (by decide), if_neg (by decide)]
        exact this
      | node l i r => exact absurd (by rw [h0]; simp [Tr.seq, Tr.top]) h2
    · exact e5 j h1 h0
  have top : t ≠ .nil → nd (stepR N k t.top) t.top = (nd N t.top).wu k := fun h => e4 (tk_ne (hat _ (Tr.top_mem h)))
  have own' : ∀ j, (nd (stepR N k t.top) j).own = (nd N j).own := fun j => by
    by_cases h1 : j = k
    · rw [h1, e3]; rfl
    · by_cases h2 : j = t.top
      · by_cases h3 : t = .nil
        · rw [h2, h3]
          show (nd _ 0).own = (nd _ 0).own
          unfold nd; rw [if_neg (by decide), if_neg (by decide)]
        · rw [h2, top h3]; rfl
      · rw [e5 j h1 h2]
  refine ⟨⟨by rw [e3]; rfl, by rw [e3]; exact hr, by rw [e3]; rfl, ?_, ?_, ?_, ?_⟩, ⟨e1, e2, own', fun j hj => out j (fun e => hj (.inl e)) (fun e => hj (.inr e))⟩, out⟩
  · rw [e3]
    show szOf N (nd N k).l + 1 + szOf N t.top = _
    rw [hr, tz, sz]
    simp [Tr.seq]
    omega
  · rw [e3]
    show tog (tog (smOf N (nd N k).l) (nd N k).own) (smOf N t.top) = _
    rw [hr, tm, sm, sumV_node, own_congr (g := nd N) (fun j _ => own' j)]
    simp [Tr.seq, own]
  · exact hs.congr (fun j hj => out j (fun e => hn1.2.2 j hj k (by simp) e) (fun h => hn1.2.2 j hj j (by simp [h]) rfl))
  · exact ht.rehang hn2.2 (fun j hj h0 => e5 j (hkt j hj) h0) (fun h => top h)
theorem Path.congr {g g' : Int → Nd} {fs : List Fm} {c : Int} (h : Path g fs c) (hg : ∀ j, j ∈ pre fs ∨ j ∈ post fs → g' j = g j) : Path g' fs c := by
  induction fs generalizing c with
  | nil => trivial
  | cons f fs ih =>
    obtain ⟨b, k, s⟩ := f
    obtain ⟨h1, h2, h3, h4, h5⟩ := h
    have hk : g' k = g k := hg k (by cases b <;> simp [pre, post])
    have hs : ∀ j ∈ s.seq, g' j = g j := fun j hj => hg j (by cases b <;> simp [pre, post, hj])
    have hr : ∀ j, j ∈ pre fs ∨ j ∈ post fs → g' j = g j := fun j hj => hg j (by cases b <;> simp [pre, post] <;> rcases hj with hj | hj <;> simp [hj])
    simp only at h1 h2 h3 h4 h5
    exact ⟨by rw [hk]; exact h1, by rw [hk]; exact h2, h3.congr hs, by rw [hk]; exact h4, ih h5 hr⟩
structure Uz (P R : List Int) (N0 N : List Nt) (fs : List Fm) (a b : Tr) (c : Int) : Prop where
  path : Path (nd N) fs c
  ha : ∃ p, Hang (nd N) p a
  hb : ∃ p, Hang (nd N) p b
  hp : pre fs ++ a.seq = P
  hr : b.seq ++ post fs = R
  keeps : Keeps (fun j => j ∈ P ∨ j ∈ R) N0 N
theorem Uz.items {P R : List Int} {N0 N : List Nt} {fs : List Fm} {a b : Tr} {c : Int} (h : Uz P R N0 N fs a b c) (ha : AllTk N0 (P ++ R)) : AllTk N (P ++ R) := fun j hj => by rw [h.keeps.tk]; exact ha j hj
theorem Uz.left {P R : List Int} {N0 N : List Nt} {k : Int} {s : Tr} {fs : List Fm} {a b : Tr} {c : Int} (h : Uz P R N0 N (⟨true, k, s⟩ :: fs) a b c) (hn : (P ++ R).Nodup) (ha : AllTk N0 (P ++ R)) :
    (tk N k = true ∧ okI N b.top ∧ (nd N k).r = s.top ∧ okI N s.top ∧ (∃ q, Hang (nd N) q b) ∧ Hang (nd N) k s ∧ (nd N k).u = upOf fs ∧ b.seq.Nodup ∧ s.seq.Nodup) ∧ Uz P R N0 (stepL N k b.top) fs a (.node b k s) k := by
  obtain ⟨h1, h2, h3, h4, h5⟩ := h.path
  simp only [cond_true] at h1 h2
  obtain ⟨pb, hb⟩ := h.hb
  obtain ⟨pa, hA⟩ := h.ha
  have hall := h.items ha
  have hp := h.hp
  have hr := h.hr
  simp only [pre, post] at hp hr
  have hR : (b.seq ++ k :: s.seq) ++ post fs = R := by simpa using hr
  have hsub : ∀ j, j ∈ b.seq ++ k :: s.seq → j ∈ R := fun j hj => by rw [← hR]; exact List.mem_append_left _ hj
  have hnR := (List.nodup_append.1 hn).2.1
  have hnn : (b.seq ++ k :: s.seq).Nodup := by rw [← hR] at hnR; exact (List.nodup_append.1 hnR).1
  have hal : AllTk N (b.seq ++ k :: s.seq) := fun j hj => hall j (List.mem_append_right _ (hsub j hj))
  obtain ⟨t1, t2, t3⟩ := treeL hb h3 h2 hnn hal
  have hdis : ∀ j, j ∈ P → j ∉ R := fun j h1 h2 => (List.nodup_append.1 hn).2.2 j h1 j h2 rfl
  have hout : ∀ j, j ∈ P ∨ j ∈ post fs → nd (stepL N k b.top) j = nd N j := fun j hj => by
    have : j ∉ b.seq ++ k :: s.seq := by
      rcases hj with hj | hj
      · exact fun e => hdis j hj (hsub j e)
      · intro e; rw [← hR] at hnR; exact (List.nodup_append.1 hnR).2.2 j e j hj rfl
    simp only [List.mem_append, List.mem_cons, not_or] at this
    exact t3 j this.2.1 this.1
  refine ⟨⟨hal k (by simp), (top_ok hb (fun j hj => hal j (by simp [hj]))).1, h2, (top_ok h3 (fun j hj => hal j (by simp [hj]))).1, ⟨pb, hb⟩, h3, h4, (List.nodup_append.1 hnn).1, (List.nodup_cons.1 (List.nodup_append.1 hnn).2.1).2⟩, ⟨?_, ⟨pa, hA.congr (fun j hj => hout j (.inl (by rw [← hp]; simp [hj])))⟩, ⟨_, t1⟩, hp, by simpa [Tr.seq] using hR, h.keeps.trans (t2.mono (fun j hj => .inr (hsub j (by rcases hj with rfl | hj <;> simp_all))))⟩⟩
  exact h5.congr (fun j hj => hout j (hj.imp (fun h' => by rw [← hp]; simp [h']) id))
theorem Uz.right {P R : List Int} {N0 N : List Nt} {k : Int} {s : Tr} {fs : List Fm} {a b : Tr} {c : Int} (h : Uz P R N0 N (⟨false, k, s⟩ :: fs) a b c) (hn : (P ++ R).Nodup) (ha : AllTk N0 (P ++ R)) :
    (tk N k = true ∧ okI N a.top ∧ (nd N k).l = s.top ∧ okI N s.top ∧ (∃ q, Hang (nd N) q a) ∧ Hang (nd N) k s ∧ (nd N k).u = upOf fs ∧ a.seq.Nodup ∧ s.seq.Nodup) ∧ Uz P R N0 (stepR N k a.top) fs (.node s k a) b k := by
  obtain ⟨h1, h2, h3, h4, h5⟩ := h.path
  simp only [cond_false] at h1 h2
  obtain ⟨pb, hb⟩ := h.hb
  obtain ⟨pa, hA⟩ := h.ha
  have hall := h.items ha
  have hp := h.hp
  have hr := h.hr
  simp only [pre, post] at hp hr
  have hR : pre fs ++ (s.seq ++ k :: a.seq) = P := by simpa using hp
  have hsub : ∀ j, j ∈ s.seq ++ k :: a.seq → j ∈ P := fun j hj => by rw [← hR]; exact List.mem_append_right _ hj
  have hnR := (List.nodup_append.1 hn).1
  have hnn : (s.seq ++ k :: a.seq).Nodup := by rw [← hR] at hnR; exact (List.nodup_append.1 hnR).2.1
  have hal : AllTk N (s.seq ++ k :: a.seq) := fun j hj => hall j (List.mem_append_left _ (hsub j hj))
  obtain ⟨t1, t2, t3⟩ := treeR hA h3 h2 hnn hal
  have hdis : ∀ j, j ∈ P → j ∉ R := fun j h1 h2 => (List.nodup_append.1 hn).2.2 j h1 j h2 rfl
  have hout : ∀ j, j ∈ pre fs ∨ j ∈ R → nd (stepR N k a.top) j = nd N j := fun j hj => by
    have : j ∉ s.seq ++ k :: a.seq := by
      rcases hj with hj | hj
      · intro e; rw [← hR] at hnR; exact (List.nodup_append.1 hnR).2.2 j hj j e rfl
      · exact fun e => hdis j (hsub j e) hj
    simp only [List.mem_append, List.mem_cons, not_or] at this
    exact t3 j this.2.1 this.2.2
  refine ⟨⟨hal k (by simp), (top_ok hA (fun j hj => hal j (by simp [hj]))).1, h2, (top_ok h3 (fun j hj => hal j (by simp [hj]))).1, ⟨pa, hA⟩, h3, h4, (List.nodup_cons.1 (List.nodup_append.1 hnn).2.1).2, (List.nodup_append.1 hnn).1⟩, ⟨?_, ⟨_, t1⟩, ⟨pb, hb.congr (fun j hj => hout j (.inr (by rw [← hr]; simp [hj])))⟩, by simpa [Tr.seq] using hR, hr, h.keeps.trans (t2.mono (fun j hj => .inl (hsub j (by rcases hj with rfl | hj <;> simp_all))))⟩⟩
  exact h5.congr (fun j hj => hout j (hj.imp id (fun h' => by rw [← hr]; simp [h'])))
theorem Uz.from {P R : List Int} {N0 N : List Nt} {f : Fm} {fs : List Fm} {a b : Tr} {k : Int} (h : Uz P R N0 N (f :: fs) a b k) (hn : (P ++ R).Nodup) (ha : AllTk N0 (P ++ R)) (hk : k ∈ a.seq ∨ k ∈ b.seq) : tk N f.k = true ∧ (decide ((nd N f.k).l = k) = f.d) := by
  obtain ⟨h1, h2, h3, h4, h5⟩ := h.path
  obtain ⟨d, q, s⟩ := f
  have hall := h.items ha
  have hp := h.hp
  have hr := h.hr
  have hkm : k ∈ P ++ R := by
    rw [← hp, ← hr]
    rcases hk with hk | hk <;> simp [hk]
  cases d with
  | true =>
    simp only [cond_true] at h1
    refine ⟨hall q ?_, by simp [h1]⟩
    rw [← hr]; simp [post]
  | false =>
    simp only [cond_false] at h1 h2
    refine ⟨hall q ?_, ?_⟩
    · rw [← hp]; simp [pre]
    · simp only [decide_eq_false_iff_not]
      rw [h2]
      intro e
      have hks : k ∈ s.seq := by
        rw [← e]
        refine Tr.top_mem (fun e0 => tk_ne (hall k hkm) ?_)
        rw [← e, e0]; rfl
      have hn' := hn
      rw [← hp, ← hr] at hn'
      simp only [pre] at hn'
      rcases hk with hk | hk
      · exact (List.nodup_append.1 (List.nodup_append.1 hn').1).2.2 k (by simp [hks]) k hk rfl
      · exact (List.nodup_append.1 hn').2.2 k (by simp [hks]) k (by simp [hk]) rfl
structure Zp (Q : List Int) (N0 N : List Nt) (ls rs : List Fm) (t : Tr) : Prop where
  lp : ∃ c, Path (nd N) ls c
  rp : ∃ c, Path (nd N) rs c
  ld : ∀ f ∈ ls, f.d = false
  rd : ∀ f ∈ rs, f.d = true
  ht : ∃ p, Hang (nd N) p t ∧ (ls = [] → rs = [] → p = 0)
  hq : pre ls ++ t.seq ++ post rs = Q
  lo : post ls = []
  ro : pre rs = []
  keeps : Keeps (fun j => j ∈ Q) N0 N
theorem Zp.items {Q : List Int} {N0 N : List Nt} {ls rs : List Fm} {t : Tr} (h : Zp Q N0 N ls rs t) (ha : AllTk N0 Q) : AllTk N Q := fun j hj => by rw [h.keeps.tk]; exact ha j hj
theorem Zp.left {Q : List Int} {N0 N : List Nt} {k : Int} {d : Bool} {s : Tr} {ls rs : List Fm} {t : Tr} (h : Zp Q N0 N (⟨d, k, s⟩ :: ls) rs t) (hn : Q.Nodup) (ha : AllTk N0 Q) :
    (tk N k = true ∧ okI N t.top ∧ (nd N k).l = s.top ∧ okI N s.top ∧ (∃ q, Hang (nd N) q t) ∧ Hang (nd N) k s ∧ (nd N k).u = upOf ls ∧ t.seq.Nodup ∧ s.seq.Nodup) ∧ Zp Q N0 (stepR N k t.top) ls rs (.node s k t) := by
  obtain rfl : d = false := h.ld ⟨d, k, s⟩ List.mem_cons_self
  obtain ⟨c, h1, h2, h3, h4, h5⟩ := h.lp
  simp only [cond_false] at h1 h2
  obtain ⟨p, hT, hp0⟩ := h.ht
  have hall := h.items ha
  have hq := h.hq
  simp only [pre] at hq
  have hR : pre ls ++ (s.seq ++ k :: t.seq) ++ post rs = Q := by simpa using hq
  have hsub : ∀ j, j ∈ s.seq ++ k :: t.seq → j ∈ Q := fun j hj => by rw [← hR]; exact List.mem_append_left _ (List.mem_append_right _ hj)
  have hnQ := hn
  rw [← hR] at hnQ
  have hn1 := List.nodup_append.1 hnQ
  have hn2 := List.nodup_append.1 hn1.1
  have hal : AllTk N (s.seq ++ k :: t.seq) := fun j hj => hall j (hsub j hj)
  obtain ⟨t1, t2, t3⟩ := treeR hT h3 h2 hn2.2.1 hal
  have hout : ∀ j, j ∈ pre ls ∨ j ∈ post rs → nd (stepR N k t.top) j = nd N j := fun j hj => by
    have : j ∉ s.seq ++ k :: t.seq := by
      rcases hj with hj | hj
      · exact fun e => hn2.2.2 j hj j e rfl
      · exact fun e => hn1.2.2 j (List.mem_append_right _ e) j hj rfl
    simp only [List.mem_append, List.mem_cons, not_or] at this
    exact t3 j this.2.1 this.2.2
  have hlo : post ls = [] := by have := h.lo; simpa [post] using this
  obtain ⟨c2, hr⟩ := h.rp
  have hs1 := List.nodup_append.1 hn2.2.1
  refine ⟨⟨hal k (by simp), (top_ok hT (fun j hj => hal j (by simp [hj]))).1, h2, (top_ok h3 (fun j hj => hal j (by simp [hj]))).1, ⟨p, hT⟩, h3, h4, (List.nodup_cons.1 hs1.2.1).2, hs1.1⟩,
    ⟨⟨k, h5.congr (fun j hj => hout j (.inl (by rw [hlo] at hj; simpa using hj)))⟩, ⟨c2, hr.congr (fun j hj => hout j (.inr (by rw [h.ro] at hj; simpa using hj)))⟩, fun f hf => h.ld f (by simp [hf]), h.rd, ⟨_, t1, fun e1 e2 => by rw [h4, e1]; rfl⟩, by simpa [Tr.seq] using hR, hlo, h.ro, h.keeps.trans (t2.mono (fun j hj => hsub j (by rcases hj with rfl | hj <;> simp_all)))⟩⟩
theorem Zp.right {Q : List Int} {N0 N : List Nt} {k : Int} {d : Bool} {s : Tr} {ls rs : List Fm} {t : Tr} (h : Zp Q N0 N ls (⟨d, k, s⟩ :: rs) t) (hn : Q.Nodup) (ha : AllTk N0 Q) :
    (tk N k = true ∧ okI N t.top ∧ (nd N k).r = s.top ∧ okI N s.top ∧ (∃ q, Hang (nd N) q t) ∧ Hang (nd N) k s ∧ (nd N k).u = upOf rs ∧ t.seq.Nodup ∧ s.seq.Nodup) ∧ Zp Q N0 (stepL N k t.top) ls rs (.node t k s) := by
  obtain rfl : d = true := h.rd ⟨d, k, s⟩ List.mem_cons_self
  obtain ⟨c, h1, h2, h3, h4, h5⟩ := h.rp
  simp only [cond_true] at h1 h2
  obtain ⟨p, hT, hp0⟩ := h.ht
  have hall := h.items ha
  have hq := h.hq
  simp only [post] at hq
  have hR : pre ls ++ (t.seq ++ k :: s.seq) ++ post rs = Q := by simpa using hq
  have hsub : ∀ j, j ∈ t.seq ++ k :: s.seq → j ∈ Q := fun j hj => by rw [← hR]; exact List.mem_append_left _ (List.mem_append_right _ hj)
  have hnQ := hn
  rw [← hR] at hnQ
  have hn1 := List.nodup_append.1 hnQ
  have hn2 := List.nodup_append.1 hn1.1
  have hal : AllTk N (t.seq ++ k :: s.seq) := fun j hj => hall j (hsub j hj)
  obtain ⟨t1, t2, t3⟩ := treeL hT h3 h2 hn2.2.1 hal
  have hout : ∀ j, j ∈ pre ls ∨ j ∈ post rs → nd (stepL N k t.top) j = nd N j := fun j hj => by
    have : j ∉ t.seq ++ k :: s.seq := by
      rcases hj with hj | hj
      · exact fun e => hn2.2.2 j hj j e rfl
      · exact fun e => hn1.2.2 j (List.mem_append_right _ e) j hj rfl
    simp only [List.mem_append, List.mem_cons, not_or] at this
    exact t3 j this.2.1 this.1
  have hro : pre rs = [] := by have := h.ro; simpa [pre] using this
  obtain ⟨c2, hl⟩ := h.lp
  have hs1 := List.nodup_append.1 hn2.2.1
  refine ⟨⟨hal k (by simp), (top_ok hT (fun j hj => hal j (by simp [hj]))).1, h2, (top_ok h3 (fun j hj => hal j (by simp [hj]))).1, ⟨p, hT⟩, h3, h4, hs1.1, (List.nodup_cons.1 hs1.2.1).2⟩,
    ⟨⟨c2, hl.congr (fun j hj => hout j (.inl (by rw [h.lo] at hj; simpa using hj)))⟩, ⟨k, h5.congr (fun j hj => hout j (.inr (by rw [hro] at hj; simpa using hj)))⟩, h.ld, fun f hf => h.rd f (by simp [hf]), ⟨_, t1, fun e1 e2 => by rw [h4, e2]; rfl⟩, by simpa [Tr.seq] using hR, h.lo, hro, h.keeps.trans (t2.mono (fun j hj => hsub j (by rcases hj with rfl | hj <;> simp_all)))⟩⟩
end Go.Proofs.YtlmdjghcmofdlaaGreat
