/- Layer 6 (treap): setRight, lower. -/
import Derived.Test.YtpbnhbpkfdhedaaTreapNode
namespace Go.Proofs.Ytpbnhbpkfdhedaa
open Go.RowKit
set_option linter.unusedVariables false
variable {Xh : Hx}

section
variable {d : Option Addr} {w : World} {F : Nat → Prop} {B G : Nat} {N : List Nt} {fr : List Int}
set_option maxHeartbeats 1000000 in
theorem setRight_any (h : Frs Xh d w F B G N fr) (hN : N.length ≤ 2147483647) {i c : Int} (hi : tk N i = true) (hc : okI N c) (hl : okI N (nd N i).l) (hls : 0 ≤ szOf N (nd N i).l ∧ szOf N (nd N i).l ≤ 2147483647) (hrs : 0 ≤ szOf N c ∧ szOf N c ≤ 2147483647) :
    Calls Try.prog 99 #[.pointer (some ⟨B, 0, none⟩), .int .i32 i, .int .i32 c] w fun e w' => e = .returned (.tuple #[]) ∧ Frs Xh d w' F B G (reckN (hangN (linkR N i c) c i) i) fr ∧ Step F F w w' := by
  have HA := at_tk h hN hi
  have c0 := h.at hi (j := 11) rfl
  have f0 := h.fz hi (loc i + 11)
  have hP := h.put hi (j := 11) (u := .int .i32 c) (n := (nd N i).wr c) (by omega) rfl
  have hc1 : okI (linkR N i c) c := okI_setN _ hi hc
  have H2 : Hid (∀ w1, Frs Xh d w1 F B G (linkR N i c) fr → Calls Try.prog 104 #[.pointer (some ⟨B, 0, none⟩), .int .i32 c, .int .i32 i] w1 fun e w' => e = .returned (.tuple #[]) ∧ Frs Xh d w' F B G (hangN (linkR N i c) c i) fr ∧ Step F F w1 w') :=
    fun w1 h1 => hang_any h1 (by unfold linkR; rw [setN_len]; exact hN) hc1
  have n1 : ∀ j, (nd (linkR N i c) j).size = (nd N j).size ∧ (nd (linkR N i c) j).l = (nd N j).l := fun j => by
    unfold linkR; rw [nd_setN _ hi]; unfold upd; split
    · rename_i e; rw [e]; exact ⟨rfl, rfl⟩
    · exact ⟨rfl, rfl⟩
  have n2 : ∀ j, (nd (hangN (linkR N i c) c i) j).size = (nd N j).size ∧ (nd (hangN (linkR N i c) c i) j).l = (nd N j).l ∧ (nd (hangN (linkR N i c) c i) j).r = (nd (linkR N i c) j).r := fun j => by
    rw [nd_hangN hc1, ← (n1 j).1, ← (n1 j).2]; split <;> exact ⟨rfl, rfl, rfl⟩
  have nl : (nd (hangN (linkR N i c) c i) i).r = c := by rw [(n2 i).2.2]; unfold linkR; rw [nd_setN _ hi, upd_at]; rfl
  have t1 : ∀ j, tk (hangN (linkR N i c) c i) j = tk N j := fun j => by rw [tk_hangN hc1]; unfold linkR; rw [tk_setN _ hi]
  have z : ∀ j, szOf (hangN (linkR N i c) c i) j = szOf N j := fun j => szOf_wu (n2 j).1
  have H3 : Hid (∀ w1, Frs Xh d w1 F B G (hangN (linkR N i c) c i) fr → Calls Try.prog 62 #[.pointer (some ⟨B, 0, none⟩), .int .i32 i] w1 fun e w' => e = .returned (.tuple #[]) ∧ Frs Xh d w' F B G (reckN (hangN (linkR N i c) c i) i) fr ∧ Step F F w1 w') :=
    fun w1 h1 => reckon_any h1 (by rw [hangN_len]; unfold linkR; rw [setN_len]; exact hN) (by rw [t1]; exact hi) (by rw [(n2 i).2.1]; exact hl.imp id (fun h' => by rw [t1]; exact h')) (by rw [nl]; exact hc.imp id (fun h' => by rw [t1]; exact h')) (by rw [(n2 i).2.1, z]; exact hls) (by rw [nl, z]; exact hrs)
  have HP : Hid _ := hP
  clear h hi hc hl hls hrs hP hc1 n1 n2 nl t1 z
  go_enter Try.func99, Try.ntmps99
  go_wp2_with fail
  refine HA.mono ?_
  rintro e w0 ⟨rfl, rfl⟩
  clear HA
  go_wp2_with fail
  refine (H2.out _ HP.out.1).mono ?_
  rintro e w2 ⟨rfl, a2, b2⟩
  have A2 : Hid _ := a2
  have B2 : Hid (Step F F w0 w2) := HP.out.2.trans b2
  clear a2 b2 HP H2 c0 f0
  go_wp2_with fail
  refine (H3.out _ A2.out).mono ?_
  rintro e w3 ⟨rfl, a3, b3⟩
  have A3 : Hid _ := a3
  have B3 : Hid (Step F F w0 w3) := B2.out.trans b3
  clear a3 b3 A2 B2 H3
  go_wp2
  go_returns
  exact ⟨rfl, A3.out, B3.out⟩
/-- Whether the last one is next in a zip; 0 is never next. -/
def lowB (N : List Nt) (a b : Int) : Bool := if a = 0 then false else if b = 0 then true else decide ((nd N a).pr < (nd N b).pr)
theorem lower_any (h : Frs Xh d w F B G N fr) (hN : N.length ≤ 2147483647) {a b : Int} (ha : okI N a) (hb : okI N b) :
    Calls Try.prog 98 #[.pointer (some ⟨B, 0, none⟩), .int .i32 a, .int .i32 b] w fun e w' => e = .returned (.bool (lowB N a b)) ∧ Below w.heap.size w w' := by
  by_cases h0 : a = 0
  · subst h0
    rw [show lowB N 0 b = false from if_pos rfl]
    clear h ha hb
    go_enter Try.func98, Try.ntmps98
    go_wp2
    go_returns
    exact ⟨rfl, Below.refl _ _⟩
  · by_cases h1 : b = 0
    · subst h1
      rw [show lowB N a 0 = true by unfold lowB; rw [if_neg h0, if_pos rfl]]
      clear h ha hb
      have h0' : (a != 0) = true := by simpa using h0
      have h0'' : (a == 0) = false := by simpa using h0
      go_enter Try.func98, Try.ntmps98
      go_wp2
      go_ret
      exact ⟨rfl, Below.refl _ _⟩
    · have ha' := ha.resolve_left h0
      have hb' := hb.resolve_left h1
      rw [show lowB N a b = decide ((nd N a).pr < (nd N b).pr) by unfold lowB; rw [if_neg h0, if_neg h1]]
      have HA : Hid (∀ (g : Grow w) (j : Int), tk N j = true → Calls Try.prog 69 #[.pointer (some ⟨B, 0, none⟩), .int .i32 j] g.w fun e w' => e = .returned (.pointer (some ⟨G, loc j, none⟩)) ∧ Below g.w.heap.size g.w w') :=
        fun g j hj => (at_tk (h.below g.h) hN hj).mono fun e w' ⟨h1, h2⟩ => ⟨h1, by rw [h2]; exact Below.refl _ _⟩
      have hG := h.lt G (h.g ha').1
      have ca : ∀ g : Grow w, g.w.cell? ⟨G, loc a + 9, none⟩ = some (.int .u32 (nd N a).pr) := Grow.cell hG (h.at ha' (j := 9) rfl)
      have cb : ∀ g : Grow w, g.w.cell? ⟨G, loc b + 9, none⟩ = some (.int .u32 (nd N b).pr) := Grow.cell hG (h.at hb' (j := 9) rfl)
      have T1 : Hid (tk N a = true) := ha'
      have T2 : Hid (tk N b = true) := hb'
      have hne := Grow.ne w
      have h0' : (a == 0) = false := by simpa using h0
      have h1' : (b == 0) = false := by simpa using h1
      clear h ha hb ha' hb'
      go_enter Try.func98, Try.ntmps98
      go_wp2_with fail
      refine wp_region_grow (by kernel_rfl) (by kernel_rfl) ?_
      repeat (go_big_quiet_step ((go_at_call 69; exact grow_call (HA.out _ _ (by first | exact T1.out | exact T2.out)))))
      refine wpQuiet_nil ?_
      rintro w3 ⟨⟨_, hb3⟩, rfl⟩
      go_wp2
      go_ret
      exact ⟨rfl, hb3⟩
end
end Go.Proofs.Ytpbnhbpkfdhedaa
