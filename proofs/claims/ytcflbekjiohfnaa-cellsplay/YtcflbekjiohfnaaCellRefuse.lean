/- refuses: slices.ContainsFunc over edits, with its two function literals. -/
import Derived.Test.YtcflbekjiohfnaaCellFill
namespace Go.Proofs.Ytcflbekjiohfnaa
open Go.RowKit
set_option linter.unusedVariables false

/-- The edits that a slice's address leads to. -/
def EAt (W : World) (ao : Option Addr) (es : List Ed) : Prop := es = [] ∨ ∃ b off, ao = some ⟨b, off, none⟩ ∧
  ∀ i, i < es.length → W.cell? ⟨b, off + i * 2, none⟩ = some (.int .i64 (eAt es i).1) ∧ W.cell? ⟨b, off + i * 2 + 1, none⟩ = some (.int .i64 (eAt es i).2)
theorem EAt.below {W W' : World} {ao : Option Addr} {es : List Ed} (h : EAt W ao es) (hb : Below W.heap.size W W') : EAt W' ao es := by
  rcases h with h | ⟨b, off, e, h⟩
  · exact .inl h
  · exact .inr ⟨b, off, e, fun i hi => ⟨(hb.cell (p := ⟨b, _, none⟩) (cell_lt (h i hi).1)).trans (h i hi).1, (hb.cell (p := ⟨b, _, none⟩) (cell_lt (h i hi).2)).trans (h i hi).2⟩⟩
/-- No edit lies in block K. -/
def EOff (ao : Option Addr) (es : List Ed) (K : Nat) : Prop := es = [] ∨ ∀ a, ao = some a → a.block ≠ K
theorem EAt.but {W W' : World} {ao : Option Addr} {es : List Ed} {n K : Nat} (h : EAt W ao es) (hb : But W.heap.size K W W') (hK : EOff ao es K) : EAt W' ao es := by
  rcases h with h | ⟨b, off, e, h⟩
  · exact .inl h
  · rcases hK with hK | hK
    · exact .inl hK
    · have hn := hK _ e
      exact .inr ⟨b, off, e, fun i hi => ⟨(hb.cell (cell_lt (h i hi).1) hn).trans (h i hi).1, (hb.cell (cell_lt (h i hi).2) hn).trans (h i hi).2⟩⟩

abbrev ed (e : Ed) : Value := .agg #[.int .i64 e.1, .int .i64 e.2]
theorem any_snoc {es : List Ed} {i : Nat} (q : Ed → Bool) (h : i < es.length) : (es.take (i + 1)).any q = ((es.take i).any q || q (eAt es i)) := by
  rw [etake_snoc h]; simp

set_option maxRecDepth 100000 in
set_option maxHeartbeats 1600000 in
/-- slices.IndexFunc over edits: not below 0 just where the function says true of one of them. -/
theorem indexFunc_any (g : Nat) (lb : Array Value) (eg : ∀ args w, (callFunc g args).run Try.prog w = .ok (.enter g args) w) (q : Ed → Bool) (ao : Option Addr) (cap : Nat) (es : List Ed) (w : World) (hes : es.length ≤ 9223372036854775807) (he : EAt w ao es)
    (hp : ∀ (W : World) (x : Ed), Below w.heap.size w W → Calls Try.prog g (#[ed x] ++ lb) W fun e w' => e = .returned (.bool (q x)) ∧ Below W.heap.size W w') :
    Calls Try.prog 64 #[.slice ao es.length cap, .func (.func g) #[] lb] w fun e w' => ∃ r : Int, e = .returned (.int .i64 r) ∧ Hid (decide (0 ≤ r) = es.any q) ∧ Below w.heap.size w w' := by
  have HP : Hid (∀ (W : World) (x : Ed), Below w.heap.size w W → Calls Try.prog g (#[ed x] ++ lb) W fun e w' => e = .returned (.bool (q x)) ∧ Below W.heap.size W w') := hp
  have HE : Hid (EAt w ao es) := he
  clear hp he
  generalize hN : es.length = N at *
  go_enter Try.func64, Try.ntmps64
  go_wp2
  go_loopw [8] (fun i wr => ∃ k : Nat, k ≤ N ∧ i = .int .i64 k ∧ Hid ((es.take k).any q = false) ∧ Below w.heap.size w wr) (fun i _ => N - (intOf i).toNat)
  case atStart => exact ⟨0, Nat.zero_le _, rfl, (show (es.take 0).any q = false by simp), Below.refl _ _⟩
  case round =>
    obtain ⟨k, hkn, rfl, HA, hB⟩ := hrel
    by_cases hlt : k < N
    · rcases HE.out with h | ⟨b, off, rfl, hc⟩
      · rw [h] at hN; simp at hN; omega
      · have c0 := (hc k (by omega)).1
        have c1 := (hc k (by omega)).2
        have c0' := (hB.cell (p := ⟨b, _, none⟩) (cell_lt c0)).trans c0
        have c1' := (hB.cell (p := ⟨b, _, none⟩) (cell_lt c1)).trans c1
        have HS : Hid ((es.take (k + 1)).any q = ((es.take k).any q || q (eAt es k))) := any_snoc q (by omega)
        have HM : Hid (eAt es k ∈ es) := eAt_mem (by omega)
        have hcall := HP.out wr (eAt es k) hB
        clear hc c0 c1
        generalize eAt es k = x at *
        cases hq : q x with
        | true =>
          rw [hq] at hcall
          have HQ : Hid (q x = true) := hq
          clear hq
          go_wp2_with (go_at_fn g; refine hcall.mono ?_; rintro e w' ⟨rfl, hb'⟩)
          go_ret
          refine ⟨_, rfl, ?_, below_step hB hb' (Nat.le_refl _)⟩
          show _ = _
          rw [show es.any q = true from List.any_eq_true.2 ⟨x, HM.out, HQ.out⟩]
          simp
        | false =>
          rw [hq] at hcall
          have HQ : Hid (q x = false) := hq
          clear hq
          go_wp2_with (go_at_fn g; refine hcall.mono ?_; rintro e w' ⟨rfl, hb'⟩)
          go_roundw
          case rel => exact ⟨k + 1, by omega, by go_num, (show (es.take (k + 1)).any q = false by rw [HS.out, HA.out, HQ.out]; rfl), below_step hB hb' (Nat.le_refl _)⟩
          case measure => simp [intOf]; omega
    · have hke : k = es.length := by omega
      go_wp2
      go_ret
      refine ⟨_, rfl, ?_, hB⟩
      show _ = _
      have := HA.out
      rw [hke, List.take_length] at this
      rw [this]; rfl

set_option maxHeartbeats 800000 in
theorem containsFunc_any (g : Nat) (lb : Array Value) (eg : ∀ args w, (callFunc g args).run Try.prog w = .ok (.enter g args) w) (q : Ed → Bool) (ao : Option Addr) (cap : Nat) (es : List Ed) (w : World) (hes : es.length ≤ 9223372036854775807) (he : EAt w ao es)
    (hp : ∀ (W : World) (x : Ed), Below w.heap.size w W → Calls Try.prog g (#[ed x] ++ lb) W fun e w' => e = .returned (.bool (q x)) ∧ Below W.heap.size W w') :
    Calls Try.prog 53 #[.slice ao es.length cap, .func (.func g) #[] lb] w fun e w' => e = .returned (.bool (es.any q)) ∧ Below w.heap.size w w' := by
  have HP : Hid (∀ (W : World) (x : Ed), Below w.heap.size w W → Calls Try.prog g (#[ed x] ++ lb) W fun e w' => e = .returned (.bool (q x)) ∧ Below W.heap.size W w') := hp
  have HE : Hid (EAt w ao es) := he
  clear hp he
  go_enter Try.func53, Try.ntmps53
  go_wp2_with fail
  refine (indexFunc_any g lb eg q ao cap es w hes HE.out HP.out).mono ?_
  rintro e w1 ⟨r, rfl, HR, hb⟩
  go_wp2
  go_ret
  exact ⟨ret_of (congrArg Value.bool HR.out), hb⟩

set_option maxHeartbeats 800000 in
/-- The two function literals. -/
theorem nokind_any {p : Value} {ks : List Kd} {cl : Int} {L : List Int} {w : World} {G : Nat} (h : GV w p ks cl L) (hG : w.cell? ⟨G, 0, none⟩ = some p) (x : Ed) :
    Calls Try.prog 54 #[ed x, .pointer (some ⟨G, 0, none⟩)] w fun e w' => e = .returned (.bool (!hasN ks.length x.2)) ∧ Below w.heap.size w w' := by
  have hlt := cell_lt hG
  have HG : Hid (GV (w.alloc (.cells #[.int .i64 x.1, .int .i64 x.2] 36)) p ks cl L) := h.below ((Below.refl _ _).alloc (Nat.le_refl _) _)
  clear h
  go_enter Try.func54, Try.ntmps54
  go_wp2_with fail
  refine (ghasKind_any HG.out _).mono ?_
  rintro e w1 ⟨rfl, rfl⟩
  go_wp2
  go_ret
  exact ⟨rfl, (Below.refl _ _).alloc (Nat.le_refl _) _⟩
set_option maxHeartbeats 800000 in
theorem nocell_any {p : Value} {ks : List Kd} {cl : Int} {L : List Int} {w : World} {G : Nat} (h : GV w p ks cl L) (hG : w.cell? ⟨G, 0, none⟩ = some p) (x : Ed) :
    Calls Try.prog 55 #[ed x, .pointer (some ⟨G, 0, none⟩)] w fun e w' => e = .returned (.bool (!hasN L.length x.1)) ∧ Below w.heap.size w w' := by
  have hlt := cell_lt hG
  have HG : Hid (GV (w.alloc (.cells #[.int .i64 x.1, .int .i64 x.2] 36)) p ks cl L) := h.below ((Below.refl _ _).alloc (Nat.le_refl _) _)
  clear h
  go_enter Try.func55, Try.ntmps55
  go_wp2_with fail
  refine (ghasCell_any HG.out _).mono ?_
  rintro e w1 ⟨rfl, rfl⟩
  go_wp2
  go_ret
  exact ⟨rfl, (Below.refl _ _).alloc (Nat.le_refl _) _⟩

/-- What a batch is refused with, in the program's order. -/
theorem errB_eq (nk nc : Int) (es : List Ed) : errB nk nc es = if es.any (fun e => !hasN nk e.2) then 7 else if es.any (fun e => !hasN nc e.1) then 6 else if 65536 < es.length then 9 else 0 := rfl

set_option maxHeartbeats 400000 in
theorem refuses_nil (v : Value) (w : World) : Calls Try.prog 37 #[.pointer none, v] w fun e w' => e = .returned (.int .i64 2) ∧ Below w.heap.size w w' := by
  go_enter Try.func37, Try.ntmps37
  go_wp2
  go_ret
  exact ⟨rfl, (Below.refl _ _).alloc (Nat.le_refl _) _⟩

set_option maxRecDepth 100000 in
set_option maxHeartbeats 1600000 in
theorem refuses_any {w : World} {B : Nat} {ks : List Kd} {cl : Int} {L : List Int} (h : GV w (.pointer (some ⟨B, 0, none⟩)) ks cl L) (ao : Option Addr) (cap : Nat) (es : List Ed) (hes : es.length ≤ 9223372036854775807) (he : EAt w ao es) :
    Calls Try.prog 37 #[.pointer (some ⟨B, 0, none⟩), .slice ao es.length cap] w fun e w' => e = .returned (.int .i64 (errB ks.length L.length es)) ∧ Below w.heap.size w w' := by
  obtain ⟨G, hGe⟩ : ∃ G, G = w.heap.size := ⟨_, rfl⟩
  obtain ⟨X, hX⟩ : ∃ X, X = w.alloc (.cells #[.pointer (some ⟨B, 0, none⟩)] 22) := ⟨_, rfl⟩
  have hXb : Below w.heap.size w X := by rw [hX]; exact (Below.refl _ _).alloc (Nat.le_refl _) _
  have hXG : X.cell? ⟨G, 0, none⟩ = some (.pointer (some ⟨B, 0, none⟩)) := by rw [hX, hGe]; exact (Blk.new w _ _).cell1
  have HC : Hid (∀ W, Below X.heap.size X W → Calls Try.prog 53 #[.slice ao es.length cap, .func (.func 54) #[] #[.pointer (some ⟨G, 0, none⟩)]] W fun e w' => e = .returned (.bool (es.any (fun e => !hasN ks.length e.2))) ∧ Below W.heap.size W w') := fun W hW =>
    containsFunc_any _ _ (enters_of Try.func54 (by kernel_rfl) rfl) _ ao cap es W hes ((he.below hXb).below hW) (fun W' x hW' =>
      nokind_any (((h.below hXb).below hW).below hW') ((hW'.cell (p := ⟨G, 0, none⟩) (Nat.lt_of_lt_of_le (cell_lt hXG) hW.size)).trans ((hW.cell (p := ⟨G, 0, none⟩) (cell_lt hXG)).trans hXG)) x)
  have HD : Hid (∀ W, Below X.heap.size X W → Calls Try.prog 53 #[.slice ao es.length cap, .func (.func 55) #[] #[.pointer (some ⟨G, 0, none⟩)]] W fun e w' => e = .returned (.bool (es.any (fun e => !hasN L.length e.1))) ∧ Below W.heap.size W w') := fun W hW =>
    containsFunc_any _ _ (enters_of Try.func55 (by kernel_rfl) rfl) _ ao cap es W hes ((he.below hXb).below hW) (fun W' x hW' =>
      nocell_any (((h.below hXb).below hW).below hW') ((hW'.cell (p := ⟨G, 0, none⟩) (Nat.lt_of_lt_of_le (cell_lt hXG) hW.size)).trans ((hW.cell (p := ⟨G, 0, none⟩) (cell_lt hXG)).trans hXG)) x)
  have HE : Hid (errB ks.length L.length es = if es.any (fun e => !hasN ks.length e.2) then 7 else if es.any (fun e => !hasN L.length e.1) then 6 else if 65536 < es.length then 9 else 0) := errB_eq _ _ _
  clear h he
  generalize es.any (fun e => !hasN ks.length e.2) = q1 at *
  generalize es.any (fun e => !hasN L.length e.1) = q2 at *
  generalize errB ks.length L.length es = r at *
  generalize es.length = N at *
  subst hGe
  have HXb : Hid (Below w.heap.size w X) := hXb
  have HXG : Hid (X.cell? ⟨w.heap.size, 0, none⟩ = some (.pointer (some ⟨B, 0, none⟩))) := hXG
  have HX : Hid (X = w.alloc (.cells #[.pointer (some ⟨B, 0, none⟩)] 22)) := hX
  clear hXb hXG hX
  go_enter Try.func37, Try.ntmps37
  go_wp2_with fail
  refine (HC.out _ (by rw [HX.out]; exact Below.refl _ _)).mono ?_
  rintro e w1 ⟨rfl, hb1⟩
  have hB1 : Below X.heap.size X w1 := by rw [HX.out]; exact hb1
  have hB1' : Below w.heap.size w w1 := HXb.out.trans (hB1.mono HXb.out.size)
  cases q1 with
  | true =>
    go_wp2
    go_ret
    exact ⟨ret_of (congrArg (Value.int IntKind.i64) HE.out.symm), hB1'⟩
  | false =>
    go_wp2_with fail
    refine (HD.out _ hB1).mono ?_
    rintro e w2 ⟨rfl, hb2⟩
    have hB2' : Below w.heap.size w w2 := below_step hB1' hb2 (Nat.le_refl _)
    cases q2 with
    | true =>
      go_wp2
      go_ret
      exact ⟨ret_of (congrArg (Value.int IntKind.i64) HE.out.symm), hB2'⟩
    | false =>
      by_cases hN : 65536 < N
      · have hr : r = 9 := by have := HE.out; simpa [hN] using this
        subst hr
        go_wp2
        go_ret
        exact ⟨rfl, hB2'⟩
      · have hr : r = 0 := by have := HE.out; simpa [hN] using this
        subst hr
        go_wp2
        go_ret
        exact ⟨rfl, hB2'⟩
end Go.Proofs.Ytcflbekjiohfnaa
