/- The document's machine of layer 3: May, Cost, Batch. -/
import Derived.Test.YtcflbekjiohfnaaCellRef
namespace Go.Proofs.Ytcflbekjiohfnaa
open Go.RowKit
set_option linter.unusedVariables false
attribute [local go_sem ↓] Go.wp_at_zero Go.wp_at_succ

set_option maxRecDepth 100000 in
set_option maxHeartbeats 1600000 in
theorem rmay_any {w : World} {base RB kc : Nat} {zw zh cl : Int} {ao : Option Addr} {ks : List Kd} {L : List Int} (h : RG w base RB zw zh (.slice ao ks.length kc) cl L) (hk : KAt w ao ks) (hw : Wk ks) (hc : cl ≤ 8) (hn : ks.length ≤ 16) (c x : Int) :
    Calls Try.prog 23 #[.pointer (some ⟨RB, 0, none⟩), .int .i64 c, .int .i64 x] w fun e w' => e = .returned (.bool (gmayN ks cl L c x)) ∧ Below w.heap.size w w' := by
  obtain ⟨lb, lc, hblk, h2, h3, h4, h5⟩ := h.ex
  have hRB := hblk.lt
  have c2 : w.cell? ⟨RB, 2, none⟩ = some (.slice ao ks.length kc) := hblk.at (j := 2) rfl
  have c3 : w.cell? ⟨RB, 3, none⟩ = some (.int .i64 cl) := hblk.at (j := 3) rfl
  have c4 : w.cell? ⟨RB, 4, none⟩ = some (.slice (some ⟨lb, 0, none⟩) L.length lc) := hblk.at (j := 4) rfl
  have hl2 := h.l2
  have HK : Hid (KAt w ao ks) := hk
  have HR : Hid (RowC w lb L) := h5
  clear h hblk hk h5
  by_cases h0 : x < 0
  · have hz : gmayN ks cl L c x = false := by
      unfold gmayN
      rw [show hasN L.length x = false from by
        cases hh : hasN L.length x with
        | false => rfl
        | true => have := hasN_iff.1 hh; omega]
      rfl
    rw [hz]
    clear hz
    go_enter Try.func23, Try.ntmps23
    go_wp2
    go_ret
    exact ⟨rfl, Below.refl _ _⟩
  · by_cases h1 : (L.length : Int) ≤ x
    · have hz : gmayN ks cl L c x = false := by
        unfold gmayN
        rw [show hasN L.length x = false from by
          cases hh : hasN L.length x with
          | false => rfl
          | true => have := hasN_iff.1 hh; omega]
        rfl
      rw [hz]
      clear hz
      go_enter Try.func23, Try.ntmps23
      go_wp2
      go_ret
      exact ⟨rfl, Below.refl _ _⟩
    · have hh : hasN L.length x = true := hasN_iff.2 ⟨by omega, by omega⟩
      have HZ : Hid (gmayN ks cl L c x = mayB ks cl c (lAt L x.toNat)) := by
        show _ = _
        unfold gmayN getN; rw [hh]; rfl
      have c5 := (HR.out x.toNat (by omega)).1
      have hx0 : 0 ≤ x := by omega
      have hx1 : x < L.length := by omega
      generalize lAt L x.toNat = y at *
      have HCl : Hid (∀ g : Grow w, Calls Try.prog 44 #[.slice ao ks.length kc, .int .i64 cl, .int .i64 c, .int .i64 y] g.w fun e w' => e = .returned (.bool (mayB ks cl c y)) ∧ Below g.w.heap.size g.w w') :=
        fun g => (refMay_any ao kc ks cl c y g.w (HK.out.below g.h) hw hc hn).mono (fun e w' hq => ⟨hq.1, by rw [hq.2]; exact Below.refl _ _⟩)
      have g2 := Grow.cell hRB c2
      have g3 := Grow.cell hRB c3
      have g4 := Grow.cell hRB c4
      have g5 := Grow.cell h4 c5
      have gn := Grow.ne w
      clear hh HR
      generalize ks.length = kn at *
      generalize L.length = M at *
      go_enter Try.func23, Try.ntmps23
      go_wp2
      refine wp_region_grow (by kernel_rfl) (by kernel_rfl) ?_
      repeat (go_big_quiet_step ((go_at_call 44; exact grow_call (HCl.out _))))
      refine wpQuiet_nil ?_
      rintro w6 ⟨⟨_, hb6⟩, rfl⟩
      clear g2 g3 g4 g5 gn
      go_wp2
      go_ret
      exact ⟨ret_of (congrArg Value.bool HZ.out.symm), hb6⟩

set_option maxRecDepth 100000 in
set_option maxHeartbeats 1600000 in
theorem rcost_any {w : World} {base RB kc : Nat} {zw zh cl : Int} {ao : Option Addr} {ks : List Kd} {L : List Int} (h : RG w base RB zw zh (.slice ao ks.length kc) cl L) (hk : KAt w ao ks) (hin : Kin ks.length L) (hn : ks.length ≤ 16) (x : Int) :
    Calls Try.prog 25 #[.pointer (some ⟨RB, 0, none⟩), .int .i64 x] w fun e w' => e = .returned (.int .i64 (gcostN ks L x)) ∧ Below w.heap.size w w' := by
  obtain ⟨lb, lc, hblk, h2, h3, h4, h5⟩ := h.ex
  have hRB := hblk.lt
  have c2 : w.cell? ⟨RB, 2, none⟩ = some (.slice ao ks.length kc) := hblk.at (j := 2) rfl
  have c4 : w.cell? ⟨RB, 4, none⟩ = some (.slice (some ⟨lb, 0, none⟩) L.length lc) := hblk.at (j := 4) rfl
  have hl2 := h.l2
  have HR : Hid (RowC w lb L) := h5
  by_cases h0 : x < 0
  · have hz : gcostN ks L x = 0 := by
      unfold gcostN
      rw [show hasN L.length x = false from by
        cases hh : hasN L.length x with
        | false => rfl
        | true => have := hasN_iff.1 hh; omega]
      rfl
    rw [hz]
    clear hz h hblk hk h5
    go_enter Try.func25, Try.ntmps25
    go_wp2
    go_ret
    exact ⟨rfl, Below.refl _ _⟩
  · by_cases h1 : (L.length : Int) ≤ x
    · have hz : gcostN ks L x = 0 := by
        unfold gcostN
        rw [show hasN L.length x = false from by
          cases hh : hasN L.length x with
          | false => rfl
          | true => have := hasN_iff.1 hh; omega]
        rfl
      rw [hz]
      clear hz h hblk hk h5
      go_enter Try.func25, Try.ntmps25
      go_wp2
      go_ret
      exact ⟨rfl, Below.refl _ _⟩
    · have hh : hasN L.length x = true := hasN_iff.2 ⟨by omega, by omega⟩
      have hy := hin.at (i := x.toNat) (by omega)
      have HZ : Hid (gcostN ks L x = (kAt ks (lAt L x.toNat).toNat).1) := by
        show _ = _
        unfold gcostN getN costN
        rw [hh]
        simp only [if_true]
        rw [if_pos (hasN_iff.2 hy)]
      have c5 := (HR.out x.toNat (by omega)).1
      rcases hk with hk | ⟨b, off, rfl, hk⟩
      · rw [hk] at hy; simp at hy; omega
      · have c6 := (hk (lAt L x.toNat).toNat (by omega)).1
        have hx0 : 0 ≤ x := by omega
        have hx1 : x < L.length := by omega
        have hy0 := hy.1
        have hy1 := hy.2
        have g2 := Grow.cell hRB c2
        have g4 := Grow.cell hRB c4
        have g5 := Grow.cell h4 c5
        have g6 := Grow.cell (cell_lt c6) c6
        have gn := Grow.ne w
        clear hh HR hk h hblk h5 hin hy c5 c6
        generalize (kAt ks (lAt L x.toNat).toNat).1 = r at *
        generalize lAt L x.toNat = y at *
        generalize ks.length = kn at *
        generalize L.length = M at *
        go_enter Try.func25, Try.ntmps25
        go_wp2
        refine wp_region_grow (by kernel_rfl) (by kernel_rfl) ?_
        repeat (go_big_quiet_step (fail))
        refine wpQuiet_nil ?_
        rintro w6 ⟨⟨_, hb6⟩, rfl⟩
        clear g2 g4 g5 g6 gn
        go_wp2
        go_ret
        exact ⟨ret_of (congrArg (Value.int IntKind.i64) HZ.out.symm), hb6⟩
end Go.Proofs.Ytcflbekjiohfnaa
