/- Layer 6 (treap): the contracts of what reads a forest. -/
import Derived.Test.YtpbnhbpkfdhedaaTreapForest
namespace Go.Proofs.Ytpbnhbpkfdhedaa
open Go.RowKit
set_option linter.unusedVariables false
variable {Xh : Hx}

theorem Blk.store4 {W : World} {B : Nat} {t : TypeId} {a b c e : Value} (h : Blk W B t #[a, b, c, e]) (a' b' c' e' : Value) : Blk ((((W.setCell ⟨B, 0, none⟩ a').setCell ⟨B, 1, none⟩ b').setCell ⟨B, 2, none⟩ c').setCell ⟨B, 3, none⟩ e') B t #[a', b', c', e'] := by
  simpa using (((h.setAt 0 a').setAt 1 b').setAt 2 c').setAt 3 e'
section
variable {w : World} {F : Nat → Prop} {B : Nat} {K : List Bool} {fr : List Int} {S : Int → List Int} {V : Int → Vl} {mx : Nat}
theorem root_un {d : Option Addr} {G : Nat} {N : List Nt} (h : Frs Xh d w F B G N fr) (hN : N.length ≤ 2147483647) {i : Int} (hb : -2147483648 ≤ i ∧ i ≤ 2147483647) (hi : tk N i = false) :
    Calls Try.prog 63 #[.pointer (some ⟨B, 0, none⟩), .int .i32 i] w fun e w' => e = .returned (.int .i32 0) ∧ w' = w := by
  have HA := at_un h hN hb hi
  clear h
  go_enter Try.func63, Try.ntmps63
  go_wp2_with fail
  refine HA.mono ?_
  rintro e w0 ⟨rfl, rfl⟩
  go_wp2
  go_ret
  exact ⟨rfl, rfl⟩
/-- The root of a sequence's tree, 0 of none; what it tells. -/
theorem Tp.root (h : Tp Xh w F B K fr S V mx) (i : Int) (hb : -2147483648 ≤ i ∧ i ≤ 2147483647) : ∃ x : Int, Calls Try.prog 63 #[.pointer (some ⟨B, 0, none⟩), .int .i32 i] w (fun e w' => e = .returned (.int .i32 x) ∧ w' = w) ∧
    Calls Try.prog 71 #[.pointer (some ⟨B, 0, none⟩), .int .i32 x] w (fun e w' => e = .returned (.int .i64 (S i).length) ∧ w' = w) ∧
    (∀ w1, Below w.heap.size w w1 → Calls Try.prog 67 #[.pointer (some ⟨B, 0, none⟩), .int .i32 x] w1 (fun e w' => e = .returned (vlc (sumV ((S i).map V))) ∧ Below w1.heap.size w1 w')) ∧
    Calls Try.prog 66 #[.pointer (some ⟨B, 0, none⟩), .int .i32 x] w (fun e w' => e = .returned (.int .i32 ((S i).headD 0)) ∧ w' = w) ∧
    (S i = [] → x = 0) ∧ (x ≠ 0 → x ∈ S i) ∧ (S i ≠ [] → x ≠ 0) ∧ (∀ j, (x = 0 ∧ S j = []) ∨ S j ≠ S i ∨ True) := by
  obtain ⟨G, N, d, Fa, h1, h2, h3, h4, h5, h6⟩ := h.ex
  have hN : N.length ≤ 2147483647 := by have := h.klen; rw [← h3, List.length_map] at this; exact this
  cases hi : tk N i with
  | false =>
    have e := h2.none i hi
    refine ⟨0, root_un h1 hN hb hi, ?_, fun w1 hb1 => ?_, ?_, fun _ => rfl, fun h => absurd rfl h, fun h => absurd e h, fun _ => .inr (.inr trivial)⟩
    · rw [e]; exact size_any h1 hN (.inl rfl)
    · rw [e]; exact sum_any (h1.below hb1) hN (.inl rfl)
    · rw [e]; exact leftmost_nil w _
  | true =>
    obtain ⟨t, e, g⟩ := h2.tree i hi
    have hm := h2.mem i hi
    have ht0 : t ≠ .nil := fun e0 => by rw [e0] at e; rw [← e] at hm; simp [Tr.seq] at hm
    obtain ⟨o1, o2, o3⟩ := top_ok g.hang g.all
    have hk := tk_ne (g.all _ (Tr.top_mem ht0))
    refine ⟨t.top, root_tk h1 hN g (by rw [e]; exact hm), ?_, fun w1 hb1 => ?_, ?_, fun h0 => absurd h0 (h2.ne.2 hi), fun _ => by rw [← e]; exact Tr.top_mem ht0, fun _ => hk, fun _ => .inr (.inr trivial)⟩
    · have := size_any h1 hN o1; rw [o2, e] at this; exact this
    · have := sum_any (h1.below hb1) hN o1
      rw [o3, e, show own (nd N) (S i) = (S i).map V from List.map_congr_left (fun j _ => h4 j)] at this
      exact this
    · have := leftmost_tk h1 hN g.hang g.all ht0; rw [e] at this; exact this
theorem tsize_any (h : Tp Xh w F B K fr S V mx) (i : Int) (hb : -2147483648 ≤ i ∧ i ≤ 2147483647) :
    Calls Try.prog 22 #[.pointer (some ⟨B, 0, none⟩), .int .i32 i] w fun e w' => e = .returned (.int .i64 (S i).length) ∧ w' = w := by
  obtain ⟨x, h1, h2, _⟩ := h.root i hb
  clear h
  go_enter Try.func22, Try.ntmps22
  go_wp2_with fail
  refine h1.mono ?_
  rintro e w0 ⟨rfl, rfl⟩
  go_wp2_with fail
  refine h2.mono ?_
  rintro e w1 ⟨rfl, rfl⟩
  go_wp2
  go_ret
  exact ⟨rfl, rfl⟩
theorem tfirst_any (h : Tp Xh w F B K fr S V mx) (i : Int) (hb : -2147483648 ≤ i ∧ i ≤ 2147483647) :
    Calls Try.prog 44 #[.pointer (some ⟨B, 0, none⟩), .int .i32 i] w fun e w' => e = .returned (.int .i32 ((S i).headD 0)) ∧ w' = w := by
  obtain ⟨x, h1, _, _, h2, _⟩ := h.root i hb
  generalize (S i).headD 0 = z at *
  clear h
  go_enter Try.func44, Try.ntmps44
  go_wp2_with fail
  refine h1.mono ?_
  rintro e w0 ⟨rfl, rfl⟩
  go_wp2_with fail
  refine h2.mono ?_
  rintro e w1 ⟨rfl, rfl⟩
  go_wp2
  go_ret
  exact ⟨rfl, rfl⟩
theorem ttotal_any (h : Tp Xh w F B K fr S V mx) (i : Int) (hb : -2147483648 ≤ i ∧ i ≤ 2147483647) :
    Calls Try.prog 17 #[.pointer (some ⟨B, 0, none⟩), .int .i32 i] w fun e w' => e = .returned (vlc (sumV ((S i).map V))) ∧ Below w.heap.size w w' := by
  obtain ⟨x, h1, _, h2, _⟩ := h.root i hb
  have hb1 := (Below.refl w.heap.size w).alloc (Nat.le_refl _) (.cells #[.int .i64 0, .int .i64 0, .int .i64 0, .int .u8 0] 40)
  obtain ⟨y, h1', _, h2', _⟩ := (h.below hb1).root i hb
  have X2 : Hid _ := h2'
  have HB : Hid _ := hb1
  clear h h1 h2 h2' hb1
  go_enter Try.func17, Try.ntmps17
  go_wp2_with fail
  refine h1'.mono ?_
  rintro e w0 ⟨rfl, rfl⟩
  clear h1'
  go_wp2_with fail
  refine (X2.out _ (Below.refl _ _)).mono ?_
  rintro e w1 ⟨rfl, hb2⟩
  have hbk := (Blk.new w 40 #[.int .i64 0, .int .i64 0, .int .i64 0, .int .u8 0]).below hb2
  generalize hZ : sumV ((S i).map V) = Z at *
  have HZ : Hid _ := hZ
  clear hZ
  have c0 := hbk.at (j := 0) rfl
  have c1 := hbk.at (j := 1) rfl
  have c2 := hbk.at (j := 2) rfl
  have c3 := hbk.at (j := 3) rfl
  have f0 := hbk.frozen 0
  have f1 := hbk.frozen 1
  have f2 := hbk.frozen 2
  have f3 := hbk.frozen 3
  have HK : Hid _ := hbk
  have HB2 : Hid (Below w.heap.size w w1) := HB.out.trans (hb2.mono (by simp))
  clear hb2 hbk X2 HB
  go_wp2
  refine bodyPost_ret (results_cell_row rfl _ _ w.heap.size 40 _ (0, 0) _ rfl (Blk.store4 HK.out _ _ _ _) Try.underlying40 rfl (by kernel_rfl)) rfl ?_
  rw [HZ.out]
  exact ⟨rfl, ((((HB2.out.setCell (Nat.le_refl _) _).setCell (Nat.le_refl _) _).setCell (Nat.le_refl _) _).setCell (Nat.le_refl _) _)⟩
end
end Go.Proofs.Ytpbnhbpkfdhedaa
