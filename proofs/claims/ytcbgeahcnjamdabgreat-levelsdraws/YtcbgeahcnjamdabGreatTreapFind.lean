/- Layer 6 (treap): Find. -/
import Derived.Test.YtcbgeahcnjamdabGreatTreapReadThree
namespace Go.Proofs.YtcbgeahcnjamdabGreat
open Go.RowKit
set_option linter.unusedVariables false
variable {Xh : Hx}

theorem find_app {α : Type} {p : α → Bool} {a b : List α} (h : a.any p = true) : (a ++ b).find? p = a.find? p := by
  rw [List.find?_append]
  obtain ⟨x, h1, h2⟩ := List.any_eq_true.1 h
  have := List.find?_isSome.2 ⟨x, h1, h2⟩
  obtain ⟨y, hy⟩ := Option.isSome_iff_exists.1 this
  rw [hy]; rfl
theorem find_none' {α : Type} {p : α → Bool} {a b : List α} (h : a.any p = false) : (a ++ b).find? p = b.find? p := by
  rw [List.find?_append]
  rw [List.find?_eq_none.2 (fun x hx => by have := List.any_eq_false.1 h x hx; simpa using this)]
  rfl
set_option maxRecDepth 100000 in
/-- The fields of a value. -/
theorem fldM (a b c d : Value) (w : World) : Sem.run Tryz.prog (Instr.field 128 (.agg #[a, b, c, d]) 3) w = .ok d w := by kernel_rfl
theorem fldV (Z : Vl) (w : World) : Sem.run Tryz.prog (Instr.field 128 (vlc Z) 3) w = .ok (.int .u8 Z.m) w := fldM _ _ _ _ w
section
variable {w : World} {F : Nat → Prop} {B : Nat} {K : List Bool} {fr : List Int} {S : Int → List Int} {V : Int → Vl} {mx : Nat}
theorem own_V {N : List Nt} {V : Int → Vl} (h : ∀ i, (nd N i).own = V i) (xs : List Int) : own (nd N) xs = xs.map V := List.map_congr_left (fun j _ => h j)
set_option maxRecDepth 100000 in
set_option maxHeartbeats 2000000 in
theorem tfind_any (h : Tp Xh w F B K fr S V mx) (i : Int) (mask : Int) (hb : -2147483648 ≤ i ∧ i ≤ 2147483647) (hmk : 0 ≤ mask ∧ mask ≤ 255) :
    Calls Tryz.prog 132 #[.pointer (some ⟨B, 0, none⟩), .int .i32 i, .int .u8 mask] w fun e w' => e = .returned (.int .i32 (fdS V (S i) mask)) ∧ Below w.heap.size w w' := by
  cases hany : (S i).any fun j => hasB (V j).m mask with
  | false =>
    rw [show fdS V (S i) mask = 0 by unfold fdS; rw [List.find?_eq_none.2 (fun x hx => by have := List.any_eq_false.1 hany x hx; simpa using this)]; rfl]
    obtain ⟨x, h1, _, h2, _⟩ := h.root i hb
    have hz : hasB (sumV ((S i).map V)).m mask = false := by rw [sumV_mark, List.any_map]; exact hany
    have hz' : (bits BinOp.and IntKind.u8 (sumV ((S i).map V)).m mask == 0) = true := by unfold hasB at hz; simpa using hz
    generalize sumV ((S i).map V) = Z at *
    have X2 : Hid (∀ w1, Below w.heap.size w w1 → Calls Tryz.prog 122 #[.pointer (some ⟨B, 0, none⟩), .int .i32 x] w1 (fun e w' => e = .returned (vlc Z) ∧ Below w1.heap.size w1 w')) := h2
    have hfl := fldV
    clear h hany h2 hz
    go_enter Tryz.func132, Tryz.ntmps132
    go_wp2_with fail
    refine h1.mono ?_
    rintro e w0 ⟨rfl, rfl⟩
    go_wp2_with fail
    refine (X2.out _ (Below.refl _ _)).mono ?_
    rintro e w1 ⟨rfl, hb1⟩
    go_wp2
    go_ret
    exact ⟨rfl, hb1⟩
  | true =>
    obtain ⟨G, N, d, Fa, h1, h2, h3, h4, h5, h6⟩ := h.ex
    have hN : N.length ≤ 2147483647 := by have := h.klen; rw [← h3, List.length_map] at this; exact this
    have hi : tk N i = true := h2.ne.1 (fun e => by rw [e] at hany; simp at hany)
    obtain ⟨t, e, g⟩ := h2.tree i hi
    have hm := h2.mem i hi
    have ht0 : t ≠ .nil := fun e0 => by rw [e0] at e; rw [← e] at hm; simp [Tr.seq] at hm
    rw [← e] at hany ⊢
    have HR := root_tk h1 hN g (by rw [e]; exact hm)
    have HA : Hid (∀ w1, Below w.heap.size w w1 → ∀ j, tk N j = true → Calls Tryz.prog 119 #[.pointer (some ⟨B, 0, none⟩), .int .i32 j] w1 fun e w' => e = .returned (.pointer (some ⟨G, loc j, none⟩)) ∧ w' = w1) := fun w1 hb1 j hj => at_tk (h1.below hb1) hN hj
    have HM : Hid (∀ w1, Below w.heap.size w w1 → ∀ (p : Tr) (q : Int), Hang (nd N) q p → AllTk N p.seq → Calls Tryz.prog 122 #[.pointer (some ⟨B, 0, none⟩), .int .i32 p.top] w1 fun e w' => e = .returned (vlc (sumV (p.seq.map V))) ∧ Below w1.heap.size w1 w') := fun w1 hb1 p q hp ha => by
      obtain ⟨o1, _, o3⟩ := top_ok hp ha
      have := sum_any (h1.below hb1) hN o1
      rwa [o3, own_V h4] at this
    have HU : Hid (∀ w1, Below w.heap.size w w1 → ∀ j, tk N j = true → w1.cell? ⟨G, loc j + 10, none⟩ = some (.int .i32 (nd N j).l) ∧ w1.cell? ⟨G, loc j + 11, none⟩ = some (.int .i32 (nd N j).r) ∧ w1.cell? ⟨G, loc j + 3, none⟩ = some (.int .u8 (V j).m)) :=
      fun w1 hb1 j hj => ⟨(h1.below hb1).at hj rfl, (h1.below hb1).at hj rfl, by rw [← h4]; exact (h1.below hb1).at hj rfl⟩
    have HB : ∀ (xs : List Int), xs.any (fun j => hasB (V j).m mask) = true → (bits BinOp.and IntKind.u8 (sumV (xs.map V)).m mask == 0) = false ∧ (bits BinOp.and IntKind.u8 (sumV (xs.map V)).m mask != 0) = true := fun xs hx => by
      have hz : hasB (sumV (xs.map V)).m mask = true := by rw [sumV_mark, List.any_map]; exact hx
      unfold hasB at hz
      exact ⟨by simpa using hz, hz⟩
    have HB' : ∀ (xs : List Int), xs.any (fun j => hasB (V j).m mask) = false → (bits BinOp.and IntKind.u8 (sumV (xs.map V)).m mask != 0) = false := fun xs hx => by
      have hz : hasB (sumV (xs.map V)).m mask = false := by rw [sumV_mark, List.any_map]; exact hx
      unfold hasB at hz
      exact hz
    have HBB : Hid _ := HB
    have HBB' : Hid _ := HB'
    have HT : Hid (Hang (nd N) 0 t ∧ AllTk N t.seq ∧ t ≠ .nil ∧ t.seq.any (fun j => hasB (V j).m mask) = true) := ⟨g.hang, g.all, ht0, hany⟩
    have hz1 := (HB t.seq hany).1
    have HM0 := HM.out w (Below.refl _ _) t 0 g.hang g.all
    generalize hfd : fdS V t.seq mask = z at *
    have HFD : Hid (fdS V t.seq mask = z) := hfd
    have hfl := fldV
    generalize hZ1 : sumV (t.seq.map V) = Z1 at *
    clear h h1 h2 h3 h4 h5 h6 hany hi e g hm ht0 HB HB' hfd hZ1
    go_enter Tryz.func132, Tryz.ntmps132
    go_wp2_with fail
    refine HR.mono ?_
    rintro e w0 ⟨rfl, rfl⟩
    go_wp2_with fail
    refine HM0.mono ?_
    rintro e w1 ⟨rfl, hb1⟩
    have HW : Hid (Below w0.heap.size w0 w1) := hb1
    clear HR HM0 hb1
    go_wp2
    go_loopg [7] t.seq.length (fun q vk wr => ∃ (p : Tr) (y : Int), p.seq.length = q ∧ vk = .int .i32 p.top ∧ Hid (Hang (nd N) y p ∧ AllTk N p.seq ∧ p ≠ .nil ∧ p.seq.any (fun j => hasB (V j).m mask) = true ∧ fdS V p.seq mask = z) ∧ Hid (Below w0.heap.size w0 wr))
    case atStart => exact ⟨t, 0, rfl, rfl, ⟨HT.out.1, HT.out.2.1, HT.out.2.2.1, HT.out.2.2.2, HFD.out⟩, HW.out⟩
    case round =>
      obtain ⟨p, y, hk, rfl, HP, HW1⟩ := hrel
      obtain ⟨e1, e2, e3, e4, e5⟩ := HP.out
      cases p with
      | nil => exact absurd rfl e3
      | node l k r =>
        have hm : tk N k = true := e2 k (by simp [Tr.seq])
        obtain ⟨x1, x2, x3, x4, x5, x6, x7⟩ := e1
        have aL : AllTk N l.seq := fun j hj => e2 j (by rw [Tr.seq]; simp [hj])
        have aR : AllTk N r.seq := fun j hj => e2 j (by rw [Tr.seq]; simp [hj])
        rw [show (Tr.node l k r).top = k from rfl]
        have HAk := HA.out wr HW1.out k hm
        obtain ⟨u1, u2, u3⟩ := HU.out wr HW1.out k hm
        rw [x2] at u1
        rw [x3] at u2
        have HML := HM.out wr HW1.out l k x6 aL
        rw [Tr.seq] at e4 e5
        have HI : Hid (tk N k = true) := hm
        cases hL : l.seq.any (fun j => hasB (V j).m mask) with
        | true =>
          have hz := (HBB.out _ hL).2
          have ln : l ≠ .nil := fun e0 => by rw [e0] at hL; simp [Tr.seq] at hL
          have A0 : Hid (l.seq.length < gk ∧ Hang (nd N) k l ∧ AllTk N l.seq ∧ l ≠ .nil ∧ l.seq.any (fun j => hasB (V j).m mask) = true ∧ fdS V l.seq mask = z) :=
            ⟨by rw [← hk, Tr.seq]; simp <;> omega, x6, aL, ln, hL, by rw [← e5]; unfold fdS; rw [find_app hL]⟩
          have HX2 : Hid ((nd N k).l = l.top) := x2
          generalize sumV (l.seq.map V) = Z2 at *
          clear e2 e3 e4 e5 x1 x2 x3 x4 x5 x6 x7 aL aR hk hm HP hL u2 u3
          go_wp2_with fail
          refine HAk.mono ?_
          rintro e w2 ⟨rfl, rfl⟩
          go_wp2_with fail
          refine HML.mono ?_
          rintro e w3 ⟨rfl, hb3⟩
          have hb4 := below_step HW1.out hb3 (Nat.le_refl _)
          have u1' := (HU.out w3 hb4 k HI.out).1
          rw [HX2.out] at u1'
          have HW4 : Hid _ := hb4
          clear hb3 hb4
          go_wp2
          obtain ⟨a1, a2⟩ := A0.out
          go_roundg l.seq.length
          case measure => exact a1
          case rel => exact ⟨l, k, rfl, rfl, a2, HW4.out⟩
        | false =>
          have hz := HBB'.out _ hL
          have e4' := e4
          rw [List.any_append, hL, Bool.false_or, List.any_cons] at e4'
          have e5' : fdS V (k :: r.seq) mask = z := by rw [← e5]; unfold fdS; rw [find_none' hL]
          generalize sumV (l.seq.map V) = Z2 at *
          cases hK : hasB (V k).m mask with
          | true =>
            have hz3 : (bits BinOp.and IntKind.u8 (V k).m mask != 0) = true := hK
            have A0 : Hid (k = z) := by show _ = _; rw [← e5']; unfold fdS; rw [List.find?_cons_of_pos (by exact hK)]; rfl
            clear e2 e3 e4 e5 x1 x2 x3 x4 x5 x6 x7 aL aR hk hm HP hL u2 e4' e5' hK
            go_wp2_with fail
            refine HAk.mono ?_
            rintro e w2 ⟨rfl, rfl⟩
            go_wp2_with fail
            refine HML.mono ?_
            rintro e w3 ⟨rfl, hb3⟩
            have hb4 := below_step HW1.out hb3 (Nat.le_refl _)
            have u3' := (HU.out w3 hb4 k HI.out).2.2
            have HW4 : Hid _ := hb4
            clear hb3 hb4
            go_wp2
            go_ret
            rw [← A0.out]
            exact ⟨rfl, HW4.out⟩
          | false =>
            rw [hK, Bool.false_or] at e4'
            have hz3 : (bits BinOp.and IntKind.u8 (V k).m mask != 0) = false := hK
            have rn : r ≠ .nil := fun e0 => by rw [e0] at e4'; simp [Tr.seq] at e4'
            have A0 : Hid (r.seq.length < gk ∧ Hang (nd N) k r ∧ AllTk N r.seq ∧ r ≠ .nil ∧ r.seq.any (fun j => hasB (V j).m mask) = true ∧ fdS V r.seq mask = z) :=
              ⟨by rw [← hk, Tr.seq]; simp <;> omega, x7, aR, rn, e4', by rw [← e5']; unfold fdS; rw [List.find?_cons_of_neg (by rw [hK]; simp)]⟩
            have HX3 : Hid ((nd N k).r = r.top) := x3
            clear e2 e3 e4 e5 x1 x2 x3 x4 x5 x6 x7 aL aR hk hm HP hL e4' e5' hK
            go_wp2_with fail
            refine HAk.mono ?_
            rintro e w2 ⟨rfl, rfl⟩
            go_wp2_with fail
            refine HML.mono ?_
            rintro e w3 ⟨rfl, hb3⟩
            have hb4 := below_step HW1.out hb3 (Nat.le_refl _)
            obtain ⟨_, u2', u3'⟩ := HU.out w3 hb4 k HI.out
            rw [HX3.out] at u2'
            have HW4 : Hid _ := hb4
            clear hb3 hb4
            go_wp2
            obtain ⟨a1, a2⟩ := A0.out
            go_roundg r.seq.length
            case measure => exact a1
            case rel => exact ⟨r, k, rfl, rfl, a2, HW4.out⟩
end
end Go.Proofs.YtcbgeahcnjamdabGreat
