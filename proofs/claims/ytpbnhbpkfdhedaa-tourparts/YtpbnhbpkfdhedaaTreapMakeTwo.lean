/- Layer 6 (treap): Make, New. -/
import Derived.Test.YtpbnhbpkfdhedaaTreapMake
namespace Go.Proofs.Ytpbnhbpkfdhedaa
open Go.RowKit
set_option linter.unusedVariables false
variable {Xh : Hx}

section
variable {w : World} {F : Nat → Prop} {B : Nat} {K : List Bool} {fr : List Int} {S : Int → List Int} {V : Int → Vl} {mx : Nat}
/-- A number is drawn. -/
theorem Frs.drawn {w5 w6 : World} {F1 Fa : Nat → Prop} {G D Dg : Nat} {N : List Nt} {xs : List Int} {n : Nat} {d : Option Addr} (hlt : ∀ k, F1 k → k < w5.heap.size) (h5 : ∀ k, Fa k → F1 k) (HX : Frs Xh d w5 Fa B G N fr) (hn : n ≤ mx) (hD : F1 D) (hG : F1 Dg) (nD : ¬ Fa D) (nG : ¬ Fa Dg)
    (hd : d = some ⟨D, 0, none⟩) (b6 : But w5.heap.size D w5 w6) (HD6 : Drw w6 D Dg xs (n + 1)) : Frs Xh d w6 Fa B G N fr ∧ Dok w6 F1 Fa d (mx + 1) ∧ Step F1 F1 w5 w6 ∧ (∀ k, F1 k → k < w6.heap.size) := by
  refine ⟨HX.kept (fun k hk => b6.block k (HX.lt k hk) (fun e => nD (e ▸ hk))) b6.size, .inr ⟨D, Dg, xs, n + 1, hd, HD6, by omega, hD, hG, nD, nG⟩, ⟨⟨b6.os, b6.tape, b6.output, b6.size, fun k hk hn => b6.block k hk (fun e => hn (e ▸ hD))⟩, fun k hk => .inl hk⟩, fun k hk => Nat.lt_of_lt_of_le (hlt k hk) b6.size⟩
set_option maxHeartbeats 4000000 in
theorem tmake_any (h : Tp Xh w F B K fr S V mx) (x : Vl) (hK : K.length < 2147483647) (hm : mx < 4611686018427387904) :
    Calls Try.prog 15 #[.pointer (some ⟨B, 0, none⟩), vlc x] w fun e w' => ∃ F', e = .returned (.int .i32 (newI K fr)) ∧ Tp Xh w' F' B (newK K fr) fr.dropLast (makeS S (newI K fr)) (updV V (newI K fr) x) (mx + 1) ∧ Step F F' w w' := by
  obtain ⟨G, N, d, Fa, h1, h2, h3, h4, h5, h6⟩ := h.ex
  have hb1 := (Below.refl w.heap.size w).alloc (Nat.le_refl _) (.cells #[.int .i64 x.c, .int .i64 x.s, .int .i64 x.l, .int .u8 x.m] 40)
  have hBl := h1.arn.blt
  have hX : Blk (w.alloc (.cells #[.int .i64 x.c, .int .i64 x.s, .int .i64 x.l, .int .u8 x.m] 40)) w.heap.size 40 #[.int .i64 x.c, .int .i64 x.s, .int .i64 x.l, .int .u8 x.m] := Blk.new w _ _
  have hF := h1.below hb1
  have hdc := hF.dcell
  have hfk : Fk K fr := h.fk
  have hI := newI_bd hfk
  have hND : ∀ (pr : Int), (∀ j, nd (newN N fr ⟨x, zeV, 0, pr, 0, 0, 0⟩) j = if j = newI K fr then ⟨x, zeV, 0, pr, 0, 0, 0⟩ else nd N j) ∧ (∀ j, tk (newN N fr ⟨x, zeV, 0, pr, 0, 0, 0⟩) j = if j = newI K fr then true else tk N j) ∧
      Wd (reckN (newN N fr ⟨x, zeV, 0, pr, 0, 0, 0⟩) (newI K fr)) (makeS S (newI K fr)) ∧ (∀ j, (nd (reckN (newN N fr ⟨x, zeV, 0, pr, 0, 0, 0⟩) (newI K fr)) j).own = updV V (newI K fr) x j) ∧ (reckN (newN N fr ⟨x, zeV, 0, pr, 0, 0, 0⟩) (newI K fr)).map (·.2) = newK K fr ∧ (newN N fr ⟨x, zeV, 0, pr, 0, 0, 0⟩).length ≤ 2147483647 := fun pr => by
    have := h2.make (fr := fr) (n := ⟨x, zeV, 0, pr, 0, 0, 0⟩) (by rw [h3]; exact hfk) rfl rfl rfl
    rw [h3] at this
    obtain ⟨a1, a2, a3, a4⟩ := this
    have hfl : (newN N fr ⟨x, zeV, 0, pr, 0, 0, 0⟩).map (·.2) = newK K fr := by rw [newN_flags, h3]
    refine ⟨a1, a2, a3, fun j => ?_, ?_, ?_⟩
    · rw [a4]; unfold updV; split
      · rfl
      · exact h4 j
    · rw [← hfl]
      exact flags_of (setN_len _ _ _) (tk_setN _ (by rw [a2, if_pos rfl]))
    · have := congrArg List.length hfl
      rw [List.length_map] at this
      have := (newK_le K fr).1
      omega
  have HT : Hid (∀ (pr : Int) {w' : World} {d' : Option Addr}, Frs Xh d' w' Fa B G N fr → Calls Try.prog 60 #[.pointer (some ⟨B, 0, none⟩), .agg #[.int .i64 x.c, .int .i64 x.s, .int .i64 x.l, .int .u8 x.m, .int .i64 0, .int .i64 0, .int .i64 0, .int .u8 0, .int .i64 0, .int .u32 pr, .int .i32 0, .int .i32 0, .int .i32 0]] w' fun e w'' => ∃ F' G', e = .returned (.int .i32 (newI K fr)) ∧ Frs Xh d' w'' F' B G' (newN N fr ⟨x, zeV, 0, pr, 0, 0, 0⟩) fr.dropLast ∧ Step Fa F' w' w'') := fun pr w' d' h' => by
    have hl : (slN N).length = K.length := by rw [slN_len, ← h3, List.length_map]
    have := AN.take_any ⟨x, zeV, 0, pr, 0, 0, 0⟩ h'.arn (by have := Fk.le hfk; omega) (by rw [hl]; exact hK)
    rw [newI_take, h3] at this
    refine this.mono ?_
    rintro e w'' ⟨F', G', e1, e2, e3⟩
    exact ⟨F', G', e1, by unfold Frs; rw [newN_sl]; exact e2, e3⟩
  have HR : Hid (∀ (pr : Int) {w' : World} {d' : Option Addr} {F' : Nat → Prop} {G' : Nat}, Frs Xh d' w' F' B G' (newN N fr ⟨x, zeV, 0, pr, 0, 0, 0⟩) fr.dropLast → Calls Try.prog 62 #[.pointer (some ⟨B, 0, none⟩), .int .i32 (newI K fr)] w' fun e w'' => e = .returned (.tuple #[]) ∧ Frs Xh d' w'' F' B G' (reckN (newN N fr ⟨x, zeV, 0, pr, 0, 0, 0⟩) (newI K fr)) fr.dropLast ∧ Step F' F' w' w'') := fun pr w' d' F' G' h' => by
    obtain ⟨a1, a2, _, _, _, a6⟩ := hND pr
    have ni : nd (newN N fr ⟨x, zeV, 0, pr, 0, 0, 0⟩) (newI K fr) = ⟨x, zeV, 0, pr, 0, 0, 0⟩ := by rw [a1, if_pos rfl]
    have z0 : (0 : Int) ≤ szOf (newN N fr ⟨x, zeV, 0, pr, 0, 0, 0⟩) 0 ∧ szOf (newN N fr ⟨x, zeV, 0, pr, 0, 0, 0⟩) 0 ≤ 2147483647 := ⟨Int.le_refl _, by show (0 : Int) ≤ 2147483647; decide⟩
    exact reckon_any h' a6 (by rw [a2, if_pos rfl]) (by rw [ni]; exact .inl rfl) (by rw [ni]; exact .inl rfl) (by rw [ni]; exact z0) (by rw [ni]; exact z0)
  have FIN : Hid (∀ (pr : Int) {w6 w8 : World} {d' : Option Addr} {F1 F' : Nat → Prop} {G' : Nat}, (∀ k, F1 k → k < w6.heap.size) → Frs Xh d' w6 Fa B G N fr → (∀ k, Fa k → F1 k) → Dok w6 F1 Fa d' (mx + 1) → Frs Xh d' w8 F' B G' (reckN (newN N fr ⟨x, zeV, 0, pr, 0, 0, 0⟩) (newI K fr)) fr.dropLast → Step Fa F' w6 w8 → Step F F1 w w6 →
      ∃ F'', Tp Xh w8 F'' B (newK K fr) fr.dropLast (makeS S (newI K fr)) (updV V (newI K fr) x) (mx + 1) ∧ Step F F'' w w8) := fun pr w6 w8 d' F1 F' G' k1 k2 k3 k4 k5 k6 k7 => by
    obtain ⟨_, _, a3, a4, a5, _⟩ := hND pr
    obtain ⟨q1, q2⟩ := Tp.regrown k1 k2 k3 k4 k5 k6 a3 a5 a4 (Fk.new hfk) (by have := (newK_le K fr).1; omega)
    exact ⟨_, q1, k7.trans q2⟩
  have HFX : Hid (Frs Xh d (w.alloc (.cells #[.int .i64 x.c, .int .i64 x.s, .int .i64 x.l, .int .u8 x.m] 40)) Fa B G N fr) := hF
  have HXX : Hid (Blk (w.alloc (.cells #[.int .i64 x.c, .int .i64 x.s, .int .i64 x.l, .int .u8 x.m] 40)) w.heap.size 40 #[.int .i64 x.c, .int .i64 x.s, .int .i64 x.l, .int .u8 x.m]) := hX
  have H5 : Hid (∀ k, Fa k → F k) := h5
  have HLT : Hid (∀ k, F k → k < w.heap.size) := h.lt
  have HFa : Hid (∀ k, Fa k → k < w.heap.size) := h1.lt
  have HF0 : Hid (Frs Xh d w Fa B G N fr) := h1
  have HB1 : Hid _ := hb1
  clear hF hX h2 h3 h4 hfk hI hND h1 h5 hb1
  generalize newI K fr = I at *
  rcases h6 with rfl | ⟨D, Dg, xs, n, rfl, hD, hn, fD, fG, nD, nG⟩
  · skip
    clear h
    go_enter Try.func15, Try.ntmps15
    have hfz : (w.alloc (.cells #[.int .i64 x.c, .int .i64 x.s, .int .i64 x.l, .int .u8 x.m] 40)).frozen? ⟨B, 2, none⟩ = false := HFX.out.arn.froz 2
    go_wp2_with fail
    obtain ⟨D, hDe⟩ : ∃ D, D = w.heap.size + 1 := ⟨_, rfl⟩
    obtain ⟨xs, hxs⟩ : ∃ xs : List Int, xs = [] := ⟨_, rfl⟩
    obtain ⟨n, hne⟩ : ∃ n : Nat, n = 0 := ⟨_, rfl⟩
    obtain ⟨Dg, hGe⟩ : ∃ Dg, Dg = D := ⟨_, rfl⟩
    obtain ⟨F1, e1⟩ : ∃ F1 : Nat → Prop, ∀ k, F1 k ↔ (F k ∨ k = D) := ⟨_, fun _ => Iff.rfl⟩
    have hBw := HF0.out.arn.blt
    obtain ⟨h42, s42⟩ := HF0.out.draw (d' := some ⟨D, 0, none⟩)
    rw [← hDe]
    have hsz : (w.setCell ⟨B, 2, none⟩ (.pointer (some ⟨D, 0, none⟩))).heap.size = w.heap.size := size_setCell _ _ _
    have bX : Blk ((w.setCell ⟨B, 2, none⟩ (.pointer (some ⟨D, 0, none⟩))).alloc (.cells #[.int .i64 x.c, .int .i64 x.s, .int .i64 x.l, .int .u8 x.m] 40)) w.heap.size 40 #[.int .i64 x.c, .int .i64 x.s, .int .i64 x.l, .int .u8 x.m] := by
      have := Blk.new (w.setCell ⟨B, 2, none⟩ (.pointer (some ⟨D, 0, none⟩))) 40 #[.int .i64 x.c, .int .i64 x.s, .int .i64 x.l, .int .u8 x.m]
      rwa [hsz] at this
    have bL := ((Below.refl _ (w.setCell ⟨B, 2, none⟩ (.pointer (some ⟨D, 0, none⟩)))).alloc (Nat.le_refl _) (.cells #[.int .i64 x.c, .int .i64 x.s, .int .i64 x.l, .int .u8 x.m] 40))
    have bL2 := below_new bL (Nat.le_refl _) (.cells #[.slice none 0 0, .int .i64 0] 114)
    have hs4 : ((w.setCell ⟨B, 2, none⟩ (.pointer (some ⟨D, 0, none⟩))).alloc (.cells #[.int .i64 x.c, .int .i64 x.s, .int .i64 x.l, .int .u8 x.m] 40)).heap.size = D := by simp [hDe]
    generalize (w.setCell ⟨B, 2, none⟩ (.pointer (some ⟨D, 0, none⟩))).alloc (.cells #[.int .i64 x.c, .int .i64 x.s, .int .i64 x.l, .int .u8 x.m] 40) = w4 at *
    have b41 : Blk (w4.alloc (.cells #[.slice none 0 0, .int .i64 0] 114)) D 114 #[.slice none 0 0, .int .i64 0] := by rw [← hs4]; exact Blk.new w4 _ _
    have bX5 := bX.alloc (.cells #[.slice none 0 0, .int .i64 0] 114)
    have hs5 : (w4.alloc (.cells #[.slice none 0 0, .int .i64 0] 114)).heap.size = D + 1 := by simp [hs4]
    generalize w4.alloc (.cells #[.slice none 0 0, .int .i64 0] 114) = w5 at *
    have HD : Hid (Drw w5 D Dg xs n) := by
      refine ⟨⟨none, 0, ?_, .inl hxs⟩, by rw [hxs]; intro z hz; simp at hz, by rw [hxs]; simp, by rw [hGe, hs5]; omega⟩
      rw [hxs, hne]
      exact b41
    have ND : Hid (n ≤ mx ∧ F1 D ∧ F1 Dg ∧ ¬ Fa D ∧ ¬ Fa Dg) := ⟨by omega, (e1 D).2 (.inr rfl), (e1 Dg).2 (.inr hGe), fun e => by have := HFa.out _ e; omega, fun e => by have := HFa.out _ e; omega⟩
    have H51 : Hid (∀ k, Fa k → F1 k) := fun k hk => (e1 k).2 (.inl (H5.out k hk))
    have L1 : Hid (∀ k, F1 k → k < w5.heap.size) := fun k hk => by rw [hs5]; rcases (e1 k).1 hk with hk | hk; have := HLT.out k hk; omega; omega
    have S5 : Hid (Step F F1 w w5) := by
      have s5 := (s42.wide H5.out).trans (Step.of_below (F := F) bL2)
      exact ⟨s5.only, fun k hk => ((e1 k).1 hk).elim .inl (fun e => .inr (by omega))⟩
    have hnX : w.heap.size ≠ D := by omega
    have hBD : B ≠ D := by omega
    have HXX5 : Hid (Blk w5 w.heap.size 40 #[.int .i64 x.c, .int .i64 x.s, .int .i64 x.l, .int .u8 x.m]) := bX5
    have HFX5 : Hid (Frs Xh (some ⟨D, 0, none⟩) w5 Fa B G N fr) := h42.below bL2
    clear HXX HFX h42 s42 b41 hs4 hDe hxs hne hGe e1 hBw hdc hfz hs5 HB1 hsz bX bX5 bL bL2 HF0
    have HXX : Hid (Blk w5 w.heap.size 40 #[.int .i64 x.c, .int .i64 x.s, .int .i64 x.l, .int .u8 x.m]) := HXX5
    have HFX : Hid (Frs Xh (some ⟨D, 0, none⟩) w5 Fa B G N fr) := HFX5
    clear HXX5 HFX5
    have d5 := HFX.out.dcell
    have x0 := HXX.out.at (j := 0) rfl
    have x1 := HXX.out.at (j := 1) rfl
    have x2 := HXX.out.at (j := 2) rfl
    have x3 := HXX.out.at (j := 3) rfl
    have HN := next_any (w := w5.drew) (HD.out.kept rfl rfl (Nat.le_refl _)) (by have := ND.out.1; omega)
    have hXl : w.heap.size < w5.heap.size := HXX.out.lt
    have hBl5 := HFX.out.arn.blt
    have HD2 : Hid (∀ w6, Drw w6 D Dg xs (n + 1) → But w5.drew.heap.size D w5.drew w6 → Frs Xh (some ⟨D, 0, none⟩) w6 Fa B G N fr ∧ Dok w6 F1 Fa (some ⟨D, 0, none⟩) (mx + 1) ∧ Step F1 F1 w5 w6 ∧ (∀ k, F1 k → k < w6.heap.size)) := fun w6 hd6 hb6 =>
      Frs.drawn L1.out H51.out HFX.out ND.out.1 ND.out.2.1 ND.out.2.2.1 ND.out.2.2.2.1 ND.out.2.2.2.2 rfl ⟨hb6.os, hb6.tape, hb6.output, hb6.size, hb6.block⟩ hd6
    have hXFa : ¬ Fa w.heap.size := fun e => by have := HFa.out _ e; omega
    go_region_held3 (fun w' => w'.cell? ⟨B, 2, none⟩ = some (.pointer (some ⟨D, 0, none⟩)) ∧ w'.cell? ⟨w.heap.size, 0, none⟩ = some (.int .i64 x.c) ∧ w'.cell? ⟨w.heap.size, 1, none⟩ = some (.int .i64 x.s) ∧ w'.cell? ⟨w.heap.size, 2, none⟩ = some (.int .i64 x.l) ∧ w'.cell? ⟨w.heap.size, 3, none⟩ = some (.int .u8 x.m))
      (first
        | go_keep
        | (go_split_ands
           refine ⟨a7.dcell, ?_, ?_, ?_, ?_⟩
           · (rw [s7.cell hX6 hXFa]; assumption)
           · (rw [s7.cell hX6 hXFa]; assumption)
           · (rw [s7.cell hX6 hXFa]; assumption)
           · (rw [s7.cell hX6 hXFa]; assumption))
        | (go_split_ands
           refine ⟨?_, ?_, ?_, ?_, ?_⟩
           · (rw [hb6.cell hBl5 hBD]; assumption)
           · (rw [hb6.cell hXl hnX]; assumption)
           · (rw [hb6.cell hXl hnX]; assumption)
           · (rw [hb6.cell hXl hnX]; assumption)
           · (rw [hb6.cell hXl hnX]; assumption)))
      (first
        | (go_at_call 61; refine HN.mono ?_; rintro e w6 ⟨rfl, hd6, hb6⟩; have hX6 : w.heap.size < w6.heap.size := Nat.lt_of_lt_of_le hXl hb6.size)
        | (go_at_call 60; refine (HT.out (drawN xs n) (HD2.out _ hd6 hb6).1).mono ?_; rintro e w7 ⟨Fb, Gb, rfl, a7, s7⟩)
        | skip)
    obtain ⟨X6, D6, S6, L6⟩ := HD2.out _ hd6 hb6
    have HR7 := HR.out (drawN xs n) a7
    have FIN7 : Hid (∀ w8, Frs Xh (some ⟨D, 0, none⟩) w8 Fb B Gb (reckN (newN N fr ⟨x, zeV, 0, drawN xs n, 0, 0, 0⟩) I) fr.dropLast → Step Fb Fb w7 w8 → ∃ F'', Tp Xh w8 F'' B (newK K fr) fr.dropLast (makeS S I) (updV V I x) (mx + 1) ∧ Step F F'' w w8) := fun w8 a8 s8 => FIN.out (drawN xs n) L6 X6 H51.out D6 a8 (s7.trans s8) (S5.out.trans S6)
    rename_i hHeld
    clear hHeld a7 s7 X6 D6 S6 L6 hd6 hb6 HD2 HT HR FIN HN d5 x0 x1 x2 x3
    go_wp2_with fail
    refine HR7.mono ?_
    rintro e w8 ⟨rfl, a8, s8⟩
    obtain ⟨F'', q1, q2⟩ := FIN7.out w8 a8 s8
    have Q1 : Hid _ := q1
    have Q2 : Hid _ := q2
    clear HR7 FIN7 a8 s8 q1 q2
    go_wp2
    go_ret
    exact ⟨F'', rfl, Q1.out, Q2.out⟩
  · skip
    obtain ⟨F1, e1⟩ : ∃ F1 : Nat → Prop, ∀ k, F1 k ↔ F k := ⟨F, fun _ => Iff.rfl⟩
    have HE1 : Hid _ := e1
    have HD : Hid (Drw (w.alloc (.cells #[.int .i64 x.c, .int .i64 x.s, .int .i64 x.l, .int .u8 x.m] 40)) D Dg xs n) := hD.below HB1.out
    have hnX : w.heap.size ≠ D := fun e => by have := HLT.out D fD; omega
    have ND : Hid (n ≤ mx ∧ F1 D ∧ F1 Dg ∧ ¬ Fa D ∧ ¬ Fa Dg) := ⟨hn, (e1 D).2 fD, (e1 Dg).2 fG, nD, nG⟩
    have H51 : Hid (∀ k, Fa k → F1 k) := fun k hk => (e1 k).2 (H5.out k hk)
    have hDl : D < w.heap.size := HLT.out D fD
    have hBD : B ≠ D := fun e => nD (e ▸ HFX.out.arn.b)
    clear hD hn fD fG nD nG h e1
    go_enter Try.func15, Try.ntmps15
    go_wp2_with fail
    generalize hw5 : w.alloc (.cells #[.int .i64 x.c, .int .i64 x.s, .int .i64 x.l, .int .u8 x.m] 40) = w5 at *
    have L1 : Hid (∀ k, F1 k → k < w5.heap.size) := fun k hk => by rw [← hw5]; simp; have := HLT.out k ((HE1.out k).1 hk); omega
    have S5 : Hid (Step F F1 w w5) := ⟨(Step.of_below (F := F) HB1.out).only, fun k hk => .inl ((HE1.out k).1 hk)⟩
    have d5 := HFX.out.dcell
    have x0 := HXX.out.at (j := 0) rfl
    have x1 := HXX.out.at (j := 1) rfl
    have x2 := HXX.out.at (j := 2) rfl
    have x3 := HXX.out.at (j := 3) rfl
    have HN := next_any (w := w5.drew) (HD.out.kept rfl rfl (Nat.le_refl _)) (by have := ND.out.1; omega)
    have hXl : w.heap.size < w5.heap.size := HXX.out.lt
    have hBl5 := HFX.out.arn.blt
    have HD2 : Hid (∀ w6, Drw w6 D Dg xs (n + 1) → But w5.drew.heap.size D w5.drew w6 → Frs Xh (some ⟨D, 0, none⟩) w6 Fa B G N fr ∧ Dok w6 F1 Fa (some ⟨D, 0, none⟩) (mx + 1) ∧ Step F1 F1 w5 w6 ∧ (∀ k, F1 k → k < w6.heap.size)) := fun w6 hd6 hb6 =>
      Frs.drawn L1.out H51.out HFX.out ND.out.1 ND.out.2.1 ND.out.2.2.1 ND.out.2.2.2.1 ND.out.2.2.2.2 rfl ⟨hb6.os, hb6.tape, hb6.output, hb6.size, hb6.block⟩ hd6
    have hXFa : ¬ Fa w.heap.size := fun e => by have := HFa.out _ e; omega
    go_region_held3 (fun w' => w'.cell? ⟨B, 2, none⟩ = some (.pointer (some ⟨D, 0, none⟩)) ∧ w'.cell? ⟨w.heap.size, 0, none⟩ = some (.int .i64 x.c) ∧ w'.cell? ⟨w.heap.size, 1, none⟩ = some (.int .i64 x.s) ∧ w'.cell? ⟨w.heap.size, 2, none⟩ = some (.int .i64 x.l) ∧ w'.cell? ⟨w.heap.size, 3, none⟩ = some (.int .u8 x.m))
      (first
        | go_keep
        | (go_split_ands
           refine ⟨a7.dcell, ?_, ?_, ?_, ?_⟩
           · (rw [s7.cell hX6 hXFa]; assumption)
           · (rw [s7.cell hX6 hXFa]; assumption)
           · (rw [s7.cell hX6 hXFa]; assumption)
           · (rw [s7.cell hX6 hXFa]; assumption))
        | (go_split_ands
           refine ⟨?_, ?_, ?_, ?_, ?_⟩
           · (rw [hb6.cell hBl5 hBD]; assumption)
           · (rw [hb6.cell hXl hnX]; assumption)
           · (rw [hb6.cell hXl hnX]; assumption)
           · (rw [hb6.cell hXl hnX]; assumption)
           · (rw [hb6.cell hXl hnX]; assumption)))
      (first
        | (go_at_call 61; refine HN.mono ?_; rintro e w6 ⟨rfl, hd6, hb6⟩; have hX6 : w.heap.size < w6.heap.size := Nat.lt_of_lt_of_le hXl hb6.size)
        | (go_at_call 60; refine (HT.out (drawN xs n) (HD2.out _ hd6 hb6).1).mono ?_; rintro e w7 ⟨Fb, Gb, rfl, a7, s7⟩)
        | skip)
    obtain ⟨X6, D6, S6, L6⟩ := HD2.out _ hd6 hb6
    have HR7 := HR.out (drawN xs n) a7
    have FIN7 : Hid (∀ w8, Frs Xh (some ⟨D, 0, none⟩) w8 Fb B Gb (reckN (newN N fr ⟨x, zeV, 0, drawN xs n, 0, 0, 0⟩) I) fr.dropLast → Step Fb Fb w7 w8 → ∃ F'', Tp Xh w8 F'' B (newK K fr) fr.dropLast (makeS S I) (updV V I x) (mx + 1) ∧ Step F F'' w w8) := fun w8 a8 s8 => FIN.out (drawN xs n) L6 X6 H51.out D6 a8 (s7.trans s8) (S5.out.trans S6)
    rename_i hHeld
    clear hHeld a7 s7 X6 D6 S6 L6 hd6 hb6 HD2 HT HR FIN HN d5 x0 x1 x2 x3
    go_wp2_with fail
    refine HR7.mono ?_
    rintro e w8 ⟨rfl, a8, s8⟩
    obtain ⟨F'', q1, q2⟩ := FIN7.out w8 a8 s8
    have Q1 : Hid _ := q1
    have Q2 : Hid _ := q2
    clear HR7 FIN7 a8 s8 q1 q2
    go_wp2
    go_ret
    exact ⟨F'', rfl, Q1.out, Q2.out⟩
end
end Go.Proofs.Ytpbnhbpkfdhedaa
