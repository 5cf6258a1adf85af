/- Lemmas. -/
import Derived.Test.YtlmdjghcmofdlaaGreatS11
import Derived.Deep.AppendLies
import Derived.Deep.CutRange
set_option maxRecDepth 100000
set_option maxHeartbeats 64000000
namespace Go.Proofs.YtlmdjghcmofdlaaGreat
open Go.RowKit
set_option linter.unusedVariables false
theorem mapL_some (bm : Nat) (w : World) : (binOp BinOp.eql 113 (.map (some bm)) (.map none)).run Tryz.prog w = .ok (.bool false) w := by kernel_rfl
theorem mapL_none (w : World) : (binOp BinOp.eql 113 (.map none) (.map none)).run Tryz.prog w = .ok (.bool true) w := by kernel_rfl
theorem infoI6 : (Tryz.prog.info? 3).map (fun i => (i.zero, i.size, i.bytes)) = some (some (.int .i64 0), 1, 8) := by kernel_rfl
theorem lq_put {s : Bg} {V : Int × Int → Value} {a : Int × Int} {e : Int} {v : Value} : lq (s.put a e) (updQ V a v) = updQ (lq s V) a (some v) := by
  funext x
  unfold lq
  by_cases hx : x = a
  · subst hx; simp [Bg.put, updQ_at]
  · simp [Bg.put, updQ_ne hx]
section
variable {b c : Nat} {V : Int × Int → Value} {w w1 w2 w3 w4 : World} {F : Nat → Prop} {B : Nat} {s : Bg} {k : Nat}
theorem BgX.putS (h : BgX b c V w F B s k) {a : Int × Int} {e : Int} (hn : e ∉ s.L a) (hP : MapV Tryz.prog 140 (.int .i64 0) tripK okT w1 c (updQ s.pos (a.1, a.2, e) (some (.int .i64 (s.L a).length))) (s.n + 1)) (g1 : w.grownBy w1 (some c)) (g2 : Below w1.heap.size w1 w2)
    {g cap : Nat} (hown : RowW w3 3 1 (.slice (some ⟨g, 0, none⟩) ((s.L a).length + 1) cap) ((s.L a).length + 1) (i6s (s.L a) ++ [.int .i64 e])) (g3 : w2.grownBy w3 (V a).ownBlock) (hat : (V a).ownBlock = some g ∨ w.heap.size ≤ g)
    {m : Nat} (hm : m ≤ k + 1) (hM : MapV Tryz.prog 109 (.slice none 0 0) pairK okP w4 b (updQ (lq s V) a (some (.slice (some ⟨g, 0, none⟩) ((s.L a).length + 1) cap))) m) (g4 : w3.grownBy w4 (some b)) :
    BgX b c (updQ V a (.slice (some ⟨g, 0, none⟩) ((s.L a).length + 1) cap)) w4 (fun q => F q ∨ q = g) B (s.put a e) (k + 1) ∧ Step F (fun q => F q ∨ q = g) w w4 := by
  have s1 := g1.size
  have s2 := g2.size
  have s3 := g3.size
  have s4 := g4.size
  obtain ⟨nb1, nb2⟩ := h.nb
  have keep : ∀ q, q < w.heap.size → q ≠ c → (V a).ownBlock ≠ some q → q ≠ b → w4.heap[q]? = w.heap[q]? := fun q hq e1 e2 e3 =>
    (g4.block q (by omega) (fun e => e3 (Option.some.inj e))).trans ((g3.block q (by omega) (Ne.symm e2)).trans ((g2.block q (by omega)).trans (g1.block q hq (fun e => e1 (Option.some.inj e)))))
  have hbl := h.lt b h.f1
  have hcl := h.lt c h.f2
  have hBl := h.lt B h.fb
  have hgb : g ≠ b ∧ g ≠ c ∧ g ≠ B := by
    rcases hat with e | e
    · have := h.apartB a e; exact ⟨this.2.1, this.2.2, this.1⟩
    · refine ⟨?_, ?_, ?_⟩ <;> omega
  have hgl : g < w4.heap.size := by have : g < w3.heap.size := hown.lt rfl; omega
  have ownF : ∀ q, (V a).ownBlock = some q → F q := (h.row a).2
  refine ⟨⟨(keep B hBl (Ne.symm nb2) (fun e => (h.apartB a e).1 rfl) (Ne.symm nb1)).trans h.blk, ⟨m, hm, by rw [lq_put]; exact hM⟩, ?_, fun x => ?_, fun x hx => ?_, fun x x' hne => ?_, h.bc, .inl h.fb, .inl h.f1, .inl h.f2, fun q hq => ?_⟩, ⟨⟨?_, ?_, ?_, by omega, fun q hq hF => ?_⟩, fun q hq => ?_⟩⟩
  · rw [Bg.pos_put hn]
    exact hP.kept ((g4.block c (by omega) (fun e => h.bc (Option.some.inj e).symm)).trans ((g3.block c (by omega) (fun e => (h.apartB a e.symm).2.2 rfl)).trans (g2.block c (by omega))))
  · by_cases hx : x = a
    · subst hx
      rw [updQ_at]
      refine ⟨?_, fun q hq => by cases hq; exact .inr rfl⟩
      have e1 : (s.put x e).L x = s.L x ++ [e] := by simp [Bg.put, updQ_at]
      rw [e1, List.length_append, i6s_snoc]
      exact hown.kept fun q hq => by cases hq; exact g4.block g (show g < w3.heap.size from hown.lt rfl) (fun e => hgb.1 (Option.some.inj e))
    · rw [updQ_ne hx]
      have e1 : (s.put a e).L x = s.L x := by simp [Bg.put, updQ_ne hx]
      rw [e1]
      exact ⟨(h.row x).1.kept fun q hq => keep q ((h.row x).1.lt hq) (h.apartB x hq).2.2 (fun e => h.apart x a hx q hq e) (h.apartB x hq).2.1, fun q hq => .inl ((h.row x).2 q hq)⟩
  · by_cases hxa : x = a
    · subst hxa; simp [Bg.put, updQ_at] at hx
    · rw [updQ_ne hxa]; exact h.nil x (by simpa [Bg.put, updQ_ne hxa] using hx)
  · have one : ∀ y, y ≠ a → ∀ q, (V y).ownBlock = some q → q ≠ g := fun y hy q hq e => by
      subst e
      rcases hat with e | e
      · exact h.apart y a hy q hq e
      · have := (h.row y).1.lt hq; omega
    intro q h1 h2
    by_cases hx : x = a
    · subst hx
      rw [updQ_at] at h1
      rw [updQ_ne (Ne.symm hne)] at h2
      cases h1
      exact one x' (Ne.symm hne) _ h2 rfl
    · rw [updQ_ne hx] at h1
      by_cases hx' : x' = a
      · subst hx'
        rw [updQ_at] at h2
        cases h2
        exact one x hx _ h1 rfl
      · rw [updQ_ne hx'] at h2
        exact h.apart x x' hne q h1 h2
  · rcases hq with hq | rfl
    · have := h.lt q hq; omega
    · exact hgl
  · rw [g4.os, g3.os, g2.os, g1.os]
  · rw [g4.tape, g3.tape, g2.tape, g1.tape]
  · rw [g4.output, g3.output, g2.output, g1.output]
  · exact keep q hq (fun e => hF (e ▸ h.f2)) (fun e => hF (ownF q e)) (fun e => hF (e ▸ h.f1))
  · rcases hq with hq | rfl
    · exact .inl hq
    · rcases hat with e | e
      · exact .inl (ownF q e)
      · exact .inr e
theorem BgX.made {x y : Value} (hb : Blk w B 116 #[x, y]) (hF : F B) (hlt : ∀ q, F q → q < w.heap.size) : BgX w.heap.size (w.heap.size + 1) (fun _ => .slice none 0 0) ((((w.setCell ⟨B, 0, none⟩ (.map (some w.heap.size))).setCell ⟨B, 1, none⟩ (.map (some (w.heap.size + 1)))).alloc (.map #[] 0)).alloc (.map #[] 0)) (fun q => F q ∨ q = w.heap.size ∨ q = w.heap.size + 1) B bg0 0 ∧
    Step F (fun q => F q ∨ q = w.heap.size ∨ q = w.heap.size + 1) w ((((w.setCell ⟨B, 0, none⟩ (.map (some w.heap.size))).setCell ⟨B, 1, none⟩ (.map (some (w.heap.size + 1)))).alloc (.map #[] 0)).alloc (.map #[] 0)) := by
  have hBl := hb.lt
  have hb1 : Blk ((w.setCell ⟨B, 0, none⟩ (.map (some w.heap.size))).setCell ⟨B, 1, none⟩ (.map (some (w.heap.size + 1)))) B 116 #[.map (some w.heap.size), .map (some (w.heap.size + 1))] := (hb.setAt 0 _).setAt 1 _
  have hO : Only F w ((w.setCell ⟨B, 0, none⟩ (.map (some w.heap.size))).setCell ⟨B, 1, none⟩ (.map (some (w.heap.size + 1)))) := ((Only.refl F w).set (.inl hF) _ _).set (.inl hF) _ _
  have hs1 : ((w.setCell ⟨B, 0, none⟩ (.map (some w.heap.size))).setCell ⟨B, 1, none⟩ (.map (some (w.heap.size + 1)))).heap.size = w.heap.size := by rw [size_setCell, size_setCell]
  generalize (w.setCell ⟨B, 0, none⟩ (.map (some w.heap.size))).setCell ⟨B, 1, none⟩ (.map (some (w.heap.size + 1))) = u at *
  have m1 : MapV Tryz.prog 109 (.slice none 0 0) pairK okP ((u.alloc (.map #[] 0)).alloc (.map #[] 0)) w.heap.size (lq bg0 fun _ => .slice none 0 0) 0 := by
    have := MapV.made KL u
    rw [hs1] at this
    refine (this.kept ?_).congr (fun a _ => by simp [lq, bg0])
    exact heap_alloc_old _ _ _ (by simp [hs1])
  have m2 : MapV Tryz.prog 140 (.int .i64 0) tripK okT ((u.alloc (.map #[] 0)).alloc (.map #[] 0)) (w.heap.size + 1) bg0.pos 0 := by
    have := MapV.made KP (u.alloc (.map #[] 0))
    rw [World.size_alloc, hs1] at this
    exact this.congr (fun a _ => by simp [Bg.pos, bg0, posL_nil])
  have hsz : ((u.alloc (.map #[] 0)).alloc (.map #[] 0)).heap.size = w.heap.size + 2 := by simp [hs1]
  refine ⟨⟨(hb1.alloc _).alloc _, ⟨0, Nat.le_refl _, m1⟩, m2, fun a => ⟨RowW.empty _ _ _, fun g hg => (by cases hg)⟩, fun _ _ => rfl, fun _ _ _ q h1 _ => (by cases h1), by omega, .inl hF, .inr (.inl rfl), .inr (.inr rfl), fun q hq => ?_⟩, ⟨(hO.alloc _).alloc _, fun q hq => ?_⟩⟩
  · rw [hsz]
    rcases hq with hq | rfl | rfl
    · have := hlt q hq; omega
    · omega
    · omega
  · rcases hq with hq | rfl | rfl
    · exact .inl hq
    · exact .inr (Nat.le_refl _)
    · exact .inr (by omega)
end
section
variable {W : World} {F : Nat → Prop} {B : Nat} {s : Bg} {k : Nat} {w : World}
theorem bput_okXV {b c : Nat} {V : Int × Int → Value} (h : BgX b c V w F B s k) (hok : s.Ok k) (hk : k ≤ 100000) {v l e : Int} (ha : okT (v, l, e)) (h0 : 0 ≤ l) (h1 : l ≤ 63) (h2 : 1 ≤ e) (hm : e ∉ s.L (v, l)) :
    Calls Tryz.prog 77 #[.pointer (some ⟨B, 0, none⟩), .int .i64 v, .int .i64 l, .int .i64 e] w fun x w' => x = .returned (.int .i64 0) ∧ ∃ F' V', BgX b c V' w' F' B (s.put (v, l) e) (k + 1) ∧ (s.put (v, l) e).Ok (k + 1) ∧ Step F F' w w' := by
  have haP : okP (v, l) := ⟨ha.1, ha.2.1⟩
  have HH := mkH (bhas_any (show BgM w F B s k from ⟨hok, .inr ⟨b, c, V, h⟩⟩) ha)
  rw [decide_eq_false hm] at HH
  have HX := mkH h
  have HO : Hid ((s.put (v, l) e).Ok (k + 1)) := hok.put haP h0 h1 h2 ha.2.2.2 hm
  have HM := mkH hm
  have HT := mkH ha
  have HP := mkH haP
  have n1 : ¬ l < 0 := by omega
  have n2 : ¬ 63 < l := by omega
  have n3 : ¬ e < 1 := by omega
  obtain ⟨m, hmk, hL⟩ := h.lists
  have HL := mkH hL
  have hlk := hL.look KL haP
  rw [h.slice] at hlk
  simp only [pairK] at hlk
  have hR := mkH (h.row (v, l)).1
  obtain ⟨ao, cap, e0⟩ := hR.out.form
  have HV := mkH e0
  rw [e0] at hlk hR
  have hln := hok.len (v, l)
  obtain ⟨c0, c1⟩ := h.blk.cells2
  obtain ⟨nb1, nb2⟩ := h.nb
  have hBl := h.lt B h.fb
  have hcl := h.lt c h.f2
  have hbl := h.lt b h.f1
  have hap := mkH (fun q (hq : (V (v, l)).ownBlock = some q) => h.apartB (v, l) hq)
  have hsn := hok.le
  have HPS0 := mkH (show s.pos (v, l, e) = none by unfold Bg.pos; simp [posL, hm])
  have HPl := mkH h.places
  rw [e0] at hap
  obtain ⟨n, hn⟩ : ∃ n, n = (s.L (v, l)).length := ⟨_, rfl⟩
  have HN := mkH hn
  rw [← hn] at hlk hR hln hap
  obtain ⟨i0, hi, hz0, hz1, hz2⟩ := info_parts infoI6
  have hbc := h.bc
  have hmq := mapL_some b
  clear h hok ha haP hm hL e0 hn
  go_enter Tryz.func77, Tryz.ntmps77
  go_wp2_with fail
  refine HH.out.mono ?_
  rintro x w1 ⟨rfl, rfl⟩
  go_wp2_with (at_mapUpdate; refine wpList_val_store rfl _ _ _ rfl KP rfl HPl.out (by unfold maxLen; omega) (v, l, e) rfl HT.out _ rfl ?_; intro w2 hP2 hg2)
  have hc0 := (hg2.block B hBl (fun e => nb2 (Option.some.inj e).symm))
  have c2 : w2.cell? ⟨B, 0, none⟩ = some (.map (some b)) := (World.cell?_of_block (w := w1) hc0).trans c0
  have hs2 := hg2.size
  have hR2 : Hid (RowW w2 3 1 (.slice ao n cap) n (i6s (s.L (v, l)))) := hR.out.kept fun q hq => hg2.block q (hR.out.lt hq) (fun e => (hap.out q hq).2.2 (Option.some.inj e))
  have HL2 := mkH (HL.out.kept (hg2.block b hbl (fun e => hbc (Option.some.inj e))))
  have HP2 := mkH hP2
  have HG2 := mkH hg2
  clear hP2 hg2 hc0 c0 c1 HL hR HPl HH
  go_wp2_with fail
  go_region_held3 (fun w' => w'.cell? ⟨B, 0, none⟩ = some (.map (some b))) (first | go_keep | assumption)
    (first
      | (refine step_append_row _ (by rfl) (.tmp 65) (.tmp 67) 51 (by rfl) 3 i0 (.int .i64 0) 1 8 Tryz.underlying51 hi hz0 hz1 hz2 rfl (.slice ao n cap) n (i6s (s.L (v, l))) (by rfl) (hR2.out.kept fun q hq => (show ((w2.alloc (.cells #[.int .i64 e] 3)).drew).heap[q]? = w2.heap[q]? from heap_alloc_old w2 _ q (hR2.out.lt hq))) ⟨w2.heap.size, 0, none⟩ 1 1 [.int .i64 e] (by rfl) rfl (World.news_of_block (show Blk ((w2.alloc (.cells #[.int .i64 e] 3)).drew) w2.heap.size 3 #[.int .i64 e] from Blk.new w2 _ _)) (by simp [Value.oneCell']) (by omega) (by unfold maxLen; omega) (by omega) ?_; intro g cap3 w3 hown3 hgrow3 hat3 hlt3; have hs3 : w2.heap.size + 1 ≤ w3.heap.size := (by have : (w2.alloc (.cells #[.int .i64 e] 3)).heap.size ≤ w3.heap.size := hgrow3.size; simpa using this); have hold3 : ∀ q, q < w2.heap.size → some q ≠ (Value.slice ao n cap).ownBlock → w3.heap[q]? = w2.heap[q]? := (fun q hq hne => (hgrow3.block q (show q < (w2.alloc (.cells #[.int .i64 e] 3)).heap.size by simp; omega) hne).trans (show ((w2.alloc (.cells #[.int .i64 e] 3)).drew).heap[q]? = w2.heap[q]? from heap_alloc_old w2 _ q hq)); have c3 : w3.cell? ⟨B, 0, none⟩ = some (.map (some b)) := (World.cell?_of_block (w := w2) (hold3 B (by omega) (fun e => (hap.out B e.symm).1 rfl))).trans c2; have HL3 := mkH (HL2.out.kept (hold3 b (by omega) (fun e => (hap.out b e.symm).2.1 rfl))); obtain ⟨w4, hrun4, hM4, hg4⟩ := HL3.out.store KL (by unfold maxLen; omega) HP.out (.slice (some ⟨g, 0, none⟩) (n + 1) cap3); simp only [pairK] at hrun4; have c4 : w4.cell? ⟨B, 0, none⟩ = some (.map (some b)) := (World.cell?_of_block (w := w3) (hg4.block B (by omega) (fun e => nb1 (Option.some.inj e).symm))).trans c3)
      | fail)
  have hk4 : (if ((lq s V (v, l)).isSome) then m else m + 1) ≤ k + 1 := by split <;> omega
  have hP3 := HP2.out
  rw [HPS0.out] at hP3
  simp only [Option.isSome_none, Bool.false_eq_true, if_false] at hP3
  obtain ⟨hX4, hS4⟩ := HX.out.putS (a := (v, l)) HM.out (by rw [← HN.out]; exact hP3) HG2.out (w2 := (w2.alloc (.cells #[.int .i64 e] 3)).drew) ((Below.refl w2.heap.size w2).alloc (Nat.le_refl _) (.cells #[.int .i64 e] 3) |>.drew) (by rw [← HN.out]; exact hown3) (by rw [HV.out, ← HN.out]; exact hgrow3)
    (by rw [HV.out, ← HN.out]; exact hat3.imp id (fun e => by rw [e]; show w1.heap.size ≤ (w2.alloc _).heap.size; simp; omega)) hk4 (by rw [← HN.out]; exact hM4) hg4
  have HF : Hid (∃ F' V', BgX b c V' w4 F' B (s.put (v, l) e) (k + 1) ∧ (s.put (v, l) e).Ok (k + 1) ∧ Step F F' w1 w4) := ⟨_, _, hX4, HO.out, hS4⟩
  clear hX4 hS4 hM4 hg4 hP3 hown3 hgrow3 hat3 hlt3 HL3 c3 c4 hrun4 hold3 hs3 HX HL2 hR2 HP2 HG2
  go_wp2
  go_ret
  exact ⟨rfl, HF.out⟩
theorem bput_okX {b c : Nat} {V : Int × Int → Value} (h : BgX b c V w F B s k) (hok : s.Ok k) (hk : k ≤ 100000) {v l e : Int} (ha : okT (v, l, e)) (h0 : 0 ≤ l) (h1 : l ≤ 63) (h2 : 1 ≤ e) (hm : e ∉ s.L (v, l)) :
    Calls Tryz.prog 77 #[.pointer (some ⟨B, 0, none⟩), .int .i64 v, .int .i64 l, .int .i64 e] w fun x w' => x = .returned (.int .i64 0) ∧ ∃ F', BgM w' F' B (s.put (v, l) e) (k + 1) ∧ Step F F' w w' :=
  (bput_okXV h hok hk ha h0 h1 h2 hm).mono fun x w' ⟨e1, F', V', q1, q2, q3⟩ => ⟨e1, F', ⟨q2, .inr ⟨b, c, V', q1⟩⟩, q3⟩
theorem bput_ok0 (h : Blk w B 116 #[.map none, .map none]) (hF : F B) (hlt : ∀ q, F q → q < w.heap.size) {v l e : Int} (ha : okT (v, l, e)) (h0 : 0 ≤ l) (h1 : l ≤ 63) (h2 : 1 ≤ e) :
    Calls Tryz.prog 77 #[.pointer (some ⟨B, 0, none⟩), .int .i64 v, .int .i64 l, .int .i64 e] w fun x w' => x = .returned (.int .i64 0) ∧ ∃ F', BgM w' F' B (bg0.put (v, l) e) 1 ∧ Step F F' w w' := by
  have HH := mkH (bhas_any (show BgM w F B bg0 0 from ⟨bg0_ok 0, .inl ⟨rfl, h, hF, hlt⟩⟩) ha)
  rw [decide_eq_false (show ¬ e ∈ bg0.L (v, l) by simp [bg0])] at HH
  obtain ⟨hX0, hS0⟩ := BgX.made h hF hlt
  have HX0 := mkH hX0
  have HS0 := mkH hS0
  obtain ⟨c0, c1⟩ := h.cells2
  have f0 := h.frozen 0
  have f1 := h.frozen 1
  have hk1 := h.setAt 0 (.map (some w.heap.size))
  have f2 := hk1.frozen 1
  have c2 : (w.setCell ⟨B, 0, none⟩ (.map (some w.heap.size))).cell? ⟨B, 1, none⟩ = some (.map none) := hk1.at rfl
  have hBl := h.lt
  have hmq := mapL_none
  have hmm := @run_makeMap Tryz.prog
  have n1 : ¬ l < 0 := by omega
  have n2 : ¬ 63 < l := by omega
  have n3 : ¬ e < 1 := by omega
  have HT := mkH ha
  clear h hX0 hS0 hF hlt ha hk1
  go_enter Tryz.func77, Tryz.ntmps77
  go_wp2_with fail
  refine HH.out.mono ?_
  rintro x w1 ⟨rfl, rfl⟩
  go_upto_region 9 with fail
  generalize (((w1.setCell ⟨B, 0, none⟩ (.map (some w1.heap.size))).setCell ⟨B, 1, none⟩ (.map (some (w1.heap.size + 1)))).alloc (.map #[] 0)).alloc (.map #[] 0) = u1 at HX0 HS0 ⊢
  clear HH c0 c1 f0 f1 f2 c2 hmq hmm hBl
  generalize w1.heap.size = b at HX0 HS0 ⊢
  generalize b + 1 = c at HX0 HS0 ⊢
  generalize (fun q => F q ∨ q = b ∨ q = c) = F0 at HX0 HS0
  generalize (fun _ : Int × Int => Value.slice none 0 0) = V at HX0
  obtain ⟨s, hs0⟩ : ∃ s, s = bg0 := ⟨_, rfl⟩
  obtain ⟨k, hk0⟩ : ∃ k, k = 0 := ⟨_, rfl⟩
  rw [← hs0] at HX0
  have HSe := mkH hs0
  have HKe := mkH hk0
  have hok : s.Ok k := by rw [hs0]; exact bg0_ok k
  have hm : e ∉ s.L (v, l) := by rw [hs0]; simp [bg0]
  have hk : k ≤ 100000 := by omega
  have h : BgX b c V u1 F0 B s k := by rw [hk0]; exact HX0.out
  have ha := HT.out
  have haP : okP (v, l) := ⟨ha.1, ha.2.1⟩
  clear HX0 hs0 hk0
  have HX := mkH h
  have HO : Hid ((s.put (v, l) e).Ok (k + 1)) := hok.put haP h0 h1 h2 ha.2.2.2 hm
  have HM := mkH hm
  clear HT
  have HT := mkH ha
  have HP := mkH haP
  obtain ⟨m, hmk, hL⟩ := h.lists
  have HL := mkH hL
  have hlk := hL.look KL haP
  rw [h.slice] at hlk
  simp only [pairK] at hlk
  have hR := mkH (h.row (v, l)).1
  obtain ⟨ao, cap, e0⟩ := hR.out.form
  have HV := mkH e0
  rw [e0] at hlk hR
  have hln := hok.len (v, l)
  obtain ⟨c0, c1⟩ := h.blk.cells2
  obtain ⟨nb1, nb2⟩ := h.nb
  have hBl := h.lt B h.fb
  have hcl := h.lt c h.f2
  have hbl := h.lt b h.f1
  have hap := mkH (fun q (hq : (V (v, l)).ownBlock = some q) => h.apartB (v, l) hq)
  have hsn := hok.le
  have HPS0 := mkH (show s.pos (v, l, e) = none by unfold Bg.pos; simp [posL, hm])
  have HPl := mkH h.places
  rw [e0] at hap
  obtain ⟨n, hn⟩ : ∃ n, n = (s.L (v, l)).length := ⟨_, rfl⟩
  have HN := mkH hn
  rw [← hn] at hlk hR hln hap
  obtain ⟨i0, hi, hz0, hz1, hz2⟩ := info_parts infoI6
  have hbc := h.bc
  have hmq := mapL_some b
  clear h hok ha haP hm hL e0 hn
  go_wp2_with (at_mapUpdate; refine wpList_val_store rfl _ _ _ rfl KP rfl HPl.out (by unfold maxLen; omega) (v, l, e) rfl HT.out _ rfl ?_; intro w2 hP2 hg2)
  have hc0 := (hg2.block B hBl (fun e => nb2 (Option.some.inj e).symm))
  have c2 : w2.cell? ⟨B, 0, none⟩ = some (.map (some b)) := (World.cell?_of_block (w := u1) hc0).trans c0
  have hs2 := hg2.size
  have hR2 : Hid (RowW w2 3 1 (.slice ao n cap) n (i6s (s.L (v, l)))) := hR.out.kept fun q hq => hg2.block q (hR.out.lt hq) (fun e => (hap.out q hq).2.2 (Option.some.inj e))
  have HL2 := mkH (HL.out.kept (hg2.block b hbl (fun e => hbc (Option.some.inj e))))
  have HP2 := mkH hP2
  have HG2 := mkH hg2
  clear hP2 hg2 hc0 c0 c1 HL hR HPl
  go_wp2_with fail
  go_region_held3 (fun w' => w'.cell? ⟨B, 0, none⟩ = some (.map (some b))) (first | go_keep | assumption)
    (first
      | (refine step_append_row _ (by rfl) (.tmp 65) (.tmp 67) 51 (by rfl) 3 i0 (.int .i64 0) 1 8 Tryz.underlying51 hi hz0 hz1 hz2 rfl (.slice ao n cap) n (i6s (s.L (v, l))) (by rfl) (hR2.out.kept fun q hq => (show ((w2.alloc (.cells #[.int .i64 e] 3)).drew).heap[q]? = w2.heap[q]? from heap_alloc_old w2 _ q (hR2.out.lt hq))) ⟨w2.heap.size, 0, none⟩ 1 1 [.int .i64 e] (by rfl) rfl (World.news_of_block (show Blk ((w2.alloc (.cells #[.int .i64 e] 3)).drew) w2.heap.size 3 #[.int .i64 e] from Blk.new w2 _ _)) (by simp [Value.oneCell']) (by omega) (by unfold maxLen; omega) (by omega) ?_; intro g cap3 w3 hown3 hgrow3 hat3 hlt3; have hs3 : w2.heap.size + 1 ≤ w3.heap.size := (by have : (w2.alloc (.cells #[.int .i64 e] 3)).heap.size ≤ w3.heap.size := hgrow3.size; simpa using this); have hold3 : ∀ q, q < w2.heap.size → some q ≠ (Value.slice ao n cap).ownBlock → w3.heap[q]? = w2.heap[q]? := (fun q hq hne => (hgrow3.block q (show q < (w2.alloc (.cells #[.int .i64 e] 3)).heap.size by simp; omega) hne).trans (show ((w2.alloc (.cells #[.int .i64 e] 3)).drew).heap[q]? = w2.heap[q]? from heap_alloc_old w2 _ q hq)); have c3 : w3.cell? ⟨B, 0, none⟩ = some (.map (some b)) := (World.cell?_of_block (w := w2) (hold3 B (by omega) (fun e => (hap.out B e.symm).1 rfl))).trans c2; have HL3 := mkH (HL2.out.kept (hold3 b (by omega) (fun e => (hap.out b e.symm).2.1 rfl))); obtain ⟨w4, hrun4, hM4, hg4⟩ := HL3.out.store KL (by unfold maxLen; omega) HP.out (.slice (some ⟨g, 0, none⟩) (n + 1) cap3); simp only [pairK] at hrun4; have c4 : w4.cell? ⟨B, 0, none⟩ = some (.map (some b)) := (World.cell?_of_block (w := w3) (hg4.block B (by omega) (fun e => nb1 (Option.some.inj e).symm))).trans c3)
      | fail)
  have hk4 : (if ((lq s V (v, l)).isSome) then m else m + 1) ≤ k + 1 := by split <;> omega
  have hP3 := HP2.out
  rw [HPS0.out] at hP3
  simp only [Option.isSome_none, Bool.false_eq_true, if_false] at hP3
  obtain ⟨hX4, hS4⟩ := HX.out.putS (a := (v, l)) HM.out (by rw [← HN.out]; exact hP3) HG2.out (w2 := (w2.alloc (.cells #[.int .i64 e] 3)).drew) ((Below.refl w2.heap.size w2).alloc (Nat.le_refl _) (.cells #[.int .i64 e] 3) |>.drew) (by rw [← HN.out]; exact hown3) (by rw [HV.out, ← HN.out]; exact hgrow3)
    (by rw [HV.out, ← HN.out]; exact hat3.imp id (fun e => by rw [e]; show u1.heap.size ≤ (w2.alloc _).heap.size; simp; omega)) hk4 (by rw [← HN.out]; exact hM4) hg4
  have HF : Hid (∃ F', BgM w4 F' B (s.put (v, l) e) (k + 1) ∧ Step F0 F' u1 w4) := ⟨_, ⟨HO.out, .inr ⟨_, _, _, hX4⟩⟩, hS4⟩
  clear hX4 hS4 hM4 hg4 hP3 hown3 hgrow3 hat3 hlt3 HL3 c3 c4 hrun4 hold3 hs3 HX HL2 hR2 HP2 HG2
  go_wp2
  go_ret
  obtain ⟨F', hf1, hf2⟩ := HF.out
  rw [HSe.out, HKe.out] at hf1
  exact ⟨rfl, F', hf1, HS0.out.trans hf2⟩
theorem bput_ok (h : BgM w F B s k) (hk : k ≤ 100000) {v l e : Int} (ha : okT (v, l, e)) (h0 : 0 ≤ l) (h1 : l ≤ 63) (h2 : 1 ≤ e) (hm : e ∉ s.L (v, l)) :
    Calls Tryz.prog 77 #[.pointer (some ⟨B, 0, none⟩), .int .i64 v, .int .i64 l, .int .i64 e] w fun x w' => x = .returned (.int .i64 0) ∧ ∃ F', BgM w' F' B (s.put (v, l) e) (k + 1) ∧ Step F F' w w' := by
  obtain ⟨hok, ⟨rfl, g2, g3, g4⟩ | ⟨b, c, V, hX⟩⟩ := h
  · refine (bput_ok0 g2 g3 g4 ha h0 h1 h2).mono ?_
    rintro x w' ⟨rfl, F', q1, q2⟩
    exact ⟨rfl, F', q1.mono (by omega), q2⟩
  · exact bput_okX hX hok hk ha h0 h1 h2 hm
end
end Go.Proofs.YtlmdjghcmofdlaaGreat
