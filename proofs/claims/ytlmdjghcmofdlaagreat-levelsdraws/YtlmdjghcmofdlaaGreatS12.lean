/- Lemmas. -/
import Derived.Test.YtlmdjghcmofdlaaGreatS10
import Derived.Deep.RegionHeld3
set_option maxRecDepth 100000
set_option maxHeartbeats 64000000
namespace Go.Proofs.YtlmdjghcmofdlaaGreat
open Go.RowKit
set_option linter.unusedVariables false
variable {Xh : Hx}
def newI (K : List Bool) (fr : List Int) : Int := match fr.getLast? with | none => (K.length : Int) + 1 | some f => f
def newK (K : List Bool) (fr : List Int) : List Bool := match fr.getLast? with | none => K ++ [true] | some f => K.set (f - 1).toNat true
def makeS (S : Int → List Int) (i : Int) : Int → List Int := fun j => if j = i then [i] else S j
def freeS (S : Int → List Int) (i : Int) : Int → List Int := fun j => if j = i then [] else S j
def newN (N : List Nt) (fr : List Int) (n : Nd) : List Nt := match fr.getLast? with | none => N ++ [(n, true)] | some f => N.set (f - 1).toNat (n, true)
theorem newN_sl (N : List Nt) (fr : List Int) (n : Nd) : slN (newN N fr n) = takeL (slN N) fr (ndc n, true) := by
  unfold newN takeL slN
  cases fr.getLast? <;> simp [List.map_set]
theorem newI_take (N : List Nt) (fr : List Int) : takeI (slN N) fr = newI (N.map (·.2)) fr := by
  unfold takeI newI slN
  cases fr.getLast? <;> simp
theorem newN_flags (N : List Nt) (fr : List Int) (n : Nd) : (newN N fr n).map (·.2) = newK (N.map (·.2)) fr := by
  unfold newN newK
  cases fr.getLast? <;> simp [List.map_set]
theorem newK_le (K : List Bool) (fr : List Int) : (newK K fr).length ≤ K.length + 1 ∧ K.length ≤ (newK K fr).length := by
  unfold newK; cases fr.getLast? <;> simp
def Fk (K : List Bool) (fr : List Int) : Prop := fr.Nodup ∧ ∀ f ∈ fr, isK K f = false ∧ 1 ≤ f ∧ f ≤ K.length
theorem newI_bd {K : List Bool} {fr : List Int} (h : Fk K fr) : 1 ≤ newI K fr ∧ newI K fr ≤ (K.length : Int) + 1 ∧ isK K (newI K fr) = false := by
  unfold newI
  rcases List.eq_nil_or_concat fr with rfl | ⟨fr', f, rfl⟩
  · refine ⟨by simp <;> omega, by simp, ?_⟩
    cases hk : isK K ((K.length : Int) + 1) with
    | false => exact hk
    | true => have := isK_bd hk; omega
  · rw [List.concat_eq_append, List.getLast?_concat]
    have := h.2 f (by simp)
    exact ⟨this.2.1, Int.le_trans this.2.2 (by omega), this.1⟩
theorem isK_new {K : List Bool} {fr : List Int} (h : Fk K fr) (j : Int) : isK (newK K fr) j = if j = newI K fr then true else isK K j := by
  unfold newK newI
  rcases List.eq_nil_or_concat fr with rfl | ⟨fr', f, rfl⟩
  · exact isK_snoc true j
  · rw [List.concat_eq_append, List.getLast?_concat]
    exact isK_set true (h.2 f (by simp)).2 j
theorem Fk.new {K : List Bool} {fr : List Int} (h : Fk K fr) : Fk (newK K fr) fr.dropLast := by
  refine ⟨h.1.sublist (List.dropLast_sublist fr), fun f hf => ?_⟩
  have h1 := h.2 f (List.dropLast_subset fr hf)
  refine ⟨?_, h1.2.1, by have := (newK_le K fr).2; omega⟩
  rw [isK_new h, if_neg]
  · exact h1.1
  · unfold newI
    rcases List.eq_nil_or_concat fr with rfl | ⟨fr', g, rfl⟩
    · simp at hf
    · rw [List.concat_eq_append] at hf h ⊢
      rw [List.getLast?_concat]
      rw [List.dropLast_concat] at hf
      rintro rfl
      exact (List.nodup_append.1 h.1).2.2 f hf f (by simp) rfl
theorem Fk.free {K : List Bool} {fr : List Int} (h : Fk K fr) {i : Int} (hi : isK K i = true) : Fk (K.set (i - 1).toNat false) (fr ++ [i]) := by
  have hb := isK_bd hi
  have hni : i ∉ fr := fun h' => by rw [(h.2 i h').1] at hi; cases hi
  refine ⟨List.nodup_append.2 ⟨h.1, by simp, fun a ha b hb e => by simp at hb; exact hni (by rw [← hb, ← e]; exact ha)⟩, fun f hf => ?_⟩
  rw [List.length_set, isK_set false hb]
  rcases List.mem_append.1 hf with hf | hf
  · have := h.2 f hf
    exact ⟨by split <;> simp [this.1], this.2⟩
  · simp at hf; subst hf; exact ⟨by simp, hb⟩
theorem Fk.le {K : List Bool} {fr : List Int} (h : Fk K fr) : fr.length ≤ K.length := by
  have := h.1.length_le_of_subset (l₂ := List.map (fun k : Nat => (k : Int) + 1) (List.range K.length)) (fun j hj => by
    obtain ⟨_, b1, b2⟩ := h.2 j hj
    exact List.mem_map.2 ⟨(j - 1).toNat, List.mem_range.2 (by omega), by omega⟩)
  simpa using this
section
variable {w : World} {F : Nat → Prop} {B : Nat} {K : List Bool} {fr : List Int} {S : Int → List Int} {V : Int → Vl} {mx : Nat}
theorem Tp.regrown {G G' : Nat} {N N' : List Nt} {d : Option Addr} {Fa Fa' : Nat → Prop} {w' : World} {K' : List Bool} {fr' : List Int} {S' : Int → List Int} {V' : Int → Vl} (hlt : ∀ k, F k → k < w.heap.size) (h1 : Frs Xh d w Fa B G N fr) (h5 : ∀ k, Fa k → F k) (h6 : Dok Xh.dr w F Fa d mx)
    (hA : Frs Xh d w' Fa' B G' N' fr') (hS : Step Fa Fa' w w') (hw : Wd N' S') (hk : N'.map (·.2) = K') (hv : ∀ i, (nd N' i).own = V' i) (hf : Fk K' fr') (hK : K'.length ≤ 2147483647) : Tp Xh w' (fun k => F k ∨ Fa' k) B K' fr' S' V' mx ∧ Step F (fun k => F k ∨ Fa' k) w w' := by
  refine ⟨⟨⟨G', N', d, Fa', hA, hw, hk, hv, fun k hk => .inr hk, h6.imp id ?_⟩, fun k hk => hk.elim (fun h' => Nat.lt_of_lt_of_le (hlt k h') hS.size) (hA.lt k), hf, hK⟩, ⟨?_, fun k hk => ?_⟩⟩
  · rintro ⟨D, Dg, xs, n, a1, a2, a3, a4, a5, a6, a7, a8⟩
    have e1 := hlt D a4
    have e2 := hlt Dg a5
    exact ⟨D, Dg, xs, n, a1, a2.kept (hS.only.block D e1 a6) (hS.only.block Dg e2 a7) hS.size, a3, .inl a4, .inl a5, fun h' => (hS.ext D h').elim a6 (by omega), fun h' => (hS.ext Dg h').elim a7 (by omega), a8⟩
  · exact (hS.wide h5).only
  · exact hk.imp id (fun h' => h') |>.elim .inl (fun h' => (hS.ext k h').elim (fun h'' => .inl (h5 k h'')) .inr)
theorem Wd.free {N : List Nt} {S : Int → List Int} (h : Wd N S) {i : Int} (hi : S i = [i]) : Wd (N.set (i - 1).toNat (zeN, false)) (freeS S i) ∧ (∀ j, nd (N.set (i - 1).toNat (zeN, false)) j = if j = i then zeN else nd N j) := by
  have him : i ∈ S i := by rw [hi]; simp
  have htk := (h.memTk him).1
  obtain ⟨b1, b2, b3⟩ := tk_iff.1 htk
  have hfl : (N.set (i - 1).toNat (zeN, false)).map (·.2) = (N.map (·.2)).set (i - 1).toNat false := by simp [List.map_set]
  have hk : ∀ j, tk (N.set (i - 1).toNat (zeN, false)) j = if j = i then false else tk N j := fun j => by
    rw [tk_isK, hfl, isK_set false ⟨b1, by simpa using b2⟩, ← tk_isK]
  have hn : ∀ j, nd (N.set (i - 1).toNat (zeN, false)) j = if j = i then zeN else nd N j := fun j => by
    simp only [nd]
    by_cases hj : 1 ≤ j
    · rw [if_pos hj, if_pos hj, List.getD_eq_getElem?_getD, List.getD_eq_getElem?_getD, List.getElem?_set]
      by_cases e : j = i
      · subst e; rw [if_pos rfl, if_pos rfl, if_pos (by omega)]; rfl
      · rw [if_neg e, if_neg (by omega)]
    · rw [if_neg hj, if_neg hj, if_neg (by omega)]
  have hout : ∀ j, j ≠ i → i ∉ S j := fun j hj hm => hj (by
    have h1 := h.same j i hm
    have h2 := h.mem j (h.memTk hm).2
    rw [← h1, hi] at h2; simpa using h2)
  refine ⟨⟨fun j hj => ?_, fun j hj => ?_, fun j x hx => ?_, fun j hj => ?_⟩, hn⟩
  · rw [hk] at hj
    by_cases e : j = i
    · simp [e] at hj
    · rw [if_neg e] at hj
      obtain ⟨t, e1, g⟩ := h.tree j hj
      refine ⟨t, by unfold freeS; rw [if_neg e]; exact e1, g.hang.congr (fun x hx => ?_), fun x hx => ?_, g.nodup⟩
      · rw [hn, if_neg]; rintro rfl; exact hout j e (e1 ▸ hx)
      · rw [hk, if_neg]; exact g.all x hx; rintro rfl; exact hout j e (e1 ▸ hx)
  · rw [hk] at hj
    by_cases e : j = i
    · simp [e] at hj
    · rw [if_neg e] at hj; unfold freeS; rw [if_neg e]; exact h.mem j hj
  · unfold freeS at hx ⊢
    by_cases e : j = i
    · simp [e] at hx
    · rw [if_neg e] at hx
      rw [if_neg e, if_neg]
      · exact h.same j x hx
      · rintro rfl; exact hout j e hx
  · unfold freeS
    rw [hk] at hj
    by_cases e : j = i
    · rw [if_pos e]
    · rw [if_neg e] at hj ⊢; exact h.none j hj
theorem Tp.lone (h : Tp Xh w F B K fr S V mx) {i : Int} (hl : (S i).length = 1) : S i = [i] := by
  have hm : i ∈ S i := h.mem.1 (by
    cases hk : isK K i with
    | true => rfl
    | false => rw [h.nil.1 hk] at hl; simp at hl)
  obtain ⟨x, hx⟩ := List.length_eq_one_iff.1 hl
  rw [hx] at hm ⊢
  simp at hm
  rw [hm]
theorem tfree_no (h : Tp Xh w F B K fr S V mx) (i : Int) (hb : -2147483648 ≤ i ∧ i ≤ 2147483647) (hl : (S i).length ≠ 1) :
    Calls Tryz.prog 79 #[.pointer (some ⟨B, 0, none⟩), .int .i32 i] w fun e w' => e = .returned (.bool false) ∧ w' = w := by
  have HS := tsize_any h i hb
  clear h
  have hl' : (((S i).length : Int) == 1) = false := by simp only [beq_eq_false_iff_ne]; omega
  generalize ((S i).length : Int) = z at *
  clear hl
  go_enter Tryz.func79, Tryz.ntmps79
  go_wp2_with fail
  refine HS.mono ?_
  rintro e w0 ⟨rfl, rfl⟩
  go_wp2
  go_ret
  exact ⟨rfl, rfl⟩
theorem tfree_yes (h : Tp Xh w F B K fr S V mx) (i : Int) (hb : -2147483648 ≤ i ∧ i ≤ 2147483647) (hl : (S i).length = 1) :
    Calls Tryz.prog 79 #[.pointer (some ⟨B, 0, none⟩), .int .i32 i] w fun e w' => ∃ F', e = .returned (.bool true) ∧ Tp Xh w' F' B (K.set (i - 1).toNat false) (fr ++ [i]) (freeS S i) (updV V i zeV) mx ∧ Step F F' w w' := by
  have HS := tsize_any h i hb
  have hSi := h.lone hl
  rw [hl] at HS
  obtain ⟨G, N, d, Fa, h1, h2, h3, h4, h5, h6⟩ := h.ex
  have hN : N.length ≤ 2147483647 := by have := h.klen; rw [← h3, List.length_map] at this; exact this
  have hk : isK K i = true := h.mem.2 (by rw [hSi]; simp)
  have htk : tk N i = true := by rw [tk_isK, h3]; exact hk
  have HF := AN.free_at h1.arn i htk (by rw [slN_len]; exact hN) (by have := Fk.le h.fk; have := h.klen; omega)
  obtain ⟨hw, hn⟩ := h2.free hSi
  have FIN : Hid (∀ w' F', AN.Ar Xh d w' F' B G ((slN N).set (i - 1).toNat (ndc zeN, false)) (fr ++ [i]) → Step Fa F' w w' → Tp Xh w' (fun k => F k ∨ F' k) B (K.set (i - 1).toNat false) (fr ++ [i]) (freeS S i) (updV V i zeV) mx ∧ Step F (fun k => F k ∨ F' k) w w') := fun w' F' k1 k2 => by
    refine Tp.regrown h.lt h1 h5 h6 (N' := N.set (i - 1).toNat (zeN, false)) (by unfold Frs; rw [show slN (N.set (i - 1).toNat (zeN, false)) = (slN N).set (i - 1).toNat (ndc zeN, false) by simp [slN, List.map_set]]; exact k1) k2 hw (by rw [← h3]; simp [List.map_set]) (fun j => ?_) (Fk.free h.fk hk) (by rw [List.length_set]; exact h.klen)
    rw [hn]; unfold updV
    split
    · rfl
    · exact h4 j
  clear h h1 h2 h3 h4 h5 h6 hw hn hk htk hSi hl
  go_enter Tryz.func79, Tryz.ntmps79
  go_wp2_with fail
  refine HS.mono ?_
  rintro e w0 ⟨rfl, rfl⟩
  go_wp2_with fail
  refine HF.mono ?_
  rintro e w1 ⟨F', rfl, k1, k2⟩
  have R0 : Hid _ := FIN.out w1 F' k1 k2
  clear FIN k1 k2 HF HS
  go_wp2
  go_ret
  exact ⟨_, rfl, R0.out⟩
theorem Wd.make {N : List Nt} {S : Int → List Int} {fr : List Int} {n : Nd} (h : Wd N S) (hf : Fk (N.map (·.2)) fr) (hl : n.l = 0) (hr : n.r = 0) (hu : n.u = 0) :
    (∀ j, nd (newN N fr n) j = if j = newI (N.map (·.2)) fr then n else nd N j) ∧ (∀ j, tk (newN N fr n) j = if j = newI (N.map (·.2)) fr then true else tk N j) ∧
    Wd (reckN (newN N fr n) (newI (N.map (·.2)) fr)) (makeS S (newI (N.map (·.2)) fr)) ∧ (∀ j, (nd (reckN (newN N fr n) (newI (N.map (·.2)) fr)) j).own = if j = newI (N.map (·.2)) fr then n.own else (nd N j).own) := by
  obtain ⟨b1, b2, b3⟩ := newI_bd hf
  rw [List.length_map] at b2
  have hk : ∀ j, tk (newN N fr n) j = if j = newI (N.map (·.2)) fr then true else tk N j := fun j => by rw [tk_isK, newN_flags, isK_new hf, tk_isK]
  have hn : ∀ j, nd (newN N fr n) j = if j = newI (N.map (·.2)) fr then n else nd N j := by
    intro j
    unfold newN newI
    rcases List.eq_nil_or_concat fr with rfl | ⟨fr', f, rfl⟩
    · simp only [List.getLast?_nil, List.length_map]
      simp only [nd]
      by_cases hj : 1 ≤ j
      · rw [if_pos hj, if_pos hj, List.getD_eq_getElem?_getD, List.getD_eq_getElem?_getD]
        by_cases e : j = (N.length : Int) + 1
        · subst e; rw [if_pos rfl, show ((N.length : Int) + 1 - 1).toNat = N.length by omega, List.getElem?_concat_length]; rfl
        · rw [if_neg e]
          rcases Nat.lt_or_ge (j - 1).toNat N.length with h2 | h2
          · rw [List.getElem?_append_left h2]
          · rw [List.getElem?_eq_none (by simp; omega), List.getElem?_eq_none h2]
      · rw [if_neg hj, if_neg hj, if_neg (by omega)]
    · rw [List.concat_eq_append, List.getLast?_concat]
      have hfb := (hf.2 f (by simp)).2
      rw [List.length_map] at hfb
      simp only [nd]
      by_cases hj : 1 ≤ j
      · rw [if_pos hj, if_pos hj, List.getD_eq_getElem?_getD, List.getD_eq_getElem?_getD, List.getElem?_set]
        by_cases e : j = f
        · subst e; rw [if_pos rfl, if_pos rfl, if_pos (by omega)]; rfl
        · rw [if_neg e, if_neg (by omega)]
      · rw [if_neg hj, if_neg hj, if_neg (by omega)]
  generalize hI : newI (N.map (·.2)) fr = I at *
  have b4 : tk N I = false := by rw [tk_isK]; exact b3
  have hki : tk (newN N fr n) I = true := by rw [hk, if_pos rfl]
  have hni : nd (newN N fr n) I = n := by rw [hn, if_pos rfl]
  have hr1 : nd (reckN (newN N fr n) I) = upd (nd (newN N fr n)) I (n.ws 1 (sumV [n.own])) := by
    unfold reckN
    rw [nd_setN _ hki, hni, hl, hr]
    rw [show szOf (newN N fr n) 0 = 0 from rfl, show smOf (newN N fr n) 0 = sumV [] from rfl, sumV_node]
    rfl
  have hrk : ∀ j, tk (reckN (newN N fr n) I) j = if j = I then true else tk N j := fun j => by rw [show tk (reckN (newN N fr n) I) j = tk (newN N fr n) j from tk_setN _ hki j, hk]
  have hrn : ∀ j, j ≠ I → nd (reckN (newN N fr n) I) j = nd N j := fun j hj => by rw [hr1, upd_ne _ _ hj, hn, if_neg hj]
  have hout : ∀ j, I ∉ S j := fun j hm => by have := (h.memTk hm).1; rw [b4] at this; cases this
  refine ⟨hn, hk, ⟨fun j hj => ?_, fun j hj => ?_, fun j x hx => ?_, fun j hj => ?_⟩, fun j => ?_⟩
  · by_cases e : j = I
    · subst e
      refine ⟨.node .nil j .nil, by unfold makeS; rw [if_pos rfl]; rfl, ⟨?_, ?_, ?_, ?_, ?_, trivial, trivial⟩, ?_, ?_⟩
      · rw [hr1, upd_at]; exact hu
      · rw [hr1, upd_at]; exact hl
      · rw [hr1, upd_at]; exact hr
      · rw [hr1, upd_at]; rfl
      · rw [hr1, upd_at]
        show sumV [n.own] = sumV (own _ [j])
        rw [show own (upd (nd (newN N fr n)) j (n.ws 1 (sumV [n.own]))) [j] = [n.own] by simp [own, upd_at, Nd.ws]]
      · intro x hx; simp [Tr.seq] at hx; rw [hx, hrk, if_pos rfl]
      · simp [Tr.seq]
    · rw [hrk, if_neg e] at hj
      obtain ⟨t, e1, g⟩ := h.tree j hj
      have hne : ∀ x ∈ t.seq, x ≠ I := fun x hx e2 => hout j (by rw [← e2, ← e1]; exact hx)
      exact ⟨t, by unfold makeS; rw [if_neg e]; exact e1, g.hang.congr (fun x hx => hrn x (hne x hx)), fun x hx => by rw [hrk, if_neg (hne x hx)]; exact g.all x hx, g.nodup⟩
  · unfold makeS
    by_cases e : j = I
    · rw [if_pos e, e]; simp
    · rw [hrk, if_neg e] at hj; rw [if_neg e]; exact h.mem j hj
  · unfold makeS at hx ⊢
    by_cases e : j = I
    · rw [if_pos e] at hx ⊢; simp at hx; rw [if_pos hx]
    · rw [if_neg e] at hx ⊢
      rw [if_neg]
      · exact h.same j x hx
      · rintro rfl; exact hout j hx
  · by_cases e : j = I
    · rw [hrk, if_pos e] at hj; cases hj
    · rw [hrk, if_neg e] at hj; unfold makeS; rw [if_neg e]; exact h.none j hj
  · rw [hr1]
    unfold upd
    split
    · rfl
    · rename_i e; rw [hn, if_neg e]
theorem Frs.draw {d d' : Option Addr} {W : World} {F : Nat → Prop} {G : Nat} {N : List Nt} (h : Frs Xh d W F B G N fr) : Frs Xh d' (W.setCell ⟨B, 2, none⟩ (.pointer d')) F B G N fr ∧ Step F F W (W.setCell ⟨B, 2, none⟩ (.pointer d')) := by
  obtain ⟨v, u, h1, h2, h3, h4, h5, h6⟩ := h.ex
  have hb := h.b
  refine ⟨⟨⟨v, u, by simpa using Blk.setAt h1 2 (.pointer d'), h2.kept fun k hk => Below.heap_setCell W ⟨B, 2, none⟩ _ k (h5 k hk).2.2, h3.kept fun k hk => Below.heap_setCell W ⟨B, 2, none⟩ _ k (h6 k hk).2, h4, h5, h6⟩, hb, fun k hk => by rw [size_setCell]; exact h.lt k hk, h.wsl, h.fr, hole2 _⟩, ⟨(Only.refl F W).set (.inl hb) 2 _, fun k hk => .inl hk⟩⟩
end
end Go.Proofs.YtlmdjghcmofdlaaGreat
/- Layer 6 (treap): Make, New. -/
namespace Go.Proofs.YtlmdjghcmofdlaaGreat
open Go.RowKit
set_option linter.unusedVariables false
variable {Xh : Hx}
section
variable {w : World} {F : Nat → Prop} {B : Nat} {K : List Bool} {fr : List Int} {S : Int → List Int} {V : Int → Vl} {mx : Nat}
theorem Frs.drawn {w5 w6 : World} {F1 Fa : Nat → Prop} {G D Dg : Nat} {N : List Nt} {xs : List Int} {n : Nat} {d : Option Addr} (hlt : ∀ k, F1 k → k < w5.heap.size) (h5 : ∀ k, Fa k → F1 k) (HX : Frs Xh d w5 Fa B G N fr) (hn : n ≤ mx) (hD : F1 D) (hG : F1 Dg) (nD : ¬ Fa D) (nG : ¬ Fa Dg) (nH : Dh Xh.dr D Dg xs)
    (hd : d = some ⟨D, 0, none⟩) (b6 : But w5.heap.size D w5 w6) (HD6 : Drw w6 D Dg xs (n + 1)) : Frs Xh d w6 Fa B G N fr ∧ Dok Xh.dr w6 F1 Fa d (mx + 1) ∧ Step F1 F1 w5 w6 ∧ (∀ k, F1 k → k < w6.heap.size) := by
  refine ⟨HX.kept (fun k hk => b6.block k (HX.lt k hk) (fun e => nD (e ▸ hk))) b6.size, .inr ⟨D, Dg, xs, n + 1, hd, HD6, by omega, hD, hG, nD, nG, nH⟩, ⟨⟨b6.os, b6.tape, b6.output, b6.size, fun k hk hn => b6.block k hk (fun e => hn (e ▸ hD))⟩, fun k hk => .inl hk⟩, fun k hk => Nat.lt_of_lt_of_le (hlt k hk) b6.size⟩
theorem tmake_any (h : Tp Xh w F B K fr S V mx) (x : Vl) (hK : K.length < 2147483647) (hm : mx < 4611686018427387904) :
    Calls Tryz.prog 73 #[.pointer (some ⟨B, 0, none⟩), vlc x] w fun e w' => ∃ F', e = .returned (.int .i32 (newI K fr)) ∧ Tp Xh w' F' B (newK K fr) fr.dropLast (makeS S (newI K fr)) (updV V (newI K fr) x) (mx + 1) ∧ Step F F' w w' := by
  obtain ⟨G, N, d, Fa, h1, h2, h3, h4, h5, h6⟩ := h.ex
  have hb1 := (Below.refl w.heap.size w).alloc (Nat.le_refl _) (.cells #[.int .i64 x.c, .int .i64 x.s, .int .i64 x.l, .int .u8 x.m] 129)
  have hBl := h1.arn.blt
  have hX : Blk (w.alloc (.cells #[.int .i64 x.c, .int .i64 x.s, .int .i64 x.l, .int .u8 x.m] 129)) w.heap.size 129 #[.int .i64 x.c, .int .i64 x.s, .int .i64 x.l, .int .u8 x.m] := Blk.new w _ _
  have hF := h1.below hb1
  have hdc := hF.dcell
  have hfk : Fk K fr := h.fk
  have hI := newI_bd hfk
  have hND : ∀ (pr : Int), (∀ j, nd (newN N fr ⟨x, zeV, 0, pr, 0, 0, 0⟩) j = if j = newI K fr then ⟨x, zeV, 0, pr, 0, 0, 0⟩ else nd N j) ∧ (∀ j, tk (newN N fr ⟨x, zeV, 0, pr, 0, 0, 0⟩) j = if j = newI K fr then true else tk N j) ∧
      Wd (reckN (newN N fr ⟨x, zeV, 0, pr, 0, 0, 0⟩) (newI K fr)) (makeS S (newI K fr)) ∧ (∀ j, (nd (reckN (newN N fr ⟨x, zeV, 0, pr, 0, 0, 0⟩) (newI K fr)) j).own = updV V (newI K fr) x j) ∧ (reckN (newN N fr ⟨x, zeV, 0, pr, 0, 0, 0⟩) (newI K fr)).map (·.2) = newK K fr ∧ (newN N fr ⟨x, zeV, 0, pr, 0, 0, 0⟩).length ≤ 2147483647 := fun pr => by
    have := h2.make (fr := fr) (n := ⟨x, zeV, 0, pr, 0, 0, 0⟩) (by rw [h3]; exact hfk) rfl rfl rfl
    rw [h3] at this
    obtain ⟨a1, a2, a3, a4⟩ := this
    have hfl : (newN N fr ⟨x, zeV, 0, pr, 0, 0, 0⟩).map (·.2) = newK K fr := by rw [newN_flags, h3]
    refine ⟨a1, a2, a3, fun j => ?_, ?_, ?_⟩
    · rw [a4]; unfold updV; split
      · rfl
      · exact h4 j
    · rw [← hfl]
      exact flags_of (setN_len _ _ _) (tk_setN _ (by rw [a2, if_pos rfl]))
    · have := congrArg List.length hfl
      rw [List.length_map] at this
      have := (newK_le K fr).1
      omega
  have HT : Hid (∀ (pr : Int) {w' : World} {d' : Option Addr}, Frs Xh d' w' Fa B G N fr → Calls Tryz.prog 95 #[.pointer (some ⟨B, 0, none⟩), .agg #[.int .i64 x.c, .int .i64 x.s, .int .i64 x.l, .int .u8 x.m, .int .i64 0, .int .i64 0, .int .i64 0, .int .u8 0, .int .i64 0, .int .u32 pr, .int .i32 0, .int .i32 0, .int .i32 0]] w' fun e w'' => ∃ F' G', e = .returned (.int .i32 (newI K fr)) ∧ Frs Xh d' w'' F' B G' (newN N fr ⟨x, zeV, 0, pr, 0, 0, 0⟩) fr.dropLast ∧ Step Fa F' w' w'') := fun pr w' d' h' => by
    have hl : (slN N).length = K.length := by rw [slN_len, ← h3, List.length_map]
    have := AN.take_any ⟨x, zeV, 0, pr, 0, 0, 0⟩ h'.arn (by have := Fk.le hfk; omega) (by rw [hl]; exact hK)
    rw [newI_take, h3] at this
    refine this.mono ?_
    rintro e w'' ⟨F', G', e1, e2, e3⟩
    exact ⟨F', G', e1, by unfold Frs; rw [newN_sl]; exact e2, e3⟩
  have HR : Hid (∀ (pr : Int) {w' : World} {d' : Option Addr} {F' : Nat → Prop} {G' : Nat}, Frs Xh d' w' F' B G' (newN N fr ⟨x, zeV, 0, pr, 0, 0, 0⟩) fr.dropLast → Calls Tryz.prog 97 #[.pointer (some ⟨B, 0, none⟩), .int .i32 (newI K fr)] w' fun e w'' => e = .returned (.tuple #[]) ∧ Frs Xh d' w'' F' B G' (reckN (newN N fr ⟨x, zeV, 0, pr, 0, 0, 0⟩) (newI K fr)) fr.dropLast ∧ Step F' F' w' w'') := fun pr w' d' F' G' h' => by
    obtain ⟨a1, a2, _, _, _, a6⟩ := hND pr
    have ni : nd (newN N fr ⟨x, zeV, 0, pr, 0, 0, 0⟩) (newI K fr) = ⟨x, zeV, 0, pr, 0, 0, 0⟩ := by rw [a1, if_pos rfl]
    have z0 : (0 : Int) ≤ szOf (newN N fr ⟨x, zeV, 0, pr, 0, 0, 0⟩) 0 ∧ szOf (newN N fr ⟨x, zeV, 0, pr, 0, 0, 0⟩) 0 ≤ 2147483647 := ⟨Int.le_refl _, by show (0 : Int) ≤ 2147483647; decide⟩
    exact reckon_any h' a6 (by rw [a2, if_pos rfl]) (by rw [ni]; exact .inl rfl) (by rw [ni]; exact .inl rfl) (by rw [ni]; exact z0) (by rw [ni]; exact z0)
  have FIN : Hid (∀ (pr : Int) {w6 w8 : World} {d' : Option Addr} {F1 F' : Nat → Prop} {G' : Nat}, (∀ k, F1 k → k < w6.heap.size) → Frs Xh d' w6 Fa B G N fr → (∀ k, Fa k → F1 k) → Dok Xh.dr w6 F1 Fa d' (mx + 1) → Frs Xh d' w8 F' B G' (reckN (newN N fr ⟨x, zeV, 0, pr, 0, 0, 0⟩) (newI K fr)) fr.dropLast → Step Fa F' w6 w8 → Step F F1 w w6 →
      ∃ F'', Tp Xh w8 F'' B (newK K fr) fr.dropLast (makeS S (newI K fr)) (updV V (newI K fr) x) (mx + 1) ∧ Step F F'' w w8) := fun pr w6 w8 d' F1 F' G' k1 k2 k3 k4 k5 k6 k7 => by
    obtain ⟨_, _, a3, a4, a5, _⟩ := hND pr
    obtain ⟨q1, q2⟩ := Tp.regrown k1 k2 k3 k4 k5 k6 a3 a5 a4 (Fk.new hfk) (by have := (newK_le K fr).1; omega)
    exact ⟨_, q1, k7.trans q2⟩
  have HFX : Hid (Frs Xh d (w.alloc (.cells #[.int .i64 x.c, .int .i64 x.s, .int .i64 x.l, .int .u8 x.m] 129)) Fa B G N fr) := hF
  have HXX : Hid (Blk (w.alloc (.cells #[.int .i64 x.c, .int .i64 x.s, .int .i64 x.l, .int .u8 x.m] 129)) w.heap.size 129 #[.int .i64 x.c, .int .i64 x.s, .int .i64 x.l, .int .u8 x.m]) := hX
  have H5 : Hid (∀ k, Fa k → F k) := h5
  have HLT : Hid (∀ k, F k → k < w.heap.size) := h.lt
  have HFa : Hid (∀ k, Fa k → k < w.heap.size) := h1.lt
  have HF0 : Hid (Frs Xh d w Fa B G N fr) := h1
  have HB1 : Hid _ := hb1
  clear hF hX h2 h3 h4 hfk hI hND h1 h5 hb1
  generalize newI K fr = I at *
  rcases h6 with ⟨rfl, hdr⟩ | ⟨D, Dg, xs, n, rfl, hD, hn, fD, fG, nD, nG, nH⟩
  · skip
    clear h
    go_enter Tryz.func73, Tryz.ntmps73
    have hfz : (w.alloc (.cells #[.int .i64 x.c, .int .i64 x.s, .int .i64 x.l, .int .u8 x.m] 129)).frozen? ⟨B, 2, none⟩ = false := HFX.out.arn.froz 2
    go_wp2_with fail
    obtain ⟨D, hDe⟩ : ∃ D, D = w.heap.size + 1 := ⟨_, rfl⟩
    obtain ⟨xs, hxs⟩ : ∃ xs : List Int, xs = [] := ⟨_, rfl⟩
    obtain ⟨n, hne⟩ : ∃ n : Nat, n = 0 := ⟨_, rfl⟩
    obtain ⟨Dg, hGe⟩ : ∃ Dg, Dg = D := ⟨_, rfl⟩
    obtain ⟨F1, e1⟩ : ∃ F1 : Nat → Prop, ∀ k, F1 k ↔ (F k ∨ k = D) := ⟨_, fun _ => Iff.rfl⟩
    have hBw := HF0.out.arn.blt
    obtain ⟨h42, s42⟩ := HF0.out.draw (d' := some ⟨D, 0, none⟩)
    rw [← hDe]
    have hsz : (w.setCell ⟨B, 2, none⟩ (.pointer (some ⟨D, 0, none⟩))).heap.size = w.heap.size := size_setCell _ _ _
    have bX : Blk ((w.setCell ⟨B, 2, none⟩ (.pointer (some ⟨D, 0, none⟩))).alloc (.cells #[.int .i64 x.c, .int .i64 x.s, .int .i64 x.l, .int .u8 x.m] 129)) w.heap.size 129 #[.int .i64 x.c, .int .i64 x.s, .int .i64 x.l, .int .u8 x.m] := by
      have := Blk.new (w.setCell ⟨B, 2, none⟩ (.pointer (some ⟨D, 0, none⟩))) 129 #[.int .i64 x.c, .int .i64 x.s, .int .i64 x.l, .int .u8 x.m]
      rwa [hsz] at this
    have bL := ((Below.refl _ (w.setCell ⟨B, 2, none⟩ (.pointer (some ⟨D, 0, none⟩)))).alloc (Nat.le_refl _) (.cells #[.int .i64 x.c, .int .i64 x.s, .int .i64 x.l, .int .u8 x.m] 129))
    have bL2 := below_new bL (Nat.le_refl _) (.cells #[.slice none 0 0, .int .i64 0] 72)
    have hs4 : ((w.setCell ⟨B, 2, none⟩ (.pointer (some ⟨D, 0, none⟩))).alloc (.cells #[.int .i64 x.c, .int .i64 x.s, .int .i64 x.l, .int .u8 x.m] 129)).heap.size = D := by simp [hDe]
    generalize (w.setCell ⟨B, 2, none⟩ (.pointer (some ⟨D, 0, none⟩))).alloc (.cells #[.int .i64 x.c, .int .i64 x.s, .int .i64 x.l, .int .u8 x.m] 129) = w4 at *
    have b41 : Blk (w4.alloc (.cells #[.slice none 0 0, .int .i64 0] 72)) D 72 #[.slice none 0 0, .int .i64 0] := by rw [← hs4]; exact Blk.new w4 _ _
    have bX5 := bX.alloc (.cells #[.slice none 0 0, .int .i64 0] 72)
    have hs5 : (w4.alloc (.cells #[.slice none 0 0, .int .i64 0] 72)).heap.size = D + 1 := by simp [hs4]
    generalize w4.alloc (.cells #[.slice none 0 0, .int .i64 0] 72) = w5 at *
    have HD : Hid (Drw w5 D Dg xs n) := by
      refine ⟨⟨none, 0, ?_, .inl hxs⟩, by rw [hxs]; intro z hz; simp at hz, by rw [hxs]; simp, by rw [hGe, hs5]; omega⟩
      rw [hxs, hne]
      exact b41
    have ND : Hid (n ≤ mx ∧ F1 D ∧ F1 Dg ∧ ¬ Fa D ∧ ¬ Fa Dg ∧ Dh Xh.dr D Dg xs) := ⟨by omega, (e1 D).2 (.inr rfl), (e1 Dg).2 (.inr hGe), fun e => by have := HFa.out _ e; omega, fun e => by have := HFa.out _ e; omega, fun q e => by rw [hdr] at e; cases e⟩
    clear hdr
    have H51 : Hid (∀ k, Fa k → F1 k) := fun k hk => (e1 k).2 (.inl (H5.out k hk))
    have L1 : Hid (∀ k, F1 k → k < w5.heap.size) := fun k hk => by rw [hs5]; rcases (e1 k).1 hk with hk | hk; have := HLT.out k hk; omega; omega
    have S5 : Hid (Step F F1 w w5) := by
      have s5 := (s42.wide H5.out).trans (Step.of_below (F := F) bL2)
      exact ⟨s5.only, fun k hk => ((e1 k).1 hk).elim .inl (fun e => .inr (by omega))⟩
    have hnX : w.heap.size ≠ D := by omega
    have hBD : B ≠ D := by omega
    have HXX5 : Hid (Blk w5 w.heap.size 129 #[.int .i64 x.c, .int .i64 x.s, .int .i64 x.l, .int .u8 x.m]) := bX5
    have HFX5 : Hid (Frs Xh (some ⟨D, 0, none⟩) w5 Fa B G N fr) := h42.below bL2
    clear HXX HFX h42 s42 b41 hs4 hDe hxs hne hGe e1 hBw hdc hfz hs5 HB1 hsz bX bX5 bL bL2 HF0
    have HXX : Hid (Blk w5 w.heap.size 129 #[.int .i64 x.c, .int .i64 x.s, .int .i64 x.l, .int .u8 x.m]) := HXX5
    have HFX : Hid (Frs Xh (some ⟨D, 0, none⟩) w5 Fa B G N fr) := HFX5
    clear HXX5 HFX5
    have d5 := HFX.out.dcell
    have x0 := HXX.out.at (j := 0) rfl
    have x1 := HXX.out.at (j := 1) rfl
    have x2 := HXX.out.at (j := 2) rfl
    have x3 := HXX.out.at (j := 3) rfl
    have HN := next_any (w := w5.drew) (HD.out.kept rfl rfl (Nat.le_refl _)) (by have := ND.out.1; omega)
    have hXl : w.heap.size < w5.heap.size := HXX.out.lt
    have hBl5 := HFX.out.arn.blt
    have HD2 : Hid (∀ w6, Drw w6 D Dg xs (n + 1) → But w5.drew.heap.size D w5.drew w6 → Frs Xh (some ⟨D, 0, none⟩) w6 Fa B G N fr ∧ Dok Xh.dr w6 F1 Fa (some ⟨D, 0, none⟩) (mx + 1) ∧ Step F1 F1 w5 w6 ∧ (∀ k, F1 k → k < w6.heap.size)) := fun w6 hd6 hb6 =>
      Frs.drawn L1.out H51.out HFX.out ND.out.1 ND.out.2.1 ND.out.2.2.1 ND.out.2.2.2.1 ND.out.2.2.2.2.1 ND.out.2.2.2.2.2 rfl ⟨hb6.os, hb6.tape, hb6.output, hb6.size, hb6.block⟩ hd6
    have hXFa : ¬ Fa w.heap.size := fun e => by have := HFa.out _ e; omega
    go_region_held3 (fun w' => w'.cell? ⟨B, 2, none⟩ = some (.pointer (some ⟨D, 0, none⟩)) ∧ w'.cell? ⟨w.heap.size, 0, none⟩ = some (.int .i64 x.c) ∧ w'.cell? ⟨w.heap.size, 1, none⟩ = some (.int .i64 x.s) ∧ w'.cell? ⟨w.heap.size, 2, none⟩ = some (.int .i64 x.l) ∧ w'.cell? ⟨w.heap.size, 3, none⟩ = some (.int .u8 x.m))
      (first
        | go_keep
        | (go_split_ands
           refine ⟨a7.dcell, ?_, ?_, ?_, ?_⟩
           · (rw [s7.cell hX6 hXFa]; assumption)
           · (rw [s7.cell hX6 hXFa]; assumption)
           · (rw [s7.cell hX6 hXFa]; assumption)
           · (rw [s7.cell hX6 hXFa]; assumption))
        | (go_split_ands
           refine ⟨?_, ?_, ?_, ?_, ?_⟩
           · (rw [hb6.cell hBl5 hBD]; assumption)
           · (rw [hb6.cell hXl hnX]; assumption)
           · (rw [hb6.cell hXl hnX]; assumption)
           · (rw [hb6.cell hXl hnX]; assumption)
           · (rw [hb6.cell hXl hnX]; assumption)))
      (first
        | (go_at_call 96; refine HN.mono ?_; rintro e w6 ⟨rfl, hd6, hb6⟩; have hX6 : w.heap.size < w6.heap.size := Nat.lt_of_lt_of_le hXl hb6.size)
        | (go_at_call 95; refine (HT.out (drawN xs n) (HD2.out _ hd6 hb6).1).mono ?_; rintro e w7 ⟨Fb, Gb, rfl, a7, s7⟩)
        | skip)
    obtain ⟨X6, D6, S6, L6⟩ := HD2.out _ hd6 hb6
    have HR7 := HR.out (drawN xs n) a7
    have FIN7 : Hid (∀ w8, Frs Xh (some ⟨D, 0, none⟩) w8 Fb B Gb (reckN (newN N fr ⟨x, zeV, 0, drawN xs n, 0, 0, 0⟩) I) fr.dropLast → Step Fb Fb w7 w8 → ∃ F'', Tp Xh w8 F'' B (newK K fr) fr.dropLast (makeS S I) (updV V I x) (mx + 1) ∧ Step F F'' w w8) := fun w8 a8 s8 => FIN.out (drawN xs n) L6 X6 H51.out D6 a8 (s7.trans s8) (S5.out.trans S6)
    rename_i hHeld
    clear hHeld a7 s7 X6 D6 S6 L6 hd6 hb6 HD2 HT HR FIN HN d5 x0 x1 x2 x3
    go_wp2_with fail
    refine HR7.mono ?_
    rintro e w8 ⟨rfl, a8, s8⟩
    obtain ⟨F'', q1, q2⟩ := FIN7.out w8 a8 s8
    have Q1 : Hid _ := q1
    have Q2 : Hid _ := q2
    clear HR7 FIN7 a8 s8 q1 q2
    go_wp2
    go_ret
    exact ⟨F'', rfl, Q1.out, Q2.out⟩
  · skip
    obtain ⟨F1, e1⟩ : ∃ F1 : Nat → Prop, ∀ k, F1 k ↔ F k := ⟨F, fun _ => Iff.rfl⟩
    have HE1 : Hid _ := e1
    have HD : Hid (Drw (w.alloc (.cells #[.int .i64 x.c, .int .i64 x.s, .int .i64 x.l, .int .u8 x.m] 129)) D Dg xs n) := hD.below HB1.out
    have hnX : w.heap.size ≠ D := fun e => by have := HLT.out D fD; omega
    have ND : Hid (n ≤ mx ∧ F1 D ∧ F1 Dg ∧ ¬ Fa D ∧ ¬ Fa Dg ∧ Dh Xh.dr D Dg xs) := ⟨hn, (e1 D).2 fD, (e1 Dg).2 fG, nD, nG, nH⟩
    have H51 : Hid (∀ k, Fa k → F1 k) := fun k hk => (e1 k).2 (H5.out k hk)
    have hDl : D < w.heap.size := HLT.out D fD
    have hBD : B ≠ D := fun e => nD (e ▸ HFX.out.arn.b)
    clear hD hn fD fG nD nG nH h e1
    go_enter Tryz.func73, Tryz.ntmps73
    go_wp2_with fail
    generalize hw5 : w.alloc (.cells #[.int .i64 x.c, .int .i64 x.s, .int .i64 x.l, .int .u8 x.m] 129) = w5 at *
    have L1 : Hid (∀ k, F1 k → k < w5.heap.size) := fun k hk => by rw [← hw5]; simp; have := HLT.out k ((HE1.out k).1 hk); omega
    have S5 : Hid (Step F F1 w w5) := ⟨(Step.of_below (F := F) HB1.out).only, fun k hk => .inl ((HE1.out k).1 hk)⟩
    have d5 := HFX.out.dcell
    have x0 := HXX.out.at (j := 0) rfl
    have x1 := HXX.out.at (j := 1) rfl
    have x2 := HXX.out.at (j := 2) rfl
    have x3 := HXX.out.at (j := 3) rfl
    have HN := next_any (w := w5.drew) (HD.out.kept rfl rfl (Nat.le_refl _)) (by have := ND.out.1; omega)
    have hXl : w.heap.size < w5.heap.size := HXX.out.lt
    have hBl5 := HFX.out.arn.blt
    have HD2 : Hid (∀ w6, Drw w6 D Dg xs (n + 1) → But w5.drew.heap.size D w5.drew w6 → Frs Xh (some ⟨D, 0, none⟩) w6 Fa B G N fr ∧ Dok Xh.dr w6 F1 Fa (some ⟨D, 0, none⟩) (mx + 1) ∧ Step F1 F1 w5 w6 ∧ (∀ k, F1 k → k < w6.heap.size)) := fun w6 hd6 hb6 =>
      Frs.drawn L1.out H51.out HFX.out ND.out.1 ND.out.2.1 ND.out.2.2.1 ND.out.2.2.2.1 ND.out.2.2.2.2.1 ND.out.2.2.2.2.2 rfl ⟨hb6.os, hb6.tape, hb6.output, hb6.size, hb6.block⟩ hd6
    have hXFa : ¬ Fa w.heap.size := fun e => by have := HFa.out _ e; omega
    go_region_held3 (fun w' => w'.cell? ⟨B, 2, none⟩ = some (.pointer (some ⟨D, 0, none⟩)) ∧ w'.cell? ⟨w.heap.size, 0, none⟩ = some (.int .i64 x.c) ∧ w'.cell? ⟨w.heap.size, 1, none⟩ = some (.int .i64 x.s) ∧ w'.cell? ⟨w.heap.size, 2, none⟩ = some (.int .i64 x.l) ∧ w'.cell? ⟨w.heap.size, 3, none⟩ = some (.int .u8 x.m))
      (first
        | go_keep
        | (go_split_ands
           refine ⟨a7.dcell, ?_, ?_, ?_, ?_⟩
           · (rw [s7.cell hX6 hXFa]; assumption)
           · (rw [s7.cell hX6 hXFa]; assumption)
           · (rw [s7.cell hX6 hXFa]; assumption)
           · (rw [s7.cell hX6 hXFa]; assumption))
        | (go_split_ands
           refine ⟨?_, ?_, ?_, ?_, ?_⟩
           · (rw [hb6.cell hBl5 hBD]; assumption)
           · (rw [hb6.cell hXl hnX]; assumption)
           · (rw [hb6.cell hXl hnX]; assumption)
           · (rw [hb6.cell hXl hnX]; assumption)
           · (rw [hb6.cell hXl hnX]; assumption)))
      (first
        | (go_at_call 96; refine HN.mono ?_; rintro e w6 ⟨rfl, hd6, hb6⟩; have hX6 : w.heap.size < w6.heap.size := Nat.lt_of_lt_of_le hXl hb6.size)
        | (go_at_call 95; refine (HT.out (drawN xs n) (HD2.out _ hd6 hb6).1).mono ?_; rintro e w7 ⟨Fb, Gb, rfl, a7, s7⟩)
        | skip)
    obtain ⟨X6, D6, S6, L6⟩ := HD2.out _ hd6 hb6
    have HR7 := HR.out (drawN xs n) a7
    have FIN7 : Hid (∀ w8, Frs Xh (some ⟨D, 0, none⟩) w8 Fb B Gb (reckN (newN N fr ⟨x, zeV, 0, drawN xs n, 0, 0, 0⟩) I) fr.dropLast → Step Fb Fb w7 w8 → ∃ F'', Tp Xh w8 F'' B (newK K fr) fr.dropLast (makeS S I) (updV V I x) (mx + 1) ∧ Step F F'' w w8) := fun w8 a8 s8 => FIN.out (drawN xs n) L6 X6 H51.out D6 a8 (s7.trans s8) (S5.out.trans S6)
    rename_i hHeld
    clear hHeld a7 s7 X6 D6 S6 L6 hd6 hb6 HD2 HT HR FIN HN d5 x0 x1 x2 x3
    go_wp2_with fail
    refine HR7.mono ?_
    rintro e w8 ⟨rfl, a8, s8⟩
    obtain ⟨F'', q1, q2⟩ := FIN7.out w8 a8 s8
    have Q1 : Hid _ := q1
    have Q2 : Hid _ := q2
    clear HR7 FIN7 a8 s8 q1 q2
    go_wp2
    go_ret
    exact ⟨F'', rfl, Q1.out, Q2.out⟩
end
end Go.Proofs.YtlmdjghcmofdlaaGreat
