/- Layer 6 (treap): Make, Free, New. -/
import Derived.Test.YtpbnhbpkfdhedaaTreapSet
import Derived.Deep.RegionHeld3
namespace Go.Proofs.Ytpbnhbpkfdhedaa
open Go.RowKit
set_option linter.unusedVariables false
variable {Xh : Hx}

/-- The number that is given next; which numbers are taken behind that. -/
def newI (K : List Bool) (fr : List Int) : Int := match fr.getLast? with | none => (K.length : Int) + 1 | some f => f
def newK (K : List Bool) (fr : List Int) : List Bool := match fr.getLast? with | none => K ++ [true] | some f => K.set (f - 1).toNat true
def makeS (S : Int → List Int) (i : Int) : Int → List Int := fun j => if j = i then [i] else S j
def freeS (S : Int → List Int) (i : Int) : Int → List Int := fun j => if j = i then [] else S j
def newN (N : List Nt) (fr : List Int) (n : Nd) : List Nt := match fr.getLast? with | none => N ++ [(n, true)] | some f => N.set (f - 1).toNat (n, true)
theorem newN_sl (N : List Nt) (fr : List Int) (n : Nd) : slN (newN N fr n) = takeL (slN N) fr (ndc n, true) := by
  unfold newN takeL slN
  cases fr.getLast? <;> simp [List.map_set]
theorem newI_take (N : List Nt) (fr : List Int) : takeI (slN N) fr = newI (N.map (·.2)) fr := by
  unfold takeI newI slN
  cases fr.getLast? <;> simp
theorem newN_flags (N : List Nt) (fr : List Int) (n : Nd) : (newN N fr n).map (·.2) = newK (N.map (·.2)) fr := by
  unfold newN newK
  cases fr.getLast? <;> simp [List.map_set]
theorem newK_le (K : List Bool) (fr : List Int) : (newK K fr).length ≤ K.length + 1 ∧ K.length ≤ (newK K fr).length := by
  unfold newK; cases fr.getLast? <;> simp
/-- Free numbers are free, and there. -/
def Fk (K : List Bool) (fr : List Int) : Prop := fr.Nodup ∧ ∀ f ∈ fr, isK K f = false ∧ 1 ≤ f ∧ f ≤ K.length
theorem newI_bd {K : List Bool} {fr : List Int} (h : Fk K fr) : 1 ≤ newI K fr ∧ newI K fr ≤ (K.length : Int) + 1 ∧ isK K (newI K fr) = false := by
  unfold newI
  rcases List.eq_nil_or_concat fr with rfl | ⟨fr', f, rfl⟩
  · refine ⟨by simp <;> omega, by simp, ?_⟩
    cases hk : isK K ((K.length : Int) + 1) with
    | false => exact hk
    | true => have := isK_bd hk; omega
  · rw [List.concat_eq_append, List.getLast?_concat]
    have := h.2 f (by simp)
    exact ⟨this.2.1, Int.le_trans this.2.2 (by omega), this.1⟩
theorem isK_new {K : List Bool} {fr : List Int} (h : Fk K fr) (j : Int) : isK (newK K fr) j = if j = newI K fr then true else isK K j := by
  unfold newK newI
  rcases List.eq_nil_or_concat fr with rfl | ⟨fr', f, rfl⟩
  · exact isK_snoc true j
  · rw [List.concat_eq_append, List.getLast?_concat]
    exact isK_set true (h.2 f (by simp)).2 j
theorem Fk.new {K : List Bool} {fr : List Int} (h : Fk K fr) : Fk (newK K fr) fr.dropLast := by
  refine ⟨h.1.sublist (List.dropLast_sublist fr), fun f hf => ?_⟩
  have h1 := h.2 f (List.dropLast_subset fr hf)
  refine ⟨?_, h1.2.1, by have := (newK_le K fr).2; omega⟩
  rw [isK_new h, if_neg]
  · exact h1.1
  · unfold newI
    rcases List.eq_nil_or_concat fr with rfl | ⟨fr', g, rfl⟩
    · simp at hf
    · rw [List.concat_eq_append] at hf h ⊢
      rw [List.getLast?_concat]
      rw [List.dropLast_concat] at hf
      rintro rfl
      exact (List.nodup_append.1 h.1).2.2 f hf f (by simp) rfl
theorem Fk.free {K : List Bool} {fr : List Int} (h : Fk K fr) {i : Int} (hi : isK K i = true) : Fk (K.set (i - 1).toNat false) (fr ++ [i]) := by
  have hb := isK_bd hi
  have hni : i ∉ fr := fun h' => by rw [(h.2 i h').1] at hi; cases hi
  refine ⟨List.nodup_append.2 ⟨h.1, by simp, fun a ha b hb e => by simp at hb; exact hni (by rw [← hb, ← e]; exact ha)⟩, fun f hf => ?_⟩
  rw [List.length_set, isK_set false hb]
  rcases List.mem_append.1 hf with hf | hf
  · have := h.2 f hf
    exact ⟨by split <;> simp [this.1], this.2⟩
  · simp at hf; subst hf; exact ⟨by simp, hb⟩
theorem Fk.le {K : List Bool} {fr : List Int} (h : Fk K fr) : fr.length ≤ K.length := by
  have := h.1.length_le_of_subset (l₂ := List.map (fun k : Nat => (k : Int) + 1) (List.range K.length)) (fun j hj => by
    obtain ⟨_, b1, b2⟩ := h.2 j hj
    exact List.mem_map.2 ⟨(j - 1).toNat, List.mem_range.2 (by omega), by omega⟩)
  simpa using this

section
variable {w : World} {F : Nat → Prop} {B : Nat} {K : List Bool} {fr : List Int} {S : Int → List Int} {V : Int → Vl} {mx : Nat}
/-- An arena that has grown or shrunk. -/
theorem Tp.regrown {G G' : Nat} {N N' : List Nt} {d : Option Addr} {Fa Fa' : Nat → Prop} {w' : World} {K' : List Bool} {fr' : List Int} {S' : Int → List Int} {V' : Int → Vl} (hlt : ∀ k, F k → k < w.heap.size) (h1 : Frs Xh d w Fa B G N fr) (h5 : ∀ k, Fa k → F k) (h6 : Dok w F Fa d mx)
    (hA : Frs Xh d w' Fa' B G' N' fr') (hS : Step Fa Fa' w w') (hw : Wd N' S') (hk : N'.map (·.2) = K') (hv : ∀ i, (nd N' i).own = V' i) (hf : Fk K' fr') (hK : K'.length ≤ 2147483647) : Tp Xh w' (fun k => F k ∨ Fa' k) B K' fr' S' V' mx ∧ Step F (fun k => F k ∨ Fa' k) w w' := by
  refine ⟨⟨⟨G', N', d, Fa', hA, hw, hk, hv, fun k hk => .inr hk, h6.imp id ?_⟩, fun k hk => hk.elim (fun h' => Nat.lt_of_lt_of_le (hlt k h') hS.size) (hA.lt k), hf, hK⟩, ⟨?_, fun k hk => ?_⟩⟩
  · rintro ⟨D, Dg, xs, n, a1, a2, a3, a4, a5, a6, a7⟩
    have e1 := hlt D a4
    have e2 := hlt Dg a5
    exact ⟨D, Dg, xs, n, a1, a2.kept (hS.only.block D e1 a6) (hS.only.block Dg e2 a7) hS.size, a3, .inl a4, .inl a5, fun h' => (hS.ext D h').elim a6 (by omega), fun h' => (hS.ext Dg h').elim a7 (by omega)⟩
  · exact (hS.wide h5).only
  · exact hk.imp id (fun h' => h') |>.elim .inl (fun h' => (hS.ext k h').elim (fun h'' => .inl (h5 k h'')) .inr)
theorem Wd.free {N : List Nt} {S : Int → List Int} (h : Wd N S) {i : Int} (hi : S i = [i]) : Wd (N.set (i - 1).toNat (zeN, false)) (freeS S i) ∧ (∀ j, nd (N.set (i - 1).toNat (zeN, false)) j = if j = i then zeN else nd N j) := by
  have him : i ∈ S i := by rw [hi]; simp
  have htk := (h.memTk him).1
  obtain ⟨b1, b2, b3⟩ := tk_iff.1 htk
  have hfl : (N.set (i - 1).toNat (zeN, false)).map (·.2) = (N.map (·.2)).set (i - 1).toNat false := by simp [List.map_set]
  have hk : ∀ j, tk (N.set (i - 1).toNat (zeN, false)) j = if j = i then false else tk N j := fun j => by
    rw [tk_isK, hfl, isK_set false ⟨b1, by simpa using b2⟩, ← tk_isK]
  have hn : ∀ j, nd (N.set (i - 1).toNat (zeN, false)) j = if j = i then zeN else nd N j := fun j => by
    simp only [nd]
    by_cases hj : 1 ≤ j
    · rw [if_pos hj, if_pos hj, List.getD_eq_getElem?_getD, List.getD_eq_getElem?_getD, List.getElem?_set]
      by_cases e : j = i
      · subst e; rw [if_pos rfl, if_pos rfl, if_pos (by omega)]; rfl
      · rw [if_neg e, if_neg (by omega)]
    · rw [if_neg hj, if_neg hj, if_neg (by omega)]
  have hout : ∀ j, j ≠ i → i ∉ S j := fun j hj hm => hj (by
    have h1 := h.same j i hm
    have h2 := h.mem j (h.memTk hm).2
    rw [← h1, hi] at h2; simpa using h2)
  refine ⟨⟨fun j hj => ?_, fun j hj => ?_, fun j x hx => ?_, fun j hj => ?_⟩, hn⟩
  · rw [hk] at hj
    by_cases e : j = i
    · simp [e] at hj
    · rw [if_neg e] at hj
      obtain ⟨t, e1, g⟩ := h.tree j hj
      refine ⟨t, by unfold freeS; rw [if_neg e]; exact e1, g.hang.congr (fun x hx => ?_), fun x hx => ?_, g.nodup⟩
      · rw [hn, if_neg]; rintro rfl; exact hout j e (e1 ▸ hx)
      · rw [hk, if_neg]; exact g.all x hx; rintro rfl; exact hout j e (e1 ▸ hx)
  · rw [hk] at hj
    by_cases e : j = i
    · simp [e] at hj
    · rw [if_neg e] at hj; unfold freeS; rw [if_neg e]; exact h.mem j hj
  · unfold freeS at hx ⊢
    by_cases e : j = i
    · simp [e] at hx
    · rw [if_neg e] at hx
      rw [if_neg e, if_neg]
      · exact h.same j x hx
      · rintro rfl; exact hout j e hx
  · unfold freeS
    rw [hk] at hj
    by_cases e : j = i
    · rw [if_pos e]
    · rw [if_neg e] at hj ⊢; exact h.none j hj
theorem Tp.lone (h : Tp Xh w F B K fr S V mx) {i : Int} (hl : (S i).length = 1) : S i = [i] := by
  have hm : i ∈ S i := h.mem.1 (by
    cases hk : isK K i with
    | true => rfl
    | false => rw [h.nil.1 hk] at hl; simp at hl)
  obtain ⟨x, hx⟩ := List.length_eq_one_iff.1 hl
  rw [hx] at hm ⊢
  simp at hm
  rw [hm]
set_option maxHeartbeats 1000000 in
theorem tfree_no (h : Tp Xh w F B K fr S V mx) (i : Int) (hb : -2147483648 ≤ i ∧ i ≤ 2147483647) (hl : (S i).length ≠ 1) :
    Calls Try.prog 54 #[.pointer (some ⟨B, 0, none⟩), .int .i32 i] w fun e w' => e = .returned (.bool false) ∧ w' = w := by
  have HS := tsize_any h i hb
  clear h
  have hl' : (((S i).length : Int) == 1) = false := by simp only [beq_eq_false_iff_ne]; omega
  generalize ((S i).length : Int) = z at *
  clear hl
  go_enter Try.func54, Try.ntmps54
  go_wp2_with fail
  refine HS.mono ?_
  rintro e w0 ⟨rfl, rfl⟩
  go_wp2
  go_ret
  exact ⟨rfl, rfl⟩
set_option maxHeartbeats 1000000 in
theorem tfree_yes (h : Tp Xh w F B K fr S V mx) (i : Int) (hb : -2147483648 ≤ i ∧ i ≤ 2147483647) (hl : (S i).length = 1) :
    Calls Try.prog 54 #[.pointer (some ⟨B, 0, none⟩), .int .i32 i] w fun e w' => ∃ F', e = .returned (.bool true) ∧ Tp Xh w' F' B (K.set (i - 1).toNat false) (fr ++ [i]) (freeS S i) (updV V i zeV) mx ∧ Step F F' w w' := by
  have HS := tsize_any h i hb
  have hSi := h.lone hl
  rw [hl] at HS
  obtain ⟨G, N, d, Fa, h1, h2, h3, h4, h5, h6⟩ := h.ex
  have hN : N.length ≤ 2147483647 := by have := h.klen; rw [← h3, List.length_map] at this; exact this
  have hk : isK K i = true := h.mem.2 (by rw [hSi]; simp)
  have htk : tk N i = true := by rw [tk_isK, h3]; exact hk
  have HF := AN.free_at h1.arn i htk (by rw [slN_len]; exact hN) (by have := Fk.le h.fk; have := h.klen; omega)
  obtain ⟨hw, hn⟩ := h2.free hSi
  have FIN : Hid (∀ w' F', AN.Ar Xh d w' F' B G ((slN N).set (i - 1).toNat (ndc zeN, false)) (fr ++ [i]) → Step Fa F' w w' → Tp Xh w' (fun k => F k ∨ F' k) B (K.set (i - 1).toNat false) (fr ++ [i]) (freeS S i) (updV V i zeV) mx ∧ Step F (fun k => F k ∨ F' k) w w') := fun w' F' k1 k2 => by
    refine Tp.regrown h.lt h1 h5 h6 (N' := N.set (i - 1).toNat (zeN, false)) (by unfold Frs; rw [show slN (N.set (i - 1).toNat (zeN, false)) = (slN N).set (i - 1).toNat (ndc zeN, false) by simp [slN, List.map_set]]; exact k1) k2 hw (by rw [← h3]; simp [List.map_set]) (fun j => ?_) (Fk.free h.fk hk) (by rw [List.length_set]; exact h.klen)
    rw [hn]; unfold updV
    split
    · rfl
    · exact h4 j
  clear h h1 h2 h3 h4 h5 h6 hw hn hk htk hSi hl
  go_enter Try.func54, Try.ntmps54
  go_wp2_with fail
  refine HS.mono ?_
  rintro e w0 ⟨rfl, rfl⟩
  go_wp2_with fail
  refine HF.mono ?_
  rintro e w1 ⟨F', rfl, k1, k2⟩
  have R0 : Hid _ := FIN.out w1 F' k1 k2
  clear FIN k1 k2 HF HS
  go_wp2
  go_ret
  exact ⟨_, rfl, R0.out⟩
theorem Wd.make {N : List Nt} {S : Int → List Int} {fr : List Int} {n : Nd} (h : Wd N S) (hf : Fk (N.map (·.2)) fr) (hl : n.l = 0) (hr : n.r = 0) (hu : n.u = 0) : 
    (∀ j, nd (newN N fr n) j = if j = newI (N.map (·.2)) fr then n else nd N j) ∧ (∀ j, tk (newN N fr n) j = if j = newI (N.map (·.2)) fr then true else tk N j) ∧
    Wd (reckN (newN N fr n) (newI (N.map (·.2)) fr)) (makeS S (newI (N.map (·.2)) fr)) ∧ (∀ j, (nd (reckN (newN N fr n) (newI (N.map (·.2)) fr)) j).own = if j = newI (N.map (·.2)) fr then n.own else (nd N j).own) := by
  obtain ⟨b1, b2, b3⟩ := newI_bd hf
  rw [List.length_map] at b2
  have hk : ∀ j, tk (newN N fr n) j = if j = newI (N.map (·.2)) fr then true else tk N j := fun j => by rw [tk_isK, newN_flags, isK_new hf, tk_isK]
  have hn : ∀ j, nd (newN N fr n) j = if j = newI (N.map (·.2)) fr then n else nd N j := by
    intro j
    unfold newN newI
    rcases List.eq_nil_or_concat fr with rfl | ⟨fr', f, rfl⟩
    · simp only [List.getLast?_nil, List.length_map]
      simp only [nd]
      by_cases hj : 1 ≤ j
      · rw [if_pos hj, if_pos hj, List.getD_eq_getElem?_getD, List.getD_eq_getElem?_getD]
        by_cases e : j = (N.length : Int) + 1
        · subst e; rw [if_pos rfl, show ((N.length : Int) + 1 - 1).toNat = N.length by omega, List.getElem?_concat_length]; rfl
        · rw [if_neg e]
          rcases Nat.lt_or_ge (j - 1).toNat N.length with h2 | h2
          · rw [List.getElem?_append_left h2]
          · rw [List.getElem?_eq_none (by simp; omega), List.getElem?_eq_none h2]
      · rw [if_neg hj, if_neg hj, if_neg (by omega)]
    · rw [List.concat_eq_append, List.getLast?_concat]
      have hfb := (hf.2 f (by simp)).2
      rw [List.length_map] at hfb
      simp only [nd]
      by_cases hj : 1 ≤ j
      · rw [if_pos hj, if_pos hj, List.getD_eq_getElem?_getD, List.getD_eq_getElem?_getD, List.getElem?_set]
        by_cases e : j = f
        · subst e; rw [if_pos rfl, if_pos rfl, if_pos (by omega)]; rfl
        · rw [if_neg e, if_neg (by omega)]
      · rw [if_neg hj, if_neg hj, if_neg (by omega)]
  generalize hI : newI (N.map (·.2)) fr = I at *
  have b4 : tk N I = false := by rw [tk_isK]; exact b3
  have hki : tk (newN N fr n) I = true := by rw [hk, if_pos rfl]
  have hni : nd (newN N fr n) I = n := by rw [hn, if_pos rfl]
  have hr1 : nd (reckN (newN N fr n) I) = upd (nd (newN N fr n)) I (n.ws 1 (sumV [n.own])) := by
    unfold reckN
    rw [nd_setN _ hki, hni, hl, hr]
    rw [show szOf (newN N fr n) 0 = 0 from rfl, show smOf (newN N fr n) 0 = sumV [] from rfl, sumV_node]
    rfl
  have hrk : ∀ j, tk (reckN (newN N fr n) I) j = if j = I then true else tk N j := fun j => by rw [show tk (reckN (newN N fr n) I) j = tk (newN N fr n) j from tk_setN _ hki j, hk]
  have hrn : ∀ j, j ≠ I → nd (reckN (newN N fr n) I) j = nd N j := fun j hj => by rw [hr1, upd_ne _ _ hj, hn, if_neg hj]
  have hout : ∀ j, I ∉ S j := fun j hm => by have := (h.memTk hm).1; rw [b4] at this; cases this
  refine ⟨hn, hk, ⟨fun j hj => ?_, fun j hj => ?_, fun j x hx => ?_, fun j hj => ?_⟩, fun j => ?_⟩
  · by_cases e : j = I
    · subst e
      refine ⟨.node .nil j .nil, by unfold makeS; rw [if_pos rfl]; rfl, ⟨?_, ?_, ?_, ?_, ?_, trivial, trivial⟩, ?_, ?_⟩
      · rw [hr1, upd_at]; exact hu
      · rw [hr1, upd_at]; exact hl
      · rw [hr1, upd_at]; exact hr
      · rw [hr1, upd_at]; rfl
      · rw [hr1, upd_at]
        show sumV [n.own] = sumV (own _ [j])
        rw [show own (upd (nd (newN N fr n)) j (n.ws 1 (sumV [n.own]))) [j] = [n.own] by simp [own, upd_at, Nd.ws]]
      · intro x hx; simp [Tr.seq] at hx; rw [hx, hrk, if_pos rfl]
      · simp [Tr.seq]
    · rw [hrk, if_neg e] at hj
      obtain ⟨t, e1, g⟩ := h.tree j hj
      have hne : ∀ x ∈ t.seq, x ≠ I := fun x hx e2 => hout j (by rw [← e2, ← e1]; exact hx)
      exact ⟨t, by unfold makeS; rw [if_neg e]; exact e1, g.hang.congr (fun x hx => hrn x (hne x hx)), fun x hx => by rw [hrk, if_neg (hne x hx)]; exact g.all x hx, g.nodup⟩
  · unfold makeS
    by_cases e : j = I
    · rw [if_pos e, e]; simp
    · rw [hrk, if_neg e] at hj; rw [if_neg e]; exact h.mem j hj
  · unfold makeS at hx ⊢
    by_cases e : j = I
    · rw [if_pos e] at hx ⊢; simp at hx; rw [if_pos hx]
    · rw [if_neg e] at hx ⊢
      rw [if_neg]
      · exact h.same j x hx
      · rintro rfl; exact hout j hx
  · by_cases e : j = I
    · rw [hrk, if_pos e] at hj; cases hj
    · rw [hrk, if_neg e] at hj; unfold makeS; rw [if_neg e]; exact h.none j hj
  · rw [hr1]
    unfold upd
    split
    · rfl
    · rename_i e; rw [hn, if_neg e]
/-- The draws' address is written. -/
theorem Frs.draw {d d' : Option Addr} {W : World} {F : Nat → Prop} {G : Nat} {N : List Nt} (h : Frs Xh d W F B G N fr) : Frs Xh d' (W.setCell ⟨B, 2, none⟩ (.pointer d')) F B G N fr ∧ Step F F W (W.setCell ⟨B, 2, none⟩ (.pointer d')) := by
  obtain ⟨v, u, h1, h2, h3, h4, h5, h6⟩ := h.ex
  have hb := h.b
  refine ⟨⟨⟨v, u, by simpa using Blk.setAt h1 2 (.pointer d'), h2.kept fun k hk => Below.heap_setCell W ⟨B, 2, none⟩ _ k (h5 k hk).2.2, h3.kept fun k hk => Below.heap_setCell W ⟨B, 2, none⟩ _ k (h6 k hk).2, h4, h5, h6⟩, hb, fun k hk => by rw [size_setCell]; exact h.lt k hk, h.wsl, h.fr, hole2 _⟩, ⟨(Only.refl F W).set (.inl hb) 2 _, fun k hk => .inl hk⟩⟩
end
end Go.Proofs.Ytpbnhbpkfdhedaa
