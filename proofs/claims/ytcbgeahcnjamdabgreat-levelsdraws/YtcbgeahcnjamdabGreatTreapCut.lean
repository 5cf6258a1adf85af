/- Layer 6 (treap): Cut and Join. -/
import Derived.Test.YtcbgeahcnjamdabGreatTreapRead
namespace Go.Proofs.YtcbgeahcnjamdabGreat
open Go.RowKit
set_option linter.unusedVariables false
variable {Xh : Hx}

theorem Good.congr {N N' : List Nt} {t : Tr} (h : Good N t) (htk : ∀ j, tk N' j = tk N j) (hout : ∀ j ∈ t.seq, nd N' j = nd N j) : Good N' t :=
  ⟨h.hang.congr hout, fun j hj => by rw [htk]; exact h.all j hj, h.nodup⟩
/-- Sequences that are told anew, within A. -/
theorem Wd.re {N N' : List Nt} {S S' : Int → List Int} {A : Int → Prop} (h : Wd N S) (htk : ∀ j, tk N' j = tk N j) (hout : ∀ j, ¬ A j → nd N' j = nd N j) (hA : ∀ j, A j → tk N j = true) (hcl : ∀ j x, A j → x ∈ S j → A x)
    (hS : ∀ j, ¬ A j → S' j = S j) (hin : ∀ j, A j → (∃ t, t.seq = S' j ∧ Good N' t) ∧ j ∈ S' j ∧ ∀ x ∈ S' j, A x ∧ S' x = S' j) : Wd N' S' := by
  have hop : ∀ j x, ¬ A j → x ∈ S j → ¬ A x := fun j x hj hx hx' => hj (hcl x j hx' (by rw [h.same j x hx]; exact h.mem j (h.memTk hx).2))
  refine ⟨fun j hj => ?_, fun j hj => ?_, fun j x hx => ?_, fun j hj => ?_⟩
  · by_cases ha : A j
    · exact (hin j ha).1
    · rw [htk] at hj
      obtain ⟨t, e, g⟩ := h.tree j hj
      exact ⟨t, by rw [hS j ha]; exact e, g.congr htk (fun x hx => hout x (hop j x ha (e ▸ hx)))⟩
  · by_cases ha : A j
    · exact (hin j ha).2.1
    · rw [htk] at hj
      rw [hS j ha]
      exact h.mem j hj
  · by_cases ha : A j
    · exact ((hin j ha).2.2 x hx).2
    · rw [hS j ha] at hx ⊢
      rw [hS x (hop j x ha hx)]
      exact h.same j x hx
  · rw [htk] at hj
    have ha : ¬ A j := fun h' => by rw [hA j h'] at hj; cases hj
    rw [hS j ha]
    exact h.none j hj

/-- The sequences behind a cut; behind a join. -/
def cutS (S : Int → List Int) (i : Int) : Int → List Int := fun j => if j ∈ (S i).take ((S i).idxOf i) then (S i).take ((S i).idxOf i) else if j ∈ (S i).drop ((S i).idxOf i) then (S i).drop ((S i).idxOf i) else S j
def joinB (S : Int → List Int) (i j : Int) : Bool := decide (i ∈ S i) && decide (j ∈ S j) && !decide (j ∈ S i)
def joinS (S : Int → List Int) (i j : Int) : Int → List Int := if joinB S i j = true then fun k => if k ∈ S i ∨ k ∈ S j then S i ++ S j else S k else S
theorem cutS_none {S : Int → List Int} {i : Int} (h : S i = []) : cutS S i = S := by funext j; unfold cutS; rw [h]; simp
theorem cutS_mid {S : Int → List Int} {i : Int} {a b : List Int} (h : S i = a ++ i :: b) (hn : i ∉ a) : cutS S i = fun j => if j ∈ a then a else if j ∈ i :: b then i :: b else S j := by
  funext j; unfold cutS; rw [h, idx_mid hn, List.take_left, List.drop_left]

section
variable {w : World} {F : Nat → Prop} {B : Nat} {K : List Bool} {fr : List Int} {S : Int → List Int} {V : Int → Vl} {mx : Nat}
set_option maxHeartbeats 1000000 in
theorem tcut_any (h : Tp Xh w F B K fr S V mx) (i : Int) (hb : -2147483648 ≤ i ∧ i ≤ 2147483647) :
    Calls Tryz.prog 129 #[.pointer (some ⟨B, 0, none⟩), .int .i32 i] w fun e w' => e = .returned (.bool (isK K i)) ∧ Tp Xh w' F B K fr (cutS S i) V mx ∧ Step F F w w' := by
  obtain ⟨G, N, d, Fa, h1, h2, h3, h4, h5, h6⟩ := h.ex
  have hN : N.length ≤ 2147483647 := by have := h.klen; rw [← h3, List.length_map] at this; exact this
  have HTp : Hid (Tp Xh w F B K fr S V mx) := h
  have hk : isK K i = tk N i := by rw [tk_isK, h3]
  rw [hk]
  cases hi : tk N i with
  | false =>
    rw [cutS_none (h2.none i hi)]
    have HA := at_un h1 hN hb hi
    clear h h1 h2 h3 h4 h5 h6 hk
    go_enter Tryz.func129, Tryz.ntmps129
    go_wp2_with fail
    refine HA.mono ?_
    rintro e w0 ⟨rfl, rfl⟩
    go_wp2
    go_ret
    exact ⟨rfl, HTp.out, Step.refl _ _⟩
  | true =>
    obtain ⟨t, e, g⟩ := h2.tree i hi
    have hm := h2.mem i hi
    rw [← e] at hm
    obtain ⟨fs, l, r, et⟩ := Tr.find hm
    have hseq : S i = (pre fs ++ l.seq) ++ i :: (r.seq ++ post fs) := by rw [← e, et, plug_seq]; simp [Tr.seq]
    have hnd := h2.nodup i
    rw [hseq] at hnd
    have hni : i ∉ pre fs ++ l.seq := fun h' => (List.nodup_append.1 hnd).2.2 i h' i (by simp) rfl
    have HA := at_tk h1 hN hi
    have HU := unzip_tk h1 hN (et ▸ g)
    rw [cutS_mid hseq hni]
    have FIN : Hid (∀ w' N' a b, Frs Xh d w' Fa B G N' fr → Step Fa Fa w w' → Keeps (fun j => j ∈ (plug fs (.node l i r)).seq) N N' → Good N' a → Good N' b → a.seq = pre fs ++ l.seq → b.seq = i :: r.seq ++ post fs →
        Tp Xh w' F B K fr (fun j => if j ∈ pre fs ++ l.seq then pre fs ++ l.seq else if j ∈ i :: (r.seq ++ post fs) then i :: (r.seq ++ post fs) else S j) V mx ∧ Step F F w w') := fun w' N' a b k1 k2 k3 k4 k5 k6 k7 => by
      refine h.wrote h1 h3 h5 h6 k1 k2 ?_ (by rw [k3.flags]; exact h3) (fun j => (k3.own j).trans (h4 j))
      have hmem : ∀ j, j ∈ (plug fs (.node l i r)).seq ↔ j ∈ S i := fun j => by rw [← et, e]
      refine h2.re (A := fun j => j ∈ S i) k3.tk (fun j hj => k3.out j (fun h' => hj ((hmem j).1 h'))) (fun j hj => (h2.memTk hj).1) (fun j x hj hx => by rw [h2.same i j hj] at hx; exact hx) (fun j hj => ?_) (fun j hj => ?_)
      · rw [hseq] at hj
        rw [if_neg (fun h' => hj (List.mem_append_left _ h')), if_neg (fun h' => hj (List.mem_append_right _ h'))]
      · rw [hseq] at hj
        have hdis : ∀ x, x ∈ i :: (r.seq ++ post fs) → x ∉ pre fs ++ l.seq := fun x h1 h2 => (List.nodup_append.1 hnd).2.2 x h2 x h1 rfl
        by_cases ha : j ∈ pre fs ++ l.seq
        · simp only [if_pos ha]
          exact ⟨⟨a, k6, k4⟩, ha, fun x hx => ⟨by rw [hseq]; exact List.mem_append_left _ hx, by rw [if_pos hx]⟩⟩
        · have hb' : j ∈ i :: (r.seq ++ post fs) := (List.mem_append.1 hj).resolve_left ha
          simp only [if_neg ha, if_pos hb']
          exact ⟨⟨b, by rw [k7]; rfl, k5⟩, hb', fun x hx => ⟨by rw [hseq]; exact List.mem_append_right _ hx, by rw [if_neg (hdis x hx), if_pos hx]⟩⟩
    clear h h1 h2 h3 h4 h5 h6 hk e g hm et hseq hnd hni
    go_enter Tryz.func129, Tryz.ntmps129
    go_wp2_with fail
    refine HA.mono ?_
    rintro e w0 ⟨rfl, rfl⟩
    go_wp2_with fail
    refine HU.mono ?_
    rintro e w1 ⟨rfl, N', a, b, k1, k2, k3, k4, k5, k6, k7⟩
    have R0 : Hid _ := FIN.out w1 N' a b k1 k2 k3 k4 k5 k6 k7
    clear FIN HA HU k1 k2 k3 k4 k5 k6 k7
    go_wp2
    go_ret
    exact ⟨rfl, R0.out⟩
set_option maxHeartbeats 1000000 in
theorem tjoin_any (h : Tp Xh w F B K fr S V mx) (i j : Int) (hb : -2147483648 ≤ i ∧ i ≤ 2147483647) (hc : -2147483648 ≤ j ∧ j ≤ 2147483647) :
    Calls Tryz.prog 137 #[.pointer (some ⟨B, 0, none⟩), .int .i32 i, .int .i32 j] w fun e w' => e = .returned (.bool (joinB S i j)) ∧ Tp Xh w' F B K fr (joinS S i j) V mx ∧ Step F F w w' := by
  have HTp : Hid (Tp Xh w F B K fr S V mx) := h
  by_cases hj : joinB S i j = true
  · rw [hj]
    unfold joinB at hj
    simp only [Bool.and_eq_true, decide_eq_true_eq, Bool.not_eq_true', decide_eq_false_iff_not] at hj
    obtain ⟨⟨hi1, hj1⟩, hij⟩ := hj
    rw [show joinS S i j = fun k => if k ∈ S i ∨ k ∈ S j then S i ++ S j else S k by unfold joinS; rw [if_pos (by unfold joinB; simp [hi1, hj1, hij])]]
    obtain ⟨G, N, d, Fa, h1, h2, h3, h4, h5, h6⟩ := h.ex
    have hN : N.length ≤ 2147483647 := by have := h.klen; rw [← h3, List.length_map] at this; exact this
    obtain ⟨ta, ea, ga⟩ := h2.tree i (h2.memTk hi1).1
    obtain ⟨tb, eb, gb⟩ := h2.tree j (h2.memTk hj1).1
    have na : ta ≠ .nil := fun e0 => by rw [e0] at ea; rw [← ea] at hi1; simp [Tr.seq] at hi1
    have nb : tb ≠ .nil := fun e0 => by rw [e0] at eb; rw [← eb] at hj1; simp [Tr.seq] at hj1
    have HR1 := root_tk h1 hN ga (by rw [ea]; exact hi1)
    have HR2 := root_tk h1 hN gb (by rw [eb]; exact hj1)
    have HM1 := rightmost_tk h1 hN ga.hang ga.all na
    have HM2 := leftmost_tk h1 hN gb.hang gb.all nb
    have hdis : ∀ x, x ∈ S i → x ∉ S j := fun x hx hx' => hij (by rw [← h2.same i x hx, h2.same j x hx']; exact hj1)
    have hnd : (S i ++ S j).Nodup := List.nodup_append.2 ⟨h2.nodup i, h2.nodup j, fun x hx y hy e => hdis x hx (e ▸ hy)⟩
    have hall : AllTk N (S i ++ S j) := fun x hx => by
      rcases List.mem_append.1 hx with hx | hx
      · exact (h2.memTk hx).1
      · exact (h2.memTk hx).1
    obtain ⟨ls, el, l1, l2⟩ := Tr.last ta
    obtain ⟨rs, er, r1, r2⟩ := Tr.first tb
    have hls : pre ls = S i := by have := plug_seq ls .nil; rw [← el, ea, l2] at this; simpa [Tr.seq] using this.symm
    have hrs : post rs = S j := by have := plug_seq rs .nil; rw [← er, eb, r2] at this; simpa [Tr.seq] using this.symm
    have hl0 : ls ≠ [] := fun e0 => by rw [e0] at hls; rw [← hls] at hi1; simp [pre] at hi1
    have hr0 : rs ≠ [] := fun e0 => by rw [e0] at hrs; rw [← hrs] at hj1; simp [post] at hj1
    have ul : ta.seq.getLastD 0 = upOf ls := by
      cases ls with
      | nil => exact absurd rfl hl0
      | cons f ls =>
        obtain ⟨fd, k, s⟩ := f
        obtain rfl : fd = false := l1 ⟨fd, k, s⟩ List.mem_cons_self
        rw [ea, ← hls]
        exact List.getLastD_concat
    have ur : tb.seq.headD 0 = upOf rs := by
      cases rs with
      | nil => exact absurd rfl hr0
      | cons f rs =>
        obtain ⟨fd, k, s⟩ := f
        obtain rfl : fd = true := r1 ⟨fd, k, s⟩ List.mem_cons_self
        rw [eb, ← hrs]
        rfl
    rw [ul] at HM1
    rw [ur] at HM2
    have hz : Zp (S i ++ S j) N N ls rs .nil := ⟨⟨_, (Hang.path (el ▸ ga.hang)).1⟩, ⟨_, (Hang.path (er ▸ gb.hang)).1⟩, l1, r1, ⟨0, trivial, fun _ _ => rfl⟩, by rw [hls, hrs]; simp [Tr.seq], l2, r2, Keeps.refl _ _⟩
    have HZ := zip_tk h1 hN hz hl0 hnd hall
    have t1 : (ta.top == 0) = false := by simpa using tk_ne (ga.all _ (Tr.top_mem na))
    have t2 : (tb.top == 0) = false := by simpa using tk_ne (gb.all _ (Tr.top_mem nb))
    have t3 : (ta.top == tb.top) = false := by
      simp only [beq_eq_false_iff_ne]
      intro e0
      exact hdis ta.top (ea ▸ Tr.top_mem na) (by rw [e0, ← eb]; exact Tr.top_mem nb)
    have FIN : Hid (∀ w' N' t, Frs Xh d w' Fa B G N' fr → Step Fa Fa w w' → Keeps (fun x => x ∈ S i ++ S j) N N' → Good N' t → t.seq = S i ++ S j → Tp Xh w' F B K fr (fun k => if k ∈ S i ∨ k ∈ S j then S i ++ S j else S k) V mx ∧ Step F F w w') := fun w' N' t k1 k2 k3 k4 k5 => by
      refine h.wrote h1 h3 h5 h6 k1 k2 ?_ (by rw [k3.flags]; exact h3) (fun x => (k3.own x).trans (h4 x))
      refine h2.re (A := fun x => x ∈ S i ∨ x ∈ S j) k3.tk (fun x hx => k3.out x (fun h' => hx (List.mem_append.1 h'))) (fun x hx => hx.elim (fun h' => (h2.memTk h').1) (fun h' => (h2.memTk h').1)) (fun x y hx hy => ?_) (fun x hx => by rw [if_neg hx]) (fun x hx => ?_)
      · rcases hx with hx | hx
        · left; rw [h2.same i x hx] at hy; exact hy
        · right; rw [h2.same j x hx] at hy; exact hy
      · simp only [if_pos hx]
        exact ⟨⟨t, k5, k4⟩, List.mem_append.2 hx, fun y hy => ⟨List.mem_append.1 hy, by rw [if_pos (List.mem_append.1 hy)]⟩⟩
    clear h h1 h2 h3 h4 h5 h6 hdis hnd hall el l1 l2 er r1 r2 hls hrs hl0 hr0 ul ur hz ea eb ga gb na nb hi1 hj1 hij
    generalize ta.top = xa at *
    generalize tb.top = xb at *
    generalize upOf ls = ua at *
    generalize upOf rs = ub at *
    go_enter Tryz.func137, Tryz.ntmps137
    go_wp2_with fail
    refine HR1.mono ?_
    rintro e w0 ⟨rfl, rfl⟩
    go_wp2_with fail
    refine HR2.mono ?_
    rintro e w1 ⟨rfl, rfl⟩
    go_wp2_with fail
    refine HM1.mono ?_
    rintro e w2 ⟨rfl, rfl⟩
    go_wp2_with fail
    refine HM2.mono ?_
    rintro e w3 ⟨rfl, rfl⟩
    go_wp2_with fail
    refine HZ.mono ?_
    rintro e w4 ⟨rfl, N', t, k1, k2, k3, k4, k5⟩
    have R0 : Hid _ := FIN.out w4 N' t k1 k2 k3 k4 k5
    clear FIN HR1 HR2 HM1 HM2 HZ k1 k2 k3 k4 k5
    go_wp2
    go_ret
    exact ⟨rfl, R0.out⟩
  · rw [show joinS S i j = S from if_neg hj, show joinB S i j = false by simpa using hj]
    -- both roots, one of them none, or both the same
    have key : ∃ x y : Int, Calls Tryz.prog 114 #[.pointer (some ⟨B, 0, none⟩), .int .i32 i] w (fun e w' => e = .returned (.int .i32 x) ∧ w' = w) ∧ Calls Tryz.prog 114 #[.pointer (some ⟨B, 0, none⟩), .int .i32 j] w (fun e w' => e = .returned (.int .i32 y) ∧ w' = w) ∧ (x = 0 ∨ y = 0 ∨ x = y) := by
      by_cases hij : j ∈ S i
      · obtain ⟨G, N, d, Fa, h1, h2, h3, h4, h5, h6⟩ := h.ex
        have hN : N.length ≤ 2147483647 := by have := h.klen; rw [← h3, List.length_map] at this; exact this
        obtain ⟨t1, t2⟩ := h2.memTk hij
        obtain ⟨t, e, g⟩ := h2.tree i t2
        exact ⟨t.top, t.top, root_tk h1 hN g (by rw [e]; exact h2.mem i t2), root_tk h1 hN g (by rw [e]; exact hij), .inr (.inr rfl)⟩
      · obtain ⟨x, a1, _, _, _, a2, _⟩ := h.root i hb
        obtain ⟨y, b1, _, _, _, b2, _⟩ := h.root j hc
        refine ⟨x, y, a1, b1, ?_⟩
        cases hi : isK K i with
        | false => exact .inl (a2 (h.nil.1 hi))
        | true =>
          cases hj' : isK K j with
          | false => exact .inr (.inl (b2 (h.nil.1 hj')))
          | true => exact absurd (by unfold joinB; simp [h.mem.1 hi, h.mem.1 hj', hij]) hj
    obtain ⟨x, y, HR1, HR2, hxy⟩ := key
    clear h hj
    by_cases hx : x = 0
    · subst hx
      clear hxy
      go_enter Tryz.func137, Tryz.ntmps137
      go_wp2_with fail
      refine HR1.mono ?_
      rintro e w0 ⟨rfl, rfl⟩
      go_wp2_with fail
      refine HR2.mono ?_
      rintro e w1 ⟨rfl, rfl⟩
      go_wp2
      go_ret
      exact ⟨rfl, HTp.out, Step.refl _ _⟩
    · have hx' : (x == 0) = false := by simpa using hx
      by_cases hy : y = 0
      · subst hy
        clear hxy
        go_enter Tryz.func137, Tryz.ntmps137
        go_wp2_with fail
        refine HR1.mono ?_
        rintro e w0 ⟨rfl, rfl⟩
        go_wp2_with fail
        refine HR2.mono ?_
        rintro e w1 ⟨rfl, rfl⟩
        go_wp2
        go_ret
        exact ⟨rfl, HTp.out, Step.refl _ _⟩
      · have hy' : (y == 0) = false := by simpa using hy
        obtain rfl : x = y := by omega
        clear hxy
        go_enter Tryz.func137, Tryz.ntmps137
        go_wp2_with fail
        refine HR1.mono ?_
        rintro e w0 ⟨rfl, rfl⟩
        go_wp2_with fail
        refine HR2.mono ?_
        rintro e w1 ⟨rfl, rfl⟩
        go_wp2
        go_ret
        exact ⟨rfl, HTp.out, Step.refl _ _⟩
end
end Go.Proofs.YtcbgeahcnjamdabGreat
