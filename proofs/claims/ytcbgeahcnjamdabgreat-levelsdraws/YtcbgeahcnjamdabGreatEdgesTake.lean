/- Layer 9 (edges): keep and Take. -/
import Derived.Test.YtcbgeahcnjamdabGreatEdgesFun
import Derived.Handy
namespace Go.Proofs.YtcbgeahcnjamdabGreat
open Go.RowKit
set_option linter.unusedVariables false

section
variable {b c : Nat} {V : Int × Int → Value} {w w1 w2 w3 w4 : World} {F : Nat → Prop} {B : Nat} {s : Bg} {k : Nat}
theorem RowW.capLe {W : World} {ty : TypeId} {size n g cap : Nat} {xs : List Value} (h : RowW W ty size (.slice (some ⟨g, 0, none⟩) n cap) n xs) : n ≤ cap ∧ cap ≤ maxLen := by
  rcases h.2 with ⟨h1, _⟩ | ⟨g', cap', cur, hv, hg, hn, hc, _⟩
  · cases h1
  · cases hv; exact ⟨hn, hc⟩
/-- What a list that was shortened is kept as. -/
def keptQ (g n cap : Nat) : Option Value := if n = 0 then none else some (.slice (some ⟨g, 0, none⟩) n cap)
set_option maxHeartbeats 800000 in
theorem bkeep_any {B b : Nat} {y : Value} (hb : Blk w B 77 #[.map (some b), y]) {q : Int × Int → Option Value} {m : Nat} (hM : MapV Tryz.prog 115 (.slice none 0 0) pairK okP w b q m) (hm : m ≤ 200000) {v l : Int} (ha : okP (v, l)) (hq : (q (v, l)).isSome = true) (g n cap : Nat) (hn : n ≤ 200000) :
    Calls Tryz.prog 89 #[.pointer (some ⟨B, 0, none⟩), .int .i64 v, .int .i64 l, .slice (some ⟨g, 0, none⟩) n cap] w fun x w' => x = .returned (.tuple #[]) ∧ (∃ m', m' ≤ m ∧ MapV Tryz.prog 115 (.slice none 0 0) pairK okP w' b (updQ q (v, l) (keptQ g n cap)) m') ∧ w.grownBy w' (some b) := by
  obtain ⟨c0, c1⟩ := hb.cells2
  have HM := hid_mk hM
  have HA := hid_mk ha
  have HQ := hid_mk hq
  clear hb hM ha hq
  by_cases h0 : n = 0
  · subst h0
    go_enter Tryz.func89, Tryz.ntmps89
    go_wp2_with (at_delete; refine wpList_val_drop rfl _ _ rfl KL rfl HM.out (v, l) rfl HA.out ?_; intro w2 hM2 hg2)
    try simp only [Act.put]
    rw [HQ.out] at hM2
    simp only [if_true] at hM2
    have HM2 := hid_mk hM2
    have HG2 := hid_mk hg2
    clear hM2 hg2 c0 c1 HM HA HQ
    try go_wp2
    go_returns
    exact ⟨rfl, ⟨_, Nat.sub_le _ _, HM2.out⟩, HG2.out⟩
  · go_enter Tryz.func89, Tryz.ntmps89
    go_wp2_with (at_mapUpdate; refine wpList_val_store rfl _ _ _ rfl KL rfl HM.out (by unfold maxLen; omega) (v, l) rfl HA.out (.slice (some ⟨g, 0, none⟩) n cap) rfl ?_; intro w2 hM2 hg2)
    try simp only [Act.put]
    rw [HQ.out] at hM2
    simp only [if_true] at hM2
    have e1 : keptQ g n cap = some (.slice (some ⟨g, 0, none⟩) n cap) := if_neg h0
    rw [← e1] at hM2
    have HM2 := hid_mk hM2
    have HG2 := hid_mk hg2
    clear hM2 hg2 c0 c1 HM HA HQ e1
    try go_wp2
    go_returns
    exact ⟨rfl, ⟨_, Nat.le_refl _, HM2.out⟩, HG2.out⟩
/-- A number was taken: a cell of the row, the map of places twice, the map of lists. -/
theorem BgX.takeS (h : BgX b c V w F B s k) (hok : s.Ok k) {a : Int × Int} {e : Int} (he : e ∈ s.L a) {g cap : Nat} (hV : V a = .slice (some ⟨g, 0, none⟩) (s.L a).length cap) (e1 : w1 = w.setCell ⟨g, (s.L a).idxOf e, none⟩ (.int .i64 (lAt (s.L a) ((s.L a).length - 1))))
    (hP : MapV Tryz.prog 139 (.int .i64 0) tripK okT w3 c (updQ (updQ s.pos (a.1, a.2, lAt (s.L a) ((s.L a).length - 1)) (some (.int .i64 ((s.L a).idxOf e)))) (a.1, a.2, e) none) (s.n - 1)) (g2 : w1.grownBy w2 (some c)) (g3 : w2.grownBy w3 (some c))
    {m : Nat} (hm : m ≤ k) (hM : MapV Tryz.prog 115 (.slice none 0 0) pairK okP w4 b (updQ (lq s V) a (keptQ g ((s.L a).length - 1) cap)) m) (g4 : w3.grownBy w4 (some b)) :
    BgX b c (updQ V a ((keptQ g ((s.L a).length - 1) cap).getD (.slice none 0 0))) w4 F B (s.take a e) k ∧ Step F F w w4 := by
  have s1 : w1.heap.size = w.heap.size := by rw [e1, size_setCell]
  have s2 := g2.size
  have s3 := g3.size
  have s4 := g4.size
  obtain ⟨nb1, nb2⟩ := h.nb
  have hgo : (V a).ownBlock = some g := by rw [hV]; rfl
  have hgF := (h.row a).2 g hgo
  obtain ⟨ng1, ng2, ng3⟩ := h.apartB a hgo
  have keep : ∀ q, q < w.heap.size → q ≠ c → q ≠ g → q ≠ b → w4.heap[q]? = w.heap[q]? := fun q hq n1 n2 n3 =>
    (g4.block q (by omega) (fun e => n3 (Option.some.inj e))).trans ((g3.block q (by omega) (fun e => n1 (Option.some.inj e))).trans ((g2.block q (by omega) (fun e => n1 (Option.some.inj e))).trans (by rw [e1]; exact Below.heap_setCell w ⟨g, _, none⟩ _ q n2)))
  have hbl := h.lt b h.f1
  have hcl := h.lt c h.f2
  have hBl := h.lt B h.fb
  have hgl := h.lt g hgF
  have keepg : w4.heap[g]? = w1.heap[g]? := (g4.block g (by omega) (fun e => ng2 (Option.some.inj e))).trans ((g3.block g (by omega) (fun e => ng3 (Option.some.inj e))).trans (g2.block g (by omega) (fun e => ng3 (Option.some.inj e))))
  have hlen := delL_len he
  have hpos : 0 < (s.L a).length := List.length_pos_of_mem he
  have hempty : delL (s.L a) e = [] ↔ (s.L a).length - 1 = 0 := by rw [← hlen]; exact List.length_eq_zero_iff.symm
  have hV' : ∀ v', keptQ g ((s.L a).length - 1) cap = some v' → v' = .slice (some ⟨g, 0, none⟩) ((s.L a).length - 1) cap := fun v' h' => by
    unfold keptQ at h'
    split at h'
    · cases h'
    · exact (Option.some.inj h').symm
  refine ⟨⟨(keep B hBl (Ne.symm nb2) (Ne.symm ng1) (Ne.symm nb1)).trans h.blk, ⟨m, hm, ?_⟩, ?_, fun x => ?_, fun x hx => ?_, fun x x' hne => ?_, h.bc, h.fb, h.f1, h.f2, fun q hq => ?_⟩, ⟨⟨?_, ?_, ?_, by omega, fun q hq hF => ?_⟩, fun q hq => .inl hq⟩⟩
  · refine hM.congr fun x _ => ?_
    unfold lq
    by_cases hx : x = a
    · subst hx
      simp only [Bg.take, updQ_at]
      by_cases h0 : (s.L x).length - 1 = 0
      · rw [if_pos (hempty.2 h0)]; simp [keptQ, h0]
      · rw [if_neg (fun e => h0 (hempty.1 e))]; simp [keptQ, h0]
    · simp only [Bg.take, updQ_ne hx]
  · rw [Bg.pos_take he (hok.nodup a)]
    exact hP.kept (g4.block c (by omega) (fun e => h.bc (Option.some.inj e).symm))
  · by_cases hx : x = a
    · subst hx
      rw [updQ_at]
      have e2 : (s.take x e).L x = delL (s.L x) e := by simp [Bg.take, updQ_at]
      rw [e2, hlen, i6s_del]
      have hr := (h.row x).1
      rw [hV] at hr
      have hr1 := (hr.set (j := (s.L x).idxOf e) (by have := idx_lt he; omega) (.int .i64 (lAt (s.L x) ((s.L x).length - 1)))).cut (k := (s.L x).length - 1) (by omega)
      rw [Nat.mul_one, ← e1] at hr1
      have hr4 := hr1.kept (w' := w4) fun q hq => by cases hq; exact keepg
      by_cases h0 : (s.L x).length - 1 = 0
      · simp only [keptQ, h0, if_true, Option.getD_none, List.take_zero]
        exact ⟨RowW.empty _ _ _, fun q hq => by cases hq⟩
      · simp only [keptQ, h0, if_false, Option.getD_some]
        exact ⟨hr4, fun q hq => by cases hq; exact hgF⟩
    · rw [updQ_ne hx]
      have e2 : (s.take a e).L x = s.L x := by simp [Bg.take, updQ_ne hx]
      rw [e2]
      exact ⟨(h.row x).1.kept fun q hq => keep q ((h.row x).1.lt hq) (h.apartB x hq).2.2 (fun e => h.apart x a hx q hq (by rw [e]; exact hgo)) (h.apartB x hq).2.1, fun q hq => (h.row x).2 q hq⟩
  · by_cases hxa : x = a
    · subst hxa
      simp only [Bg.take, updQ_at] at hx
      rw [updQ_at]
      simp [keptQ, hempty.1 hx]
    · rw [updQ_ne hxa]; exact h.nil x (by simpa [Bg.take, updQ_ne hxa] using hx)
  · have one : ∀ q, ((keptQ g ((s.L a).length - 1) cap).getD (.slice none 0 0)).ownBlock = some q → q = g := fun q hq => by
      cases hk : keptQ g ((s.L a).length - 1) cap with
      | none => rw [hk] at hq; cases hq
      | some v' => rw [hk, hV' v' hk] at hq; cases hq; rfl
    intro q h1 h2
    by_cases hx : x = a
    · subst hx
      rw [updQ_at] at h1
      rw [updQ_ne (Ne.symm hne)] at h2
      exact h.apart x' x (Ne.symm hne) q h2 (by rw [one q h1]; exact hgo)
    · rw [updQ_ne hx] at h1
      by_cases hx' : x' = a
      · subst hx'
        rw [updQ_at] at h2
        exact h.apart x x' hx q h1 (by rw [one q h2]; exact hgo)
      · rw [updQ_ne hx'] at h2
        exact h.apart x x' hne q h1 h2
  · have := h.lt q hq; omega
  · rw [g4.os, g3.os, g2.os, e1]; rfl
  · rw [g4.tape, g3.tape, g2.tape, e1]; rfl
  · rw [g4.output, g3.output, g2.output, e1]; rfl
  · exact keep q hq (fun e => hF (e ▸ h.f2)) (fun e => hF (e ▸ hgF)) (fun e => hF (e ▸ h.f1))
theorem btake_no (h : BgM w F B s k) {v l e : Int} (ha : okT (v, l, e)) (hm : e ∉ s.L (v, l)) : Calls Tryz.prog 63 #[.pointer (some ⟨B, 0, none⟩), .int .i64 v, .int .i64 l, .int .i64 e] w fun x w' => x = .returned (.bool false) ∧ w' = w := by
  have HH := hid_mk (bhas_any h ha)
  rw [decide_eq_false hm] at HH
  clear h ha hm
  go_enter Tryz.func63, Tryz.ntmps63
  go_wp2_with fail
  refine HH.out.mono ?_
  rintro x w1 ⟨rfl, rfl⟩
  go_wp2
  go_ret
  exact ⟨rfl, rfl⟩
set_option maxRecDepth 100000 in
set_option maxHeartbeats 1600000 in
theorem btake_okXV {b c : Nat} {V : Int × Int → Value} (h : BgX b c V w F B s k) (hok : s.Ok k) (hk : k ≤ 100000) {v l e : Int} (ha : okT (v, l, e)) (he : e ∈ s.L (v, l)) :
    Calls Tryz.prog 63 #[.pointer (some ⟨B, 0, none⟩), .int .i64 v, .int .i64 l, .int .i64 e] w fun x w' => x = .returned (.bool true) ∧ ∃ V', BgX b c V' w' F B (s.take (v, l) e) k ∧ (s.take (v, l) e).Ok k ∧ Step F F w w' := by
  have HH := hid_mk (bhas_any (show BgM w F B s k from ⟨hok, .inr ⟨b, c, V, h⟩⟩) ha)
  rw [decide_eq_true he] at HH
  have haP : okP (v, l) := ⟨ha.1, ha.2.1⟩
  have HX := hid_mk h
  have HO := hid_mk (hok.take he)
  have HOk := hid_mk hok
  have HE := hid_mk he
  have HT := hid_mk ha
  have HP := hid_mk haP
  obtain ⟨m, hmk, hL⟩ := h.lists
  have HL := hid_mk hL
  have hlk := hL.look KL haP
  rw [h.slice] at hlk
  simp only [pairK] at hlk
  have hRw := (h.row (v, l)).1
  have hpos : 0 < (s.L (v, l)).length := List.length_pos_of_mem he
  obtain ⟨g, cap, e0⟩ := hRw.led hpos
  have HV := hid_mk e0
  have hgF := (h.row (v, l)).2 g (by rw [e0]; rfl)
  obtain ⟨ng1, ng2, ng3⟩ := h.apartB (v, l) (g := g) (by rw [e0]; rfl)
  rw [e0] at hlk hRw
  have hln := hok.len (v, l)
  have hsn := hok.le
  obtain ⟨c0, c1⟩ := h.blk.cells2
  obtain ⟨nb1, nb2⟩ := h.nb
  have hbc := h.bc
  have hBl := h.lt B h.fb
  have hcl := h.lt c h.f2
  have hbl := h.lt b h.f1
  have hgl := h.lt g hgF
  have hix := idx_lt he
  have hpl : ∀ nq, (Instr.lookup 75 (.map (some c)) (tripK (v, l, e)) false).run Tryz.prog (w.drewN nq) = .ok ((s.pos (v, l, e)).getD (.int .i64 0)) (w.drewN nq) := fun nq => (h.places.kept (W' := w.drewN nq) rfl).look KP ha
  have hp0 : s.pos (v, l, e) = some (.int .i64 ((s.L (v, l)).idxOf e)) := by unfold Bg.pos; simp [posL, he]
  rw [hp0] at hpl
  simp only [tripK, Option.getD_some] at hpl
  have HPl := hid_mk h.places
  have HBk := hid_mk h.blk
  have hlast : (i6s (s.L (v, l)))[(s.L (v, l)).length - 1]? = some (.int .i64 (lAt (s.L (v, l)) ((s.L (v, l)).length - 1))) := i6s_at (by omega)
  have cl := hRw.cell hlast
  have hlm : lAt (s.L (v, l)) ((s.L (v, l)).length - 1) ∈ s.L (v, l) := lAt_mem (by omega)
  have hlb := hok.num (v, l) _ hlm
  have cx := hRw.cell (i6s_at hix)
  have fx := hRw.frozen (s.L (v, l)).length
  have HRw := hid_mk hRw
  have hT2 : Hid (okT (v, l, lAt (s.L (v, l)) ((s.L (v, l)).length - 1))) := ⟨ha.1, ha.2.1, show -9223372036854775808 ≤ lAt (s.L (v, l)) ((s.L (v, l)).length - 1) by omega, hlb.2⟩
  have hp2 : Hid ((s.pos (v, l, lAt (s.L (v, l)) ((s.L (v, l)).length - 1))).isSome = true) := posL_some.2 hlm
  have hp1 : Hid (s.pos (v, l, e) ≠ none) := by rw [hp0]; exact fun h => nomatch h
  have fx2 := hRw.frozen ((s.L (v, l)).idxOf e)
  obtain ⟨xo, hxo⟩ : ∃ xo, xo = lAt (s.L (v, l)) ((s.L (v, l)).idxOf e) := ⟨_, rfl⟩
  rw [← hxo] at cx
  obtain ⟨y, hy⟩ : ∃ y, y = lAt (s.L (v, l)) ((s.L (v, l)).length - 1) := ⟨_, rfl⟩
  have HY := hid_mk hy
  rw [← hy] at cl hlb hT2 hp2
  obtain ⟨i, hi⟩ : ∃ i, i = (s.L (v, l)).idxOf e := ⟨_, rfl⟩
  have HI := hid_mk hi
  rw [← hi] at hix hpl cx fx2
  obtain ⟨n, hn⟩ : ∃ n, (s.L (v, l)).length = n + 1 := ⟨(s.L (v, l)).length - 1, by omega⟩
  have HN := hid_mk hn
  rw [hn] at hlk hln hix cl HRw
  obtain ⟨hcap, hcap2⟩ := HRw.out.capLe
  have hcapI : (n : Int) ≤ (cap : Int) := by omega
  have hcap1 : ¬ cap = 0 := by omega
  rw [Nat.add_sub_cancel] at cl
  clear h hok ha haP he hL e0 hn hi hy hxo hpos hlast hlm hp0 fx hRw
  go_enter Tryz.func63, Tryz.ntmps63
  go_wp2_with fail
  refine HH.out.mono ?_
  rintro x w1 ⟨rfl, rfl⟩
  go_wp2_with fail
  go_quiet (fail)
  have HX0 := hid_mk (HX.out.kept (W' := w1.drewN nq) (fun _ _ => rfl) (Nat.le_refl _))
  have HS0 : Hid (Step F F w1 (w1.drewN nq)) := Step.of_below (below_drewN (Below.refl _ _) nq)
  have d0 : (w1.drewN nq).cell? ⟨B, 0, none⟩ = some (.map (some b)) := c0
  have d1 : (w1.drewN nq).cell? ⟨B, 1, none⟩ = some (.map (some c)) := c1
  have dx : (w1.drewN nq).cell? ⟨g, i, none⟩ = some (.int .i64 xo) := cx
  have df : (w1.drewN nq).frozen? ⟨g, i, none⟩ = false := fx2
  have dl : (w1.drewN nq).heap.size = w1.heap.size := rfl
  rw [← dl] at hBl hcl hbl hgl
  clear HX HL c0 c1 cx fx2 cl hpl hlk HRw HPl HBk HH dl
  generalize w1.drewN nq = W0 at *
  have hpla : ∀ q, q ≠ g → (W0.setCell ⟨g, i, none⟩ (.int .i64 y)).heap[q]? = W0.heap[q]? := fun q hq => Below.heap_setCell W0 ⟨g, i, none⟩ _ q hq
  have e1 : (W0.setCell ⟨g, i, none⟩ (.int .i64 y)).cell? ⟨B, 1, none⟩ = some (.map (some c)) := (cell_other (Ne.symm ng1)).trans d1
  have HP1 := hid_mk (HX0.out.places.kept (W' := W0.setCell ⟨g, i, none⟩ (.int .i64 y)) (hpla c (Ne.symm ng3)))
  have HBk1 : Hid (Blk (W0.setCell ⟨g, i, none⟩ (.int .i64 y)) B 77 #[.map (some b), .map (some c)]) := (hpla B (Ne.symm ng1)).trans HX0.out.blk
  obtain ⟨m, hmk, hL⟩ := HX0.out.lists
  have HL1 := hid_mk (hL.kept (W' := W0.setCell ⟨g, i, none⟩ (.int .i64 y)) (hpla b (Ne.symm ng2)))
  have hs1 : (W0.setCell ⟨g, i, none⟩ (.int .i64 y)).heap.size = W0.heap.size := size_setCell _ _ _
  clear hL hpla
  go_wp2_with (first
    | (at_mapUpdate; refine wpList_val_store rfl _ _ _ rfl KP rfl HP1.out (by unfold maxLen; omega) (v, l, y) rfl hT2.out (.int .i64 i) rfl ?_; intro w2 hP2 hg2; rw [hp2.out] at hP2; simp only [if_true] at hP2; have HP2 := hid_mk hP2; have HBk2 := hid_mk (HBk1.out.kept hg2 (fun e => nb2 (Option.some.inj e).symm)); have e2 := HBk2.out.cells2.2; have HL2 := hid_mk (HL1.out.kept (hg2.block b (by omega) (fun e => hbc (Option.some.inj e)))))
    | (at_delete; refine wpList_val_drop rfl _ _ rfl KP rfl HP2.out (v, l, e) rfl HT.out ?_; intro w3 hP3 hg3))
  have hq3 : (updQ s.pos (v, l, y) (some (.int .i64 i)) (v, l, e)).isSome = true := by
    by_cases hye : (v, l, e) = (v, l, y)
    · rw [hye, updQ_at]; rfl
    · rw [updQ_ne hye]; exact posL_some.2 HE.out
  rw [hq3] at hP3
  simp only [if_true] at hP3
  have HP3 := hid_mk hP3
  have HBk3 := hid_mk (HBk2.out.kept hg3 (fun e => nb2 (Option.some.inj e).symm))
  have hs2 := hg2.size
  have HL3 := hid_mk (HL2.out.kept (hg3.block b (by omega) (fun e => hbc (Option.some.inj e))))
  have HG2 := hid_mk hg2
  have HG3 := hid_mk hg3
  have hql : Hid ((lq s V (v, l)).isSome = true) := by
    unfold lq
    rw [if_neg (fun e => by rw [e] at HE; cases HE.out)]
    rfl
  clear hP2 hP3 hg2 hg3 HBk2 HP2 HL2 HL1 HBk1 HP1 e1 e2 d0 d1 dx df hq3 hs1 hs2 hp1 hp2 hT2
  go_wp2_with fail
  refine (bkeep_any HBk3.out HL3.out (by omega) HP.out hql.out g n cap (by omega)).mono ?_
  rintro x w4 ⟨rfl, ⟨m', hm', hM4⟩, hg4⟩
  obtain ⟨hX4, hS4⟩ := HX0.out.takeS HOk.out HE.out HV.out rfl (w2 := w2) (w3 := w3) (w4 := w4) (m := m') (by rw [← HY.out, ← HI.out]; exact HP3.out) (by rw [← HY.out, ← HI.out]; exact HG2.out) HG3.out (by omega) (by rw [HN.out, Nat.add_sub_cancel]; exact hM4) hg4
  have HF : Hid (∃ V', BgX b c V' w4 F B (s.take (v, l) e) k ∧ (s.take (v, l) e).Ok k ∧ Step F F w1 w4) := ⟨_, hX4, HO.out, HS0.out.trans hS4⟩
  clear hX4 hS4 hM4 hg4 HP3 HBk3 HL3 HG2 HG3 HX0 HS0 hql
  go_wp2
  go_ret
  exact ⟨rfl, HF.out⟩
theorem btake_yes (h : BgM w F B s k) (hk : k ≤ 100000) {v l e : Int} (ha : okT (v, l, e)) (he : e ∈ s.L (v, l)) :
    Calls Tryz.prog 63 #[.pointer (some ⟨B, 0, none⟩), .int .i64 v, .int .i64 l, .int .i64 e] w fun x w' => x = .returned (.bool true) ∧ BgM w' F B (s.take (v, l) e) k ∧ Step F F w w' := by
  obtain ⟨hok, ⟨rfl, _⟩ | ⟨b, c, V, h⟩⟩ := h
  · simp [bg0] at he
  · exact (btake_okXV h hok hk ha he).mono fun x w' ⟨e1, V', q1, q2, q3⟩ => ⟨e1, ⟨q2, .inr ⟨b, c, V', q1⟩⟩, q3⟩
end
end Go.Proofs.YtcbgeahcnjamdabGreat
