/- Lemmas. -/
import Derived.Test.YtlmdjghcmofdlaaGreatS15
import Derived.Handy
import Derived.Shelf.RegionOpen
import Derived.Shelf.Abstract
import Derived.Test.YtlmdjghcmofdlaaGreatS02
set_option maxRecDepth 100000
set_option maxHeartbeats 64000000
namespace Go.Proofs.YtlmdjghcmofdlaaGreat
open Go.RowKit
set_option linter.unusedVariables false
section
variable {b c : Nat} {V : Int × Int → Value} {w w1 w2 w3 w4 : World} {F : Nat → Prop} {B : Nat} {s : Bg} {k : Nat}
theorem RowW.capLe {W : World} {ty : TypeId} {size n g cap : Nat} {xs : List Value} (h : RowW W ty size (.slice (some ⟨g, 0, none⟩) n cap) n xs) : n ≤ cap ∧ cap ≤ maxLen := by
  rcases h.2 with ⟨h1, _⟩ | ⟨g', cap', cur, hv, hg, hn, hc, _⟩
  · cases h1
  · cases hv; exact ⟨hn, hc⟩
def keptQ (g n cap : Nat) : Option Value := if n = 0 then none else some (.slice (some ⟨g, 0, none⟩) n cap)
theorem bkeep_any {B b : Nat} {y : Value} (hb : Blk w B 116 #[.map (some b), y]) {q : Int × Int → Option Value} {m : Nat} (hM : MapV Tryz.prog 109 (.slice none 0 0) pairK okP w b q m) (hm : m ≤ 200000) {v l : Int} (ha : okP (v, l)) (hq : (q (v, l)).isSome = true) (g n cap : Nat) (hn : n ≤ 200000) :
    Calls Tryz.prog 90 #[.pointer (some ⟨B, 0, none⟩), .int .i64 v, .int .i64 l, .slice (some ⟨g, 0, none⟩) n cap] w fun x w' => x = .returned (.tuple #[]) ∧ (∃ m', m' ≤ m ∧ MapV Tryz.prog 109 (.slice none 0 0) pairK okP w' b (updQ q (v, l) (keptQ g n cap)) m') ∧ w.grownBy w' (some b) := by
  obtain ⟨c0, c1⟩ := hb.cells2
  have HM := mkH hM
  have HA := mkH ha
  have HQ := mkH hq
  clear hb hM ha hq
  by_cases h0 : n = 0
  · subst h0
    go_enter Tryz.func90, Tryz.ntmps90
    go_wp2_with (at_delete; refine wpList_val_drop rfl _ _ rfl KL rfl HM.out (v, l) rfl HA.out ?_; intro w2 hM2 hg2)
    try simp only [Act.put]
    rw [HQ.out] at hM2
    simp only [if_true] at hM2
    have HM2 := mkH hM2
    have HG2 := mkH hg2
    clear hM2 hg2 c0 c1 HM HA HQ
    try go_wp2
    go_returns
    exact ⟨rfl, ⟨_, Nat.sub_le _ _, HM2.out⟩, HG2.out⟩
  · go_enter Tryz.func90, Tryz.ntmps90
    go_wp2_with (at_mapUpdate; refine wpList_val_store rfl _ _ _ rfl KL rfl HM.out (by unfold maxLen; omega) (v, l) rfl HA.out (.slice (some ⟨g, 0, none⟩) n cap) rfl ?_; intro w2 hM2 hg2)
    try simp only [Act.put]
    rw [HQ.out] at hM2
    simp only [if_true] at hM2
    have e1 : keptQ g n cap = some (.slice (some ⟨g, 0, none⟩) n cap) := if_neg h0
    rw [← e1] at hM2
    have HM2 := mkH hM2
    have HG2 := mkH hg2
    clear hM2 hg2 c0 c1 HM HA HQ e1
    try go_wp2
    go_returns
    exact ⟨rfl, ⟨_, Nat.le_refl _, HM2.out⟩, HG2.out⟩
theorem BgX.takeS (h : BgX b c V w F B s k) (hok : s.Ok k) {a : Int × Int} {e : Int} (he : e ∈ s.L a) {g cap : Nat} (hV : V a = .slice (some ⟨g, 0, none⟩) (s.L a).length cap) (e1 : w1 = w.setCell ⟨g, (s.L a).idxOf e, none⟩ (.int .i64 (lAt (s.L a) ((s.L a).length - 1))))
    (hP : MapV Tryz.prog 140 (.int .i64 0) tripK okT w3 c (updQ (updQ s.pos (a.1, a.2, lAt (s.L a) ((s.L a).length - 1)) (some (.int .i64 ((s.L a).idxOf e)))) (a.1, a.2, e) none) (s.n - 1)) (g2 : w1.grownBy w2 (some c)) (g3 : w2.grownBy w3 (some c))
    {m : Nat} (hm : m ≤ k) (hM : MapV Tryz.prog 109 (.slice none 0 0) pairK okP w4 b (updQ (lq s V) a (keptQ g ((s.L a).length - 1) cap)) m) (g4 : w3.grownBy w4 (some b)) :
    BgX b c (updQ V a ((keptQ g ((s.L a).length - 1) cap).getD (.slice none 0 0))) w4 F B (s.take a e) k ∧ Step F F w w4 := by
  have s1 : w1.heap.size = w.heap.size := by rw [e1, size_setCell]
  have s2 := g2.size
  have s3 := g3.size
  have s4 := g4.size
  obtain ⟨nb1, nb2⟩ := h.nb
  have hgo : (V a).ownBlock = some g := by rw [hV]; rfl
  have hgF := (h.row a).2 g hgo
  obtain ⟨ng1, ng2, ng3⟩ := h.apartB a hgo
  have keep : ∀ q, q < w.heap.size → q ≠ c → q ≠ g → q ≠ b → w4.heap[q]? = w.heap[q]? := fun q hq n1 n2 n3 =>
    (g4.block q (by omega) (fun e => n3 (Option.some.inj e))).trans ((g3.block q (by omega) (fun e => n1 (Option.some.inj e))).trans ((g2.block q (by omega) (fun e => n1 (Option.some.inj e))).trans (by rw [e1]; exact Below.heap_setCell w ⟨g, _, none⟩ _ q n2)))
  have hbl := h.lt b h.f1
  have hcl := h.lt c h.f2
  have hBl := h.lt B h.fb
  have hgl := h.lt g hgF
  have keepg : w4.heap[g]? = w1.heap[g]? := (g4.block g (by omega) (fun e => ng2 (Option.some.inj e))).trans ((g3.block g (by omega) (fun e => ng3 (Option.some.inj e))).trans (g2.block g (by omega) (fun e => ng3 (Option.some.inj e))))
  have hlen := delL_len he
  have hpos : 0 < (s.L a).length := List.length_pos_of_mem he
  have hempty : delL (s.L a) e = [] ↔ (s.L a).length - 1 = 0 := by rw [← hlen]; exact List.length_eq_zero_iff.symm
  have hV' : ∀ v', keptQ g ((s.L a).length - 1) cap = some v' → v' = .slice (some ⟨g, 0, none⟩) ((s.L a).length - 1) cap := fun v' h' => by
    unfold keptQ at h'
    split at h'
    · cases h'
    · exact (Option.some.inj h').symm
  refine ⟨⟨(keep B hBl (Ne.symm nb2) (Ne.symm ng1) (Ne.symm nb1)).trans h.blk, ⟨m, hm, ?_⟩, ?_, fun x => ?_, fun x hx => ?_, fun x x' hne => ?_, h.bc, h.fb, h.f1, h.f2, fun q hq => ?_⟩, ⟨⟨?_, ?_, ?_, by omega, fun q hq hF => ?_⟩, fun q hq => .inl hq⟩⟩
  · refine hM.congr fun x _ => ?_
    unfold lq
    by_cases hx : x = a
    · subst hx
      simp only [Bg.take, updQ_at]
      by_cases h0 : (s.L x).length - 1 = 0
      · rw [if_pos (hempty.2 h0)]; simp [keptQ, h0]
      · rw [if_neg (fun e => h0 (hempty.1 e))]; simp [keptQ, h0]
    · simp only [Bg.take, updQ_ne hx]
  · rw [Bg.pos_take he (hok.nodup a)]
    exact hP.kept (g4.block c (by omega) (fun e => h.bc (Option.some.inj e).symm))
  · by_cases hx : x = a
    · subst hx
      rw [updQ_at]
      have e2 : (s.take x e).L x = delL (s.L x) e := by simp [Bg.take, updQ_at]
      rw [e2, hlen, i6s_del]
      have hr := (h.row x).1
      rw [hV] at hr
      have hr1 := (hr.set (j := (s.L x).idxOf e) (by have := idx_lt he; omega) (.int .i64 (lAt (s.L x) ((s.L x).length - 1)))).cut (k := (s.L x).length - 1) (by omega)
      rw [Nat.mul_one, ← e1] at hr1
      have hr4 := hr1.kept (w' := w4) fun q hq => by cases hq; exact keepg
      by_cases h0 : (s.L x).length - 1 = 0
      · simp only [keptQ, h0, if_true, Option.getD_none, List.take_zero]
        exact ⟨RowW.empty _ _ _, fun q hq => by cases hq⟩
      · simp only [keptQ, h0, if_false, Option.getD_some]
        exact ⟨hr4, fun q hq => by cases hq; exact hgF⟩
    · rw [updQ_ne hx]
      have e2 : (s.take a e).L x = s.L x := by simp [Bg.take, updQ_ne hx]
      rw [e2]
      exact ⟨(h.row x).1.kept fun q hq => keep q ((h.row x).1.lt hq) (h.apartB x hq).2.2 (fun e => h.apart x a hx q hq (by rw [e]; exact hgo)) (h.apartB x hq).2.1, fun q hq => (h.row x).2 q hq⟩
  · by_cases hxa : x = a
    · subst hxa
      simp only [Bg.take, updQ_at] at hx
      rw [updQ_at]
      simp [keptQ, hempty.1 hx]
    · rw [updQ_ne hxa]; exact h.nil x (by simpa [Bg.take, updQ_ne hxa] using hx)
  · have one : ∀ q, ((keptQ g ((s.L a).length - 1) cap).getD (.slice none 0 0)).ownBlock = some q → q = g := fun q hq => by
      cases hk : keptQ g ((s.L a).length - 1) cap with
      | none => rw [hk] at hq; cases hq
      | some v' => rw [hk, hV' v' hk] at hq; cases hq; rfl
    intro q h1 h2
    by_cases hx : x = a
    · subst hx
      rw [updQ_at] at h1
      rw [updQ_ne (Ne.symm hne)] at h2
      exact h.apart x' x (Ne.symm hne) q h2 (by rw [one q h1]; exact hgo)
    · rw [updQ_ne hx] at h1
      by_cases hx' : x' = a
      · subst hx'
        rw [updQ_at] at h2
        exact h.apart x x' hx q h1 (by rw [one q h2]; exact hgo)
      · rw [updQ_ne hx'] at h2
        exact h.apart x x' hne q h1 h2
  · have := h.lt q hq; omega
  · rw [g4.os, g3.os, g2.os, e1]; rfl
  · rw [g4.tape, g3.tape, g2.tape, e1]; rfl
  · rw [g4.output, g3.output, g2.output, e1]; rfl
  · exact keep q hq (fun e => hF (e ▸ h.f2)) (fun e => hF (e ▸ hgF)) (fun e => hF (e ▸ h.f1))
theorem btake_okXV {b c : Nat} {V : Int × Int → Value} (h : BgX b c V w F B s k) (hok : s.Ok k) (hk : k ≤ 100000) {v l e : Int} (ha : okT (v, l, e)) (he : e ∈ s.L (v, l)) :
    Calls Tryz.prog 62 #[.pointer (some ⟨B, 0, none⟩), .int .i64 v, .int .i64 l, .int .i64 e] w fun x w' => x = .returned (.bool true) ∧ ∃ V', BgX b c V' w' F B (s.take (v, l) e) k ∧ (s.take (v, l) e).Ok k ∧ Step F F w w' := by
  have HH := mkH (bhas_any (show BgM w F B s k from ⟨hok, .inr ⟨b, c, V, h⟩⟩) ha)
  rw [decide_eq_true he] at HH
  have haP : okP (v, l) := ⟨ha.1, ha.2.1⟩
  have HX := mkH h
  have HO := mkH (hok.take he)
  have HOk := mkH hok
  have HE := mkH he
  have HT := mkH ha
  have HP := mkH haP
  obtain ⟨m, hmk, hL⟩ := h.lists
  have HL := mkH hL
  have hlk := hL.look KL haP
  rw [h.slice] at hlk
  simp only [pairK] at hlk
  have hRw := (h.row (v, l)).1
  have hpos : 0 < (s.L (v, l)).length := List.length_pos_of_mem he
  obtain ⟨g, cap, e0⟩ := hRw.led hpos
  have HV := mkH e0
  have hgF := (h.row (v, l)).2 g (by rw [e0]; rfl)
  obtain ⟨ng1, ng2, ng3⟩ := h.apartB (v, l) (g := g) (by rw [e0]; rfl)
  rw [e0] at hlk hRw
  have hln := hok.len (v, l)
  have hsn := hok.le
  obtain ⟨c0, c1⟩ := h.blk.cells2
  obtain ⟨nb1, nb2⟩ := h.nb
  have hbc := h.bc
  have hBl := h.lt B h.fb
  have hcl := h.lt c h.f2
  have hbl := h.lt b h.f1
  have hgl := h.lt g hgF
  have hix := idx_lt he
  have hpl : ∀ nq, (Instr.lookup 114 (.map (some c)) (tripK (v, l, e)) false).run Tryz.prog (w.drewN nq) = .ok ((s.pos (v, l, e)).getD (.int .i64 0)) (w.drewN nq) := fun nq => (h.places.kept (W' := w.drewN nq) rfl).look KP ha
  have hp0 : s.pos (v, l, e) = some (.int .i64 ((s.L (v, l)).idxOf e)) := by unfold Bg.pos; simp [posL, he]
  rw [hp0] at hpl
  simp only [tripK, Option.getD_some] at hpl
  have HPl := mkH h.places
  have HBk := mkH h.blk
  have hlast : (i6s (s.L (v, l)))[(s.L (v, l)).length - 1]? = some (.int .i64 (lAt (s.L (v, l)) ((s.L (v, l)).length - 1))) := i6s_at (by omega)
  have cl := hRw.cell hlast
  have hlm : lAt (s.L (v, l)) ((s.L (v, l)).length - 1) ∈ s.L (v, l) := lAt_mem (by omega)
  have hlb := hok.num (v, l) _ hlm
  have cx := hRw.cell (i6s_at hix)
  have fx := hRw.frozen (s.L (v, l)).length
  have HRw := mkH hRw
  have hT2 : Hid (okT (v, l, lAt (s.L (v, l)) ((s.L (v, l)).length - 1))) := ⟨ha.1, ha.2.1, show -9223372036854775808 ≤ lAt (s.L (v, l)) ((s.L (v, l)).length - 1) by omega, hlb.2⟩
  have hp2 : Hid ((s.pos (v, l, lAt (s.L (v, l)) ((s.L (v, l)).length - 1))).isSome = true) := posL_some.2 hlm
  have hp1 : Hid (s.pos (v, l, e) ≠ none) := by rw [hp0]; exact fun h => nomatch h
  have fx2 := hRw.frozen ((s.L (v, l)).idxOf e)
  obtain ⟨xo, hxo⟩ : ∃ xo, xo = lAt (s.L (v, l)) ((s.L (v, l)).idxOf e) := ⟨_, rfl⟩
  rw [← hxo] at cx
  obtain ⟨y, hy⟩ : ∃ y, y = lAt (s.L (v, l)) ((s.L (v, l)).length - 1) := ⟨_, rfl⟩
  have HY := mkH hy
  rw [← hy] at cl hlb hT2 hp2
  obtain ⟨i, hi⟩ : ∃ i, i = (s.L (v, l)).idxOf e := ⟨_, rfl⟩
  have HI := mkH hi
  rw [← hi] at hix hpl cx fx2
  obtain ⟨n, hn⟩ : ∃ n, (s.L (v, l)).length = n + 1 := ⟨(s.L (v, l)).length - 1, by omega⟩
  have HN := mkH hn
  rw [hn] at hlk hln hix cl HRw
  obtain ⟨hcap, hcap2⟩ := HRw.out.capLe
  have hcapI : (n : Int) ≤ (cap : Int) := by omega
  have hcap1 : ¬ cap = 0 := by omega
  rw [Nat.add_sub_cancel] at cl
  clear h hok ha haP he hL e0 hn hi hy hxo hpos hlast hlm hp0 fx hRw
  go_enter Tryz.func62, Tryz.ntmps62
  go_wp2_with fail
  refine HH.out.mono ?_
  rintro x w1 ⟨rfl, rfl⟩
  go_wp2_with fail
  go_quiet (fail)
  have HX0 := mkH (HX.out.kept (W' := w1.drewN nq) (fun _ _ => rfl) (Nat.le_refl _))
  have HS0 : Hid (Step F F w1 (w1.drewN nq)) := Step.of_below (below_drewN (Below.refl _ _) nq)
  have d0 : (w1.drewN nq).cell? ⟨B, 0, none⟩ = some (.map (some b)) := c0
  have d1 : (w1.drewN nq).cell? ⟨B, 1, none⟩ = some (.map (some c)) := c1
  have dx : (w1.drewN nq).cell? ⟨g, i, none⟩ = some (.int .i64 xo) := cx
  have df : (w1.drewN nq).frozen? ⟨g, i, none⟩ = false := fx2
  have dl : (w1.drewN nq).heap.size = w1.heap.size := rfl
  rw [← dl] at hBl hcl hbl hgl
  clear HX HL c0 c1 cx fx2 cl hpl hlk HRw HPl HBk HH dl
  generalize w1.drewN nq = W0 at *
  have hpla : ∀ q, q ≠ g → (W0.setCell ⟨g, i, none⟩ (.int .i64 y)).heap[q]? = W0.heap[q]? := fun q hq => Below.heap_setCell W0 ⟨g, i, none⟩ _ q hq
  have e1 : (W0.setCell ⟨g, i, none⟩ (.int .i64 y)).cell? ⟨B, 1, none⟩ = some (.map (some c)) := (cell_other (Ne.symm ng1)).trans d1
  have HP1 := mkH (HX0.out.places.kept (W' := W0.setCell ⟨g, i, none⟩ (.int .i64 y)) (hpla c (Ne.symm ng3)))
  have HBk1 : Hid (Blk (W0.setCell ⟨g, i, none⟩ (.int .i64 y)) B 116 #[.map (some b), .map (some c)]) := (hpla B (Ne.symm ng1)).trans HX0.out.blk
  obtain ⟨m, hmk, hL⟩ := HX0.out.lists
  have HL1 := mkH (hL.kept (W' := W0.setCell ⟨g, i, none⟩ (.int .i64 y)) (hpla b (Ne.symm ng2)))
  have hs1 : (W0.setCell ⟨g, i, none⟩ (.int .i64 y)).heap.size = W0.heap.size := size_setCell _ _ _
  clear hL hpla
  go_wp2_with (first
    | (at_mapUpdate; refine wpList_val_store rfl _ _ _ rfl KP rfl HP1.out (by unfold maxLen; omega) (v, l, y) rfl hT2.out (.int .i64 i) rfl ?_; intro w2 hP2 hg2; rw [hp2.out] at hP2; simp only [if_true] at hP2; have HP2 := mkH hP2; have HBk2 := mkH (HBk1.out.kept hg2 (fun e => nb2 (Option.some.inj e).symm)); have e2 := HBk2.out.cells2.2; have HL2 := mkH (HL1.out.kept (hg2.block b (by omega) (fun e => hbc (Option.some.inj e)))))
    | (at_delete; refine wpList_val_drop rfl _ _ rfl KP rfl HP2.out (v, l, e) rfl HT.out ?_; intro w3 hP3 hg3))
  have hq3 : (updQ s.pos (v, l, y) (some (.int .i64 i)) (v, l, e)).isSome = true := by
    by_cases hye : (v, l, e) = (v, l, y)
    · rw [hye, updQ_at]; rfl
    · rw [updQ_ne hye]; exact posL_some.2 HE.out
  rw [hq3] at hP3
  simp only [if_true] at hP3
  have HP3 := mkH hP3
  have HBk3 := mkH (HBk2.out.kept hg3 (fun e => nb2 (Option.some.inj e).symm))
  have hs2 := hg2.size
  have HL3 := mkH (HL2.out.kept (hg3.block b (by omega) (fun e => hbc (Option.some.inj e))))
  have HG2 := mkH hg2
  have HG3 := mkH hg3
  have hql : Hid ((lq s V (v, l)).isSome = true) := by
    unfold lq
    rw [if_neg (fun e => by rw [e] at HE; cases HE.out)]
    rfl
  clear hP2 hP3 hg2 hg3 HBk2 HP2 HL2 HL1 HBk1 HP1 e1 e2 d0 d1 dx df hq3 hs1 hs2 hp1 hp2 hT2
  go_wp2_with fail
  refine (bkeep_any HBk3.out HL3.out (by omega) HP.out hql.out g n cap (by omega)).mono ?_
  rintro x w4 ⟨rfl, ⟨m', hm', hM4⟩, hg4⟩
  obtain ⟨hX4, hS4⟩ := HX0.out.takeS HOk.out HE.out HV.out rfl (w2 := w2) (w3 := w3) (w4 := w4) (m := m') (by rw [← HY.out, ← HI.out]; exact HP3.out) (by rw [← HY.out, ← HI.out]; exact HG2.out) HG3.out (by omega) (by rw [HN.out, Nat.add_sub_cancel]; exact hM4) hg4
  have HF : Hid (∃ V', BgX b c V' w4 F B (s.take (v, l) e) k ∧ (s.take (v, l) e).Ok k ∧ Step F F w1 w4) := ⟨_, hX4, HO.out, HS0.out.trans hS4⟩
  clear hX4 hS4 hM4 hg4 HP3 HBk3 HL3 HG2 HG3 HX0 HS0 hql
  go_wp2
  go_ret
  exact ⟨rfl, HF.out⟩
theorem btake_yes (h : BgM w F B s k) (hk : k ≤ 100000) {v l e : Int} (ha : okT (v, l, e)) (he : e ∈ s.L (v, l)) :
    Calls Tryz.prog 62 #[.pointer (some ⟨B, 0, none⟩), .int .i64 v, .int .i64 l, .int .i64 e] w fun x w' => x = .returned (.bool true) ∧ BgM w' F B (s.take (v, l) e) k ∧ Step F F w w' := by
  obtain ⟨hok, ⟨rfl, _⟩ | ⟨b, c, V, h⟩⟩ := h
  · simp [bg0] at he
  · exact (btake_okXV h hok hk ha he).mono fun x w' ⟨e1, V', q1, q2, q3⟩ => ⟨e1, ⟨q2, .inr ⟨b, c, V', q1⟩⟩, q3⟩
end
end Go.Proofs.YtlmdjghcmofdlaaGreat
namespace Go.Proofs.YtlmdjghcmofdlaaGreat
open Go.RowKit Go.Shelf
attribute [local go_sem] Oper.semAt_some
set_option linter.unusedVariables false
def NewI (w w' : World) (v : Value) (L : List Int) : Prop := RowW w' 3 1 v L.length (i6s L) ∧ ∀ k, v.ownBlock = some k → w.heap.size ≤ k
theorem iclone_nil (w : World) : Calls Tryz.prog 87 #[.slice none 0 0] w fun e w' => ∃ v, e = .returned v ∧ NewI w w' v [] ∧ Below w.heap.size w w' := by
  have hnil := fun (w : World) (a : Option Addr) (n c n' c' : Nat) => Lib.run_eql_slice_nil (P := Tryz.prog) w 51 3 a n c n' c' Tryz.underlying51
  go_enter Tryz.func87, Tryz.ntmps87
  go_wp2
  go_ret
  exact ⟨_, rfl, ⟨RowW.empty _ _ _, fun k hk => by cases hk⟩, Below.refl _ _⟩
theorem i6s_one (l : List Int) : ∀ u ∈ i6s l, u.oneCell' = true := by
  intro u hu
  simp only [i6s, List.mem_map] at hu
  obtain ⟨x, _, rfl⟩ := hu
  rfl
theorem iclone_some {g cap : Nat} {L : List Int} {w : World} (h : RowW w 3 1 (.slice (some ⟨g, 0, none⟩) L.length cap) L.length (i6s L)) (h0 : 0 < L.length) (h1 : L.length ≤ 200000) :
    Calls Tryz.prog 87 #[.slice (some ⟨g, 0, none⟩) L.length cap] w fun e w' => ∃ v, e = .returned v ∧ NewI w w' v L ∧ Below w.heap.size w w' := by
  have hnil := fun (w : World) (a : Option Addr) (n c n' c' : Nat) => Lib.run_eql_slice_nil (P := Tryz.prog) w 51 3 a n c n' c' Tryz.underlying51
  obtain ⟨i0, hi, hz0, hz1, hz2⟩ := info_parts infoI6
  have hgl : g < w.heap.size := h.lt rfl
  have hnews : Hid (∀ j u, (i6s L)[j]? = some u → (w.alloc (.cells #[] 3)).cell? ((⟨g, 0, none⟩ : Addr).add j) = some u) := fun j u hu => by
    rw [add_eq, Nat.zero_add]
    exact (World.cell?_of_block (w := w) (heap_alloc_old w _ g hgl)).trans (h.cell hu)
  have HE : Hid (RowW (w.alloc (.cells #[] 3)) 3 1 (.slice (some ⟨w.heap.size, 0, none⟩) 0 0) 0 []) := ⟨rfl, .inr ⟨w.heap.size, 0, #[], rfl, Blk.new w _ _, Nat.le_refl _, by unfold maxLen; omega, by simp, rfl⟩⟩
  have hil := i6s_len L
  have h1c := mkH (i6s_one L)
  obtain ⟨n, hn⟩ : ∃ n, n = L.length := ⟨_, rfl⟩
  have HN := mkH hn
  rw [← hn] at h0 h1 hil
  rw [← hn]
  clear h hn
  go_enter Tryz.func87, Tryz.ntmps87
  go_wp2_with (at_builtin; refine wpList_append_row _ rfl _ _ 51 rfl 3 i0 (.int .i64 0) 1 8 Tryz.underlying51 hi hz0 hz1 hz2 rfl _ _ _ rfl HE.out ⟨g, 0, none⟩ n cap (i6s L) rfl (by omega) hnews.out h1c.out h0 (by unfold maxLen; omega) (by omega) ?_)
  intro g2 cap2 w2 hown hgrow hat hlt
  have hat' : w.heap.size ≤ g2 := by
    rcases hat with e | e
    · have : w.heap.size = g2 := Option.some.inj e; omega
    · rw [e]; simp
  have hb : Below w.heap.size w w2 := ((Below.refl w.heap.size w).alloc (Nat.le_refl _) (.cells #[] 3)).grown hgrow (by simp) (fun r hr => by cases hr; exact Nat.le_refl _)
  have HNW : Hid (NewI w w2 (.slice (some ⟨g2, 0, none⟩) n cap2) L) := by
    unfold NewI
    rw [← HN.out]
    exact ⟨hown, fun k hk => by cases hk; exact hat'⟩
  have HB := mkH hb
  clear hown hgrow hat hlt hat' hb hnews HE h1c
  go_wp2
  go_ret
  exact ⟨_, rfl, by simpa using HNW.out, HB.out⟩
theorem iclone_any {v : Value} {L : List Int} {w : World} (h : RowW w 3 1 v L.length (i6s L)) (hnil : L = [] → v = .slice none 0 0) (h1 : L.length ≤ 200000) :
    Calls Tryz.prog 87 #[v] w fun e w' => ∃ v, e = .returned v ∧ NewI w w' v L ∧ Below w.heap.size w w' := by
  by_cases h0 : 0 < L.length
  · obtain ⟨g, cap, rfl⟩ := h.led h0
    exact iclone_some h h0 h1
  · obtain rfl : L = [] := List.eq_nil_of_length_eq_zero (by omega)
    rw [hnil rfl]
    exact iclone_nil w
abbrev valF (b : Nat) : Value := .func (.func 114) #[] #[.pointer (some ⟨b, 0, none⟩)]
theorem values_ab (v : Value) (hv : v.oneCell' = true) (w : World) : Calls Tryz.prog 88 #[v] w fun e w' => ∃ b, e = .returned (valF b) ∧ Blk w' b 51 #[v] ∧ w.heap.size ≤ b ∧ Below w.heap.size w w' := by
  go_enter Tryz.func88, Tryz.ntmps88
  go_wp2
  go_ret
  exact ⟨_, rfl, Blk.new w _ _, Nat.le_refl _, (Below.refl _ _).alloc (Nat.le_refl _) _⟩
abbrev ofF (a b c : Nat) : Value := .func (.func 86) #[] #[.pointer (some ⟨a, 0, none⟩), .pointer (some ⟨b, 0, none⟩), .pointer (some ⟨c, 0, none⟩)]
def Bxe (a b c : Nat) (p : Option Addr) (v l : Int) (w : World) : Prop := Blk w a 50 #[.pointer p] ∧ Blk w b 3 #[.int .i64 v] ∧ Blk w c 3 #[.int .i64 l]
theorem Bxe.below {a b c : Nat} {p : Option Addr} {v l : Int} {w w' : World} (h : Bxe a b c p v l w) (hb : Below w.heap.size w w') : Bxe a b c p v l w' := ⟨h.1.below hb, h.2.1.below hb, h.2.2.below hb⟩
theorem bof_ab (p : Option Addr) (v l : Int) (w : World) : Calls Tryz.prog 57 #[.pointer p, .int .i64 v, .int .i64 l] w fun e w' => ∃ a b c, e = .returned (ofF a b c) ∧ Bxe a b c p v l w' ∧ w.heap.size ≤ a ∧ w.heap.size ≤ b ∧ w.heap.size ≤ c ∧ Below w.heap.size w w' := by
  go_enter Tryz.func57, Tryz.ntmps57
  go_wp2
  go_ret
  have h1 := Blk.new (w.alloc (.cells #[.pointer p] 50)) 3 #[.int .i64 v]
  rw [World.size_alloc] at h1
  have h2 := Blk.new ((w.alloc (.cells #[.pointer p] 50)).alloc (.cells #[.int .i64 v] 3)) 3 #[.int .i64 l]
  rw [World.size_alloc, World.size_alloc] at h2
  exact ⟨_, _, _, rfl, ⟨((Blk.new w _ _).alloc _).alloc _, h1.alloc _, h2⟩, Nat.le_refl _, by omega, by omega, below_new (below_new ((Below.refl _ _).alloc (Nat.le_refl _) _) (Nat.le_refl _) _) (Nat.le_refl _) _⟩
theorem BgM.looks {W : World} {F : Nat → Prop} {B : Nat} {s : Bg} {k : Nat} (h : BgM W F B s k) {a : Int × Int} (ha : okP a) : ∃ (x y u : Value), Blk W B 116 #[x, y] ∧ (∀ W', Below W.heap.size W W' → (Instr.lookup 113 x (pairK a) false).run Tryz.prog W' = .ok u W') ∧
    RowW W 3 1 u (s.L a).length (i6s (s.L a)) ∧ (s.L a = [] → u = .slice none 0 0) := by
  obtain ⟨h0, ⟨rfl, h2, h3, h4⟩ | ⟨b, c, V, h1⟩⟩ := h
  · exact ⟨_, _, .slice none 0 0, h2, fun W' _ => by simpa using MapV.look_nil KL W' ha false, RowW.empty _ _ _, fun _ => rfl⟩
  · obtain ⟨m, hm, h2⟩ := h1.lists
    refine ⟨_, _, V a, h1.blk, fun W' hb => ?_, (h1.row a).1, h1.nil a⟩
    rw [(h2.kept (hb.block b (h1.lt b h1.f1))).look KL ha, h1.slice a]
theorem val1_y (n : Nat) (hn : 4 ≤ n) (b : Nat) {ao : Option Addr} {cap : Nat} {L : List Int} (w : World) (hbx : Blk w b 51 #[.slice ao L.length cap]) (hL : L.length ≤ 1000000) :
    SeqY Fence.wide n Tryz.prog 114 #[.pointer (some ⟨b, 0, none⟩)] (fun x : Int => #[.int .i64 x]) (fun W => RowW W 3 1 (.slice ao L.length cap) L.length (i6s L)) (AllOf L) (PartOf L) L.length w := fun l J Jx X hR hX hJ hJx hl1 hl2 hY h0 => by
  have c1 := (hbx.below hX).cell1
  have HR : Hid (∀ Z pre W, J Z pre W → RowW W 3 1 (.slice ao L.length cap) L.length (i6s L)) := hR
  have H0 : Hid (∀ Z, J Z [] X) := h0
  obtain ⟨Z, hZ⟩ : ∃ Z, Z = X.heap.size := ⟨_, rfl⟩
  have HYY : Hid (∀ pre x W1, Z ≤ W1.heap.size → J Z pre W1 → pre.length < L.length ∧ PartOf L (pre ++ [x]) → YieldAt Fence.wide (n - 1) Tryz.prog l #[.int .i64 x] W1 fun e W' => (e = .returned (.bool true) ∧ J Z (pre ++ [x]) W' ∧ BK X.heap.size Z W1 W') ∨ (e = .returned (.bool false) ∧ Jx Z (pre ++ [x]) W' ∧ BK X.heap.size Z W1 W')) := fun pre x W1 h1 h2 h3 => hY Z pre x W1 (by omega) h1 h2 h3
  have hZX : Z ≤ X.heap.size := by omega
  have hZX' : X.heap.size ≤ Z := by omega
  clear hbx hX hJ hJx hY h0 hR
  obtain ⟨m, hm⟩ : ∃ m, m = L.length := ⟨_, rfl⟩
  have HM : Hid (m = L.length) := hm
  rw [← hm] at hL HR c1
  clear hm
  refine callsIn_of_wp_marks Tryz.func114 rfl trivial ?_ rfl
  simp only [Tryz.ntmps114, List.size_toArray, List.length_cons, List.length_nil, Nat.reduceAdd, Nat.reduceSub, Array.replicate_succ, Array.replicate_zero, List.push_toArray, List.append_toArray, List.nil_append, List.cons_append]
  gi_wp2
  gi_loopw [7] (fun vq wr => ∃ q : Nat, q ≤ m ∧ vq = .int .i64 q ∧ Hid (J Z (L.take q) wr) ∧ Z ≤ wr.heap.size) (fun vq _ => m - (intOf vq).toNat)
  case atStart => exact ⟨0, Nat.zero_le _, rfl, H0.out Z, hZX⟩
  case round =>
    obtain ⟨q, hq, rfl, HJq, hZq⟩ := hrel
    by_cases hlt : q < m
    · have hlt' : q < L.length := by rw [← HM.out]; exact hlt
      have hRw := HR.out _ _ _ HJq.out
      obtain ⟨g, cap', e0⟩ := hRw.led (by omega)
      cases e0
      have cq := hRw.cell (i6s_at hlt')
      obtain ⟨f1, t1, a1, b1, hy1, hR1⟩ := HYY.out _ (lAt L q) wr hZq HJq.out ⟨by rw [List.length_take]; omega, by rw [← ltake_snoc hlt']; exact List.take_prefix _ _⟩
      rw [← ltake_snoc hlt'] at hR1
      have hqi : (q : Int) < (m : Int) := by omega
      clear hRw
      gi_wp2
      repeat (refine ⟨fun _ h => (by cases h), ?_⟩; gi_wp2)
      refine ⟨fun _ => by omega, hR1.mono ?_⟩
      rintro e X3 (⟨rfl, hX3, k3⟩ | ⟨rfl, hx3, k3⟩)
      · have HJ3 := mkH hX3
        have hZ3 : Z ≤ X3.heap.size := Nat.le_trans hZq k3.size
        clear hX3 k3 hy1 hR1 HJq cq
        gi_wp2
        go_roundw
        case rel => exact ⟨q + 1, by omega, by go_num, HJ3.out, hZ3⟩
        case measure => simp [intOf]; omega
      · clear k3 hy1 hR1 HJq cq
        gi_wp2
        refine ⟨.tuple #[], ?_, ⟨_, rfl⟩, .inr ⟨_, _, hZX', List.take_prefix _ _, hx3⟩⟩
        simp [results, Tryz.f114, go_sem]
    · obtain rfl : q = m := by omega
      have HJq' : Hid (J Z L wr) := by have := HJq.out; rw [HM.out, List.take_length] at this; exact this
      clear HJq
      gi_wp2
      refine ⟨.tuple #[], ?_, ⟨_, rfl⟩, .inl ⟨_, _, hZX', rfl, HJq'.out⟩⟩
      simp [results, Tryz.f114, go_sem]
theorem of1_y (n : Nat) (hn : 8 ≤ n) (a b c : Nat) {v l : Int} (ha : okP (v, l)) {w : World} {F : Nat → Prop} {B : Nat} {s : Bg} {k : Nat} (h : BgM w F B s k) (hk : k ≤ 100000) (hbx : Bxe a b c (some ⟨B, 0, none⟩) v l w) :
    SeqY Fence.wide n Tryz.prog 86 #[.pointer (some ⟨a, 0, none⟩), .pointer (some ⟨b, 0, none⟩), .pointer (some ⟨c, 0, none⟩)] (fun x : Int => #[.int .i64 x]) (fun _ => True) (AllOf (s.L (v, l))) (PartOf (s.L (v, l))) (s.L (v, l)).length w := fun l' J Jx X hR hX hJ hJx hl1 hl2 hY h0 => by
  have HJ : Hid (∀ Z, OwnIn X.heap.size Z (J Z)) := hJ
  have HJx : Hid (∀ Z, OwnIn X.heap.size Z (Jx Z)) := hJx
  have H0 : Hid (∀ Z, J Z [] X) := h0
  obtain ⟨L, hLe⟩ : ∃ L, L = s.L (v, l) := ⟨_, rfl⟩
  rw [← hLe] at hY ⊢
  have HYY : Hid (∀ Z pre x W1, X.heap.size ≤ Z → Z ≤ W1.heap.size → J Z pre W1 → pre.length < L.length ∧ PartOf L (pre ++ [x]) → YieldAt Fence.wide (n - 1) Tryz.prog l' #[.int .i64 x] W1 fun e W' => (e = .returned (.bool true) ∧ J Z (pre ++ [x]) W' ∧ BK X.heap.size Z W1 W') ∨ (e = .returned (.bool false) ∧ Jx Z (pre ++ [x]) W' ∧ BK X.heap.size Z W1 W')) := hY
  obtain ⟨X1, hX1⟩ : ∃ X1, X1 = X.alloc (.cells #[.func (.yield l') #[] #[]] 33) := ⟨_, rfl⟩
  have hXa : Below X.heap.size X X1 := by rw [hX1]; exact (Below.refl _ _).alloc (Nat.le_refl _) _
  have hbX := (hbx.below hX).below hXa
  have hM := (h.below hX).below hXa
  have HCY : Hid (Blk X1 X.heap.size 33 #[.func (.yield l') #[] #[]]) := by rw [hX1]; exact Blk.new X _ _
  obtain ⟨x, y, u, e1, e2, e3, e4⟩ := hM.looks ha
  have hLlen := hM.1.len (v, l)
  rw [← hLe] at e3 e4 hLlen
  have HNil := mkH e4
  have HLK := mkH e2
  have c0 := e1.cells2.1
  have b1 := hbX.1.cell1
  have b2 := hbX.2.1.cell1
  have b3 := hbX.2.2.cell1
  have hBl := e1.lt
  have hal := hbX.1.lt
  have hbl := hbX.2.1.lt
  have hcl := hbX.2.2.lt
  have HXa := mkH hXa
  have hlk1 := e2 X1.drew (Below.refl _ _).drew
  simp only [pairK] at hlk1
  have d0 : X1.drew.cell? ⟨B, 0, none⟩ = some x := c0
  have d1 : X1.drew.cell? ⟨a, 0, none⟩ = some (.pointer (some ⟨B, 0, none⟩)) := b1
  have d2 : X1.drew.cell? ⟨b, 0, none⟩ = some (.int .i64 v) := b2
  have d3 : X1.drew.cell? ⟨c, 0, none⟩ = some (.int .i64 l) := b3
  have HRw : Hid (RowW X1.drew 3 1 u L.length (i6s L)) := e3.kept fun _ _ => rfl
  have hXs : X1.heap.size = X.heap.size + 1 := by rw [hX1]; simp
  have bb1 := b1
  rw [hX1] at bb1
  clear h hbx hbX hM e1 e2 e3 e4 hX hXa hR hJ hJx hY h0 c0 b1 b2 b3 hLe
  refine callsIn_of_wp_marks Tryz.func86 rfl trivial ?_ rfl
  simp only [Tryz.ntmps86, List.size_toArray, List.length_cons, List.length_nil, Nat.reduceAdd, Nat.reduceSub, Array.replicate_succ, Array.replicate_zero, List.push_toArray, List.append_toArray, List.nil_append, List.cons_append]
  gi_wp2_with fail
  refine wpIn_wide.2 ?_
  rw [← hX1]
  clear hX1 bb1
  go_region_held3 (fun w' => w'.cell? ⟨a, 0, none⟩ = some (.pointer (some ⟨B, 0, none⟩)) ∧ w'.cell? ⟨b, 0, none⟩ = some (.int .i64 v) ∧ w'.cell? ⟨c, 0, none⟩ = some (.int .i64 l) ∧ w'.cell? ⟨B, 0, none⟩ = some x ∧ (Instr.lookup 113 x (.agg #[.int .i64 v, .int .i64 l]) false).run Tryz.prog w' = .ok u w')
    (first | (go_split_ands; assumption) | go_keep)
    (first
      | (go_at_call 87; refine (iclone_any HRw.out HNil.out (by omega)).mono ?_; rintro e w2 ⟨v', rfl, hNew, hb2⟩; have k1 : w2.cell? ⟨a, 0, none⟩ = some (.pointer (some ⟨B, 0, none⟩)) := (hb2.cell (p := ⟨a, 0, none⟩) hal).trans d1; have k2 : w2.cell? ⟨b, 0, none⟩ = some (.int .i64 v) := (hb2.cell (p := ⟨b, 0, none⟩) hbl).trans d2; have k3 : w2.cell? ⟨c, 0, none⟩ = some (.int .i64 l) := (hb2.cell (p := ⟨c, 0, none⟩) hcl).trans d3; have k4 : w2.cell? ⟨B, 0, none⟩ = some x := (hb2.cell (p := ⟨B, 0, none⟩) hBl).trans d0; have k5 : (Instr.lookup 113 x (.agg #[.int .i64 v, .int .i64 l]) false).run Tryz.prog w2 = .ok u w2 := HLK.out w2 ((Below.refl X1.heap.size X1).drew.trans hb2))
      | fail)
  obtain ⟨hN1, hN2⟩ := hNew
  obtain ⟨ao, cap, rfl⟩ := hN1.form
  have hs1 : X1.drew.heap.size = X1.heap.size := rfl
  have hXd : Below X.heap.size X w2 := HXa.out.trans (((Below.refl X1.heap.size X1).drew.trans hb2).mono (by omega))
  have HCY2 := mkH (HCY.out.below ((Below.refl X1.heap.size X1).drew.trans hb2))
  have HN2 : Hid (∀ k, (Value.slice ao L.length cap).ownBlock = some k → X.heap.size ≤ k) := fun k hk => by have := hN2 k hk; omega
  have HN1 := mkH hN1
  have HXd := mkH hXd
  have hs2 := hb2.size
  clear hN1 hN2 hb2 k1 k2 k3 k4 k5 d0 d1 d2 d3 hlk1 HLK HNil HRw HCY HXa hXd
  rename_i hHeld
  clear hHeld
  gi_wp2_with fail
  refine ⟨trivial, fun _ => by omega, ?_⟩
  gi_at_call 88
  refine (callsIn_wide.2 (values_ab _ rfl _)).mono ?_
  rintro e X3 ⟨b2, rfl, hbx, hbb, hb3⟩
  have hs3 := hb3.size
  have HS := mkH (val1_y (n - 1) (by omega) b2 X3 hbx (by omega))
  have HX3 := mkH (HXd.out.trans (hb3.mono HXd.out.size))
  have HCY3 := mkH (HCY2.out.below hb3)
  have HN3 : Hid (RowW X3 3 1 (.slice ao L.length cap) L.length (i6s L)) := HN1.out.kept fun q hq => hb3.block q (HN1.out.lt hq)
  have hs4 := HX3.out.size
  clear hbx hb3 hbb HCY2 HN1 HXd
  gi_wp2_with fail
  refine range_ownY rfl (by omega) (gf := 114) (lb := #[.pointer (some ⟨b2, 0, none⟩)]) rfl trivial (enters_of Tryz.func114 (by kernel_rfl) rfl) HS.out (Below.refl _ _) (fun _ => rfl)
    (fun Z pre A => J Z pre A ∧ Blk A X.heap.size 33 #[.func (.yield l') #[] #[]] ∧ RowW A 3 1 (.slice ao L.length cap) L.length (i6s L)) (fun Z cc pre A => cc = .ret ∧ Jx Z pre A)
    (fun Z => OwnIn.and (OwnIn.mono (HJ.out Z) (by omega) (Nat.le_refl _)) (OwnIn.and (OwnIn.of (Own.from (blk_own _ _ (fun _ => _)) _)) (fun _ A A' row hs hg hr => RowW.grown hs hg (fun r e => (hr r e).2.2))))
    (fun Z cc => fun s A A' row hs hg hr => ⟨hs.1, (HJx.out Z) s A A' row hs.2 hg (fun r e => ⟨by have := (hr r e).1; omega, (hr r e).2⟩)⟩)
    (fun Z => ⟨OwnIn.below (HJ.out Z) (H0.out Z) HX3.out, HCY3.out, HN3.out⟩) (fun Z pre A h => h.2.2) ?a1 ?assign ?body ?done ?stop
  case assign =>
    intro lq x A Kk hK
    gi_wp2
    exact hK
  case body =>
    rintro lq Z pre x A hZ0 hZ1 ⟨hJp, hCY, hRw⟩ hpx
    have cc := hCY.cell1
    obtain ⟨f1, t1, a1, b1, hy1, hR1⟩ := yieldAt_in (l' := lq) (m' := n - 1 - 1 - 1) (HYY.out Z pre x A (by omega) hZ1 hJp hpx)
    have HC := mkH hCY
    have HR2 := mkH hRw
    clear hJp hCY hRw
    gi_wp2_with fail
    refine ⟨fun _ => by omega, hR1.mono ?_⟩
    rintro e X4 (⟨rfl, hX4, k4⟩ | ⟨rfl, hx4, k4⟩)
    · have P0 : Hid (BK X3.heap.size Z A X4 ∧ J Z (pre ++ [x]) X4 ∧ Blk X4 X.heap.size 33 #[.func (.yield l') #[] #[]] ∧ RowW X4 3 1 (.slice ao L.length cap) L.length (i6s L)) :=
        ⟨k4.mono (by omega) (Nat.le_refl _), hX4, (k4.same X.heap.size (Nat.le_refl _) (by omega)).trans HC.out, HR2.out.kept fun q hq => k4.same q (HN2.out q hq) (by have := HN3.out.lt hq; omega)⟩
      clear hX4 k4 hR1 hy1 HC HR2 cc
      gi_wp2
      exact P0.out
    · have P0 : Hid (BK X3.heap.size Z A X4 ∧ Jx Z (pre ++ [x]) X4) := ⟨k4.mono (by omega) (Nat.le_refl _), hx4⟩
      clear hx4 k4 hR1 hy1 HC HR2 cc
      gi_wp2
      exact ⟨P0.out.1, rfl, P0.out.2⟩
  case stop =>
    rintro D Z cc pre A hD hDZ hpre ⟨rfl, hJp⟩ hK
    have HK' := mkH hK
    have HJp := mkH hJp
    clear hJp hK
    gi_wp2
    refine ⟨by simp, .inl ⟨_, _, rfl, run_takeDeferred HK'.out, ?_⟩⟩
    refine ⟨.tuple #[], ?_, ⟨_, rfl⟩, .inr ⟨Z, pre, by omega, hpre, OwnIn.putObj (HJx.out Z) _ HJp.out (by omega) hDZ HK'.out rfl⟩⟩
    simp [results, Tryz.f86, go_sem]
  case done =>
    rintro D Z ys A hD hDZ rfl ⟨hJp, _, _⟩ hK
    have HK' := mkH hK
    have HJp := mkH hJp
    clear hJp hK
    gi_wp2
    refine ⟨by simp, .inl ⟨_, _, rfl, run_takeDeferred HK'.out, ?_⟩⟩
    refine ⟨.tuple #[], ?_, ⟨_, rfl⟩, .inl ⟨Z, _, by omega, rfl, OwnIn.putObj (HJ.out Z) _ HJp.out (by omega) hDZ HK'.out rfl⟩⟩
    simp [results, Tryz.f86, go_sem]
end Go.Proofs.YtlmdjghcmofdlaaGreat
