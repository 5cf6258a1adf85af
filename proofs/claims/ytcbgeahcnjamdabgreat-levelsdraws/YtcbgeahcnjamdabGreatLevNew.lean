/- Layer 10: New. -/
import Derived.Test.YtcbgeahcnjamdabGreatLevBits
import Derived.Test.YtcbgeahcnjamdabGreatAppendAny
import Derived.Deep.RegionLaw
namespace Go.Proofs.YtcbgeahcnjamdabGreat
open Go.RowKit
set_option linter.unusedVariables false

abbrev fcells (d : Option Addr) : Array Value := #[.slice none 0 0, .slice none 0 0, .pointer d, .slice none 0 0, .slice none 0 0, .slice none 0 0, .slice none 0 0, .map none, .map none, .map none, .map none, .map none]
def ptrL (Bl : List Nat) : List Value := Bl.map fun b => .pointer (some ⟨b, 0, none⟩)
/-- While New lays the forests. -/
structure Nw (w wr : World) (d : Option Addr) (n : Int) (B M bB : Nat) (rv : Value) (Bl : List Nat) : Prop where
  blk : Blk wr B 60 #[.int .i64 n, rv, .map (some M), .pointer (some ⟨bB, 0, none⟩), .int .i64 0, .slice none 0 0, .int .i64 0, .slice none 0 0]
  map : MapV Tryz.prog 3 eg0 (fun i : Int => Value.int .i64 i) B64 wr M (fun _ => none) 0
  bag : BgM wr (fun g => g = bB) bB bg0 0
  row : RowW wr 63 1 rv Bl.length (ptrL Bl)
  fs : ∀ b ∈ Bl, Blk wr b 102 (fcells d)
  nd : Bl.Nodup
  ne : B ≠ M ∧ B ≠ bB ∧ M ≠ bB
  ne2 : ∀ b ∈ Bl, b ≠ B ∧ b ≠ M ∧ b ≠ bB
  ne3 : ∀ q, rv.ownBlock = some q → (q ≠ B ∧ q ≠ M ∧ q ≠ bB ∧ q ∉ Bl) ∧ w.heap.size ≤ q
  lo : w.heap.size ≤ B ∧ w.heap.size ≤ M ∧ w.heap.size ≤ bB ∧ ∀ b ∈ Bl, w.heap.size ≤ b
  bl : Below w.heap.size w wr
theorem Nw.push {w wr w1 w2 w3 : World} {d : Option Addr} {n : Int} {B M bB b : Nat} {rv : Value} {Bl : List Nat} {ao : Option Addr} {cap : Nat} (h : Nw w wr d n B M bB rv Bl) (h1 : Below wr.heap.size wr w1) (hB : wr.heap.size ≤ b) (hb : Blk w1 b 102 (fcells d)) (h2 : Below w1.heap.size w1 w2)
    (hrow : RowW w3 63 1 (.slice ao (Bl.length + 1) cap) (Bl.length + 1) (ptrL Bl ++ [.pointer (some ⟨b, 0, none⟩)])) (hg : w2.grownBy w3 rv.ownBlock) (hq : ∀ q, (Value.slice ao (Bl.length + 1) cap).ownBlock = some q → rv.ownBlock = some q ∨ w2.heap.size ≤ q) :
    Nw w (w3.setCell ⟨B, 1, none⟩ (.slice ao (Bl.length + 1) cap)) d n B M bB (.slice ao (Bl.length + 1) cap) (Bl ++ [b]) := by
  have s1 := h1.size
  have s2 := h2.size
  have hb1 := hb.lt
  have own : ∀ q, rv.ownBlock = some q → q < wr.heap.size := fun q hq => h.row.lt hq
  have k3 : ∀ k, k < wr.heap.size → rv.ownBlock ≠ some k → w3.heap[k]? = wr.heap[k]? := fun k hk hne => (hg.block k (by omega) (Ne.symm hne)).trans ((h2.block k (by omega)).trans (h1.block k hk))
  have k4 : ∀ k, k ≠ B → (w3.setCell ⟨B, 1, none⟩ (.slice ao (Bl.length + 1) cap)).heap[k]? = w3.heap[k]? := fun k hk => Below.heap_setCell w3 ⟨B, 1, none⟩ _ k hk
  have nB : rv.ownBlock ≠ some B := fun e => (h.ne3 B e).1.1 rfl
  have hBl := h.blk.lt
  have keep : ∀ k, k < wr.heap.size → k ≠ B → rv.ownBlock ≠ some k → (w3.setCell ⟨B, 1, none⟩ (.slice ao (Bl.length + 1) cap)).heap[k]? = wr.heap[k]? := fun k hk h1 h2 => (k4 k h1).trans (k3 k hk h2)
  have bnew : rv.ownBlock ≠ some b := fun e => by have := own b e; omega
  have b3 : w3.heap[b]? = w1.heap[b]? := (hg.block b (by omega) (Ne.symm bnew)).trans (h2.block b hb1)
  have bB' : b ≠ B := by omega
  have sz : wr.heap.size ≤ (w3.setCell ⟨B, 1, none⟩ (.slice ao (Bl.length + 1) cap)).heap.size := by rw [size_setCell]; have := hg.size; omega
  have hMl := h.map.lt
  have hbBl := h.bag.lt bB rfl
  have hlen : (Bl ++ [b]).length = Bl.length + 1 := by simp
  have hbn : b ∉ Bl := fun k => by have := (h.fs b k).lt; omega
  refine ⟨?_, h.map.kept (keep M hMl h.ne.1.symm (fun e => (h.ne3 M e).1.2.1 rfl)), h.bag.kept (fun k hk => by subst hk; exact keep _ hbBl h.ne.2.1.symm (fun e => (h.ne3 _ e).1.2.2.1 rfl)) sz, ?_, fun x hx => ?_, ?_, h.ne, fun x hx => ?_, fun q hqq => ?_, ⟨h.lo.1, h.lo.2.1, h.lo.2.2.1, fun x hx => ?_⟩, ?_⟩
  · have := Blk.setAt ((k3 B hBl nB).trans h.blk) 1 (.slice ao (Bl.length + 1) cap)
    simpa using this
  · rw [hlen]
    have e : ptrL (Bl ++ [b]) = ptrL Bl ++ [.pointer (some ⟨b, 0, none⟩)] := by simp [ptrL]
    rw [e]
    refine hrow.kept fun q hqq => k4 q ?_
    rcases hq q hqq with e | e
    · exact (h.ne3 q e).1.1
    · omega
  · rcases List.mem_append.1 hx with hx | hx
    · exact (keep x (h.fs x hx).lt (h.ne2 x hx).1 (fun e => (h.ne3 x e).1.2.2.2 hx)).trans (h.fs x hx)
    · simp at hx; subst hx
      exact (k4 x bB').trans (b3.trans hb)
  · exact List.nodup_append.2 ⟨h.nd, by simp, fun x hx y hy e => by simp at hy; subst hy; subst e; exact hbn hx⟩
  · rcases List.mem_append.1 hx with hx | hx
    · exact h.ne2 x hx
    · simp at hx; subst hx; exact ⟨bB', by omega, by omega⟩
  · have hlo := h.lo
    rcases hq q hqq with e | e
    · obtain ⟨⟨a1, a2, a3, a4⟩, a5⟩ := h.ne3 q e
      exact ⟨⟨a1, a2, a3, fun k => by
        rcases List.mem_append.1 k with k | k
        · exact a4 k
        · simp at k; have := own q e; omega⟩, a5⟩
    · have hbs := h.bl.size
      exact ⟨⟨by omega, by omega, by omega, fun k => by
        rcases List.mem_append.1 k with k | k
        · have := (h.fs q k).lt; omega
        · simp at k; omega⟩, by omega⟩
  · rcases List.mem_append.1 hx with hx | hx
    · exact h.lo.2.2.2 x hx
    · simp at hx; subst hx; have := h.bl.size; omega
  · have hbs := h.bl.size
    refine Below.setCell (p := ⟨B, 1, none⟩) ⟨hg.os.trans (h2.os.trans (h1.os.trans h.bl.os)), hg.tape.trans (h2.tape.trans (h1.tape.trans h.bl.tape)), hg.output.trans (h2.output.trans (h1.output.trans h.bl.output)), by have := hg.size; omega, fun k hk => (k3 k (by omega) (fun e => by have := (h.ne3 k e).2; omega)).trans (h.bl.block k hk)⟩ h.lo.1 _
/-- The draws that a graph is handed: none, or new ones. -/
def Dw (W : World) (d : Option Addr) (dr : Option (Nat × Nat × List Int)) : Prop := (d = none ∧ dr = none) ∨ ∃ D Dg xs, d = some ⟨D, 0, none⟩ ∧ dr = some (D, Dg, xs) ∧ Drw W D Dg xs 0
theorem Dw.below {W W' : World} {d : Option Addr} {dr : Option (Nat × Nat × List Int)} (h : Dw W d dr) (hb : Below W.heap.size W W') : Dw W' d dr :=
  h.imp id fun ⟨D, Dg, xs, a, b, c⟩ => ⟨D, Dg, xs, a, b, c.below hb⟩
theorem fv0 (dr : Option (Nat × Nat × List Int)) : Fv (fo0.wd dr) (fun _ => False) (fun _ => False) :=
  ⟨[], [], ⟨rel0.eu, rel0.vnd, rel0.esd, rel0.vin, rel0.vno, rel0.vall, rel0.ein, rel0.eno, rel0.eall, rel0.z⟩, fun x => by simp, fun y => by simp⟩
def g00 (n : Int) (m : Nat) : Gs := ⟨n, m, fun _ _ => False, fun _ _ => False, fun _ => none, 0, bg0, 0, [], 0, []⟩
theorem nm0 {W : World} {B o : Nat} (h0 : W.cell? ⟨B, o, none⟩ = some (.int .i64 0)) (h1 : W.cell? ⟨B, o + 1, none⟩ = some (.slice none 0 0)) : Nm W B o 0 (.slice none 0 0) [] :=
  ⟨h0, ⟨h1, RowW.empty _ _ _, fun e => by cases e⟩, ⟨fun i _ hi => by simp at hi, List.nodup_nil, fun x hx => (by cases hx), Int.le_refl _⟩⟩
theorem Nw.gm {w wr : World} {d : Option Addr} {dr : Option (Nat × Nat × List Int)} {n : Int} {B M bB : Nat} {rv : Value} {Bl : List Nat} (h : Nw w wr d n B M bB rv Bl) (hd : Dw w d dr) :
    Gm ⟨rv, fun i => Bl.getD i 0, M, bB, dr⟩ wr (fun k => k = B ∨ k = M ∨ k = bB ∨ rv.ownBlock = some k ∨ k ∈ Bl ∨ Shd dr k) B (g00 n Bl.length) 0 := by
  classical
  have hdl : ∀ k, Shd dr k → k < w.heap.size := fun k ⟨D, Dg, xs, e, hk⟩ => by
    rcases hd with ⟨_, e2⟩ | ⟨D', Dg', xs', _, e2, e3⟩
    · rw [e] at e2; cases e2
    · rw [e] at e2; cases e2
      rcases hk with rfl | rfl
      · exact e3.lt
      · exact e3.gl
  have hbs := h.bl.size
  have hlo := h.lo
  have hne := h.ne
  obtain ⟨c, hc⟩ : ∃ c : Nat → Nat, c = fun k => if k = B then 0 else if k = M then 2 else if k = bB then 5 else if rv.ownBlock = some k then 1 else if Shd dr k then 6 else 7 + Bl.idxOf k := ⟨_, rfl⟩
  have hget : ∀ i, i < Bl.length → Bl.getD i 0 ∈ Bl := fun i hi => by rw [List.getD_eq_getElem?_getD, List.getElem?_eq_getElem hi]; exact List.getElem_mem hi
  refine ⟨c, .slice none 0 0, .slice none 0 0, fun i k => k = Bl.getD i 0 ∨ Shd dr k, fun k => k = bB, ⟨h.blk, ?_, fun i hi => ?_, h.map.congr (fun a _ => rfl), h.bag, ?_, ?_, ⟨.inl rfl, by rw [hc]; exact if_pos rfl⟩, fun k hk => ⟨.inr (.inr (.inr (.inl hk))), ?_⟩, ⟨.inr (.inl rfl), ?_⟩, fun k hk => (by cases hk), fun k hk => (by cases hk), fun k hk => ⟨.inr (.inr (.inl hk)), ?_⟩, fun i k hi hk => ?_, fun k hk => ?_⟩⟩
  · have e : ptrs (⟨rv, fun i => Bl.getD i 0, M, bB, dr⟩ : Gp) Bl.length = ptrL Bl := by
      unfold ptrs ptrL
      apply List.ext_getElem
      · simp
      · intro i h1 h2
        simp at h1
        simp [h1]
    show RowW wr _ 1 rv Bl.length (ptrs _ Bl.length)
    rw [e]
    exact h.row
  · have hi' : i < Bl.length := hi
    have hm := hget i hi'
    have hkk : w.heap.size ≤ Bl.getD i 0 := hlo.2.2.2 _ hm
    refine ⟨0, fo0.wd dr, Fd.freshD (h.fs _ hm) (.inl rfl) (fun k hk => ?_) ?_, rfl, ⟨fo0_wf.t, fo0_wf.nv, fo0_wf.ne, fo0_wf.vb, fo0_wf.eb⟩, fv0 dr⟩
    · rcases hk with rfl | hk
      · exact (h.fs _ hm).lt
      · have := hdl k hk; omega
    · rcases hd with ⟨e1, e2⟩ | ⟨D, Dg, xs, e1, e2, e3⟩
      · exact .inl ⟨e1, e2⟩
      · have l1 := e3.lt
        have l2 := e3.gl
        exact .inr ⟨D, Dg, xs, 0, e1, e3.kept (h.bl.block D l1) (h.bl.block Dg l2) hbs, Nat.le_refl _, .inr ⟨D, Dg, xs, e2, .inl rfl⟩, .inr ⟨D, Dg, xs, e2, .inr rfl⟩, fun e => by have e' : D = Bl.getD i 0 := e; omega, fun e => by have e' : Dg = Bl.getD i 0 := e; omega, fun q hq => by rw [e2] at hq; exact (Option.some.inj hq).symm⟩
  · exact nm0 (h.blk.at (j := 4) rfl) (h.blk.at (j := 5) rfl)
  · exact nm0 (h.blk.at (j := 6) rfl) (h.blk.at (j := 7) rfl)
  · obtain ⟨⟨a1, a2, a3, a4⟩, a5⟩ := h.ne3 k hk
    rw [hc]
    show (if k = B then _ else _) = 1
    rw [if_neg a1, if_neg a2, if_neg a3, if_pos hk]
  · rw [hc]
    show (if M = B then _ else _) = 2
    rw [if_neg hne.1.symm, if_pos rfl]
  · subst hk
    rw [hc]
    show (if k = B then _ else _) = 5
    rw [if_neg hne.2.1.symm, if_neg hne.2.2.symm, if_pos rfl]
  · have hi' : i < Bl.length := hi
    have hm := hget i hi'
    rcases hk with hk | hk
    · obtain ⟨a1, a2, a3⟩ := h.ne2 _ hm
      refine ⟨.inr (.inr (.inr (.inr (.inl (by rw [hk]; exact hm))))), .inl ?_⟩
      rw [hc, hk]
      show (if Bl.getD i 0 = B then _ else _) = 7 + i
      rw [if_neg a1, if_neg a2, if_neg a3, if_neg (fun e => (h.ne3 _ e).1.2.2.2 hm), if_neg (fun e => by have := hdl _ e; have := hlo.2.2.2 _ hm; omega)]
      congr 1
      rw [List.getD_eq_getElem?_getD, List.getElem?_eq_getElem hi']
      exact h.nd.idxOf_getElem i hi'
    · have hl := hdl k hk
      refine ⟨.inr (.inr (.inr (.inr (.inr hk)))), .inr ⟨?_, hk⟩⟩
      rw [hc]
      show (if k = B then _ else _) = 6
      rw [if_neg (by omega), if_neg (by omega), if_neg (by omega), if_neg (fun e => by have := (h.ne3 k e).2; omega), if_pos hk]
  · rcases hk with rfl | rfl | rfl | hk | hk | hk
    · exact h.blk.lt
    · exact h.map.lt
    · exact h.bag.lt _ rfl
    · exact h.row.lt hk
    · exact (h.fs k hk).lt
    · have := hdl k hk; omega
theorem infoPF : (Tryz.prog.info? 63).map (fun i => (i.zero, i.size, i.bytes)) = some (some (.pointer none), 1, 8) := by kernel_rfl
set_option maxHeartbeats 400000 in
theorem lnew_no (d : Option Addr) (n : Int) (w : World) (h : n < 1 ∨ 4194304 < n) : Calls Tryz.prog 7 #[.pointer d, .int .i64 n] w fun e w' => e = .returned (.tuple #[.pointer none, .int .i64 1]) ∧ w' = w := by
  by_cases h1 : n < 1
  · go_enter Tryz.func7, Tryz.ntmps7
    go_wp2
    go_ret2
    exact ⟨rfl, rfl⟩
  · have h2 : 4194304 < n := by omega
    go_enter Tryz.func7, Tryz.ntmps7
    go_wp2
    go_ret2
    exact ⟨rfl, rfl⟩
set_option maxRecDepth 100000 in
set_option maxHeartbeats 800000 in
theorem lnew_yes (d : Option Addr) (n : Nat) (w : World) (h0 : 1 ≤ n) (h1 : n ≤ 4194304) : Calls Tryz.prog 7 #[.pointer d, .int .i64 n] w fun e w' => ∃ B M bB rv Bl, e = .returned (.tuple #[.pointer (some ⟨B, 0, none⟩), .int .i64 0]) ∧ Bl.length = bitLen n ∧ Nw w w' d n B M bB rv Bl := by
  have hmm := @run_makeMap Tryz.prog
  obtain ⟨i0, hi, hz0, hz1, hz2⟩ := info_parts infoPF
  obtain ⟨⟨b1, b2⟩, _, _⟩ := bitLen_lev h0 h1
  have HM := MapV.made KE w
  obtain ⟨w1, hw1⟩ : ∃ w1, w1 = w.alloc (.map #[] 0) := ⟨_, rfl⟩
  rw [← hw1] at HM
  have hb1 : Below w.heap.size w w1 := by rw [hw1]; exact (Below.refl _ _).alloc (Nat.le_refl _) _
  have hs1 : w1.heap.size = w.heap.size + 1 := by rw [hw1]; simp
  have HN : Hid (∀ w2, BgM w2 (fun g => g = w1.heap.size) w1.heap.size bg0 0 → Below w1.heap.size w1 w2 → Nw w (w2.alloc (.cells #[.int .i64 n, .slice none 0 0, .map (some w.heap.size), .pointer (some ⟨w1.heap.size, 0, none⟩), .int .i64 0, .slice none 0 0, .int .i64 0, .slice none 0 0] 60)) d n w2.heap.size w.heap.size w1.heap.size (.slice none 0 0) []) := fun w2 hbg hb2 => by
    have s2 := hb2.size
    have hl := hbg.lt _ rfl
    have ha := (Below.refl w2.heap.size w2).alloc (Nat.le_refl _) (.cells #[.int .i64 n, .slice none 0 0, .map (some w.heap.size), .pointer (some ⟨w1.heap.size, 0, none⟩), .int .i64 0, .slice none 0 0, .int .i64 0, .slice none 0 0] 60)
    refine ⟨Blk.new w2 _ _, (HM.kept (hb2.block _ HM.lt)).kept (ha.block _ (by omega)), hbg.kept (fun k hk => ha.block k (by omega)) ha.size, RowW.empty _ _ _, fun b hb => (by cases hb), List.nodup_nil, ⟨by omega, by omega, by omega⟩, fun b hb => (by cases hb), fun q hq => (by cases hq), ⟨by omega, by omega, by omega, fun b hb => (by cases hb)⟩, ?_⟩
    exact below_step (below_step hb1 hb2 (Nat.le_refl _)) ha (Nat.le_refl _)
  have HW := hid_mk hw1.symm
  clear HM hb1 hs1 hw1
  go_enter Tryz.func7, Tryz.ntmps7
  go_wp2_with fail
  rw [HW.out]
  refine (bnew_any w1).mono ?_
  rintro e w2 ⟨rfl, hbg, hb2⟩
  have HN2 := hid_mk (HN.out w2 hbg hb2)
  clear hbg hb2 HN
  go_wp2_with fail
  refine (bitlen_any n h1 _).mono ?_
  rintro e w3 ⟨rfl, rfl⟩
  obtain ⟨m, hmb⟩ : ∃ m, m = bitLen n := ⟨_, rfl⟩
  have HMB := hid_mk hmb
  rw [← hmb]
  rw [← hmb] at b1 b2
  clear hmb
  generalize w2.alloc (.cells #[.int .i64 n, .slice none 0 0, .map (some w.heap.size), .pointer (some ⟨w1.heap.size, 0, none⟩), .int .i64 0, .slice none 0 0, .int .i64 0, .slice none 0 0] 60) = wo at *
  generalize hB : w2.heap.size = B at *
  generalize hbB : w1.heap.size = bB at *
  clear hB hbB
  go_wp2
  go_loopw [21] (fun v wr => ∃ (k : Nat) (rv : Value) (Bl : List Nat), k ≤ m ∧ v = .int .i64 k ∧ Hid (Bl.length = k) ∧ Hid (Nw w wr d n B w.heap.size bB rv Bl)) (fun v _ => m - (intOf v).toNat)
  case atStart => exact ⟨0, _, [], by omega, rfl, rfl, HN2⟩
  case round =>
    clear HN2
    obtain ⟨k, rv, Bl, hk, rfl, HL, HNw⟩ := hrel
    by_cases hlt : k < m
    · have hrow := HNw.out.row
      obtain ⟨ao, cap, hrv⟩ := hrow.form
      rw [HL.out] at hrv
      subst hrv
      have hX := HNw.out
      have hBl := hX.blk.lt
      have c1 : wr.drew.cell? ⟨B, 1, none⟩ = some (.slice ao k cap) := by have := hX.blk.at (j := 1) rfl; simpa using this
      have nB : (Value.slice ao k cap).ownBlock ≠ some B := fun e => (hX.ne3 B e).1.1 rfl
      have own : ∀ q, (Value.slice ao k cap).ownBlock = some q → q < wr.heap.size := fun q hq => hX.row.lt hq
      have HR : Hid (∀ W, Below wr.heap.size wr W → RowW W 63 1 (.slice ao k cap) k (ptrL Bl)) := fun W hb => by
        have h := hX.row
        rw [HL.out] at h
        exact h.kept (fun q hq => hb.block q (own q hq))
      have HP : Hid (∀ w5 w7 b ao4 cap4, Below wr.heap.size wr w5 → wr.heap.size ≤ b → Blk w5 b 102 (fcells d) → RowW w7 63 1 (.slice ao4 (k + 1) cap4) (k + 1) (ptrL Bl ++ [.pointer (some ⟨b, 0, none⟩)]) → (w5.alloc (.cells #[.pointer (some ⟨b, 0, none⟩)] 63)).grownBy w7 (Value.slice ao k cap).ownBlock → (∀ q, (Value.slice ao4 (k + 1) cap4).ownBlock = some q → (Value.slice ao k cap).ownBlock = some q ∨ (w5.alloc (.cells #[.pointer (some ⟨b, 0, none⟩)] 63)).heap.size ≤ q) → Nw w (w7.setCell ⟨B, 1, none⟩ (.slice ao4 (k + 1) cap4)) d n B w.heap.size bB (.slice ao4 (k + 1) cap4) (Bl ++ [b])) := fun w5 w7 b ao4 cap4 q1 q2 q3 q4 q5 q6 => by
        have h := hX.push (b := b) (ao := ao4) (cap := cap4) (w3 := w7) q1 q2 q3 ((Below.refl _ _).alloc (Nat.le_refl _) (.cells #[.pointer (some ⟨b, 0, none⟩)] 63)) (by rw [HL.out]; exact q4) q5 (by rw [HL.out]; exact q6)
        rw [HL.out] at h
        exact h
      have HC7 : Hid (∀ w5 w7 b, Below wr.heap.size wr w5 → (w5.alloc (.cells #[.pointer (some ⟨b, 0, none⟩)] 63)).grownBy w7 (Value.slice ao k cap).ownBlock → w7.cell? ⟨B, 1, none⟩ = some (.slice ao k cap) ∧ w7.frozen? ⟨B, 1, none⟩ = false) := fun w5 w7 b q1 q2 => by
        have e1 : w7.heap[B]? = wr.heap[B]? := (q2.block B (by simp; have := q1.size; omega) (Ne.symm nB)).trans ((heap_alloc_old w5 _ B (by have := q1.size; omega)).trans (q1.block B hBl))
        have hb7 : Blk w7 B 60 _ := e1.trans hX.blk
        exact ⟨by have := hb7.at (j := 1) rfl; simpa using this, hb7.frozen 1⟩
      have HC5 : Hid (∀ w5, Below wr.heap.size wr w5 → w5.cell? ⟨B, 1, none⟩ = some (.slice ao k cap)) := fun w5 q1 => (q1.cell (p := ⟨B, 1, none⟩) hBl).trans c1
      have HD0 : Hid (Below wr.heap.size wr wr.drew) := (Below.refl _ _).drew
      have Hm : Hid (m ≤ 23) := b2
      clear hX hrow nB own HNw
      go_wp2
      go_region_law (first
          | (go_simp; refine (fonew_any d _).mono ?_; rintro e w5 ⟨b, rfl, hbB, hbk, hb5⟩; have hb5' := HD0.out.trans hb5; have c5 := HC5.out _ hb5'; have c5' := HC5.out _ (hb5'.alloc (by exact hb5'.size) (.cells #[.pointer (some ⟨b, 0, none⟩)] 63)))
          | (refine step_append_any _ (by rfl) (.tmp 27) (.tmp 30) 52 (by rfl) 63 i0 (.pointer none) 1 8 Tryz.underlying52 hi hz0 hz1 hz2 rfl (.slice ao k cap) k (ptrL Bl) (by rfl) (HR.out _ (hb5'.alloc (by exact hb5'.size) _)) (.slice (some ⟨w5.heap.size, 0, none⟩) 1 1) 1 [.pointer (some ⟨b, 0, none⟩)] (by rfl) (SrcW.new w5 _ [.pointer (some ⟨b, 0, none⟩)] (by simp [Value.oneCell'])) (k + 1) (by omega) (ptrL Bl ++ [.pointer (some ⟨b, 0, none⟩)]) rfl (by unfold maxLen; omega) (by omega) ?_; intro ao4 cap4 w7 hown4 hgrow4 hat4; have f7 := (HC7.out _ _ _ hb5' hgrow4).2; have c7 := (HC7.out _ _ _ hb5' hgrow4).1)
          | skip)
      all_goals (have HN4 := hid_mk (HP.out w5 w7 b ao4 cap4 hb5' hbB hbk hown4 hgrow4 (by intro q hq; exact hat4 q hq)))
      all_goals (have HL4 : Hid ((Bl ++ [b]).length = k + 1) := by show _ = _; rw [List.length_append, HL.out]; rfl)
      all_goals clear hb5' hbB hbk hown4 hgrow4 hat4 HP HC7 HC5 HD0 HR c1 c5 c5' c7 f7 hb5
      all_goals go_wp2
      all_goals go_roundw
      all_goals (first | exact ⟨k + 1, _, _, by omega, by go_num, HL4, HN4⟩ | (simp [intOf]; omega))
    · obtain rfl : k = m := by omega
      have HF := hid_mk HNw.out
      have HLL := hid_mk HL.out
      clear HNw HL
      go_wp2
      go_ret2
      exact ⟨B, _, bB, rv, Bl, rfl, HLL.out.trans HMB.out, HF.out⟩
end Go.Proofs.YtcbgeahcnjamdabGreat
