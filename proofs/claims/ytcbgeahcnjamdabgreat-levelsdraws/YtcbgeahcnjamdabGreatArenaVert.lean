/- Layer 5 (arena): the contracts of its functions, with things of type int32. -/
import Derived.Test.YtcbgeahcnjamdabGreatProg
import Derived.Test.YtcbgeahcnjamdabGreatArenaWorld
import Derived.Deep.AppendLies
import Derived.Test.YtcbgeahcnjamdabGreatKit
namespace Go.Proofs.YtcbgeahcnjamdabGreat.AV
open Go.RowKit
set_option linter.unusedVariables false

abbrev Ar (Th : TypeId) (φ : Value → Value → List Value) (W : World) (F : Nat → Prop) (B G : Nat) (L : List Slt) (fr : List Int) : Prop := ArnX φ 3 4 Th 151 1 W F B G L fr
variable {Th : TypeId} {φ : Value → Value → List Value}
theorem infoS : (Tryz.prog.info? 151).map (fun i => (i.zero, i.size, i.bytes)) = some (some (.agg #[.int .i32 0, .bool false]), 2, 8) := by kernel_rfl
theorem infoN : (Tryz.prog.info? 21).map (fun i => (i.zero, i.size, i.bytes)) = some (some (.int .i32 0), 1, 4) := by kernel_rfl

set_option maxHeartbeats 400000 in
theorem has_nil (i : Int) (w : World) : Calls Tryz.prog 101 #[.pointer none, .int .i32 i] w fun e w' => e = .returned (.bool false) ∧ w' = w := by
  go_enter Tryz.func101, Tryz.ntmps101
  go_wp2
  go_ret
  exact ⟨rfl, rfl⟩

set_option maxHeartbeats 800000 in
theorem has_any {w : World} {F : Nat → Prop} {B G : Nat} {L : List Slt} {fr : List Int} (h : Ar Th φ w F B G L fr) (i : Int) (hi : -2147483648 ≤ i ∧ i ≤ 2147483647) (hL : L.length ≤ 2147483647) :
    Calls Tryz.prog 101 #[.pointer (some ⟨B, 3, none⟩), .int .i32 i] w fun e w' => e = .returned (.bool (isT L i)) ∧ w' = w := by
  by_cases hlo : 1 ≤ i
  · by_cases hhi : i ≤ L.length
    · obtain ⟨k, rfl⟩ : ∃ k : Nat, i = (k : Int) + 1 := ⟨(i - 1).toNat, by omega⟩
      obtain ⟨s, hs⟩ : ∃ s, L[k]? = some s := ⟨_, List.getElem?_eq_getElem (by omega)⟩
      obtain ⟨cap, hc⟩ := h.row (by omega)
      have h1 := (h.slot hs).2.2.1 1 (.bool s.2) (by have := h.wsl s (List.mem_of_getElem? hs); unfold slc; rw [List.getElem?_append_right (by omega), this]; rfl)
      have e1 : isT L ((k : Int) + 1) = s.2 := isT_at hs
      rw [e1]
      clear h hs e1
      generalize s.2 = b at *
      generalize L.length = n at *
      go_enter Tryz.func101, Tryz.ntmps101
      go_wp2
      go_ret
      exact ⟨rfl, rfl⟩
    · rw [isT_high (by omega)]
      obtain ⟨ao, cap, hc⟩ := h.head
      clear h
      generalize L.length = n at *
      go_enter Tryz.func101, Tryz.ntmps101
      go_wp2
      go_ret
      exact ⟨rfl, rfl⟩
  · rw [isT_low hlo]
    clear h
    go_enter Tryz.func101, Tryz.ntmps101
    go_wp2
    go_ret
    exact ⟨rfl, rfl⟩

set_option maxHeartbeats 800000 in
theorem vacant_new {w : World} {F : Nat → Prop} {B G : Nat} {L : List Slt} (h : Ar Th φ w F B G L []) (hL : L.length < 2147483647) :
    Calls Tryz.prog 96 #[.pointer (some ⟨B, 3, none⟩)] w fun e w' => ∃ F' G', e = .returned (.int .i32 ((L.length : Int) + 1)) ∧ Ar Th φ w' F' B G' (L ++ [([.int .i32 0], false)]) [] ∧ Step F F' w w' := by
  obtain ⟨v, u, h1, h2, h3, h4, h5, h6⟩ := h.ex
  obtain ⟨ao, cu, rfl⟩ := h3.form
  obtain ⟨i0, hi, hz0, hz1, hz2⟩ := info_parts infoS
  have c0 := (h.ok.cells h1).1
  have c1 := (h.ok.cells h1).2
  obtain ⟨n, hn⟩ : ∃ n, n = L.length := ⟨_, rfl⟩
  have H2 : Hid (RowW (w.alloc (.cells #[.int .i32 0, .bool false] 151)) 151 2 v n (slcs L)) := by rw [hn]; exact h2.kept fun k hk => heap_alloc_old w _ k (h2.lt hk)
  have H : Hid (Ar Th φ w F B G L []) := h
  have H1 : Hid (Blk w B Th (φ v (.slice ao ([] : List Int).length cu)).toArray) := h1
  have H3 : Hid (RowW w 21 1 (.slice ao ([] : List Int).length cu) ([] : List Int).length (i32s [])) := h3
  have H5 : Hid (∀ k, v.ownBlock = some k → k = G ∧ F k ∧ k ≠ B) := h5
  have HN : Hid (n = L.length) := hn
  rw [← hn] at hL ⊢
  clear h h1 h2 h3 h5 hn
  go_enter Tryz.func96, Tryz.ntmps96
  go_wp2_with (at_builtin; refine wpList_append_row _ rfl _ _ 87 rfl 151 i0 (.agg #[.int .i32 0, .bool false]) 2 8 Tryz.underlying87 hi hz0 hz1 hz2 rfl _ _ _ rfl H2.out ⟨w.heap.size, 0, none⟩ 1 1 [.int .i32 0, .bool false] rfl rfl (World.news_of_block (Blk.new w _ _)) (by simp [Value.oneCell']) (by omega) (by unfold maxLen; omega) (by omega) ?_)
  intro g cap w2 hown hgrow hat hlt
  obtain ⟨hb2, hA, hS⟩ := H.out.regrow (s := ([.int .i32 0], false)) H1.out H3.out h4 H5.out h6 (by rw [← HN.out]; exact hown) hgrow hat rfl
  rw [← HN.out] at hA hS
  have d0 := (H.out.ok.cells hb2).1
  have f0 := hb2.frozen 3
  have HA : Hid (Ar Th φ (w2.setCell ⟨B, 3, none⟩ (.slice (some ⟨g, 0, none⟩) (n + 1) cap)) (fun k => F k ∨ k = g) B g (L ++ [([.int .i32 0], false)]) []) := hA
  have HS : Hid (Step F (fun k => F k ∨ k = g) w (w2.setCell ⟨B, 3, none⟩ (.slice (some ⟨g, 0, none⟩) (n + 1) cap))) := hS
  clear hA hS hown hgrow hat h4 h6 hb2
  go_wp2
  go_ret
  exact ⟨_, _, ret_of (by go_num), HA.out, HS.out⟩

set_option maxHeartbeats 800000 in
theorem vacant_old {w : World} {F : Nat → Prop} {B G : Nat} {L : List Slt} {fr : List Int} {f : Int} (h : Ar Th φ w F B G L (fr ++ [f])) (hl : fr.length ≤ 2147483647) :
    Calls Tryz.prog 96 #[.pointer (some ⟨B, 3, none⟩)] w fun e w' => e = .returned (.int .i32 f) ∧ Ar Th φ w' F B G L fr ∧ Step F F w w' := by
  obtain ⟨H, cap, c1, c2, h1, h2, h3, h4⟩ := h.unfree
  have f0 := h.froz 4
  obtain ⟨n, hn⟩ : ∃ n, n = fr.length := ⟨_, rfl⟩
  rw [← hn] at c1 c2 h1 h3 h4 hl
  have HA : Hid (Ar Th φ (w.setCell ⟨B, 4, none⟩ (.slice (some ⟨H, 0, none⟩) n cap)) F B G L fr) := h3
  have HS : Hid (Step F F w (w.setCell ⟨B, 4, none⟩ (.slice (some ⟨H, 0, none⟩) n cap))) := h4
  clear h h3 h4 hn
  go_enter Tryz.func96, Tryz.ntmps96
  go_wp2
  go_ret
  exact ⟨rfl, HA.out, HS.out⟩

set_option maxHeartbeats 1600000 in
theorem take_of (x : Int) {w : World} {F : Nat → Prop} {B k : Nat} {L1 : List Slt} {fr1 : List Int} (hF : ∀ k, F k → k < w.heap.size) (hk : k < L1.length) (hL : L1.length ≤ 2147483647)
    (hvac : ∀ w0, Below w.heap.size w w0 → Calls Tryz.prog 96 #[.pointer (some ⟨B, 3, none⟩)] w0 fun e w' => ∃ F' G', e = .returned (.int .i32 ((k : Int) + 1)) ∧ Ar Th φ w' F' B G' L1 fr1 ∧ Step F F' w0 w') :
    Calls Tryz.prog 73 #[.pointer (some ⟨B, 3, none⟩), .int .i32 x] w fun e w' => ∃ F' G', e = .returned (.int .i32 ((k : Int) + 1)) ∧ Ar Th φ w' F' B G' (L1.set k ([.int .i32 x], true)) fr1 ∧ Step F F' w w' := by
  go_enter Tryz.func73, Tryz.ntmps73
  go_wp2_with fail
  refine (hvac w (Below.refl _ _)).mono ?_
  rintro e w1 ⟨F1, G1, rfl, hA, hS⟩
  have S0 : Hid (Step F F1 w w1) := hS
  obtain ⟨cap, c0⟩ := hA.row (by omega)
  obtain ⟨u0, q0⟩ : ∃ u, w1.cell? ⟨G1, k * 2, none⟩ = some u := by simpa using hA.slotAt (j := 0) hk (by omega)
  have z0 : w1.frozen? ⟨G1, k * 2, none⟩ = false := hA.slotFz (by omega) _
  obtain ⟨u1, q1⟩ : ∃ u, w1.cell? ⟨G1, k * 2 + 1, none⟩ = some u := by simpa using hA.slotAt (j := 1) hk (by omega)
  have z1 : w1.frozen? ⟨G1, k * 2 + 1, none⟩ = false := hA.slotFz (by omega) _
  have HF : Hid (F1 G1) := (hA.slotF (by omega)).1
  have HA : Hid (Ar Th φ w1 F1 B G1 L1 fr1) := hA
  have HK : Hid (L1[k]? = some (L1[k])) := List.getElem?_eq_getElem hk
  have HE : Hid (Ar Th φ (putAll w1 G1 (k * 2) (slc ([.int .i32 x], true))) F1 B G1 (L1.set k ([.int .i32 x], true)) fr1) := hA.putAll HK.out rfl
  have HE2 : Hid (Step F F1 w (putAll w1 G1 (k * 2) (slc ([.int .i32 x], true)))) := hS.trans (step_putAll HF.out _ _ _)
  clear hvac hS hA HK
  generalize L1.length = n at *
  go_wp2
  go_ret
  exact ⟨_, _, rfl, HE.out, HE2.out⟩

theorem take_new (x : Int) {w : World} {F : Nat → Prop} {B G : Nat} {L : List Slt} (h : Ar Th φ w F B G L []) (hL : L.length < 2147483647) :
    Calls Tryz.prog 73 #[.pointer (some ⟨B, 3, none⟩), .int .i32 x] w fun e w' => ∃ F' G', e = .returned (.int .i32 ((L.length : Int) + 1)) ∧ Ar Th φ w' F' B G' (L ++ [([.int .i32 x], true)]) [] ∧ Step F F' w w' := by
  have hs : (L ++ [(([.int .i32 0], false) : Slt)]).set L.length ([.int .i32 x], true) = L ++ [([.int .i32 x], true)] := by rw [List.set_append_right _ _ (Nat.le_refl _), Nat.sub_self]; rfl
  rw [← hs]
  exact take_of x h.lt (by simp) (by simp; omega) (fun w0 hb => vacant_new (h.below hb) hL)
theorem take_old (x : Int) {w : World} {F : Nat → Prop} {B G : Nat} {L : List Slt} {fr : List Int} {f : Int} (h : Ar Th φ w F B G L (fr ++ [f])) (hl : fr.length ≤ 2147483647) (hL : L.length ≤ 2147483647) :
    Calls Tryz.prog 73 #[.pointer (some ⟨B, 3, none⟩), .int .i32 x] w fun e w' => ∃ F' G', e = .returned (.int .i32 f) ∧ Ar Th φ w' F' B G' (L.set (f - 1).toNat ([.int .i32 x], true)) fr ∧ Step F F' w w' := by
  obtain ⟨h1, h2⟩ := h.fr f (by simp)
  obtain ⟨k, rfl⟩ : ∃ k : Nat, f = (k : Int) + 1 := ⟨(f - 1).toNat, by omega⟩
  rw [show ((k : Int) + 1 - 1).toNat = k by omega]
  exact take_of x h.lt (by omega) hL (fun w0 hb => (vacant_old (h.below hb) hl).mono fun e w' ⟨h1, h2, h3⟩ => ⟨_, _, h1, h2, h3⟩)

set_option maxHeartbeats 1600000 in
theorem free_yes {w : World} {F : Nat → Prop} {B G k : Nat} {L : List Slt} {fr : List Int} (h : Ar Th φ w F B G L fr) (hT : isT L ((k : Int) + 1) = true) (hk : k < L.length) (hL : L.length ≤ 2147483647) (hl : fr.length ≤ 2147483647) :
    Calls Tryz.prog 76 #[.pointer (some ⟨B, 3, none⟩), .int .i32 ((k : Int) + 1)] w fun e w' => ∃ F', e = .returned (.bool true) ∧ Ar Th φ w' F' B G (L.set k ([.int .i32 0], false)) (fr ++ [(k : Int) + 1]) ∧ Step F F' w w' := by
  obtain ⟨i0, hi, hz0, hz1, hz2⟩ := info_parts infoN
  have HV := has_any h ((k : Int) + 1) (by omega) hL
  rw [hT] at HV
  obtain ⟨cap0, c0⟩ := h.row (by omega)
  obtain ⟨u0, q0⟩ : ∃ u, w.cell? ⟨G, k * 2, none⟩ = some u := by simpa using h.slotAt (j := 0) hk (by omega)
  have z0 : w.frozen? ⟨G, k * 2, none⟩ = false := h.slotFz (by omega) _
  obtain ⟨u1, q1⟩ : ∃ u, w.cell? ⟨G, k * 2 + 1, none⟩ = some u := by simpa using h.slotAt (j := 1) hk (by omega)
  have z1 : w.frozen? ⟨G, k * 2 + 1, none⟩ = false := h.slotFz (by omega) _
  have HF : Hid (F G) := (h.slotF (by omega)).1
  have HE : Ar Th φ ((w.setCell ⟨G, k * 2, none⟩ (.int .i32 0)).setCell ⟨G, k * 2 + 1, none⟩ (.bool false)) F B G (L.set k ([.int .i32 0], false)) fr := h.putAll (s' := ([.int .i32 0], false)) (List.getElem?_eq_getElem hk) rfl
  have HE2 : Hid (Step F F w ((w.setCell ⟨G, k * 2, none⟩ (.int .i32 0)).setCell ⟨G, k * 2 + 1, none⟩ (.bool false))) := step_putAll HF.out w (k * 2) (slc ([.int .i32 0], false))
  have hlen : (L.set k ([.int .i32 0], false)).length = L.length := by simp
  obtain ⟨v, u, h1, h2, h3, h4, h5, h6⟩ := HE.ex
  have b1 := (HE.ok.cells h1).2
  have H3 : Hid (RowW (((w.setCell ⟨G, k * 2, none⟩ (.int .i32 0)).setCell ⟨G, k * 2 + 1, none⟩ (.bool false)).alloc (.cells #[.int .i32 ((k : Int) + 1)] 21)) 21 1 u fr.length (i32s fr)) := h3.kept fun q hq => heap_alloc_old _ _ q (h3.lt hq)
  have HX : Hid (Blk (((w.setCell ⟨G, k * 2, none⟩ (.int .i32 0)).setCell ⟨G, k * 2 + 1, none⟩ (.bool false)).alloc (.cells #[.int .i32 ((k : Int) + 1)] 21)) w.heap.size 21 #[.int .i32 ((k : Int) + 1)]) := by show Blk _ _ _ _; simpa using Blk.new ((w.setCell ⟨G, k * 2, none⟩ (.int .i32 0)).setCell ⟨G, k * 2 + 1, none⟩ (.bool false)) 21 #[.int .i32 ((k : Int) + 1)]
  have HA : Hid (Ar Th φ ((w.setCell ⟨G, k * 2, none⟩ (.int .i32 0)).setCell ⟨G, k * 2 + 1, none⟩ (.bool false)) F B G (L.set k ([.int .i32 0], false)) fr) := HE
  have P1 : Hid (Blk ((w.setCell ⟨G, k * 2, none⟩ (.int .i32 0)).setCell ⟨G, k * 2 + 1, none⟩ (.bool false)) B Th (φ v u).toArray) := h1
  have P2 : Hid (RowW ((w.setCell ⟨G, k * 2, none⟩ (.int .i32 0)).setCell ⟨G, k * 2 + 1, none⟩ (.bool false)) 151 (1 + 1) v (L.set k ([.int .i32 0], false)).length (slcs (L.set k ([.int .i32 0], false)))) := h2
  have P3 : Hid (RowW ((w.setCell ⟨G, k * 2, none⟩ (.int .i32 0)).setCell ⟨G, k * 2 + 1, none⟩ (.bool false)) 21 1 u fr.length (i32s fr)) := h3
  have P4 : Hid (Apart v u) := h4
  have P5 : Hid (∀ k, v.ownBlock = some k → k = G ∧ F k ∧ k ≠ B) := h5
  have P6 : Hid (∀ k, u.ownBlock = some k → F k ∧ k ≠ B) := h6
  have HL : Hid ((L.set k ([.int .i32 0], false)).length = L.length) := hlen
  obtain ⟨n, hn⟩ : ∃ n, n = fr.length := ⟨_, rfl⟩
  have HN : Hid (n = fr.length) := hn
  rw [← hn] at hl H3
  have HkL : Hid (k < L.length) := hk
  clear h h1 h2 h3 h4 h5 h6 HE hlen hT hn
  generalize hnL : L.length = nL at c0 hk hL
  clear hnL
  go_enter Tryz.func76, Tryz.ntmps76
  go_wp2_with fail
  refine HV.mono ?_
  rintro e w0 ⟨rfl, rfl⟩
  clear HV
  go_wp2_with (at_builtin; refine wpList_append_row _ rfl _ _ 82 rfl 21 i0 (.int .i32 0) 1 4 Tryz.underlying82 hi hz0 hz1 hz2 rfl _ _ _ rfl H3.out ⟨w0.heap.size, 0, none⟩ 1 1 [.int .i32 ((k : Int) + 1)] rfl rfl (World.news_of_block HX.out) (by simp [Value.oneCell']) (by omega) (by unfold maxLen; omega) (by omega) ?_)
  intro g cap w2 hown hgrow hat hlt
  obtain ⟨hb2, hA, hS⟩ := HA.out.refree (f := (k : Int) + 1) P1.out P2.out P3.out P4.out P5.out P6.out (by rw [← HN.out]; exact hown) hgrow (by simpa using hat) (by rw [HL.out]; have := HkL.out; omega)
  rw [← HN.out] at hA hS
  have d0 := (HA.out.ok.cells hb2).2
  have f0 := hb2.frozen 4
  have X1 := HE2.out.trans hS
  have HA2 : Hid (Ar Th φ (w2.setCell ⟨B, 4, none⟩ (.slice (some ⟨g, 0, none⟩) (n + 1) cap)) (fun k => F k ∨ k = g) B G (L.set k ([.int .i32 0], false)) (fr ++ [(k : Int) + 1])) := hA
  have HS : Hid (Step F (fun k => F k ∨ k = g) w0 (w2.setCell ⟨B, 4, none⟩ (.slice (some ⟨g, 0, none⟩) (n + 1) cap))) := X1
  clear hA hS X1 hown hgrow hat hb2 HA P1 P2 P3
  go_wp2
  go_ret
  exact ⟨_, rfl, HA2.out, HS.out⟩
theorem free_no {w : World} {F : Nat → Prop} {B G : Nat} {L : List Slt} {fr : List Int} (h : Ar Th φ w F B G L fr) {i : Int} (hi : -2147483648 ≤ i ∧ i ≤ 2147483647) (hT : isT L i = false) (hL : L.length ≤ 2147483647) :
    Calls Tryz.prog 76 #[.pointer (some ⟨B, 3, none⟩), .int .i32 i] w fun e w' => e = .returned (.bool false) ∧ w' = w := by
  have HV := has_any h i hi hL
  rw [hT] at HV
  clear h hT
  go_enter Tryz.func76, Tryz.ntmps76
  go_wp2_with fail
  refine HV.mono ?_
  rintro e w0 ⟨rfl, rfl⟩
  clear HV
  go_wp2
  go_ret
  exact ⟨rfl, rfl⟩
theorem free_nil (i : Int) (w : World) : Calls Tryz.prog 76 #[.pointer none, .int .i32 i] w fun e w' => e = .returned (.bool false) ∧ w' = w := by
  go_enter Tryz.func76, Tryz.ntmps76
  go_wp2_with fail
  refine (has_nil i w).mono ?_
  rintro e w0 ⟨rfl, rfl⟩
  go_wp2
  go_ret
  exact ⟨rfl, rfl⟩

set_option maxHeartbeats 800000 in
theorem at_yes {w : World} {F : Nat → Prop} {B G k : Nat} {L : List Slt} {fr : List Int} (h : Ar Th φ w F B G L fr) (hT : isT L ((k : Int) + 1) = true) (hk : k < L.length) (hL : L.length ≤ 2147483647) :
    Calls Tryz.prog 98 #[.pointer (some ⟨B, 3, none⟩), .int .i32 ((k : Int) + 1)] w fun e w' => e = .returned (.pointer (some ⟨G, k * 2, none⟩)) ∧ w' = w := by
  have HV := has_any h ((k : Int) + 1) (by omega) hL
  rw [hT] at HV
  obtain ⟨cap0, c0⟩ := h.row (by omega)
  clear h hT
  generalize L.length = nL at *
  go_enter Tryz.func98, Tryz.ntmps98
  go_wp2_with fail
  refine HV.mono ?_
  rintro e w0 ⟨rfl, rfl⟩
  clear HV
  go_wp2
  go_ret
  exact ⟨rfl, rfl⟩
theorem at_no {w : World} {F : Nat → Prop} {B G : Nat} {L : List Slt} {fr : List Int} (h : Ar Th φ w F B G L fr) {i : Int} (hi : -2147483648 ≤ i ∧ i ≤ 2147483647) (hT : isT L i = false) (hL : L.length ≤ 2147483647) :
    Calls Tryz.prog 98 #[.pointer (some ⟨B, 3, none⟩), .int .i32 i] w fun e w' => e = .returned (.pointer none) ∧ w' = w := by
  have HV := has_any h i hi hL
  rw [hT] at HV
  clear h hT
  go_enter Tryz.func98, Tryz.ntmps98
  go_wp2_with fail
  refine HV.mono ?_
  rintro e w0 ⟨rfl, rfl⟩
  clear HV
  go_wp2
  go_ret
  exact ⟨rfl, rfl⟩
theorem at_nil (i : Int) (w : World) : Calls Tryz.prog 98 #[.pointer none, .int .i32 i] w fun e w' => e = .returned (.pointer none) ∧ w' = w := by
  go_enter Tryz.func98, Tryz.ntmps98
  go_wp2_with fail
  refine (has_nil i w).mono ?_
  rintro e w0 ⟨rfl, rfl⟩
  go_wp2
  go_ret
  exact ⟨rfl, rfl⟩

theorem len_nil (w : World) : Calls Tryz.prog 174 #[.pointer none] w fun e w' => e = .returned (.int .i64 0) ∧ w' = w := by
  go_enter Tryz.func174, Tryz.ntmps174
  go_wp2
  go_ret
  exact ⟨rfl, rfl⟩
theorem len_any {w : World} {F : Nat → Prop} {B G : Nat} {L : List Slt} {fr : List Int} (h : Ar Th φ w F B G L fr) (hL : L.length ≤ 2147483647) (hl : fr.length ≤ 2147483647) :
    Calls Tryz.prog 174 #[.pointer (some ⟨B, 3, none⟩)] w fun e w' => e = .returned (.int .i64 ((L.length : Int) - fr.length)) ∧ ∃ nq, w' = w.drewN nq := by
  obtain ⟨ao, c0, h0⟩ := h.head
  obtain ⟨bo, c1, h1⟩ := h.tail
  have hB := h.blt
  clear h
  generalize L.length = n at *
  generalize fr.length = l at *
  go_enter Tryz.func174, Tryz.ntmps174
  go_wp2_with fail
  go_quiet (fail)
  go_wp2
  go_ret
  exact ⟨rfl, _, rfl⟩
theorem take_any (x : Int) {w : World} {F : Nat → Prop} {B G : Nat} {L : List Slt} {fr : List Int} (h : Ar Th φ w F B G L fr) (hl : fr.length ≤ 2147483647) (hL : L.length < 2147483647) :
    Calls Tryz.prog 73 #[.pointer (some ⟨B, 3, none⟩), .int .i32 x] w fun e w' => ∃ F' G', e = .returned (.int .i32 (takeI L fr)) ∧ Ar Th φ w' F' B G' (takeL L fr ([.int .i32 x], true)) fr.dropLast ∧ Step F F' w w' := by
  rcases List.eq_nil_or_concat fr with rfl | ⟨fr', f, rfl⟩
  · exact take_new x h hL
  · rw [List.concat_eq_append] at h hl ⊢
    rw [takeI_snoc, takeL_snoc, List.dropLast_concat]
    exact take_old x h (by simp at hl; omega) (by omega)
theorem free_at {w : World} {F : Nat → Prop} {B G : Nat} {L : List Slt} {fr : List Int} (h : Ar Th φ w F B G L fr) (i : Int) (hT : isT L i = true) (hL : L.length ≤ 2147483647) (hl : fr.length ≤ 2147483647) :
    Calls Tryz.prog 76 #[.pointer (some ⟨B, 3, none⟩), .int .i32 i] w fun e w' => ∃ F', e = .returned (.bool true) ∧ Ar Th φ w' F' B G (L.set (i - 1).toNat ([.int .i32 0], false)) (fr ++ [i]) ∧ Step F F' w w' := by
  obtain ⟨k, x, rfl, hk⟩ := isT_iff.1 hT
  rw [show ((k : Int) + 1 - 1).toNat = k by omega]
  exact free_yes h hT (List.getElem?_eq_some_iff.1 hk).1 hL hl
theorem at_at {w : World} {F : Nat → Prop} {B G : Nat} {L : List Slt} {fr : List Int} (h : Ar Th φ w F B G L fr) (i : Int) (hT : isT L i = true) (hL : L.length ≤ 2147483647) :
    Calls Tryz.prog 98 #[.pointer (some ⟨B, 3, none⟩), .int .i32 i] w fun e w' => e = .returned (.pointer (some ⟨G, (i - 1).toNat * 2, none⟩)) ∧ w' = w := by
  obtain ⟨k, x, rfl, hk⟩ := isT_iff.1 hT
  rw [show ((k : Int) + 1 - 1).toNat = k by omega]
  exact at_yes h hT (List.getElem?_eq_some_iff.1 hk).1 hL
theorem take_nil (x : Int) (w : World) : Calls Tryz.prog 73 #[.pointer none, .int .i32 x] w fun e w' => e = .returned (.int .i32 0) ∧ Below w.heap.size w w' := by
  go_enter Tryz.func73, Tryz.ntmps73
  go_wp2
  go_ret
  exact ⟨rfl, Below.refl _ _⟩
end Go.Proofs.YtcbgeahcnjamdabGreat.AV
