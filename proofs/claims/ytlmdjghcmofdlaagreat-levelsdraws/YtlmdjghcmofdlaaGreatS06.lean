/- Lemmas. -/
import Derived.Test.YtlmdjghcmofdlaaGreatProg
import Derived.Test.YtlmdjghcmofdlaaGreatS02
import Derived.Deep.AppendLies
set_option maxRecDepth 100000
set_option maxHeartbeats 64000000
namespace Go.Proofs.YtlmdjghcmofdlaaGreat.AV
open Go.RowKit
set_option linter.unusedVariables false
abbrev Ar (Th : TypeId) (φ : Value → Value → List Value) (W : World) (F : Nat → Prop) (B G : Nat) (L : List Slt) (fr : List Int) : Prop := ArnX φ 3 4 Th 154 1 W F B G L fr
variable {Th : TypeId} {φ : Value → Value → List Value}
theorem infoS : (Tryz.prog.info? 154).map (fun i => (i.zero, i.size, i.bytes)) = some (some (.agg #[.int .i32 0, .bool false]), 2, 8) := by kernel_rfl
theorem infoN : (Tryz.prog.info? 21).map (fun i => (i.zero, i.size, i.bytes)) = some (some (.int .i32 0), 1, 4) := by kernel_rfl
theorem has_any {w : World} {F : Nat → Prop} {B G : Nat} {L : List Slt} {fr : List Int} (h : Ar Th φ w F B G L fr) (i : Int) (hi : -2147483648 ≤ i ∧ i ≤ 2147483647) (hL : L.length ≤ 2147483647) :
    Calls Tryz.prog 106 #[.pointer (some ⟨B, 3, none⟩), .int .i32 i] w fun e w' => e = .returned (.bool (isT L i)) ∧ w' = w := by
  by_cases hlo : 1 ≤ i
  · by_cases hhi : i ≤ L.length
    · obtain ⟨k, rfl⟩ : ∃ k : Nat, i = (k : Int) + 1 := ⟨(i - 1).toNat, by omega⟩
      obtain ⟨s, hs⟩ : ∃ s, L[k]? = some s := ⟨_, List.getElem?_eq_getElem (by omega)⟩
      obtain ⟨cap, hc⟩ := h.row (by omega)
      have h1 := (h.slot hs).2.2.1 1 (.bool s.2) (by have := h.wsl s (List.mem_of_getElem? hs); unfold slc; rw [List.getElem?_append_right (by omega), this]; rfl)
      have e1 : isT L ((k : Int) + 1) = s.2 := isT_at hs
      rw [e1]
      clear h hs e1
      generalize s.2 = b at *
      generalize L.length = n at *
      go_enter Tryz.func106, Tryz.ntmps106
      go_wp2
      go_ret
      exact ⟨rfl, rfl⟩
    · rw [isT_high (by omega)]
      obtain ⟨ao, cap, hc⟩ := h.head
      clear h
      generalize L.length = n at *
      go_enter Tryz.func106, Tryz.ntmps106
      go_wp2
      go_ret
      exact ⟨rfl, rfl⟩
  · rw [isT_low hlo]
    clear h
    go_enter Tryz.func106, Tryz.ntmps106
    go_wp2
    go_ret
    exact ⟨rfl, rfl⟩
theorem vacant_new {w : World} {F : Nat → Prop} {B G : Nat} {L : List Slt} (h : Ar Th φ w F B G L []) (hL : L.length < 2147483647) :
    Calls Tryz.prog 98 #[.pointer (some ⟨B, 3, none⟩)] w fun e w' => ∃ F' G', e = .returned (.int .i32 ((L.length : Int) + 1)) ∧ Ar Th φ w' F' B G' (L ++ [([.int .i32 0], false)]) [] ∧ Step F F' w w' := by
  obtain ⟨v, u, h1, h2, h3, h4, h5, h6⟩ := h.ex
  obtain ⟨ao, cu, rfl⟩ := h3.form
  obtain ⟨i0, hi, hz0, hz1, hz2⟩ := info_parts infoS
  have c0 := (h.ok.cells h1).1
  have c1 := (h.ok.cells h1).2
  obtain ⟨n, hn⟩ : ∃ n, n = L.length := ⟨_, rfl⟩
  have H2 : Hid (RowW (w.alloc (.cells #[.int .i32 0, .bool false] 154)) 154 2 v n (slcs L)) := by rw [hn]; exact h2.kept fun k hk => heap_alloc_old w _ k (h2.lt hk)
  have H : Hid (Ar Th φ w F B G L []) := h
  have H1 : Hid (Blk w B Th (φ v (.slice ao ([] : List Int).length cu)).toArray) := h1
  have H3 : Hid (RowW w 21 1 (.slice ao ([] : List Int).length cu) ([] : List Int).length (i32s [])) := h3
  have H5 : Hid (∀ k, v.ownBlock = some k → k = G ∧ F k ∧ k ≠ B) := h5
  have HN : Hid (n = L.length) := hn
  rw [← hn] at hL ⊢
  clear h h1 h2 h3 h5 hn
  go_enter Tryz.func98, Tryz.ntmps98
  go_wp2_with (at_builtin; refine wpList_append_row _ rfl _ _ 86 rfl 154 i0 (.agg #[.int .i32 0, .bool false]) 2 8 Tryz.underlying86 hi hz0 hz1 hz2 rfl _ _ _ rfl H2.out ⟨w.heap.size, 0, none⟩ 1 1 [.int .i32 0, .bool false] rfl rfl (World.news_of_block (Blk.new w _ _)) (by simp [Value.oneCell']) (by omega) (by unfold maxLen; omega) (by omega) ?_)
  intro g cap w2 hown hgrow hat hlt
  obtain ⟨hb2, hA, hS⟩ := H.out.regrow (s := ([.int .i32 0], false)) H1.out H3.out h4 H5.out h6 (by rw [← HN.out]; exact hown) hgrow hat rfl
  rw [← HN.out] at hA hS
  have d0 := (H.out.ok.cells hb2).1
  have f0 := hb2.frozen 3
  have HA : Hid (Ar Th φ (w2.setCell ⟨B, 3, none⟩ (.slice (some ⟨g, 0, none⟩) (n + 1) cap)) (fun k => F k ∨ k = g) B g (L ++ [([.int .i32 0], false)]) []) := hA
  have HS : Hid (Step F (fun k => F k ∨ k = g) w (w2.setCell ⟨B, 3, none⟩ (.slice (some ⟨g, 0, none⟩) (n + 1) cap))) := hS
  clear hA hS hown hgrow hat h4 h6 hb2
  go_wp2
  go_ret
  exact ⟨_, _, ret_of (by go_num), HA.out, HS.out⟩
theorem vacant_old {w : World} {F : Nat → Prop} {B G : Nat} {L : List Slt} {fr : List Int} {f : Int} (h : Ar Th φ w F B G L (fr ++ [f])) (hl : fr.length ≤ 2147483647) :
    Calls Tryz.prog 98 #[.pointer (some ⟨B, 3, none⟩)] w fun e w' => e = .returned (.int .i32 f) ∧ Ar Th φ w' F B G L fr ∧ Step F F w w' := by
  obtain ⟨H, cap, c1, c2, h1, h2, h3, h4⟩ := h.unfree
  have f0 := h.froz 4
  obtain ⟨n, hn⟩ : ∃ n, n = fr.length := ⟨_, rfl⟩
  rw [← hn] at c1 c2 h1 h3 h4 hl
  have HA : Hid (Ar Th φ (w.setCell ⟨B, 4, none⟩ (.slice (some ⟨H, 0, none⟩) n cap)) F B G L fr) := h3
  have HS : Hid (Step F F w (w.setCell ⟨B, 4, none⟩ (.slice (some ⟨H, 0, none⟩) n cap))) := h4
  clear h h3 h4 hn
  go_enter Tryz.func98, Tryz.ntmps98
  go_wp2
  go_ret
  exact ⟨rfl, HA.out, HS.out⟩
theorem take_of (x : Int) {w : World} {F : Nat → Prop} {B k : Nat} {L1 : List Slt} {fr1 : List Int} (hF : ∀ k, F k → k < w.heap.size) (hk : k < L1.length) (hL : L1.length ≤ 2147483647)
    (hvac : ∀ w0, Below w.heap.size w w0 → Calls Tryz.prog 98 #[.pointer (some ⟨B, 3, none⟩)] w0 fun e w' => ∃ F' G', e = .returned (.int .i32 ((k : Int) + 1)) ∧ Ar Th φ w' F' B G' L1 fr1 ∧ Step F F' w0 w') :
    Calls Tryz.prog 74 #[.pointer (some ⟨B, 3, none⟩), .int .i32 x] w fun e w' => ∃ F' G', e = .returned (.int .i32 ((k : Int) + 1)) ∧ Ar Th φ w' F' B G' (L1.set k ([.int .i32 x], true)) fr1 ∧ Step F F' w w' := by
  go_enter Tryz.func74, Tryz.ntmps74
  go_wp2_with fail
  refine (hvac w (Below.refl _ _)).mono ?_
  rintro e w1 ⟨F1, G1, rfl, hA, hS⟩
  have S0 : Hid (Step F F1 w w1) := hS
  obtain ⟨cap, c0⟩ := hA.row (by omega)
  obtain ⟨u0, q0⟩ : ∃ u, w1.cell? ⟨G1, k * 2, none⟩ = some u := by simpa using hA.slotAt (j := 0) hk (by omega)
  have z0 : w1.frozen? ⟨G1, k * 2, none⟩ = false := hA.slotFz (by omega) _
  obtain ⟨u1, q1⟩ : ∃ u, w1.cell? ⟨G1, k * 2 + 1, none⟩ = some u := by simpa using hA.slotAt (j := 1) hk (by omega)
  have z1 : w1.frozen? ⟨G1, k * 2 + 1, none⟩ = false := hA.slotFz (by omega) _
  have HF : Hid (F1 G1) := (hA.slotF (by omega)).1
  have HA : Hid (Ar Th φ w1 F1 B G1 L1 fr1) := hA
  have HK : Hid (L1[k]? = some (L1[k])) := List.getElem?_eq_getElem hk
  have HE : Hid (Ar Th φ (putAll w1 G1 (k * 2) (slc ([.int .i32 x], true))) F1 B G1 (L1.set k ([.int .i32 x], true)) fr1) := hA.putAll HK.out rfl
  have HE2 : Hid (Step F F1 w (putAll w1 G1 (k * 2) (slc ([.int .i32 x], true)))) := hS.trans (step_putAll HF.out _ _ _)
  clear hvac hS hA HK
  generalize L1.length = n at *
  go_wp2
  go_ret
  exact ⟨_, _, rfl, HE.out, HE2.out⟩
theorem take_new (x : Int) {w : World} {F : Nat → Prop} {B G : Nat} {L : List Slt} (h : Ar Th φ w F B G L []) (hL : L.length < 2147483647) :
    Calls Tryz.prog 74 #[.pointer (some ⟨B, 3, none⟩), .int .i32 x] w fun e w' => ∃ F' G', e = .returned (.int .i32 ((L.length : Int) + 1)) ∧ Ar Th φ w' F' B G' (L ++ [([.int .i32 x], true)]) [] ∧ Step F F' w w' := by
  have hs : (L ++ [(([.int .i32 0], false) : Slt)]).set L.length ([.int .i32 x], true) = L ++ [([.int .i32 x], true)] := by rw [List.set_append_right _ _ (Nat.le_refl _), Nat.sub_self]; rfl
  rw [← hs]
  exact take_of x h.lt (by simp) (by simp; omega) (fun w0 hb => vacant_new (h.below hb) hL)
theorem take_old (x : Int) {w : World} {F : Nat → Prop} {B G : Nat} {L : List Slt} {fr : List Int} {f : Int} (h : Ar Th φ w F B G L (fr ++ [f])) (hl : fr.length ≤ 2147483647) (hL : L.length ≤ 2147483647) :
    Calls Tryz.prog 74 #[.pointer (some ⟨B, 3, none⟩), .int .i32 x] w fun e w' => ∃ F' G', e = .returned (.int .i32 f) ∧ Ar Th φ w' F' B G' (L.set (f - 1).toNat ([.int .i32 x], true)) fr ∧ Step F F' w w' := by
  obtain ⟨h1, h2⟩ := h.fr f (by simp)
  obtain ⟨k, rfl⟩ : ∃ k : Nat, f = (k : Int) + 1 := ⟨(f - 1).toNat, by omega⟩
  rw [show ((k : Int) + 1 - 1).toNat = k by omega]
  exact take_of x h.lt (by omega) hL (fun w0 hb => (vacant_old (h.below hb) hl).mono fun e w' ⟨h1, h2, h3⟩ => ⟨_, _, h1, h2, h3⟩)
theorem free_yes {w : World} {F : Nat → Prop} {B G k : Nat} {L : List Slt} {fr : List Int} (h : Ar Th φ w F B G L fr) (hT : isT L ((k : Int) + 1) = true) (hk : k < L.length) (hL : L.length ≤ 2147483647) (hl : fr.length ≤ 2147483647) :
    Calls Tryz.prog 80 #[.pointer (some ⟨B, 3, none⟩), .int .i32 ((k : Int) + 1)] w fun e w' => ∃ F', e = .returned (.bool true) ∧ Ar Th φ w' F' B G (L.set k ([.int .i32 0], false)) (fr ++ [(k : Int) + 1]) ∧ Step F F' w w' := by
  obtain ⟨i0, hi, hz0, hz1, hz2⟩ := info_parts infoN
  have HV := has_any h ((k : Int) + 1) (by omega) hL
  rw [hT] at HV
  obtain ⟨cap0, c0⟩ := h.row (by omega)
  obtain ⟨u0, q0⟩ : ∃ u, w.cell? ⟨G, k * 2, none⟩ = some u := by simpa using h.slotAt (j := 0) hk (by omega)
  have z0 : w.frozen? ⟨G, k * 2, none⟩ = false := h.slotFz (by omega) _
  obtain ⟨u1, q1⟩ : ∃ u, w.cell? ⟨G, k * 2 + 1, none⟩ = some u := by simpa using h.slotAt (j := 1) hk (by omega)
  have z1 : w.frozen? ⟨G, k * 2 + 1, none⟩ = false := h.slotFz (by omega) _
  have HF : Hid (F G) := (h.slotF (by omega)).1
  have HE : Ar Th φ ((w.setCell ⟨G, k * 2, none⟩ (.int .i32 0)).setCell ⟨G, k * 2 + 1, none⟩ (.bool false)) F B G (L.set k ([.int .i32 0], false)) fr := h.putAll (s' := ([.int .i32 0], false)) (List.getElem?_eq_getElem hk) rfl
  have HE2 : Hid (Step F F w ((w.setCell ⟨G, k * 2, none⟩ (.int .i32 0)).setCell ⟨G, k * 2 + 1, none⟩ (.bool false))) := step_putAll HF.out w (k * 2) (slc ([.int .i32 0], false))
  have hlen : (L.set k ([.int .i32 0], false)).length = L.length := by simp
  obtain ⟨v, u, h1, h2, h3, h4, h5, h6⟩ := HE.ex
  have b1 := (HE.ok.cells h1).2
  have H3 : Hid (RowW (((w.setCell ⟨G, k * 2, none⟩ (.int .i32 0)).setCell ⟨G, k * 2 + 1, none⟩ (.bool false)).alloc (.cells #[.int .i32 ((k : Int) + 1)] 21)) 21 1 u fr.length (i32s fr)) := h3.kept fun q hq => heap_alloc_old _ _ q (h3.lt hq)
  have HX : Hid (Blk (((w.setCell ⟨G, k * 2, none⟩ (.int .i32 0)).setCell ⟨G, k * 2 + 1, none⟩ (.bool false)).alloc (.cells #[.int .i32 ((k : Int) + 1)] 21)) w.heap.size 21 #[.int .i32 ((k : Int) + 1)]) := by show Blk _ _ _ _; simpa using Blk.new ((w.setCell ⟨G, k * 2, none⟩ (.int .i32 0)).setCell ⟨G, k * 2 + 1, none⟩ (.bool false)) 21 #[.int .i32 ((k : Int) + 1)]
  have HA : Hid (Ar Th φ ((w.setCell ⟨G, k * 2, none⟩ (.int .i32 0)).setCell ⟨G, k * 2 + 1, none⟩ (.bool false)) F B G (L.set k ([.int .i32 0], false)) fr) := HE
  have P1 : Hid (Blk ((w.setCell ⟨G, k * 2, none⟩ (.int .i32 0)).setCell ⟨G, k * 2 + 1, none⟩ (.bool false)) B Th (φ v u).toArray) := h1
  have P2 : Hid (RowW ((w.setCell ⟨G, k * 2, none⟩ (.int .i32 0)).setCell ⟨G, k * 2 + 1, none⟩ (.bool false)) 154 (1 + 1) v (L.set k ([.int .i32 0], false)).length (slcs (L.set k ([.int .i32 0], false)))) := h2
  have P3 : Hid (RowW ((w.setCell ⟨G, k * 2, none⟩ (.int .i32 0)).setCell ⟨G, k * 2 + 1, none⟩ (.bool false)) 21 1 u fr.length (i32s fr)) := h3
  have P4 : Hid (Apart v u) := h4
  have P5 : Hid (∀ k, v.ownBlock = some k → k = G ∧ F k ∧ k ≠ B) := h5
  have P6 : Hid (∀ k, u.ownBlock = some k → F k ∧ k ≠ B) := h6
  have HL : Hid ((L.set k ([.int .i32 0], false)).length = L.length) := hlen
  obtain ⟨n, hn⟩ : ∃ n, n = fr.length := ⟨_, rfl⟩
  have HN : Hid (n = fr.length) := hn
  rw [← hn] at hl H3
  have HkL : Hid (k < L.length) := hk
  clear h h1 h2 h3 h4 h5 h6 HE hlen hT hn
  generalize hnL : L.length = nL at c0 hk hL
  clear hnL
  go_enter Tryz.func80, Tryz.ntmps80
  go_wp2_with fail
  refine HV.mono ?_
  rintro e w0 ⟨rfl, rfl⟩
  clear HV
  go_wp2_with (at_builtin; refine wpList_append_row _ rfl _ _ 81 rfl 21 i0 (.int .i32 0) 1 4 Tryz.underlying81 hi hz0 hz1 hz2 rfl _ _ _ rfl H3.out ⟨w0.heap.size, 0, none⟩ 1 1 [.int .i32 ((k : Int) + 1)] rfl rfl (World.news_of_block HX.out) (by simp [Value.oneCell']) (by omega) (by unfold maxLen; omega) (by omega) ?_)
  intro g cap w2 hown hgrow hat hlt
  obtain ⟨hb2, hA, hS⟩ := HA.out.refree (f := (k : Int) + 1) P1.out P2.out P3.out P4.out P5.out P6.out (by rw [← HN.out]; exact hown) hgrow (by simpa using hat) (by rw [HL.out]; have := HkL.out; omega)
  rw [← HN.out] at hA hS
  have d0 := (HA.out.ok.cells hb2).2
  have f0 := hb2.frozen 4
  have X1 := HE2.out.trans hS
  have HA2 : Hid (Ar Th φ (w2.setCell ⟨B, 4, none⟩ (.slice (some ⟨g, 0, none⟩) (n + 1) cap)) (fun k => F k ∨ k = g) B G (L.set k ([.int .i32 0], false)) (fr ++ [(k : Int) + 1])) := hA
  have HS : Hid (Step F (fun k => F k ∨ k = g) w0 (w2.setCell ⟨B, 4, none⟩ (.slice (some ⟨g, 0, none⟩) (n + 1) cap))) := X1
  clear hA hS X1 hown hgrow hat hb2 HA P1 P2 P3
  go_wp2
  go_ret
  exact ⟨_, rfl, HA2.out, HS.out⟩
theorem at_yes {w : World} {F : Nat → Prop} {B G k : Nat} {L : List Slt} {fr : List Int} (h : Ar Th φ w F B G L fr) (hT : isT L ((k : Int) + 1) = true) (hk : k < L.length) (hL : L.length ≤ 2147483647) :
    Calls Tryz.prog 103 #[.pointer (some ⟨B, 3, none⟩), .int .i32 ((k : Int) + 1)] w fun e w' => e = .returned (.pointer (some ⟨G, k * 2, none⟩)) ∧ w' = w := by
  have HV := has_any h ((k : Int) + 1) (by omega) hL
  rw [hT] at HV
  obtain ⟨cap0, c0⟩ := h.row (by omega)
  clear h hT
  generalize L.length = nL at *
  go_enter Tryz.func103, Tryz.ntmps103
  go_wp2_with fail
  refine HV.mono ?_
  rintro e w0 ⟨rfl, rfl⟩
  clear HV
  go_wp2
  go_ret
  exact ⟨rfl, rfl⟩
theorem at_no {w : World} {F : Nat → Prop} {B G : Nat} {L : List Slt} {fr : List Int} (h : Ar Th φ w F B G L fr) {i : Int} (hi : -2147483648 ≤ i ∧ i ≤ 2147483647) (hT : isT L i = false) (hL : L.length ≤ 2147483647) :
    Calls Tryz.prog 103 #[.pointer (some ⟨B, 3, none⟩), .int .i32 i] w fun e w' => e = .returned (.pointer none) ∧ w' = w := by
  have HV := has_any h i hi hL
  rw [hT] at HV
  clear h hT
  go_enter Tryz.func103, Tryz.ntmps103
  go_wp2_with fail
  refine HV.mono ?_
  rintro e w0 ⟨rfl, rfl⟩
  clear HV
  go_wp2
  go_ret
  exact ⟨rfl, rfl⟩
theorem take_any (x : Int) {w : World} {F : Nat → Prop} {B G : Nat} {L : List Slt} {fr : List Int} (h : Ar Th φ w F B G L fr) (hl : fr.length ≤ 2147483647) (hL : L.length < 2147483647) :
    Calls Tryz.prog 74 #[.pointer (some ⟨B, 3, none⟩), .int .i32 x] w fun e w' => ∃ F' G', e = .returned (.int .i32 (takeI L fr)) ∧ Ar Th φ w' F' B G' (takeL L fr ([.int .i32 x], true)) fr.dropLast ∧ Step F F' w w' := by
  rcases List.eq_nil_or_concat fr with rfl | ⟨fr', f, rfl⟩
  · exact take_new x h hL
  · rw [List.concat_eq_append] at h hl ⊢
    rw [takeI_snoc, takeL_snoc, List.dropLast_concat]
    exact take_old x h (by simp at hl; omega) (by omega)
theorem free_at {w : World} {F : Nat → Prop} {B G : Nat} {L : List Slt} {fr : List Int} (h : Ar Th φ w F B G L fr) (i : Int) (hT : isT L i = true) (hL : L.length ≤ 2147483647) (hl : fr.length ≤ 2147483647) :
    Calls Tryz.prog 80 #[.pointer (some ⟨B, 3, none⟩), .int .i32 i] w fun e w' => ∃ F', e = .returned (.bool true) ∧ Ar Th φ w' F' B G (L.set (i - 1).toNat ([.int .i32 0], false)) (fr ++ [i]) ∧ Step F F' w w' := by
  obtain ⟨k, x, rfl, hk⟩ := isT_iff.1 hT
  rw [show ((k : Int) + 1 - 1).toNat = k by omega]
  exact free_yes h hT (List.getElem?_eq_some_iff.1 hk).1 hL hl
theorem at_at {w : World} {F : Nat → Prop} {B G : Nat} {L : List Slt} {fr : List Int} (h : Ar Th φ w F B G L fr) (i : Int) (hT : isT L i = true) (hL : L.length ≤ 2147483647) :
    Calls Tryz.prog 103 #[.pointer (some ⟨B, 3, none⟩), .int .i32 i] w fun e w' => e = .returned (.pointer (some ⟨G, (i - 1).toNat * 2, none⟩)) ∧ w' = w := by
  obtain ⟨k, x, rfl, hk⟩ := isT_iff.1 hT
  rw [show ((k : Int) + 1 - 1).toNat = k by omega]
  exact at_yes h hT (List.getElem?_eq_some_iff.1 hk).1 hL
end Go.Proofs.YtlmdjghcmofdlaaGreat.AV
namespace Go.Proofs.YtlmdjghcmofdlaaGreat.AE
open Go.RowKit
set_option linter.unusedVariables false
abbrev Ar (Th : TypeId) (φ : Value → Value → List Value) (W : World) (F : Nat → Prop) (B G : Nat) (L : List Slt) (fr : List Int) : Prop := ArnX φ 5 6 Th 180 4 W F B G L fr
variable {Th : TypeId} {φ : Value → Value → List Value}
theorem infoS : (Tryz.prog.info? 180).map (fun i => (i.zero, i.size, i.bytes)) = some (some (.agg #[.int .i64 0, .int .i64 0, .int .i32 0, .int .i32 0, .bool false]), 5, 32) := by kernel_rfl
theorem infoN : (Tryz.prog.info? 21).map (fun i => (i.zero, i.size, i.bytes)) = some (some (.int .i32 0), 1, 4) := by kernel_rfl
theorem has_any {w : World} {F : Nat → Prop} {B G : Nat} {L : List Slt} {fr : List Int} (h : Ar Th φ w F B G L fr) (i : Int) (hi : -2147483648 ≤ i ∧ i ≤ 2147483647) (hL : L.length ≤ 2147483647) :
    Calls Tryz.prog 133 #[.pointer (some ⟨B, 5, none⟩), .int .i32 i] w fun e w' => e = .returned (.bool (isT L i)) ∧ w' = w := by
  by_cases hlo : 1 ≤ i
  · by_cases hhi : i ≤ L.length
    · obtain ⟨k, rfl⟩ : ∃ k : Nat, i = (k : Int) + 1 := ⟨(i - 1).toNat, by omega⟩
      obtain ⟨s, hs⟩ : ∃ s, L[k]? = some s := ⟨_, List.getElem?_eq_getElem (by omega)⟩
      obtain ⟨cap, hc⟩ := h.row (by omega)
      have h1 := (h.slot hs).2.2.1 4 (.bool s.2) (by have := h.wsl s (List.mem_of_getElem? hs); unfold slc; rw [List.getElem?_append_right (by omega), this]; rfl)
      have e1 : isT L ((k : Int) + 1) = s.2 := isT_at hs
      rw [e1]
      clear h hs e1
      generalize s.2 = b at *
      generalize L.length = n at *
      go_enter Tryz.func133, Tryz.ntmps133
      go_wp2
      go_ret
      exact ⟨rfl, rfl⟩
    · rw [isT_high (by omega)]
      obtain ⟨ao, cap, hc⟩ := h.head
      clear h
      generalize L.length = n at *
      go_enter Tryz.func133, Tryz.ntmps133
      go_wp2
      go_ret
      exact ⟨rfl, rfl⟩
  · rw [isT_low hlo]
    clear h
    go_enter Tryz.func133, Tryz.ntmps133
    go_wp2
    go_ret
    exact ⟨rfl, rfl⟩
theorem vacant_new {w : World} {F : Nat → Prop} {B G : Nat} {L : List Slt} (h : Ar Th φ w F B G L []) (hL : L.length < 2147483647) :
    Calls Tryz.prog 143 #[.pointer (some ⟨B, 5, none⟩)] w fun e w' => ∃ F' G', e = .returned (.int .i32 ((L.length : Int) + 1)) ∧ Ar Th φ w' F' B G' (L ++ [([.int .i64 0, .int .i64 0, .int .i32 0, .int .i32 0], false)]) [] ∧ Step F F' w w' := by
  obtain ⟨v, u, h1, h2, h3, h4, h5, h6⟩ := h.ex
  obtain ⟨ao, cu, rfl⟩ := h3.form
  obtain ⟨i0, hi, hz0, hz1, hz2⟩ := info_parts infoS
  have c0 := (h.ok.cells h1).1
  have c1 := (h.ok.cells h1).2
  obtain ⟨n, hn⟩ : ∃ n, n = L.length := ⟨_, rfl⟩
  have H2 : Hid (RowW (w.alloc (.cells #[.int .i64 0, .int .i64 0, .int .i32 0, .int .i32 0, .bool false] 180)) 180 5 v n (slcs L)) := by rw [hn]; exact h2.kept fun k hk => heap_alloc_old w _ k (h2.lt hk)
  have H : Hid (Ar Th φ w F B G L []) := h
  have H1 : Hid (Blk w B Th (φ v (.slice ao ([] : List Int).length cu)).toArray) := h1
  have H3 : Hid (RowW w 21 1 (.slice ao ([] : List Int).length cu) ([] : List Int).length (i32s [])) := h3
  have H5 : Hid (∀ k, v.ownBlock = some k → k = G ∧ F k ∧ k ≠ B) := h5
  have HN : Hid (n = L.length) := hn
  rw [← hn] at hL ⊢
  clear h h1 h2 h3 h5 hn
  go_enter Tryz.func143, Tryz.ntmps143
  go_wp2_with (at_builtin; refine wpList_append_row _ rfl _ _ 89 rfl 180 i0 (.agg #[.int .i64 0, .int .i64 0, .int .i32 0, .int .i32 0, .bool false]) 5 32 Tryz.underlying89 hi hz0 hz1 hz2 rfl _ _ _ rfl H2.out ⟨w.heap.size, 0, none⟩ 1 1 [.int .i64 0, .int .i64 0, .int .i32 0, .int .i32 0, .bool false] rfl rfl (World.news_of_block (Blk.new w _ _)) (by simp [Value.oneCell']) (by omega) (by unfold maxLen; omega) (by omega) ?_)
  intro g cap w2 hown hgrow hat hlt
  obtain ⟨hb2, hA, hS⟩ := H.out.regrow (s := ([.int .i64 0, .int .i64 0, .int .i32 0, .int .i32 0], false)) H1.out H3.out h4 H5.out h6 (by rw [← HN.out]; exact hown) hgrow hat rfl
  rw [← HN.out] at hA hS
  have d0 := (H.out.ok.cells hb2).1
  have f0 := hb2.frozen 5
  have HA : Hid (Ar Th φ (w2.setCell ⟨B, 5, none⟩ (.slice (some ⟨g, 0, none⟩) (n + 1) cap)) (fun k => F k ∨ k = g) B g (L ++ [([.int .i64 0, .int .i64 0, .int .i32 0, .int .i32 0], false)]) []) := hA
  have HS : Hid (Step F (fun k => F k ∨ k = g) w (w2.setCell ⟨B, 5, none⟩ (.slice (some ⟨g, 0, none⟩) (n + 1) cap))) := hS
  clear hA hS hown hgrow hat h4 h6 hb2
  go_wp2
  go_ret
  exact ⟨_, _, ret_of (by go_num), HA.out, HS.out⟩
theorem vacant_old {w : World} {F : Nat → Prop} {B G : Nat} {L : List Slt} {fr : List Int} {f : Int} (h : Ar Th φ w F B G L (fr ++ [f])) (hl : fr.length ≤ 2147483647) :
    Calls Tryz.prog 143 #[.pointer (some ⟨B, 5, none⟩)] w fun e w' => e = .returned (.int .i32 f) ∧ Ar Th φ w' F B G L fr ∧ Step F F w w' := by
  obtain ⟨H, cap, c1, c2, h1, h2, h3, h4⟩ := h.unfree
  have f0 := h.froz 6
  obtain ⟨n, hn⟩ : ∃ n, n = fr.length := ⟨_, rfl⟩
  rw [← hn] at c1 c2 h1 h3 h4 hl
  have HA : Hid (Ar Th φ (w.setCell ⟨B, 6, none⟩ (.slice (some ⟨H, 0, none⟩) n cap)) F B G L fr) := h3
  have HS : Hid (Step F F w (w.setCell ⟨B, 6, none⟩ (.slice (some ⟨H, 0, none⟩) n cap))) := h4
  clear h h3 h4 hn
  go_enter Tryz.func143, Tryz.ntmps143
  go_wp2
  go_ret
  exact ⟨rfl, HA.out, HS.out⟩
theorem take_of (x y p q : Int) {w : World} {F : Nat → Prop} {B k : Nat} {L1 : List Slt} {fr1 : List Int} (hF : ∀ k, F k → k < w.heap.size) (hk : k < L1.length) (hL : L1.length ≤ 2147483647)
    (hvac : ∀ w0, Below w.heap.size w w0 → Calls Tryz.prog 143 #[.pointer (some ⟨B, 5, none⟩)] w0 fun e w' => ∃ F' G', e = .returned (.int .i32 ((k : Int) + 1)) ∧ Ar Th φ w' F' B G' L1 fr1 ∧ Step F F' w0 w') :
    Calls Tryz.prog 138 #[.pointer (some ⟨B, 5, none⟩), .agg #[.int .i64 x, .int .i64 y, .int .i32 p, .int .i32 q]] w fun e w' => ∃ F' G', e = .returned (.int .i32 ((k : Int) + 1)) ∧ Ar Th φ w' F' B G' (L1.set k ([.int .i64 x, .int .i64 y, .int .i32 p, .int .i32 q], true)) fr1 ∧ Step F F' w w' := by
  go_enter Tryz.func138, Tryz.ntmps138
  go_wp2_with fail
  have hb0 : Below w.heap.size w (w.alloc (.cells [.int .i64 x, .int .i64 y, .int .i32 p, .int .i32 q].toArray 162)) := (Below.refl _ _).alloc (Nat.le_refl _) _
  refine (hvac _ hb0).mono ?_
  rintro e w1 ⟨F1, G1, rfl, hA, hS⟩
  have hX : Blk w1 w.heap.size 162 [.int .i64 x, .int .i64 y, .int .i32 p, .int .i32 q].toArray := (hS.only.block w.heap.size (by simp) (fun hf => by have := hF _ hf; omega)).trans (Blk.new w _ _)
  have S0 : Hid (Step F F1 w w1) := (Step.of_below hb0).trans hS
  obtain ⟨cap, c0⟩ := hA.row (by omega)
  obtain ⟨u0, q0⟩ : ∃ u, w1.cell? ⟨G1, k * 5, none⟩ = some u := by simpa using hA.slotAt (j := 0) hk (by omega)
  have z0 : w1.frozen? ⟨G1, k * 5, none⟩ = false := hA.slotFz (by omega) _
  obtain ⟨u1, q1⟩ : ∃ u, w1.cell? ⟨G1, k * 5 + 1, none⟩ = some u := by simpa using hA.slotAt (j := 1) hk (by omega)
  have z1 : w1.frozen? ⟨G1, k * 5 + 1, none⟩ = false := hA.slotFz (by omega) _
  obtain ⟨u2, q2⟩ : ∃ u, w1.cell? ⟨G1, k * 5 + 2, none⟩ = some u := by simpa using hA.slotAt (j := 2) hk (by omega)
  have z2 : w1.frozen? ⟨G1, k * 5 + 2, none⟩ = false := hA.slotFz (by omega) _
  obtain ⟨u3, q3⟩ : ∃ u, w1.cell? ⟨G1, k * 5 + 3, none⟩ = some u := by simpa using hA.slotAt (j := 3) hk (by omega)
  have z3 : w1.frozen? ⟨G1, k * 5 + 3, none⟩ = false := hA.slotFz (by omega) _
  obtain ⟨u4, q4⟩ : ∃ u, w1.cell? ⟨G1, k * 5 + 4, none⟩ = some u := by simpa using hA.slotAt (j := 4) hk (by omega)
  have z4 : w1.frozen? ⟨G1, k * 5 + 4, none⟩ = false := hA.slotFz (by omega) _
  have HF : Hid (F1 G1) := (hA.slotF (by omega)).1
  have HA : Hid (Ar Th φ w1 F1 B G1 L1 fr1) := hA
  have HK : Hid (L1[k]? = some (L1[k])) := List.getElem?_eq_getElem hk
  have Hk : Hid (k < L1.length) := hk
  obtain ⟨Y, hY⟩ : ∃ Y, Y = w.heap.size := ⟨_, rfl⟩
  rw [← hY] at hX
  have hYG : Hid (Y ≠ G1) := fun e => by
    rcases hS.ext G1 HF.out with h' | h'
    · have := hF _ h'; omega
    · simp at h'; omega
  have y0 := hX.at (j := 0) rfl
  have y1 := hX.at (j := 1) rfl
  have y2 := hX.at (j := 2) rfl
  have y3 := hX.at (j := 3) rfl
  have g0 : ∀ g : Grow w1, g.w.cell? ⟨B, 5, none⟩ = some (.slice (some ⟨G1, 0, none⟩) L1.length cap) := fun g => Grow.cell hA.blt c0 g
  have gy0 : ∀ g : Grow w1, g.w.cell? ⟨Y, 0, none⟩ = some (.int .i64 x) := fun g => Grow.cell (cell_lt y0) y0 g
  have gy1 : ∀ g : Grow w1, g.w.cell? ⟨Y, 1, none⟩ = some (.int .i64 y) := fun g => Grow.cell (cell_lt y1) y1 g
  have gy2 : ∀ g : Grow w1, g.w.cell? ⟨Y, 2, none⟩ = some (.int .i32 p) := fun g => Grow.cell (cell_lt y2) y2 g
  have gy3 : ∀ g : Grow w1, g.w.cell? ⟨Y, 3, none⟩ = some (.int .i32 q) := fun g => Grow.cell (cell_lt y3) y3 g
  have hne := Grow.ne w1
  clear hvac hb0 hS hA
  have HL : Hid (∃ n, n = L1.length) := ⟨_, rfl⟩
  generalize hn : L1.length = n at g0 c0 hL
  rw [hn] at hk
  clear hn
  rw [← hY]
  clear hY
  go_wp2
  refine wp_region_tail 9 (by kernel_rfl) (by kernel_rfl) (by kernel_rfl) ?_
  simp only [stillAt, stillOp, List.set_cons_succ, List.set_cons_zero, List.getElem?_cons_succ, List.getElem?_cons_zero, Option.getD_some, List.drop_succ_cons, List.drop_zero]
  repeat (go_big_quiet_step (fail))
  refine wpQuiet_nil ?_
  rintro w3 ⟨⟨_, hb3⟩, rfl⟩
  have hA3 := HA.out.below hb3
  have S3 := S0.out.trans (Step.of_below (F := F1) hb3)
  have HE : Hid (Ar Th φ (putAll w3 G1 (k * 5) (slc ([.int .i64 x, .int .i64 y, .int .i32 p, .int .i32 q], true))) F1 B G1 (L1.set k ([.int .i64 x, .int .i64 y, .int .i32 p, .int .i32 q], true)) fr1) := hA3.putAll (s' := ([.int .i64 x, .int .i64 y, .int .i32 p, .int .i32 q], true)) HK.out rfl
  have HE2 : Hid (Step F F1 w (putAll w3 G1 (k * 5) (slc ([.int .i64 x, .int .i64 y, .int .i32 p, .int .i32 q], true)))) := S3.trans (step_putAll HF.out _ _ _)
  obtain ⟨t0, r0⟩ : ∃ u, w3.cell? ⟨G1, k * 5, none⟩ = some u := by simpa using hA3.slotAt (j := 0) Hk.out (by omega)
  have s0 : w3.frozen? ⟨G1, k * 5, none⟩ = false := hA3.slotFz (by have := Hk.out; omega) _
  obtain ⟨t1, r1⟩ : ∃ u, w3.cell? ⟨G1, k * 5 + 1, none⟩ = some u := by simpa using hA3.slotAt (j := 1) Hk.out (by omega)
  have s1 : w3.frozen? ⟨G1, k * 5 + 1, none⟩ = false := hA3.slotFz (by have := Hk.out; omega) _
  obtain ⟨t2, r2⟩ : ∃ u, w3.cell? ⟨G1, k * 5 + 2, none⟩ = some u := by simpa using hA3.slotAt (j := 2) Hk.out (by omega)
  have s2 : w3.frozen? ⟨G1, k * 5 + 2, none⟩ = false := hA3.slotFz (by have := Hk.out; omega) _
  obtain ⟨t3, r3⟩ : ∃ u, w3.cell? ⟨G1, k * 5 + 3, none⟩ = some u := by simpa using hA3.slotAt (j := 3) Hk.out (by omega)
  have s3 : w3.frozen? ⟨G1, k * 5 + 3, none⟩ = false := hA3.slotFz (by have := Hk.out; omega) _
  obtain ⟨t4, r4⟩ : ∃ u, w3.cell? ⟨G1, k * 5 + 4, none⟩ = some u := by simpa using hA3.slotAt (j := 4) Hk.out (by omega)
  have s4 : w3.frozen? ⟨G1, k * 5 + 4, none⟩ = false := hA3.slotFz (by have := Hk.out; omega) _
  clear hA3 S3 hb3 HA S0
  go_wp2
  go_ret
  exact ⟨_, _, rfl, HE.out, HE2.out⟩
theorem take_new (x y p q : Int) {w : World} {F : Nat → Prop} {B G : Nat} {L : List Slt} (h : Ar Th φ w F B G L []) (hL : L.length < 2147483647) :
    Calls Tryz.prog 138 #[.pointer (some ⟨B, 5, none⟩), .agg #[.int .i64 x, .int .i64 y, .int .i32 p, .int .i32 q]] w fun e w' => ∃ F' G', e = .returned (.int .i32 ((L.length : Int) + 1)) ∧ Ar Th φ w' F' B G' (L ++ [([.int .i64 x, .int .i64 y, .int .i32 p, .int .i32 q], true)]) [] ∧ Step F F' w w' := by
  have hs : (L ++ [(([.int .i64 0, .int .i64 0, .int .i32 0, .int .i32 0], false) : Slt)]).set L.length ([.int .i64 x, .int .i64 y, .int .i32 p, .int .i32 q], true) = L ++ [([.int .i64 x, .int .i64 y, .int .i32 p, .int .i32 q], true)] := by rw [List.set_append_right _ _ (Nat.le_refl _), Nat.sub_self]; rfl
  rw [← hs]
  exact take_of x y p q h.lt (by simp) (by simp; omega) (fun w0 hb => vacant_new (h.below hb) hL)
theorem take_old (x y p q : Int) {w : World} {F : Nat → Prop} {B G : Nat} {L : List Slt} {fr : List Int} {f : Int} (h : Ar Th φ w F B G L (fr ++ [f])) (hl : fr.length ≤ 2147483647) (hL : L.length ≤ 2147483647) :
    Calls Tryz.prog 138 #[.pointer (some ⟨B, 5, none⟩), .agg #[.int .i64 x, .int .i64 y, .int .i32 p, .int .i32 q]] w fun e w' => ∃ F' G', e = .returned (.int .i32 f) ∧ Ar Th φ w' F' B G' (L.set (f - 1).toNat ([.int .i64 x, .int .i64 y, .int .i32 p, .int .i32 q], true)) fr ∧ Step F F' w w' := by
  obtain ⟨h1, h2⟩ := h.fr f (by simp)
  obtain ⟨k, rfl⟩ : ∃ k : Nat, f = (k : Int) + 1 := ⟨(f - 1).toNat, by omega⟩
  rw [show ((k : Int) + 1 - 1).toNat = k by omega]
  exact take_of x y p q h.lt (by omega) hL (fun w0 hb => (vacant_old (h.below hb) hl).mono fun e w' ⟨h1, h2, h3⟩ => ⟨_, _, h1, h2, h3⟩)
theorem free_yes {w : World} {F : Nat → Prop} {B G k : Nat} {L : List Slt} {fr : List Int} (h : Ar Th φ w F B G L fr) (hT : isT L ((k : Int) + 1) = true) (hk : k < L.length) (hL : L.length ≤ 2147483647) (hl : fr.length ≤ 2147483647) :
    Calls Tryz.prog 110 #[.pointer (some ⟨B, 5, none⟩), .int .i32 ((k : Int) + 1)] w fun e w' => ∃ F', e = .returned (.bool true) ∧ Ar Th φ w' F' B G (L.set k ([.int .i64 0, .int .i64 0, .int .i32 0, .int .i32 0], false)) (fr ++ [(k : Int) + 1]) ∧ Step F F' w w' := by
  obtain ⟨i0, hi, hz0, hz1, hz2⟩ := info_parts infoN
  have HV := has_any h ((k : Int) + 1) (by omega) hL
  rw [hT] at HV
  obtain ⟨cap0, c0⟩ := h.row (by omega)
  obtain ⟨u0, q0⟩ : ∃ u, w.cell? ⟨G, k * 5, none⟩ = some u := by simpa using h.slotAt (j := 0) hk (by omega)
  have z0 : w.frozen? ⟨G, k * 5, none⟩ = false := h.slotFz (by omega) _
  obtain ⟨u1, q1⟩ : ∃ u, w.cell? ⟨G, k * 5 + 1, none⟩ = some u := by simpa using h.slotAt (j := 1) hk (by omega)
  have z1 : w.frozen? ⟨G, k * 5 + 1, none⟩ = false := h.slotFz (by omega) _
  obtain ⟨u2, q2⟩ : ∃ u, w.cell? ⟨G, k * 5 + 2, none⟩ = some u := by simpa using h.slotAt (j := 2) hk (by omega)
  have z2 : w.frozen? ⟨G, k * 5 + 2, none⟩ = false := h.slotFz (by omega) _
  obtain ⟨u3, q3⟩ : ∃ u, w.cell? ⟨G, k * 5 + 3, none⟩ = some u := by simpa using h.slotAt (j := 3) hk (by omega)
  have z3 : w.frozen? ⟨G, k * 5 + 3, none⟩ = false := h.slotFz (by omega) _
  obtain ⟨u4, q4⟩ : ∃ u, w.cell? ⟨G, k * 5 + 4, none⟩ = some u := by simpa using h.slotAt (j := 4) hk (by omega)
  have z4 : w.frozen? ⟨G, k * 5 + 4, none⟩ = false := h.slotFz (by omega) _
  have HF : Hid (F G) := (h.slotF (by omega)).1
  have HE : Ar Th φ (((((w.setCell ⟨G, k * 5, none⟩ (.int .i64 0)).setCell ⟨G, k * 5 + 1, none⟩ (.int .i64 0)).setCell ⟨G, k * 5 + 2, none⟩ (.int .i32 0)).setCell ⟨G, k * 5 + 3, none⟩ (.int .i32 0)).setCell ⟨G, k * 5 + 4, none⟩ (.bool false)) F B G (L.set k ([.int .i64 0, .int .i64 0, .int .i32 0, .int .i32 0], false)) fr := h.putAll (s' := ([.int .i64 0, .int .i64 0, .int .i32 0, .int .i32 0], false)) (List.getElem?_eq_getElem hk) rfl
  have HE2 : Hid (Step F F w (((((w.setCell ⟨G, k * 5, none⟩ (.int .i64 0)).setCell ⟨G, k * 5 + 1, none⟩ (.int .i64 0)).setCell ⟨G, k * 5 + 2, none⟩ (.int .i32 0)).setCell ⟨G, k * 5 + 3, none⟩ (.int .i32 0)).setCell ⟨G, k * 5 + 4, none⟩ (.bool false))) := step_putAll HF.out w (k * 5) (slc ([.int .i64 0, .int .i64 0, .int .i32 0, .int .i32 0], false))
  have hlen : (L.set k ([.int .i64 0, .int .i64 0, .int .i32 0, .int .i32 0], false)).length = L.length := by simp
  obtain ⟨v, u, h1, h2, h3, h4, h5, h6⟩ := HE.ex
  have b1 := (HE.ok.cells h1).2
  have H3 : Hid (RowW ((((((w.setCell ⟨G, k * 5, none⟩ (.int .i64 0)).setCell ⟨G, k * 5 + 1, none⟩ (.int .i64 0)).setCell ⟨G, k * 5 + 2, none⟩ (.int .i32 0)).setCell ⟨G, k * 5 + 3, none⟩ (.int .i32 0)).setCell ⟨G, k * 5 + 4, none⟩ (.bool false)).alloc (.cells #[.int .i32 ((k : Int) + 1)] 21)) 21 1 u fr.length (i32s fr)) := h3.kept fun q hq => heap_alloc_old _ _ q (h3.lt hq)
  have HX : Hid (Blk ((((((w.setCell ⟨G, k * 5, none⟩ (.int .i64 0)).setCell ⟨G, k * 5 + 1, none⟩ (.int .i64 0)).setCell ⟨G, k * 5 + 2, none⟩ (.int .i32 0)).setCell ⟨G, k * 5 + 3, none⟩ (.int .i32 0)).setCell ⟨G, k * 5 + 4, none⟩ (.bool false)).alloc (.cells #[.int .i32 ((k : Int) + 1)] 21)) w.heap.size 21 #[.int .i32 ((k : Int) + 1)]) := by show Blk _ _ _ _; simpa using Blk.new (((((w.setCell ⟨G, k * 5, none⟩ (.int .i64 0)).setCell ⟨G, k * 5 + 1, none⟩ (.int .i64 0)).setCell ⟨G, k * 5 + 2, none⟩ (.int .i32 0)).setCell ⟨G, k * 5 + 3, none⟩ (.int .i32 0)).setCell ⟨G, k * 5 + 4, none⟩ (.bool false)) 21 #[.int .i32 ((k : Int) + 1)]
  have HA : Hid (Ar Th φ (((((w.setCell ⟨G, k * 5, none⟩ (.int .i64 0)).setCell ⟨G, k * 5 + 1, none⟩ (.int .i64 0)).setCell ⟨G, k * 5 + 2, none⟩ (.int .i32 0)).setCell ⟨G, k * 5 + 3, none⟩ (.int .i32 0)).setCell ⟨G, k * 5 + 4, none⟩ (.bool false)) F B G (L.set k ([.int .i64 0, .int .i64 0, .int .i32 0, .int .i32 0], false)) fr) := HE
  have P1 : Hid (Blk (((((w.setCell ⟨G, k * 5, none⟩ (.int .i64 0)).setCell ⟨G, k * 5 + 1, none⟩ (.int .i64 0)).setCell ⟨G, k * 5 + 2, none⟩ (.int .i32 0)).setCell ⟨G, k * 5 + 3, none⟩ (.int .i32 0)).setCell ⟨G, k * 5 + 4, none⟩ (.bool false)) B Th (φ v u).toArray) := h1
  have P2 : Hid (RowW (((((w.setCell ⟨G, k * 5, none⟩ (.int .i64 0)).setCell ⟨G, k * 5 + 1, none⟩ (.int .i64 0)).setCell ⟨G, k * 5 + 2, none⟩ (.int .i32 0)).setCell ⟨G, k * 5 + 3, none⟩ (.int .i32 0)).setCell ⟨G, k * 5 + 4, none⟩ (.bool false)) 180 (4 + 1) v (L.set k ([.int .i64 0, .int .i64 0, .int .i32 0, .int .i32 0], false)).length (slcs (L.set k ([.int .i64 0, .int .i64 0, .int .i32 0, .int .i32 0], false)))) := h2
  have P3 : Hid (RowW (((((w.setCell ⟨G, k * 5, none⟩ (.int .i64 0)).setCell ⟨G, k * 5 + 1, none⟩ (.int .i64 0)).setCell ⟨G, k * 5 + 2, none⟩ (.int .i32 0)).setCell ⟨G, k * 5 + 3, none⟩ (.int .i32 0)).setCell ⟨G, k * 5 + 4, none⟩ (.bool false)) 21 1 u fr.length (i32s fr)) := h3
  have P4 : Hid (Apart v u) := h4
  have P5 : Hid (∀ k, v.ownBlock = some k → k = G ∧ F k ∧ k ≠ B) := h5
  have P6 : Hid (∀ k, u.ownBlock = some k → F k ∧ k ≠ B) := h6
  have HL : Hid ((L.set k ([.int .i64 0, .int .i64 0, .int .i32 0, .int .i32 0], false)).length = L.length) := hlen
  obtain ⟨n, hn⟩ : ∃ n, n = fr.length := ⟨_, rfl⟩
  have HN : Hid (n = fr.length) := hn
  rw [← hn] at hl H3
  have HkL : Hid (k < L.length) := hk
  clear h h1 h2 h3 h4 h5 h6 HE hlen hT hn
  generalize hnL : L.length = nL at c0 hk hL
  clear hnL
  go_enter Tryz.func110, Tryz.ntmps110
  go_wp2_with fail
  refine HV.mono ?_
  rintro e w0 ⟨rfl, rfl⟩
  clear HV
  go_wp2_with (at_builtin; refine wpList_append_row _ rfl _ _ 81 rfl 21 i0 (.int .i32 0) 1 4 Tryz.underlying81 hi hz0 hz1 hz2 rfl _ _ _ rfl H3.out ⟨w0.heap.size, 0, none⟩ 1 1 [.int .i32 ((k : Int) + 1)] rfl rfl (World.news_of_block HX.out) (by simp [Value.oneCell']) (by omega) (by unfold maxLen; omega) (by omega) ?_)
  intro g cap w2 hown hgrow hat hlt
  obtain ⟨hb2, hA, hS⟩ := HA.out.refree (f := (k : Int) + 1) P1.out P2.out P3.out P4.out P5.out P6.out (by rw [← HN.out]; exact hown) hgrow (by simpa using hat) (by rw [HL.out]; have := HkL.out; omega)
  rw [← HN.out] at hA hS
  have d0 := (HA.out.ok.cells hb2).2
  have f0 := hb2.frozen 6
  have X1 := HE2.out.trans hS
  have HA2 : Hid (Ar Th φ (w2.setCell ⟨B, 6, none⟩ (.slice (some ⟨g, 0, none⟩) (n + 1) cap)) (fun k => F k ∨ k = g) B G (L.set k ([.int .i64 0, .int .i64 0, .int .i32 0, .int .i32 0], false)) (fr ++ [(k : Int) + 1])) := hA
  have HS : Hid (Step F (fun k => F k ∨ k = g) w0 (w2.setCell ⟨B, 6, none⟩ (.slice (some ⟨g, 0, none⟩) (n + 1) cap))) := X1
  clear hA hS X1 hown hgrow hat hb2 HA P1 P2 P3
  go_wp2
  go_ret
  exact ⟨_, rfl, HA2.out, HS.out⟩
theorem at_yes {w : World} {F : Nat → Prop} {B G k : Nat} {L : List Slt} {fr : List Int} (h : Ar Th φ w F B G L fr) (hT : isT L ((k : Int) + 1) = true) (hk : k < L.length) (hL : L.length ≤ 2147483647) :
    Calls Tryz.prog 127 #[.pointer (some ⟨B, 5, none⟩), .int .i32 ((k : Int) + 1)] w fun e w' => e = .returned (.pointer (some ⟨G, k * 5, none⟩)) ∧ w' = w := by
  have HV := has_any h ((k : Int) + 1) (by omega) hL
  rw [hT] at HV
  obtain ⟨cap0, c0⟩ := h.row (by omega)
  clear h hT
  generalize L.length = nL at *
  go_enter Tryz.func127, Tryz.ntmps127
  go_wp2_with fail
  refine HV.mono ?_
  rintro e w0 ⟨rfl, rfl⟩
  clear HV
  go_wp2
  go_ret
  exact ⟨rfl, rfl⟩
theorem at_no {w : World} {F : Nat → Prop} {B G : Nat} {L : List Slt} {fr : List Int} (h : Ar Th φ w F B G L fr) {i : Int} (hi : -2147483648 ≤ i ∧ i ≤ 2147483647) (hT : isT L i = false) (hL : L.length ≤ 2147483647) :
    Calls Tryz.prog 127 #[.pointer (some ⟨B, 5, none⟩), .int .i32 i] w fun e w' => e = .returned (.pointer none) ∧ w' = w := by
  have HV := has_any h i hi hL
  rw [hT] at HV
  clear h hT
  go_enter Tryz.func127, Tryz.ntmps127
  go_wp2_with fail
  refine HV.mono ?_
  rintro e w0 ⟨rfl, rfl⟩
  clear HV
  go_wp2
  go_ret
  exact ⟨rfl, rfl⟩
theorem take_any (x y p q : Int) {w : World} {F : Nat → Prop} {B G : Nat} {L : List Slt} {fr : List Int} (h : Ar Th φ w F B G L fr) (hl : fr.length ≤ 2147483647) (hL : L.length < 2147483647) :
    Calls Tryz.prog 138 #[.pointer (some ⟨B, 5, none⟩), .agg #[.int .i64 x, .int .i64 y, .int .i32 p, .int .i32 q]] w fun e w' => ∃ F' G', e = .returned (.int .i32 (takeI L fr)) ∧ Ar Th φ w' F' B G' (takeL L fr ([.int .i64 x, .int .i64 y, .int .i32 p, .int .i32 q], true)) fr.dropLast ∧ Step F F' w w' := by
  rcases List.eq_nil_or_concat fr with rfl | ⟨fr', f, rfl⟩
  · exact take_new x y p q h hL
  · rw [List.concat_eq_append] at h hl ⊢
    rw [takeI_snoc, takeL_snoc, List.dropLast_concat]
    exact take_old x y p q h (by simp at hl; omega) (by omega)
theorem free_at {w : World} {F : Nat → Prop} {B G : Nat} {L : List Slt} {fr : List Int} (h : Ar Th φ w F B G L fr) (i : Int) (hT : isT L i = true) (hL : L.length ≤ 2147483647) (hl : fr.length ≤ 2147483647) :
    Calls Tryz.prog 110 #[.pointer (some ⟨B, 5, none⟩), .int .i32 i] w fun e w' => ∃ F', e = .returned (.bool true) ∧ Ar Th φ w' F' B G (L.set (i - 1).toNat ([.int .i64 0, .int .i64 0, .int .i32 0, .int .i32 0], false)) (fr ++ [i]) ∧ Step F F' w w' := by
  obtain ⟨k, x, rfl, hk⟩ := isT_iff.1 hT
  rw [show ((k : Int) + 1 - 1).toNat = k by omega]
  exact free_yes h hT (List.getElem?_eq_some_iff.1 hk).1 hL hl
theorem at_at {w : World} {F : Nat → Prop} {B G : Nat} {L : List Slt} {fr : List Int} (h : Ar Th φ w F B G L fr) (i : Int) (hT : isT L i = true) (hL : L.length ≤ 2147483647) :
    Calls Tryz.prog 127 #[.pointer (some ⟨B, 5, none⟩), .int .i32 i] w fun e w' => e = .returned (.pointer (some ⟨G, (i - 1).toNat * 5, none⟩)) ∧ w' = w := by
  obtain ⟨k, x, rfl, hk⟩ := isT_iff.1 hT
  rw [show ((k : Int) + 1 - 1).toNat = k by omega]
  exact at_yes h hT (List.getElem?_eq_some_iff.1 hk).1 hL
end Go.Proofs.YtlmdjghcmofdlaaGreat.AE
