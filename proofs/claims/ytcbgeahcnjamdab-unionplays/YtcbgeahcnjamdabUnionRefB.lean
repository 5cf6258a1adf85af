/- The document's own machine of layer 11: Join, Size, Sets. -/
import Derived.Test.YtcbgeahcnjamdabUnionRef
namespace Go.Proofs.Ytcbgeahcnjamdab
open Go.RowKit
set_option linter.unusedVariables false

theorem RU.row {W : World} {RB K : Nat} {L : List Int} (h : RU W RB K L) (h0 : 0 < L.length) : ∃ cap, Blk W RB 44 #[.slice (some ⟨K, 0, none⟩) L.length cap] ∧ K ≠ RB ∧ RowK 3 .i64 W K L.length (lAt L) := by
  obtain ⟨ao, cap, h1, h2⟩ := h.ex
  rcases h2 with rfl | ⟨rfl, a, b⟩
  · simp at h0
  · exact ⟨cap, h1, a, b⟩
theorem RU.made {W : World} {RB K cap n : Nat} {L : List Int} {A : Nat → Int} (hb : Blk W RB 44 #[.slice (some ⟨K, 0, none⟩) n cap]) (hK : K ≠ RB) (hr : RowK 3 .i64 W K n A) (hl : L.length = n) (hA : ∀ i, i < n → lAt L i = A i) : RU W RB K L := by
  subst hl
  exact ⟨⟨_, cap, hb, .inr ⟨rfl, hK, hr.congr hA⟩⟩, hr.lt⟩
theorem joinL_sub {L : List Int} {a b x y : Int} (hj : joinB L a b = true) (h : (x = lAt L a.toNat ∧ y = lAt L b.toNat) ∨ (x = lAt L b.toNat ∧ y = lAt L a.toNat)) {i : Nat} (hi : i < L.length) : lAt (joinL L a b) i = subTo x y L.length (lAt L) i := by
  rw [joinL_at hj hi]
  unfold subTo
  rw [if_pos hi]
  rcases h with ⟨rfl, rfl⟩ | ⟨rfl, rfl⟩
  · rfl
  · exact subN_comm _ _ _
set_option maxRecDepth 100000 in
set_option maxHeartbeats 3200000 in
theorem urjoin_any {w : World} {RB K : Nat} {L : List Int} (h : RU w RB K L) (hN : Nm L) (hl : L.length ≤ 4194304) (a b : Int) : Calls Try.prog 15 #[.pointer (some ⟨RB, 0, none⟩), .int .i64 a, .int .i64 b] w fun e w' => e = .returned (.bool (joinB L a b)) ∧ RU w' RB K (joinL L a b) ∧ Thru RB K K w w' := by
  have HR := hid_mk h
  have nb : ∀ c, memN L c = true → nameN L c = lAt L c.toNat ∧ 0 ≤ lAt L c.toNat ∧ lAt L c.toNat < L.length := fun c hc => by
    obtain ⟨c0, c1⟩ := memN_iff.1 hc
    have := hN.lo c.toNat (by omega)
    exact ⟨by unfold nameN; rw [hc]; rfl, by omega, by omega⟩
  have nn : ∀ c, memN L c = false → nameN L c = -1 := fun c hc => by unfold nameN; rw [hc]; rfl
  cases hj : joinB L a b with
  | false =>
    rw [joinL_no hj]
    cases ha : memN L a with
    | false =>
      have HA := hid_mk (nn a ha)
      obtain ⟨y, hy⟩ : ∃ y, y = nameN L b := ⟨_, rfl⟩
      have HB := hid_mk hy.symm
      clear h hN nb nn hj ha hy
      go_enter Try.func15, Try.ntmps15
      go_wp2_with fail
      refine (urname_any HR.out hl a).mono ?_
      rintro e w1 ⟨rfl, rfl⟩
      rw [HA.out]
      go_wp2_with fail
      refine (urname_any HR.out hl b).mono ?_
      rintro e w1 ⟨rfl, rfl⟩
      rw [HB.out]
      go_wp2
      go_ret
      exact ⟨rfl, HR.out, Thru.refl _ _ _ _⟩
    | true =>
    obtain ⟨a1, a2, a3⟩ := nb a ha
    cases hb : memN L b with
    | false =>
      have HA := hid_mk a1
      have HB := hid_mk (nn b hb)
      clear h hN nb nn hj ha hb a1
      generalize lAt L a.toNat = x at *
      go_enter Try.func15, Try.ntmps15
      go_wp2_with fail
      refine (urname_any HR.out hl a).mono ?_
      rintro e w1 ⟨rfl, rfl⟩
      rw [HA.out]
      go_wp2_with fail
      refine (urname_any HR.out hl b).mono ?_
      rintro e w1 ⟨rfl, rfl⟩
      rw [HB.out]
      go_wp2
      go_ret
      exact ⟨rfl, HR.out, Thru.refl _ _ _ _⟩
    | true =>
      have hz : lAt L a.toNat = lAt L b.toNat := by
        unfold joinB at hj; rw [ha, hb] at hj; simpa using hj
      obtain ⟨b1, b2, b3⟩ := nb b hb
      rw [← hz] at b1 b2 b3
      have HA := hid_mk a1
      have HB := hid_mk b1
      clear h hN nb nn hj ha hb a1 b1 hz
      generalize lAt L a.toNat = x at *
      go_enter Try.func15, Try.ntmps15
      go_wp2_with fail
      refine (urname_any HR.out hl a).mono ?_
      rintro e w1 ⟨rfl, rfl⟩
      rw [HA.out]
      go_wp2_with fail
      refine (urname_any HR.out hl b).mono ?_
      rintro e w1 ⟨rfl, rfl⟩
      rw [HB.out]
      go_wp2
      go_ret
      exact ⟨rfl, HR.out, Thru.refl _ _ _ _⟩
  | true =>
    obtain ⟨ha, hb, hne⟩ := joinB_iff.1 hj
    obtain ⟨a1, a2, a3⟩ := nb a ha
    obtain ⟨b1, b2, b3⟩ := nb b hb
    have hlen0 : 0 < L.length := by omega
    obtain ⟨cap, r1, r2, r3⟩ := h.row hlen0
    have HA := hid_mk a1
    have HB := hid_mk b1
    have HE : Hid (∀ wr x y, ((x = lAt L a.toNat ∧ y = lAt L b.toNat) ∨ (x = lAt L b.toNat ∧ y = lAt L a.toNat)) → Blk wr RB 44 #[.slice (some ⟨K, 0, none⟩) L.length cap] → RowK 3 .i64 wr K L.length (subTo x y L.length (lAt L)) → RU wr RB K (joinL L a b)) := fun wr x y hxy h1 h2 =>
      RU.made h1 r2 h2 (joinL_len _ _ _) (fun i hi => joinL_sub hj hxy hi)
    have H1 := hid_mk r1
    have H2 := hid_mk r2
    have H3 := hid_mk r3
    clear h hN nb nn hj ha hb a1 b1 r1 r2 r3
    generalize joinL L a b = L' at *
    generalize lAt L a.toNat = x at *
    generalize lAt L b.toNat = y at *
    generalize hA : lAt L = A at *
    have HR' : Hid (∀ c, Calls Try.prog 16 #[.pointer (some ⟨RB, 0, none⟩), .int .i64 c] w fun e w' => e = .returned (.int .i64 (nameN L c)) ∧ w' = w) := fun c => urname_any HR.out hl c
    clear HR hA
    generalize L.length = n at *
    have hxe : (x == y) = false := by simpa using hne
    by_cases hxy : y < x
    · skip
      have HM : Hid (max y x = x ∧ min y x = y) := by constructor <;> omega
      go_enter Try.func15, Try.ntmps15
      go_wp2_with fail
      refine (HR'.out a).mono ?_
      rintro e w1 ⟨rfl, rfl⟩
      rw [HA.out]
      go_wp2_with fail
      refine (HR'.out b).mono ?_
      rintro e w1 ⟨rfl, rfl⟩
      rw [HB.out]
      clear HR' HA HB
      go_wp2
      go_loopw [9] (fun v wr => ∃ k : Nat, k ≤ n ∧ v = .int .i64 k ∧ Hid (Blk wr RB 44 #[.slice (some ⟨K, 0, none⟩) n cap]) ∧ Hid (RowK 3 .i64 wr K n (subTo y x k A)) ∧ Hid (Thru RB K K w1 wr)) (fun v _ => n - (intOf v).toNat)
      case atStart => exact ⟨0, by omega, rfl, H1, H3.out.congr (fun i _ => rfl), Thru.refl _ _ _ _⟩
      case round =>
        clear H1 H3
        obtain ⟨k, hk, rfl, H1, H3, HT⟩ := hrel
        have c0 := H1.out.at (j := 0) rfl
        simp only [List.getElem_toArray, List.getElem_cons_zero] at c0
        by_cases hlt : k < n
        · have c1 := H3.out.at hlt
          rw [show subTo y x k A k = A k from if_neg (Nat.lt_irrefl k)] at c1
          have f1 := H3.out.frozen k
          by_cases he : A k = x
          · have HS := hid_mk (H3.out.set k y)
            rw [show updA (subTo y x k A) k y = subTo y x (k + 1) A from by rw [subTo_succ, show subN y x (A k) = y from by unfold subN; rw [he, HM.out.1, HM.out.2, if_pos rfl]]] at HS
            have HB1 : Hid (Blk (w1.setCell ⟨K, k, none⟩ (.int .i64 y)) RB 44 #[.slice (some ⟨K, 0, none⟩) n cap] ∨ True) := .inr trivial
            have HX : Hid (Blk (wr.setCell ⟨K, k, none⟩ (.int .i64 y)) RB 44 #[.slice (some ⟨K, 0, none⟩) n cap]) := H1.out.kept (grownBy_set wr K k _) (by have := H2.out; simp; omega)
            have HT2 : Hid (Thru RB K K w1 (wr.setCell ⟨K, k, none⟩ (.int .i64 y))) := HT.out.trans (Thru.set wr _ (.inr (.inl rfl)))
            rw [he] at c1
            clear he H1 H3 HT HB1
            go_wp2
            go_roundw
            case rel => exact ⟨k + 1, by omega, by go_num, HX, HS, HT2⟩
            case measure => simp [intOf]; omega
          · have HS : Hid (RowK 3 .i64 wr K n (subTo y x (k + 1) A)) := by
              show RowK _ _ _ _ _ _
              rw [subTo_same (by rw [HM.out.1]; exact he)]
              exact H3.out
            clear H3
            generalize A k = z at *
            go_wp2
            go_roundw
            case rel => exact ⟨k + 1, by omega, by go_num, H1, HS, HT⟩
            case measure => simp [intOf]; omega
        · obtain rfl : k = n := by omega
          have HF := hid_mk (HE.out wr y x (.inr ⟨rfl, rfl⟩) H1.out H3.out)
          clear HE H1 H3
          go_wp2
          go_ret
          exact ⟨rfl, HF.out, HT.out⟩
    · have hlt2 : x < y := by omega
      clear hxy
      have HM : Hid (max x y = y ∧ min x y = x) := by constructor <;> omega
      go_enter Try.func15, Try.ntmps15
      go_wp2_with fail
      refine (HR'.out a).mono ?_
      rintro e w1 ⟨rfl, rfl⟩
      rw [HA.out]
      go_wp2_with fail
      refine (HR'.out b).mono ?_
      rintro e w1 ⟨rfl, rfl⟩
      rw [HB.out]
      clear HR' HA HB
      go_wp2
      go_loopw [9] (fun v wr => ∃ k : Nat, k ≤ n ∧ v = .int .i64 k ∧ Hid (Blk wr RB 44 #[.slice (some ⟨K, 0, none⟩) n cap]) ∧ Hid (RowK 3 .i64 wr K n (subTo x y k A)) ∧ Hid (Thru RB K K w1 wr)) (fun v _ => n - (intOf v).toNat)
      case atStart => exact ⟨0, by omega, rfl, H1, H3.out.congr (fun i _ => rfl), Thru.refl _ _ _ _⟩
      case round =>
        clear H1 H3
        obtain ⟨k, hk, rfl, H1, H3, HT⟩ := hrel
        have c0 := H1.out.at (j := 0) rfl
        simp only [List.getElem_toArray, List.getElem_cons_zero] at c0
        by_cases hlt : k < n
        · have c1 := H3.out.at hlt
          rw [show subTo x y k A k = A k from if_neg (Nat.lt_irrefl k)] at c1
          have f1 := H3.out.frozen k
          by_cases he : A k = y
          · have HS := hid_mk (H3.out.set k x)
            rw [show updA (subTo x y k A) k x = subTo x y (k + 1) A from by rw [subTo_succ, show subN x y (A k) = x from by unfold subN; rw [he, HM.out.1, HM.out.2, if_pos rfl]]] at HS
            have HB1 : Hid (Blk (w1.setCell ⟨K, k, none⟩ (.int .i64 x)) RB 44 #[.slice (some ⟨K, 0, none⟩) n cap] ∨ True) := .inr trivial
            have HX : Hid (Blk (wr.setCell ⟨K, k, none⟩ (.int .i64 x)) RB 44 #[.slice (some ⟨K, 0, none⟩) n cap]) := H1.out.kept (grownBy_set wr K k _) (by have := H2.out; simp; omega)
            have HT2 : Hid (Thru RB K K w1 (wr.setCell ⟨K, k, none⟩ (.int .i64 x))) := HT.out.trans (Thru.set wr _ (.inr (.inl rfl)))
            rw [he] at c1
            clear he H1 H3 HT HB1
            go_wp2
            go_roundw
            case rel => exact ⟨k + 1, by omega, by go_num, HX, HS, HT2⟩
            case measure => simp [intOf]; omega
          · have HS : Hid (RowK 3 .i64 wr K n (subTo x y (k + 1) A)) := by
              show RowK _ _ _ _ _ _
              rw [subTo_same (by rw [HM.out.1]; exact he)]
              exact H3.out
            clear H3
            generalize A k = z at *
            go_wp2
            go_roundw
            case rel => exact ⟨k + 1, by omega, by go_num, H1, HS, HT⟩
            case measure => simp [intOf]; omega
        · obtain rfl : k = n := by omega
          have HF := hid_mk (HE.out wr x y (.inl ⟨rfl, rfl⟩) H1.out H3.out)
          clear HE H1 H3
          go_wp2
          go_ret
          exact ⟨rfl, HF.out, HT.out⟩

set_option maxRecDepth 100000 in
set_option maxHeartbeats 3200000 in
theorem ursize_any {w : World} {RB K : Nat} {L : List Int} (h : RU w RB K L) (hN : Nm L) (hl : L.length ≤ 4194304) (a : Int) : Calls Try.prog 17 #[.pointer (some ⟨RB, 0, none⟩), .int .i64 a] w fun e w' => e = .returned (.int .i64 (sizeN L a)) ∧ w' = w := by
  have HR := hid_mk h
  cases ha : memN L a with
  | false =>
    have HA : Hid (nameN L a = -1) := by show _ = _; unfold nameN; rw [ha]; rfl
    have hz : sizeN L a = 0 := by unfold sizeN; rw [ha]; rfl
    rw [hz]
    clear h hN ha hz
    go_enter Try.func17, Try.ntmps17
    go_wp2_with fail
    refine (urname_any HR.out hl a).mono ?_
    rintro e w1 ⟨rfl, rfl⟩
    rw [HA.out]
    go_wp2
    refine wp_loop_rounds 1 ?_
    rw [rounds_succ]
    go_wp2
    go_ret
    exact ⟨rfl, rfl⟩
  | true =>
    obtain ⟨c0, c1⟩ := memN_iff.1 ha
    have hlo := hN.lo a.toNat (by omega)
    have HA : Hid (nameN L a = lAt L a.toNat) := by show _ = _; unfold nameN; rw [ha]; rfl
    have hz : sizeN L a = (L.count (lAt L a.toNat) : Int) := by unfold sizeN; rw [ha]; rfl
    rw [hz]
    obtain ⟨cap, r1, r2, r3⟩ := h.row (by omega)
    have HC : Hid (∀ k, k < L.length → (L.take (k + 1)).count (lAt L a.toNat) = (L.take k).count (lAt L a.toNat) + if lAt L k = lAt L a.toNat then 1 else 0) := fun k hk => count_take L _ hk
    have HD : Hid ((L.take L.length).count (lAt L a.toNat) = L.count (lAt L a.toNat)) := by show _ = _; rw [List.take_length]
    have HK : Hid (∀ k, (L.take k).count (lAt L a.toNat) ≤ k) := fun k => Nat.le_trans List.count_le_length (by rw [List.length_take]; omega)
    have b0 := r1.at (j := 0) rfl
    simp only [List.getElem_toArray, List.getElem_cons_zero] at b0
    have H3 := hid_mk r3
    clear h hN ha hz r1 r2 r3
    generalize lAt L a.toNat = x at *
    go_enter Try.func17, Try.ntmps17
    go_wp2_with fail
    refine (urname_any HR.out hl a).mono ?_
    rintro e w1 ⟨rfl, rfl⟩
    rw [HA.out]
    clear HR HA
    generalize hn : L.length = n at *
    clear hn
    go_wp2
    go_loopw [5, 7] (fun c v wr => ∃ k m : Nat, k ≤ n ∧ m ≤ k ∧ v = .int .i64 k ∧ c = .int .i64 m ∧ Hid (m = (L.take k).count x) ∧ wr = w1) (fun _ v _ => n - (intOf v).toNat)
    case atStart => exact ⟨0, 0, by omega, by omega, rfl, rfl, rfl, rfl⟩
    case round =>
      obtain ⟨k, m, hk, hmk, rfl, rfl, HM, rfl⟩ := hrel
      by_cases hlt : k < n
      · have d1 := H3.out.at hlt
        have hcc := HC.out k hlt
        by_cases he : lAt L k = x
        · rw [he] at d1
          rw [if_pos he] at hcc
          have HM2 : Hid (m + 1 = (L.take (k + 1)).count x) := by show _ = _; rw [hcc, ← HM.out]
          clear he hcc HM
          go_wp2
          go_roundw
          case rel => exact ⟨k + 1, m + 1, by omega, by omega, by go_num, by go_num, HM2, by first | rfl | trivial⟩
          case measure => simp [intOf]; omega
        · rw [if_neg he] at hcc
          have HM2 : Hid (m = (L.take (k + 1)).count x) := by show _ = _; rw [hcc, ← HM.out]; rfl
          clear hcc HM
          generalize lAt L k = z at *
          go_wp2
          go_roundw
          case rel => exact ⟨k + 1, m, by omega, by omega, by go_num, by go_num, HM2, by first | rfl | trivial⟩
          case measure => simp [intOf]; omega
      · obtain rfl : k = n := by omega
        have HF : Hid (m = L.count x) := by show _ = _; rw [HM.out]; exact HD.out
        clear HM HD HC HK H3
        go_wp2
        go_ret
        exact ⟨ret_of (congrArg (fun z : Nat => Value.int .i64 (z : Int)) HF.out), rfl⟩
theorem sets_take (L : List Int) (k : Nat) : (List.range (k + 1)).countP (isNm L) = (List.range k).countP (isNm L) + if lAt L k = k then 1 else 0 := by
  rw [List.range_succ, List.countP_append, List.countP_cons, List.countP_nil]
  by_cases h : lAt L k = k
  · rw [if_pos h]; simp [isNm, h]
  · rw [if_neg h]; simp [isNm, h]
set_option maxRecDepth 100000 in
set_option maxHeartbeats 3200000 in
theorem ursets_any {w : World} {RB K : Nat} {L : List Int} (h : RU w RB K L) (hN : Nm L) (hl : L.length ≤ 4194304) : Calls Try.prog 18 #[.pointer (some ⟨RB, 0, none⟩)] w fun e w' => e = .returned (.int .i64 (setsN L)) ∧ w' = w := by
  obtain ⟨ao, cap, r1, r2⟩ := h.ex
  have b0 := r1.at (j := 0) rfl
  simp only [List.getElem_toArray, List.getElem_cons_zero] at b0
  have H3 : Hid (∀ k, k < L.length → ao = some ⟨K, 0, none⟩ ∧ w.cell? ⟨K, k, none⟩ = some (.int .i64 (lAt L k))) := fun k hk => by
    rcases r2 with rfl | ⟨e, _, r⟩
    · simp at hk
    · exact ⟨e, r.at hk⟩
  have HL : Hid (∀ k, k < L.length → 0 ≤ lAt L k ∧ lAt L k ≤ k) := fun k hk => hN.lo k hk
  have HD : Hid (setsN L = ((List.range L.length).countP (isNm L) : Int)) := rfl
  clear h r1 r2 hN
  generalize setsN L = ss at *
  generalize hn : L.length = n at *
  clear hn
  go_enter Try.func18, Try.ntmps18
  go_wp2
  go_loopw [3, 4] (fun c v wr => ∃ k m : Nat, k ≤ n ∧ m ≤ k ∧ v = .int .i64 k ∧ c = .int .i64 m ∧ Hid (m = (List.range k).countP (isNm L)) ∧ wr = w) (fun _ v _ => n - (intOf v).toNat)
  case atStart => exact ⟨0, 0, by omega, by omega, rfl, rfl, rfl, rfl⟩
  case round =>
    obtain ⟨k, m, hk, hmk, rfl, rfl, HM, rfl⟩ := hrel
    by_cases hlt : k < n
    · obtain ⟨rfl, d1⟩ := H3.out k hlt
      have hlo := HL.out k hlt
      have hcc := sets_take L k
      by_cases he : lAt L k = (k : Int)
      · rw [he] at d1
        rw [if_pos he] at hcc
        have HM2 : Hid (m + 1 = (List.range (k + 1)).countP (isNm L)) := by show _ = _; rw [hcc, ← HM.out]
        clear he hcc HM hlo
        go_wp2
        go_roundw
        case rel => exact ⟨k + 1, m + 1, by omega, by omega, by go_num, by go_num, HM2, by first | rfl | trivial⟩
        case measure => simp [intOf]; omega
      · rw [if_neg he] at hcc
        have HM2 : Hid (m = (List.range (k + 1)).countP (isNm L)) := by show _ = _; rw [hcc, ← HM.out]; rfl
        clear hcc HM
        generalize lAt L k = z at *
        go_wp2
        go_roundw
        case rel => exact ⟨k + 1, m, by omega, by omega, by go_num, by go_num, HM2, by first | rfl | trivial⟩
        case measure => simp [intOf]; omega
    · obtain rfl : k = n := by omega
      have HF : Hid ((m : Int) = ss) := by show _ = _; rw [HD.out, HM.out]
      clear HM HD H3 HL
      go_wp2
      go_ret
      exact ⟨ret_of (congrArg (Value.int .i64) HF.out), rfl⟩
end Go.Proofs.Ytcbgeahcnjamdab
