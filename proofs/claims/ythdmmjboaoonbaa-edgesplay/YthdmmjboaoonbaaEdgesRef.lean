/- The document's machine of layer 9 (tidewalkref09): At, Of, Put, Take. -/
import Derived.Test.YthdmmjboaoonbaaEdgesRel
import Derived.Test.YthdmmjboaoonbaaAppendAny
import Derived.Test.YthdmmjboaoonbaaEdgesActs
import Derived.Deep.RegionHeld3
namespace Go.Proofs.Ythdmmjboaoonbaa
open Go.RowKit
set_option linter.unusedVariables false

theorem infoOne : (Try.prog.info? 55).map (fun i => (i.zero, i.size, i.bytes)) = some (some (.agg #[.int .i64 0, .int .i64 0, .int .i64 0]), 3, 24) := by kernel_rfl
/-- Their cells. -/
def oc1 (x : On) : List Value := [.int .i64 x.1, .int .i64 x.2.1, .int .i64 x.2.2]
def oc : List On → List Value
  | [] => []
  | x :: l => oc1 x ++ oc l
theorem oc_len (l : List On) : (oc l).length = l.length * 3 := by
  induction l with
  | nil => rfl
  | cons x l ih => unfold oc; rw [List.length_append, ih]; simp [oc1]; omega
theorem oc_app (p q : List On) : oc (p ++ q) = oc p ++ oc q := by
  induction p with
  | nil => rfl
  | cons x p ih => simp only [List.cons_append, oc, ih, List.append_assoc]
theorem oc_one (l : List On) : ∀ u ∈ oc l, u.oneCell' = true := by
  induction l with
  | nil => intro u hu; cases hu
  | cons x l ih =>
    intro u hu
    unfold oc at hu
    rcases List.mem_append.1 hu with h | h
    · simp [oc1] at h; rcases h with rfl | rfl | rfl <;> rfl
    · exact ih u h
theorem oc_at {l : List On} {x : On} : ∀ {i : Nat}, l[i]? = some x → (oc l)[i * 3]? = some (.int .i64 x.1) ∧ (oc l)[i * 3 + 1]? = some (.int .i64 x.2.1) ∧ (oc l)[i * 3 + 2]? = some (.int .i64 x.2.2) := by
  induction l with
  | nil => intro i h; cases h
  | cons y l ih =>
    intro i h
    cases i with
    | zero => simp at h; subst h; exact ⟨rfl, rfl, rfl⟩
    | succ i =>
      have := ih (by simpa using h)
      rw [show (i + 1) * 3 = i * 3 + 3 by omega]
      exact this
theorem oc_set {l : List On} {x : On} : ∀ {i : Nat}, i < l.length → (((oc l).set (i * 3) (.int .i64 x.1)).set (i * 3 + 1) (.int .i64 x.2.1)).set (i * 3 + 2) (.int .i64 x.2.2) = oc (l.set i x) := by
  induction l with
  | nil => intro i h; cases h
  | cons y l ih =>
    intro i h
    cases i with
    | zero => rfl
    | succ i =>
      rw [show (i + 1) * 3 = i * 3 + 3 by omega]
      have := ih (i := i) (by simpa using h)
      simp only [oc, oc1, List.cons_append, List.nil_append, List.set_cons_succ]
      rw [← this]
theorem oc_take (l : List On) (i : Nat) : oc (l.take i) = (oc l).take (i * 3) := by
  induction l generalizing i with
  | nil => simp [oc]
  | cons x l ih =>
    cases i with
    | zero => rfl
    | succ i =>
      rw [show (i + 1) * 3 = i * 3 + 3 by omega]
      simp only [List.take_succ_cons, oc, oc1, List.cons_append, List.nil_append]
      rw [ih]
theorem oc_drop (l : List On) (i : Nat) : oc (l.drop i) = (oc l).drop (i * 3) := by
  induction l generalizing i with
  | nil => simp [oc]
  | cons x l ih =>
    cases i with
    | zero => rfl
    | succ i =>
      rw [show (i + 1) * 3 = i * 3 + 3 by omega]
      simp only [List.drop_succ_cons, oc, oc1, List.cons_append, List.nil_append]
      exact ih i
/-- All that stands, in a row of its own. -/
def R9 (W : World) (v : Value) (ws : List On) : Prop := RowW W 55 3 v ws.length (oc ws)
theorem R9.cells {W : World} {v : Value} {ws : List On} (h : R9 W v ws) : ∃ ao cap, v = .slice ao ws.length cap ∧ ∀ i x, ws[i]? = some x → ∃ g, ao = some ⟨g, 0, none⟩ ∧ W.cell? ⟨g, i * 3, none⟩ = some (.int .i64 x.1) ∧ W.cell? ⟨g, i * 3 + 1, none⟩ = some (.int .i64 x.2.1) ∧ W.cell? ⟨g, i * 3 + 2, none⟩ = some (.int .i64 x.2.2) := by
  unfold R9 at h
  obtain ⟨ao, cap, rfl⟩ := h.form
  refine ⟨ao, cap, rfl, fun i x hx => ?_⟩
  obtain ⟨g, cap', e⟩ := h.led (by have := (List.getElem?_eq_some_iff.1 hx).1; omega)
  cases e
  obtain ⟨a1, a2, a3⟩ := oc_at hx
  exact ⟨g, rfl, h.cell a1, h.cell a2, h.cell a3⟩
theorem R9.nil (W : World) : R9 W (.slice none 0 0) [] := RowW.empty _ _ _
theorem R9.below {W W' : World} {v : Value} {ws : List On} (h : R9 W v ws) (hb : Below W.heap.size W W') : R9 W' v ws := RowW.kept h fun q hq => hb.block q (RowW.lt h hq)
set_option maxRecDepth 100000 in
theorem eqOne (a b c a' b' c' : Int) (w : World) : (Op.equalIn 10000 55 (.agg #[.int .i64 a, .int .i64 b, .int .i64 c]) (.agg #[.int .i64 a', .int .i64 b', .int .i64 c'])).run Try.prog w = .ok (decide (((a, b, c) : On) = (a', b', c'))) w := by
  have u3 := Try.underlying3
  have a3 := Try.isAgg3
  have z3 := Try.sizeOf3
  rw [show (10000 : Nat) = 9999 + 1 from rfl, Op.equalIn]
  simp only [Sem.run_bind, run_underlying Try.underlying55, Result.andThen_ok]
  go_simp
  by_cases h1 : a = a' <;> by_cases h2 : b = b' <;> by_cases h3 : c = c' <;> simp [h1, h2, h3]
theorem eqOneB (a b c a' b' c' : Int) (r : Bool) (h : decide (((a, b, c) : On) = (a', b', c')) = r) (w : World) : (binOp BinOp.eql 55 (.agg #[.int .i64 a, .int .i64 b, .int .i64 c]) (.agg #[.int .i64 a', .int .i64 b', .int .i64 c'])).run Try.prog w = .ok (.bool r) w := by
  subst h
  have h := eqOne a b c a' b' c' w
  unfold binOp
  simp only [Op.equal, Op.maxDepth, Sem.run_bind, h, Result.andThen_ok, Sem.run_pure]
set_option maxRecDepth 100000 in
set_option maxHeartbeats 1600000 in
theorem rat9_any {w : World} {u : Value} {ws : List On} (h : R9 w u ws) (hl : ws.length ≤ 10000) (v l e : Int) : Calls Try.prog 17 #[u, .agg #[.int .i64 v, .int .i64 l, .int .i64 e]] w fun r w' => r = .returned (.int .i64 (atW ws (v, l, e))) ∧ Below w.heap.size w w' := by
  have hB := (Below.refl w.heap.size w).alloc (Nat.le_refl _) (.cells #[.int .i64 v, .int .i64 l, .int .i64 e] 55)
  obtain ⟨ao, cap, rfl, hc⟩ := (h.below hB).cells
  obtain ⟨X, hX⟩ : ∃ X, X = w.alloc (.cells #[.int .i64 v, .int .i64 l, .int .i64 e] 55) := ⟨_, rfl⟩
  have hbx : Blk X w.heap.size 55 #[.int .i64 v, .int .i64 l, .int .i64 e] := by rw [hX]; exact Blk.new w _ _
  have b0 : X.cell? ⟨w.heap.size, 0, none⟩ = some (.int .i64 v) := hbx.at rfl
  have b1 : X.cell? ⟨w.heap.size, 1, none⟩ = some (.int .i64 l) := hbx.at rfl
  have b2 : X.cell? ⟨w.heap.size, 2, none⟩ = some (.int .i64 e) := hbx.at rfl
  rw [← hX] at hc hB
  have HC := hid_mk hc
  have HB := hid_mk hB
  obtain ⟨n, hn⟩ : ∃ n, n = ws.length := ⟨_, rfl⟩
  have HN := hid_mk hn
  rw [← hn] at hl ⊢
  clear hc hn h hB hbx
  go_enter Try.func17, Try.ntmps17
  go_upto_region 2 with fail
  rw [← hX]
  clear hX
  go_loopw [5] (fun vi wr => ∃ i : Nat, vi = .int .i64 i ∧ i ≤ n ∧ (∃ nq, wr = X.drewN nq) ∧ Hid (∀ j, j < i → ws[j]? ≠ some (v, l, e))) (fun vi _ => n - (intOf vi).toNat)
  case atStart => exact ⟨0, rfl, Nat.zero_le _, ⟨0, rfl⟩, fun j hj => absurd hj (Nat.not_lt_zero j)⟩
  case round =>
    obtain ⟨i, rfl, hin, ⟨nq, rfl⟩, HJ⟩ := hrel
    by_cases hlt : i < n
    · obtain ⟨x, hx⟩ : ∃ x, ws[i]? = some x := ⟨_, List.getElem?_eq_getElem (by rw [← HN.out]; exact hlt)⟩
      obtain ⟨g, rfl, d0, d1, d2⟩ := HC.out i x hx
      have HX := hid_mk hx
      have hlti : (i : Int) < (n : Int) := by omega
      obtain ⟨x1, x2, x3⟩ := x
      simp only at d0 d1 d2
      clear hx
      by_cases hq : ((x1, x2, x3) : On) = (v, l, e)
      · have hres : Hid (atW ws (v, l, e) = (i : Int)) := by
          have hxe := HX.out
          rw [hq] at hxe
          have h1 := atW_hit hxe HJ.out
          show atW ws (v, l, e) = (i : Int)
          rw [atW_yes (List.mem_of_getElem? hxe), h1]
        obtain ⟨rfl, rfl, rfl⟩ : x1 = v ∧ x2 = l ∧ x3 = e := by simpa using hq
        clear hq
        go_wp2
        go_quiet (fail)
        go_wp2
        go_ret
        exact ⟨ret_of (by first | (rw [hres.out]; done) | (rw [hres.out]; rfl)), below_drewN (below_drewN HB.out _) _⟩
      · have HJ2 : Hid (∀ j, j < i + 1 → ws[j]? ≠ some (v, l, e)) := fun j hj => by
          rcases Nat.lt_or_ge j i with k | k
          · exact HJ.out j k
          · obtain rfl : j = i := by omega
            rw [HX.out]; exact fun k => hq (Option.some.inj k)
        have hw3 : (¬ x1 = v) ∨ (x1 = v ∧ ¬ x2 = l) ∨ (x1 = v ∧ x2 = l ∧ ¬ x3 = e) := by
          by_cases k1 : x1 = v
          · by_cases k2 : x2 = l
            · exact .inr (.inr ⟨k1, k2, fun k3 => hq (by rw [k1, k2, k3])⟩)
            · exact .inr (.inl ⟨k1, k2⟩)
          · exact .inl k1
        clear hq
        rcases hw3 with k1 | ⟨rfl, k1⟩ | ⟨rfl, rfl, k1⟩
        · go_wp2
          go_quiet (fail)
          go_wp2
          go_roundw
          case rel => exact ⟨i + 1, by go_num, by omega, ⟨_, rfl⟩, HJ2.out⟩
          case measure => simp [intOf]; omega
        · go_wp2
          go_quiet (fail)
          go_wp2
          go_roundw
          case rel => exact ⟨i + 1, by go_num, by omega, ⟨_, rfl⟩, HJ2.out⟩
          case measure => simp [intOf]; omega
        · go_wp2
          go_quiet (fail)
          go_wp2
          go_roundw
          case rel => exact ⟨i + 1, by go_num, by omega, ⟨_, rfl⟩, HJ2.out⟩
          case measure => simp [intOf]; omega
    · obtain rfl : i = n := by omega
      have hres : Hid (atW ws (v, l, e) = -1) := atW_no fun hm => by
        obtain ⟨j, hj, e1⟩ := List.getElem_of_mem hm
        exact HJ.out j (by rw [HN.out]; exact hj) (by rw [List.getElem?_eq_getElem hj, e1])
      clear HJ
      go_wp2
      go_ret
      exact ⟨ret_of (by first | (rw [hres.out]; done) | (rw [hres.out]; rfl)), below_drewN HB.out _⟩
theorem ofW_snoc {ws : List On} {i : Nat} {x : On} (h : ws[i]? = some x) (a : Int × Int) : ofW (ws.take (i + 1)) a = ofW (ws.take i) a ++ (if onK x = a then [x.2.2] else []) := by
  have h1 : ws.take (i + 1) = ws.take i ++ [x] := by
    rw [List.take_add_one, h]; rfl
  rw [h1, ofW_append, ofW_cons]
  simp [ofW]
theorem ofW_le (ws : List On) (a : Int × Int) : (ofW ws a).length ≤ ws.length := by
  unfold ofW
  rw [List.length_map]
  exact List.length_filter_le _ _
set_option maxRecDepth 100000 in
set_option maxHeartbeats 1600000 in
theorem rof9_any {w : World} {u : Value} {ws : List On} (h : R9 w u ws) (hl : ws.length ≤ 10000) (v l : Int) : Calls Try.prog 22 #[u, .int .i64 v, .int .i64 l] w fun r w' => ∃ ao cap, r = .returned (.slice ao (ofW ws (v, l)).length cap) ∧ NAt .i64 w' ao (ofW ws (v, l)) ∧ Below w.heap.size w w' := by
  obtain ⟨ao, cap, rfl, hc⟩ := h.cells
  have HC := hid_mk hc
  obtain ⟨i0, hi, hz0, hz1, hz2⟩ := info_parts infoI6
  obtain ⟨n, hn⟩ : ∃ n, n = ws.length := ⟨_, rfl⟩
  have HN := hid_mk hn
  rw [← hn] at hl ⊢
  have H0 : Hid (RowW w 3 1 (.slice none 0 0) (ofW (ws.take 0) (v, l)).length (i6s (ofW (ws.take 0) (v, l)))) := RowW.empty _ _ _
  clear hc hn h
  go_enter Try.func22, Try.ntmps22
  go_wp2
  go_loopw [7, 8] (fun vo vi wr => ∃ i : Nat, vi = .int .i64 i ∧ i ≤ n ∧ Hid (RowW wr 3 1 vo (ofW (ws.take i) (v, l)).length (i6s (ofW (ws.take i) (v, l)))) ∧ Hid (∀ q, vo.ownBlock = some q → w.heap.size ≤ q) ∧ Below w.heap.size w wr) (fun vo vi _ => n - (intOf vi).toNat)
  case atStart => exact ⟨0, rfl, Nat.zero_le _, H0.out, fun q hq => (by cases hq), Below.refl _ _⟩
  case round =>
    obtain ⟨i, rfl, hin, HR, HF, hB⟩ := hrel
    by_cases hlt : i < n
    · obtain ⟨x, hx⟩ : ∃ x, ws[i]? = some x := ⟨_, List.getElem?_eq_getElem (by rw [← HN.out]; exact hlt)⟩
      obtain ⟨g, rfl, d0, d1, d2⟩ := HC.out i x hx
      have hlti : (i : Int) < (n : Int) := by omega
      have hsn := ofW_snoc hx (v, l)
      obtain ⟨x1, x2, x3⟩ := x
      simp only at d0 d1 d2
      have e0 : _ = some (Value.int .i64 x1) := (hB.cell (p := ⟨g, i * 3, none⟩) (cell_lt d0)).trans d0
      have e1 : _ = some (Value.int .i64 x2) := (hB.cell (p := ⟨g, i * 3 + 1, none⟩) (cell_lt d1)).trans d1
      have e2 : _ = some (Value.int .i64 x3) := (hB.cell (p := ⟨g, i * 3 + 2, none⟩) (cell_lt d2)).trans d2
      clear d0 d1 d2 hx
      rcases (show (¬ x1 = v) ∨ (x1 = v ∧ ¬ x2 = l) ∨ (x1 = v ∧ x2 = l) by by_cases k1 : x1 = v <;> by_cases k2 : x2 = l <;> simp [k1, k2]) with k1 | ⟨rfl, k1⟩ | ⟨rfl, rfl⟩
      · have hk : ¬ ((x1, x2) : Int × Int) = (v, l) := fun e => k1 (by cases e; rfl)
        rw [if_neg (show ¬ onK (x1, x2, x3) = _ from hk), List.append_nil] at hsn
        have HS := hid_mk hsn
        clear hsn hk
        go_wp2
        go_roundw
        case rel => exact ⟨i + 1, by go_num, by omega, by rw [HS.out]; exact HR.out, HF.out, hB⟩
        case measure => simp [intOf]; omega
      · have hk : ¬ ((x1, x2) : Int × Int) = (x1, l) := fun e => k1 (by cases e; rfl)
        rw [if_neg (show ¬ onK (x1, x2, x3) = _ from hk), List.append_nil] at hsn
        have HS := hid_mk hsn
        clear hsn hk
        go_wp2
        go_roundw
        case rel => exact ⟨i + 1, by go_num, by omega, by rw [HS.out]; exact HR.out, HF.out, hB⟩
        case measure => simp [intOf]; omega
      · rw [if_pos (show onK (x1, x2, x3) = (x1, x2) from rfl)] at hsn
        have HS := hid_mk hsn
        have hlen : (ofW (ws.take i) (x1, x2)).length ≤ 10000 := by
          have := ofW_le (ws.take i) (x1, x2)
          rw [List.length_take] at this
          have := HN.out; omega
        obtain ⟨q, hq⟩ : ∃ q, q = (ofW (ws.take i) (x1, x2)).length := ⟨_, rfl⟩
        have HQ := hid_mk hq
        rw [← hq] at hlen HR
        have HRa : Hid (RowW (wr.alloc (.cells #[.int .i64 x3] 3)) 3 1 u7 q (i6s (ofW (ws.take i) (x1, x2)))) := HR.out.kept fun q hq => heap_alloc_old _ _ q (HR.out.lt hq)
        clear hsn hq
        go_wp2_with (at_builtin; refine wpList_append_any _ rfl _ _ 33 rfl 3 i0 (.int .i64 0) 1 8 Try.underlying33 hi hz0 hz1 hz2 rfl _ q _ rfl HRa.out _ 1 [.int .i64 x3] rfl (SrcW.new wr 3 [.int .i64 x3] (by simp [Value.oneCell'])) (q + 1) rfl (i6s (ofW (ws.take i) (x1, x2)) ++ [.int .i64 x3]) rfl (by unfold maxLen; omega) (by omega) ?_)
        intro ao2 cap2 w2 hown hgrow hat
        have hB2 : Below w.heap.size w w2 := ((hB.alloc hB.size _).grown hgrow (by have := hB.size; simp; omega) (fun r hr => HF.out r hr))
        have HR2 : Hid (RowW w2 3 1 (.slice ao2 (q + 1) cap2) (ofW (ws.take (i + 1)) (x1, x2)).length (i6s (ofW (ws.take (i + 1)) (x1, x2)))) := by
          rw [HS.out, List.length_append, ← HQ.out, i6s_snoc]; exact hown
        have HF2 : Hid (∀ r, (Value.slice ao2 (q + 1) cap2).ownBlock = some r → w.heap.size ≤ r) := fun r hr => (hat r hr).elim (HF.out r) (fun h => by have := hB.size; first | omega | (simp at h; omega))
        clear hown hgrow hat hB HRa HR HF HS
        go_wp2
        go_roundw
        case rel => exact ⟨i + 1, by go_num, by omega, HR2.out, HF2.out, hB2⟩
        case measure => simp [intOf]; omega
    · obtain rfl : i = n := by omega
      have HR' := HR.out
      rw [HN.out, List.take_length] at HR'
      obtain ⟨ao3, cap3, rfl⟩ := HR'.form
      have HNt := hid_mk (HR'.nat6 rfl)
      clear HR HR' HF
      go_wp2
      go_ret
      exact ⟨_, _, rfl, HNt.out, hB⟩
set_option maxHeartbeats 800000 in
theorem rput9_arg (u : Value) {v l e : Int} (h : l < 0 ∨ 63 < l ∨ e < 1) (w : World) : Calls Try.prog 18 #[u, .agg #[.int .i64 v, .int .i64 l, .int .i64 e]] w fun r w' => r = .returned (.tuple #[u, .int .i64 1]) ∧ Below w.heap.size w w' := by
  have hB := (Below.refl w.heap.size w).alloc (Nat.le_refl _) (.cells #[.int .i64 v, .int .i64 l, .int .i64 e] 55)
  have hbx := Blk.new w 55 #[.int .i64 v, .int .i64 l, .int .i64 e]
  have b0 : (w.alloc (.cells #[.int .i64 v, .int .i64 l, .int .i64 e] 55)).cell? ⟨w.heap.size, 0, none⟩ = some (.int .i64 v) := hbx.at rfl
  have b1 : (w.alloc (.cells #[.int .i64 v, .int .i64 l, .int .i64 e] 55)).cell? ⟨w.heap.size, 1, none⟩ = some (.int .i64 l) := hbx.at rfl
  have b2 : (w.alloc (.cells #[.int .i64 v, .int .i64 l, .int .i64 e] 55)).cell? ⟨w.heap.size, 2, none⟩ = some (.int .i64 e) := hbx.at rfl
  have HB := hid_mk hB
  clear hB hbx
  rcases (show l < 0 ∨ (¬ l < 0 ∧ 63 < l) ∨ (¬ l < 0 ∧ ¬ 63 < l ∧ e < 1) by omega) with k | ⟨k1, k⟩ | ⟨k1, k2, k⟩
  · go_enter Try.func18, Try.ntmps18
    go_wp2
    go_ret2
    exact ⟨rfl, HB.out⟩
  · go_enter Try.func18, Try.ntmps18
    go_wp2
    go_ret2
    exact ⟨rfl, HB.out⟩
  · go_enter Try.func18, Try.ntmps18
    go_wp2
    go_ret2
    exact ⟨rfl, HB.out⟩
section
variable {w : World} {u : Value} {ws : List On}
set_option maxHeartbeats 800000 in
theorem rput9_there (h : R9 w u ws) (hl : ws.length ≤ 10000) {v l e : Int} (h0 : 0 ≤ l) (h1 : l ≤ 63) (h2 : 1 ≤ e) (hm : (v, l, e) ∈ ws) : Calls Try.prog 18 #[u, .agg #[.int .i64 v, .int .i64 l, .int .i64 e]] w fun r w' => r = .returned (.tuple #[u, .int .i64 5]) ∧ Below w.heap.size w w' := by
  have hB := (Below.refl w.heap.size w).alloc (Nat.le_refl _) (.cells #[.int .i64 v, .int .i64 l, .int .i64 e] 55)
  have hbx := Blk.new w 55 #[.int .i64 v, .int .i64 l, .int .i64 e]
  have b0 : (w.alloc (.cells #[.int .i64 v, .int .i64 l, .int .i64 e] 55)).cell? ⟨w.heap.size, 0, none⟩ = some (.int .i64 v) := hbx.at rfl
  have b1 : (w.alloc (.cells #[.int .i64 v, .int .i64 l, .int .i64 e] 55)).cell? ⟨w.heap.size, 1, none⟩ = some (.int .i64 l) := hbx.at rfl
  have b2 : (w.alloc (.cells #[.int .i64 v, .int .i64 l, .int .i64 e] 55)).cell? ⟨w.heap.size, 2, none⟩ = some (.int .i64 e) := hbx.at rfl
  have HA := hid_mk (rat9_any (h.below hB) hl v l e)
  obtain ⟨j, hj⟩ : ∃ j : Nat, atW ws (v, l, e) = j := ⟨_, atW_yes hm⟩
  rw [hj] at HA
  have HB := hid_mk hB
  have hBs : w.heap.size ≤ (w.alloc (.cells #[.int .i64 v, .int .i64 l, .int .i64 e] 55)).heap.size := hB.size
  have n1 : ¬ l < 0 := by omega
  have n2 : ¬ 63 < l := by omega
  have n3 : ¬ e < 1 := by omega
  clear hB hbx h hm hj
  go_enter Try.func18, Try.ntmps18
  go_wp2_with fail
  refine HA.out.mono ?_
  rintro x w1 ⟨rfl, hb⟩
  have HB1 := hid_mk (HB.out.trans (hb.mono hBs))
  clear hb
  go_wp2
  go_ret2
  exact ⟨rfl, HB1.out⟩
set_option maxRecDepth 100000 in
set_option maxHeartbeats 3200000 in
theorem rput9_ok (h : R9 w u ws) (hl : ws.length ≤ 10000) {v l e : Int} (h0 : 0 ≤ l) (h1 : l ≤ 63) (h2 : 1 ≤ e) (hm : (v, l, e) ∉ ws) : Calls Try.prog 18 #[u, .agg #[.int .i64 v, .int .i64 l, .int .i64 e]] w fun r w' => ∃ ao cap, r = .returned (.tuple #[.slice ao (ws.length + 1) cap, .int .i64 0]) ∧ RowW w' 55 3 (.slice ao (ws.length + 1) cap) (ws.length + 1) (oc (ws ++ [(v, l, e)])) ∧ (∀ q, (Value.slice ao (ws.length + 1) cap).ownBlock = some q → w.heap.size ≤ q) ∧ Below w.heap.size w w' := by
  have hB := (Below.refl w.heap.size w).alloc (Nat.le_refl _) (.cells #[.int .i64 v, .int .i64 l, .int .i64 e] 55)
  have hbx := Blk.new w 55 #[.int .i64 v, .int .i64 l, .int .i64 e]
  have b0 : (w.alloc (.cells #[.int .i64 v, .int .i64 l, .int .i64 e] 55)).cell? ⟨w.heap.size, 0, none⟩ = some (.int .i64 v) := hbx.at rfl
  have b1 : (w.alloc (.cells #[.int .i64 v, .int .i64 l, .int .i64 e] 55)).cell? ⟨w.heap.size, 1, none⟩ = some (.int .i64 l) := hbx.at rfl
  have b2 : (w.alloc (.cells #[.int .i64 v, .int .i64 l, .int .i64 e] 55)).cell? ⟨w.heap.size, 2, none⟩ = some (.int .i64 e) := hbx.at rfl
  have HA := hid_mk (rat9_any (h.below hB) hl v l e)
  rw [atW_no hm] at HA
  have HB := hid_mk hB
  have hBs : w.heap.size < (w.alloc (.cells #[.int .i64 v, .int .i64 l, .int .i64 e] 55)).heap.size := hbx.lt
  have HBx := hid_mk hbx
  have HR := hid_mk (h.below hB)
  have n1 : ¬ l < 0 := by omega
  have n2 : ¬ 63 < l := by omega
  have n3 : ¬ e < 1 := by omega
  obtain ⟨i0, hi, hz0, hz1, hz2⟩ := info_parts infoOne
  clear hB hbx h hm
  go_enter Try.func18, Try.ntmps18
  go_wp2_with fail
  refine HA.out.mono ?_
  rintro x X ⟨rfl, hb⟩
  have HBX := hid_mk (HB.out.trans (hb.mono (Nat.le_of_lt hBs)))
  have HRX := hid_mk (HR.out.below hb)
  have hbX := HBx.out.below hb
  have c0 : X.cell? ⟨w.heap.size, 0, none⟩ = some (.int .i64 v) := hbX.at rfl
  have c1 : X.cell? ⟨w.heap.size, 1, none⟩ = some (.int .i64 l) := hbX.at rfl
  have c2 : X.cell? ⟨w.heap.size, 2, none⟩ = some (.int .i64 e) := hbX.at rfl
  have hwX := hbX.lt
  have HSr : Hid (∀ A, Below X.heap.size X A → SrcW A 3 u ws.length (oc ws)) := fun A hA => SrcW.of_row (RowW.kept HRX.out fun q hq => hA.block q (RowW.lt HRX.out hq)) (oc_one ws)
  obtain ⟨n, hn⟩ : ∃ n, n = ws.length := ⟨_, rfl⟩
  have HN := hid_mk hn
  rw [← hn] at hl HSr
  clear hb b0 b1 b2 HB HA HBx hbX HR HRX hn
  go_wp2_with fail
  have hne1 := World.new_ne X _ c0
  have hx3 : ∀ x ∈ [Value.int .i64 v, .int .i64 l, .int .i64 e], x.oneCell' = true := by simp [Value.oneCell']
  have HX3 := hid_mk hx3
  clear hx3
  go_region_held3 (fun w' => w'.cell? ⟨w.heap.size, 0, none⟩ = some (.int .i64 v) ∧ w'.cell? ⟨w.heap.size, 1, none⟩ = some (.int .i64 l) ∧ w'.cell? ⟨w.heap.size, 2, none⟩ = some (.int .i64 e))
    (first | go_keep | (go_split_ands; assumption))
    (first
      | (refine step_append_any _ (by rfl) (.tmp 25) (.tmp 26) 51 (by rfl) 55 i0 (.agg #[.int .i64 0, .int .i64 0, .int .i64 0]) 3 24 Try.underlying51 hi hz0 hz1 hz2 rfl _ 0 [] (by rfl) (by first | exact row_e1 X _ 3 | exact row_e2 X _ 3 _ | exact row_e3 X _ 3 _) u n (oc ws) (by rfl) (HSr.out _ (by first | exact ((Below.refl _ _).alloc (Nat.le_refl _) _).drew | exact (((Below.refl _ _).alloc (Nat.le_refl _) _).alloc (by simp) _).drew)) n (by omega) (oc ws) (by simp) (by unfold maxLen; omega) (by omega) ?_; intro ao3 cap3 w3 hown3 hgrow3 hat3; have hb3 := fresh1 (X := X) hgrow3 (by first | exact ((Below.refl _ _).alloc (Nat.le_refl _) _).drew | exact (((Below.refl _ _).alloc (Nat.le_refl _) _).alloc (by simp) _).drew) (by intro q hq; cases hq; first | exact Nat.le_refl _ | exact Nat.le_succ _); have k0 := (hb3.cell (p := ⟨w.heap.size, 0, none⟩) hwX).trans c0; have k1 := (hb3.cell (p := ⟨w.heap.size, 1, none⟩) hwX).trans c1; have k2 := (hb3.cell (p := ⟨w.heap.size, 2, none⟩) hwX).trans c2; have hF3 : ∀ q, (Value.slice ao3 n cap3).ownBlock = some q → X.heap.size ≤ q := (fun q hq => (hat3 q hq).elim (fun h => (by cases h; first | exact Nat.le_refl _ | exact Nat.le_succ _)) (fun h => (by first | omega | (simp at h; omega)))); have hbk3 := fun b e cs (hb : Blk _ b e cs) (hne : some b ≠ _) => Blk.kept hb hgrow3 hne)
      | (refine step_append_any _ (by rfl) (.tmp 27) (.tmp 29) 51 (by rfl) 55 i0 (.agg #[.int .i64 0, .int .i64 0, .int .i64 0]) 3 24 Try.underlying51 hi hz0 hz1 hz2 rfl (.slice ao3 n cap3) n (oc ws) (by rfl) (by first | exact hown3 | exact RowW.kept hown3 fun q hq => heap_alloc_old _ _ q (RowW.lt hown3 hq)) _ 1 [.int .i64 v, .int .i64 l, .int .i64 e] (by rfl) (by first | exact SrcW.new w3 _ [.int .i64 v, .int .i64 l, .int .i64 e] HX3.out | exact SrcW.blk (cs := [.int .i64 v, .int .i64 l, .int .i64 e]) (hbk3 _ _ _ (blk_2 X _ _ _) (fun h => absurd (show X.heap.size + 1 = X.heap.size from Option.some.inj h) (by omega))) HX3.out | exact SrcW.blk (cs := [.int .i64 v, .int .i64 l, .int .i64 e]) (hbk3 _ _ _ (blk_1 X _ _ _) (fun h => absurd (show X.heap.size = X.heap.size + 1 from Option.some.inj h) (by omega))) HX3.out) (n + 1) rfl (oc ws ++ [.int .i64 v, .int .i64 l, .int .i64 e]) rfl (by unfold maxLen; omega) (by omega) ?_; intro ao4 cap4 w4 hown4 hgrow4 hat4; have hb4 := fresh3 (X := X) hb3 hgrow4 (by first | exact Below.refl _ _ | exact (Below.refl _ _).alloc (Nat.le_refl _) _) hF3; have k0' := (hb4.cell (p := ⟨w.heap.size, 0, none⟩) hwX).trans c0; have k1' := (hb4.cell (p := ⟨w.heap.size, 1, none⟩) hwX).trans c1; have k2' := (hb4.cell (p := ⟨w.heap.size, 2, none⟩) hwX).trans c2; have hF4 : ∀ q, (Value.slice ao4 (n + 1) cap4).ownBlock = some q → X.heap.size ≤ q := (fun q hq => (hat4 q hq).elim (hF3 q) (fun h => (by have := hb3.size; first | omega | (simp at h; omega)))))
      | fail)
  all_goals rename_i hHeld
  all_goals clear hHeld
  all_goals (have HO4 : Hid (RowW w4 55 3 (.slice ao4 (n + 1) cap4) (n + 1) (oc (ws ++ [(v, l, e)]))) := by rw [oc_app]; exact hown4)
  all_goals (have HF4 : Hid ((∀ q, (Value.slice ao4 (n + 1) cap4).ownBlock = some q → w.heap.size ≤ q) ∧ Below w.heap.size w w4) := ⟨fun q hq => by have := hF4 q hq; omega, HBX.out.trans (hb4.mono (by omega))⟩)
  all_goals clear hown3 hgrow3 hat3 hb3 k0 k1 k2 hF3 hbk3 hown4 hgrow4 hat4 hb4 k0' k1' k2' hF4 c0 c1 c2 HX3 HSr HBX hne1
  all_goals go_wp2
  all_goals go_ret2
  all_goals exact ⟨ao4, cap4, by first | (rw [← HN.out]; done) | (rw [← HN.out]; rfl), by rw [← HN.out]; exact HO4.out, by rw [← HN.out]; exact HF4.out.1, HF4.out.2⟩
set_option maxHeartbeats 800000 in
theorem rtake9_no (h : R9 w u ws) (hl : ws.length ≤ 10000) {v l e : Int} (hm : (v, l, e) ∉ ws) : Calls Try.prog 20 #[u, .agg #[.int .i64 v, .int .i64 l, .int .i64 e]] w fun r w' => r = .returned (.tuple #[u, .bool false]) ∧ Below w.heap.size w w' := by
  have hB := (Below.refl w.heap.size w).alloc (Nat.le_refl _) (.cells #[.int .i64 v, .int .i64 l, .int .i64 e] 55)
  have hbx := Blk.new w 55 #[.int .i64 v, .int .i64 l, .int .i64 e]
  have b0 : (w.alloc (.cells #[.int .i64 v, .int .i64 l, .int .i64 e] 55)).cell? ⟨w.heap.size, 0, none⟩ = some (.int .i64 v) := hbx.at rfl
  have b1 : (w.alloc (.cells #[.int .i64 v, .int .i64 l, .int .i64 e] 55)).cell? ⟨w.heap.size, 1, none⟩ = some (.int .i64 l) := hbx.at rfl
  have b2 : (w.alloc (.cells #[.int .i64 v, .int .i64 l, .int .i64 e] 55)).cell? ⟨w.heap.size, 2, none⟩ = some (.int .i64 e) := hbx.at rfl
  have HA := hid_mk (rat9_any (h.below hB) hl v l e)
  rw [atW_no hm] at HA
  have HB := hid_mk hB
  have hBs : w.heap.size ≤ (w.alloc (.cells #[.int .i64 v, .int .i64 l, .int .i64 e] 55)).heap.size := hB.size
  clear hB hbx h hm
  go_enter Try.func20, Try.ntmps20
  go_wp2_with fail
  refine HA.out.mono ?_
  rintro x w1 ⟨rfl, hb⟩
  have HB1 := hid_mk (HB.out.trans (hb.mono hBs))
  clear hb
  go_wp2
  go_ret2
  exact ⟨rfl, HB1.out⟩
set_option maxRecDepth 100000 in
set_option maxHeartbeats 3200000 in
theorem rtake9_yes (h : R9 w u ws) (hl : ws.length ≤ 10000) {v l e : Int} (hm : (v, l, e) ∈ ws) : Calls Try.prog 20 #[u, .agg #[.int .i64 v, .int .i64 l, .int .i64 e]] w fun r w' => ∃ ao cap, r = .returned (.tuple #[.slice ao (ws.length - 1) cap, .bool true]) ∧ RowW w' 55 3 (.slice ao (ws.length - 1) cap) (ws.length - 1) (oc (takeW ws (v, l, e))) ∧ (∀ q, (Value.slice ao (ws.length - 1) cap).ownBlock = some q → w.heap.size ≤ q) ∧ Below w.heap.size w w' := by
  have hB := (Below.refl w.heap.size w).alloc (Nat.le_refl _) (.cells #[.int .i64 v, .int .i64 l, .int .i64 e] 55)
  have hbx := Blk.new w 55 #[.int .i64 v, .int .i64 l, .int .i64 e]
  have b0 : (w.alloc (.cells #[.int .i64 v, .int .i64 l, .int .i64 e] 55)).cell? ⟨w.heap.size, 0, none⟩ = some (.int .i64 v) := hbx.at rfl
  have b1 : (w.alloc (.cells #[.int .i64 v, .int .i64 l, .int .i64 e] 55)).cell? ⟨w.heap.size, 1, none⟩ = some (.int .i64 l) := hbx.at rfl
  have b2 : (w.alloc (.cells #[.int .i64 v, .int .i64 l, .int .i64 e] 55)).cell? ⟨w.heap.size, 2, none⟩ = some (.int .i64 e) := hbx.at rfl
  have HA := hid_mk (rat9_any (h.below hB) hl v l e)
  obtain ⟨a, ha⟩ : ∃ a, a = ws.idxOf (v, l, e) := ⟨_, rfl⟩
  have hal : a < ws.length := by rw [ha]; exact List.idxOf_lt_length_of_mem hm
  have hax : ws[a]? = some (v, l, e) := by rw [ha, List.getElem?_eq_getElem (by rw [← ha]; exact hal)]; simp
  rw [atW_yes hm, ← ha] at HA
  have HB := hid_mk hB
  have hBs : w.heap.size < (w.alloc (.cells #[.int .i64 v, .int .i64 l, .int .i64 e] 55)).heap.size := hbx.lt
  have HBx := hid_mk hbx
  have HR := hid_mk (h.below hB)
  obtain ⟨i0, hi, hz0, hz1, hz2⟩ := info_parts infoOne
  obtain ⟨t, ht⟩ : ∃ t, t = lastTo ws (v, l) a ws.length := ⟨_, rfl⟩
  obtain ⟨t1, t2, _⟩ := lastTo_spec ws (v, l) a ws.length ⟨a, hal, by rw [hax]; rfl⟩
  rw [← ht] at t1 t2
  obtain ⟨y, hy⟩ : ∃ y, ws[t]? = some y := ⟨_, List.getElem?_eq_getElem t1⟩
  have HTk : Hid (takeW ws (v, l, e) = (ws.set a y).take t ++ (ws.set a y).drop (t + 1)) := by
    show takeW ws (v, l, e) = _
    unfold takeW
    rw [← ha, show onK (v, l, e) = (v, l) from rfl, ← ht]
    simp only
    rw [List.getD_eq_getElem?_getD, hy]; rfl
  have HTe := hid_mk ht
  have HY := hid_mk hy
  have HAx := hid_mk hax
  obtain ⟨n, hn⟩ : ∃ n, n = ws.length := ⟨_, rfl⟩
  have HN := hid_mk hn
  rw [← hn] at hl hal t1
  have hui : ∃ ao cap, u = .slice ao n cap := by rw [hn]; exact RowW.form h
  obtain ⟨ao, cap, rfl⟩ := hui
  clear hB hbx h hm ha hax ht hy t2 hn
  go_enter Try.func20, Try.ntmps20
  go_wp2_with fail
  refine HA.out.mono ?_
  rintro x X ⟨rfl, hb⟩
  have HBX := hid_mk (HB.out.trans (hb.mono (Nat.le_of_lt hBs)))
  have HRX := hid_mk (HR.out.below hb)
  have hbX := HBx.out.below hb
  have c0 : X.cell? ⟨w.heap.size, 0, none⟩ = some (.int .i64 v) := hbX.at rfl
  have c1 : X.cell? ⟨w.heap.size, 1, none⟩ = some (.int .i64 l) := hbX.at rfl
  have c2 : X.cell? ⟨w.heap.size, 2, none⟩ = some (.int .i64 e) := hbX.at rfl
  have hwX := hbX.lt
  obtain ⟨ao', cap', e', hc⟩ := HRX.out.cells
  rw [← HN.out] at e'
  cases e'
  have HC := hid_mk hc
  clear hb b0 b1 b2 HB HA HBx hbX HR hc
  go_wp2
  go_loopw [7, 8] (fun v7 v8 wr => ∃ i : Nat, v8 = .int .i64 i ∧ v7 = .int .i64 (lastTo ws (v, l) a i) ∧ i ≤ n ∧ (∃ nq, wr = X.drewN nq)) (fun v7 v8 _ => n - (intOf v8).toNat)
  case atStart => exact ⟨0, rfl, rfl, Nat.zero_le _, ⟨0, rfl⟩⟩
  case round =>
    obtain ⟨i, rfl, rfl, hin, ⟨nq, rfl⟩⟩ := hrel
    by_cases hlt : i < n
    · obtain ⟨x, hx⟩ : ∃ x, ws[i]? = some x := ⟨_, List.getElem?_eq_getElem (by rw [← HN.out]; exact hlt)⟩
      obtain ⟨g, rfl, d0, d1, d2⟩ := HC.out i x hx
      have hlti : (i : Int) < (n : Int) := by omega
      obtain ⟨x1, x2, x3⟩ := x
      simp only at d0 d1 d2
      have hst : lastTo ws (v, l) a (i + 1) = if ((x1, x2) : Int × Int) = (v, l) then i else lastTo ws (v, l) a i := by
        show (if (ws[i]?).map onK = some (v, l) then i else lastTo ws (v, l) a i) = _
        rw [hx]; simp [onK]
      have HST := hid_mk hst
      clear hx hst
      generalize lastTo ws (v, l) a i = z at *
      rcases (show (¬ x1 = v) ∨ (x1 = v ∧ ¬ x2 = l) ∨ (x1 = v ∧ x2 = l) by by_cases k1 : x1 = v <;> by_cases k2 : x2 = l <;> simp [k1, k2]) with k1 | ⟨rfl, k1⟩ | ⟨rfl, rfl⟩
      · have HS : Hid (lastTo ws (v, l) a (i + 1) = z) := by rw [HST.out]; exact if_neg (fun e => k1 (by cases e; rfl))
        clear HST
        go_wp2
        go_quiet (fail)
        go_wp2
        go_roundw
        case rel => exact ⟨i + 1, by go_num, by rw [HS.out], by omega, ⟨_, rfl⟩⟩
        case measure => simp [intOf]; omega
      · have HS : Hid (lastTo ws (x1, l) a (i + 1) = z) := by rw [HST.out]; exact if_neg (fun e => k1 (by cases e; rfl))
        clear HST
        go_wp2
        go_quiet (fail)
        go_wp2
        go_roundw
        case rel => exact ⟨i + 1, by go_num, by rw [HS.out], by omega, ⟨_, rfl⟩⟩
        case measure => simp [intOf]; omega
      · have HS : Hid (lastTo ws (x1, x2) a (i + 1) = i) := by rw [HST.out]; exact if_pos rfl
        clear HST
        go_wp2
        go_quiet (fail)
        go_wp2
        go_roundw
        case rel => exact ⟨i + 1, by go_num, by rw [HS.out], by omega, ⟨_, rfl⟩⟩
        case measure => simp [intOf]; omega
    · obtain rfl : i = n := by omega
      have hte := HTe.out
      rw [← HN.out] at hte
      rw [← hte]
      have HR0 : Hid (R9 (X.drewN nq) (.slice ao i cap) ws) := RowW.kept HRX.out fun _ _ => rfl
      have HBX0 : Hid (Below w.heap.size w (X.drewN nq)) := below_drewN HBX.out nq
      clear hte HRX HBX c0 c1 c2 HC
      have hwX0 : w.heap.size < (X.drewN nq).heap.size := hwX
      clear hwX
      generalize X.drewN nq = A at *
      have hsrc : Hid (SrcW (A.alloc (.cells #[] 55)) 3 (.slice ao i cap) i (oc ws)) := by
        have h1 := SrcW.of_row (RowW.kept HR0.out fun q hq => heap_alloc_old A (.cells #[] 55) q (RowW.lt HR0.out hq)) (oc_one ws)
        rw [← HN.out] at h1; exact h1
      have hHle : i ≤ 10000 := hl
      go_wp2_with (at_builtin; refine wpList_append_any _ rfl _ _ 51 rfl 55 i0 (.agg #[.int .i64 0, .int .i64 0, .int .i64 0]) 3 24 Try.underlying51 hi hz0 hz1 hz2 rfl _ 0 [] rfl (row_e0 A _ 3) _ i (oc ws) rfl hsrc.out i (by omega) (oc ws) (by simp) (by unfold maxLen; omega) (by omega) ?_)
      intro ao2 cap2 w2 hown hgrow hat
      have hb2 : Below w.heap.size w w2 := (HBX0.out.alloc HBX0.out.size (.cells #[] 55)).grown hgrow (by have := HBX0.out.size; simp; omega) (fun r hr => by cases hr; exact HBX0.out.size)
      obtain ⟨g, cap3, e3⟩ := hown.led (by omega)
      cases e3
      have hgw : w.heap.size ≤ g := (hat g rfl).elim (fun h => by cases h; exact HBX0.out.size) (fun h => by have := HBX0.out.size; first | omega | (simp at h; omega))
      obtain ⟨a0, a1, a2⟩ := oc_at HAx.out
      obtain ⟨y0, y1, y2⟩ := oc_at HY.out
      have f0 := hown.frozen (a * 3)
      have f1 := hown.frozen (a * 3 + 1)
      have f2 := hown.frozen (a * 3 + 2)
      have k0 := hown.cell a0
      have k1 := hown.cell a1
      have k2 := hown.cell a2
      have z0 := hown.cell y0
      have z1 := hown.cell y1
      have z2 := hown.cell y2
      obtain ⟨hc1, hc2⟩ := hown.capLe
      have hal' : a * 3 + 2 < i * 3 := by omega
      have hset := ((hown.set (j := a * 3) (by omega) (.int .i64 y.1)).set (j := a * 3 + 1) (by omega) (.int .i64 y.2.1)).set (j := a * 3 + 2) (by omega) (.int .i64 y.2.2)
      rw [oc_set (by rw [← HN.out]; exact hal)] at hset
      have HSET := hid_mk hset
      have hbs : Below w.heap.size w (((w2.setCell ⟨g, a * 3, none⟩ (.int .i64 y.1)).setCell ⟨g, a * 3 + 1, none⟩ (.int .i64 y.2.1)).setCell ⟨g, a * 3 + 2, none⟩ (.int .i64 y.2.2)) := ((hb2.setCell (p := ⟨g, a * 3, none⟩) hgw _).setCell (p := ⟨g, a * 3 + 1, none⟩) hgw _).setCell (p := ⟨g, a * 3 + 2, none⟩) hgw _
      have HBS := hid_mk hbs
      have hai : (a : Int) < (i : Int) := by omega
      have hti : (t : Int) < (i : Int) := by omega
      have hti2 : (t : Int) ≤ (cap2 : Int) := by omega
      have hti3 : (t : Int) + 1 ≤ (i : Int) := by omega
      have hic : (i : Int) ≤ (cap2 : Int) := by omega
      clear hset hbs hb2 hown hgrow hat a0 a1 a2 y0 y1 y2 hsrc HR0 HBX0
      obtain ⟨yv, yl, ye⟩ := y
      simp only at z0 z1 z2 HSET HBS
      go_wp2_with fail
      generalize ((w2.setCell ⟨g, a * 3, none⟩ (.int .i64 yv)).setCell ⟨g, a * 3 + 1, none⟩ (.int .i64 yl)).setCell ⟨g, a * 3 + 2, none⟩ (.int .i64 ye) = W3 at *
      have HYS0 : Hid (oc ((ws.set a (yv, yl, ye)).take t) ++ oc ((ws.set a (yv, yl, ye)).drop (t + 1)) = oc (takeW ws (v, l, e))) := by rw [HTk.out, oc_app]; rfl
      have hsl : (ws.set a (yv, yl, ye)).length = i := by rw [List.length_set]; exact HN.out.symm
      have HS1 : Hid (∀ A, Below W3.heap.size W3 A → SrcW A 3 (.slice (some ⟨g, 0, none⟩) t cap2) t (oc ((ws.set a (yv, yl, ye)).take t))) := fun A hA => by
        have h1 := SrcW.part (RowW.kept HSET.out fun q hq => hA.block q (RowW.lt HSET.out hq)) (oc_one _) 0 t cap2 (by omega)
        rw [oc_take]
        simpa using h1
      have HS2x : Hid (∀ A, Below W3.heap.size W3 A → SrcW A 3 (.slice (some ⟨g, (t + 1) * 3, none⟩) (i - (t + 1)) (cap2 - (t + 1))) (i - (t + 1)) (oc ((ws.set a (yv, yl, ye)).drop (t + 1)))) := fun A hA => by
        have h1 := SrcW.part (RowW.kept HSET.out fun q hq => hA.block q (RowW.lt HSET.out hq)) (oc_one _) (t + 1) (i - (t + 1)) (cap2 - (t + 1)) (by omega)
        rw [oc_drop]
        rwa [List.take_of_length_le (by rw [List.length_drop, oc_len, hsl]; omega)] at h1
      clear k0 k1 k2 z0 z1 z2 f0 f1 f2
      obtain ⟨t1, ht1⟩ : ∃ t1, t1 = t + 1 := ⟨_, rfl⟩
      have HT1 := hid_mk ht1
      have hw1 : IntKind.i64.wrap ((t : Int) + 1) = (t1 : Int) := by rw [ht1]; simp [IntKind.wrap, IntKind.bits, IntKind.signed]; omega
      have hti4 : (t1 : Int) ≤ (i : Int) := by omega
      have HYS := HYS0
      rw [← ht1] at HYS
      clear HYS0
      by_cases hce : cap2 = t + 1
      · have HS2 : Hid (∀ A c, Below W3.heap.size W3 A → SrcW A 3 (.slice (some ⟨g, 0, none⟩) 0 c) 0 (oc ((ws.set a (yv, yl, ye)).drop (t + 1)))) := fun A c hA => by
          have h1 := HS2x.out A hA
          have e0 : i - (t + 1) = 0 := by omega
          rw [e0] at h1
          exact ⟨⟨_, _, rfl, .inl rfl⟩, h1.len, h1.one⟩
        clear HS2x hsl
        obtain rfl : cap2 = t1 := by omega
        obtain rfl : i = cap2 := by omega
        clear hce hic hti4 hti3 ht1
        rw [← HT1.out] at HS2
        go_region_held3 (fun w' => True) (first | trivial | go_keep)
          (first
            | (refine step_append_any _ (by rfl) (.tmp 52) (.tmp 55) 51 (by rfl) 55 i0 (.agg #[.int .i64 0, .int .i64 0, .int .i64 0]) 3 24 Try.underlying51 hi hz0 hz1 hz2 rfl (.slice (some ⟨W3.heap.size, 0, none⟩) 0 0) 0 [] (by rfl) (row_e1 W3 _ 3) (.slice (some ⟨g, 0, none⟩) t i) t (oc ((ws.set a (yv, yl, ye)).take t)) (by rfl) (HS1.out _ ((Below.refl _ _).alloc (Nat.le_refl _) _).drew) t (by omega) (oc ((ws.set a (yv, yl, ye)).take t)) (by simp) (by unfold maxLen; omega) (by omega) ?_; intro ao3 cap3 w4 hown3 hgrow3 hat3; have hb3 := fresh1 (X := W3) hgrow3 ((Below.refl _ _).alloc (Nat.le_refl _) _).drew (by intro q hq; cases hq; exact Nat.le_refl _); have hF3 : ∀ q, (Value.slice ao3 t cap3).ownBlock = some q → W3.heap.size ≤ q := (fun q hq => (hat3 q hq).elim (fun h => (by cases h; exact Nat.le_refl _)) (fun h => (by first | omega | (simp at h; omega)))))
            | (refine step_append_any _ (by rfl) (.tmp 56) (.tmp 60) 51 (by rfl) 55 i0 (.agg #[.int .i64 0, .int .i64 0, .int .i64 0]) 3 24 Try.underlying51 hi hz0 hz1 hz2 rfl (.slice ao3 t cap3) t (oc ((ws.set a (yv, yl, ye)).take t)) (by rfl) hown3 _ 0 (oc ((ws.set a (yv, yl, ye)).drop i)) (by rfl) (HS2.out _ _ hb3) (i - 1) (by have := HT1.out; omega) (oc (takeW ws (v, l, e))) HYS.out (by unfold maxLen; omega) (by omega) ?_; intro ao4 cap4 w5 hown4 hgrow4 hat4; have hb4 := fresh3 (X := W3) hb3 hgrow4 (Below.refl _ _) hF3; have hF4 : ∀ q, (Value.slice ao4 (i - 1) cap4).ownBlock = some q → W3.heap.size ≤ q := (fun q hq => (hat4 q hq).elim (hF3 q) (fun h => (by have := hb3.size; first | omega | (simp at h; omega)))))
            | fail)
        have HO4 : Hid (RowW w5 55 3 (.slice ao4 (i - 1) cap4) (i - 1) (oc (takeW ws (v, l, e)))) := hown4
        have HF4 : Hid ((∀ q, (Value.slice ao4 (i - 1) cap4).ownBlock = some q → w.heap.size ≤ q) ∧ Below w.heap.size w w5) := ⟨fun q hq => by have := hF4 q hq; have := HBS.out.size; omega, HBS.out.trans (hb4.mono HBS.out.size)⟩
        clear hown3 hgrow3 hat3 hb3 hF3 hown4 hgrow4 hat4 hb4 hF4 HS1 HS2 HSET HBS HYS
        go_wp2
        go_ret2
        exact ⟨ao4, cap4, by first | (rw [← HN.out]; done) | (rw [← HN.out]; rfl), by rw [← HN.out]; exact HO4.out, by rw [← HN.out]; exact HF4.out.1, HF4.out.2⟩
      · have HS2 := HS2x
        have hce2 : ¬ cap2 = t1 := by omega
        rw [← HT1.out] at HS2
        clear HS2x hsl hce hti3 ht1
        go_region_held3 (fun w' => True) (first | trivial | go_keep)
          (first
            | (refine step_append_any _ (by rfl) (.tmp 52) (.tmp 55) 51 (by rfl) 55 i0 (.agg #[.int .i64 0, .int .i64 0, .int .i64 0]) 3 24 Try.underlying51 hi hz0 hz1 hz2 rfl (.slice (some ⟨W3.heap.size, 0, none⟩) 0 0) 0 [] (by rfl) (row_e1 W3 _ 3) (.slice (some ⟨g, 0, none⟩) t cap2) t (oc ((ws.set a (yv, yl, ye)).take t)) (by rfl) (HS1.out _ ((Below.refl _ _).alloc (Nat.le_refl _) _).drew) t (by omega) (oc ((ws.set a (yv, yl, ye)).take t)) (by simp) (by unfold maxLen; omega) (by omega) ?_; intro ao3 cap3 w4 hown3 hgrow3 hat3; have hb3 := fresh1 (X := W3) hgrow3 ((Below.refl _ _).alloc (Nat.le_refl _) _).drew (by intro q hq; cases hq; exact Nat.le_refl _); have hF3 : ∀ q, (Value.slice ao3 t cap3).ownBlock = some q → W3.heap.size ≤ q := (fun q hq => (hat3 q hq).elim (fun h => (by cases h; exact Nat.le_refl _)) (fun h => (by first | omega | (simp at h; omega)))))
            | (refine step_append_any _ (by rfl) (.tmp 56) (.tmp 60) 51 (by rfl) 55 i0 (.agg #[.int .i64 0, .int .i64 0, .int .i64 0]) 3 24 Try.underlying51 hi hz0 hz1 hz2 rfl (.slice ao3 t cap3) t (oc ((ws.set a (yv, yl, ye)).take t)) (by rfl) hown3 _ (i - t1) (oc ((ws.set a (yv, yl, ye)).drop t1)) (by rfl) (HS2.out _ hb3) (i - 1) (by have := HT1.out; omega) (oc (takeW ws (v, l, e))) HYS.out (by unfold maxLen; omega) (by omega) ?_; intro ao4 cap4 w5 hown4 hgrow4 hat4; have hb4 := fresh3 (X := W3) hb3 hgrow4 (Below.refl _ _) hF3; have hF4 : ∀ q, (Value.slice ao4 (i - 1) cap4).ownBlock = some q → W3.heap.size ≤ q := (fun q hq => (hat4 q hq).elim (hF3 q) (fun h => (by have := hb3.size; first | omega | (simp at h; omega)))))
            | fail)
        have HO4 : Hid (RowW w5 55 3 (.slice ao4 (i - 1) cap4) (i - 1) (oc (takeW ws (v, l, e)))) := hown4
        have HF4 : Hid ((∀ q, (Value.slice ao4 (i - 1) cap4).ownBlock = some q → w.heap.size ≤ q) ∧ Below w.heap.size w w5) := ⟨fun q hq => by have := hF4 q hq; have := HBS.out.size; omega, HBS.out.trans (hb4.mono HBS.out.size)⟩
        clear hown3 hgrow3 hat3 hb3 hF3 hown4 hgrow4 hat4 hb4 hF4 HS1 HS2 HSET HBS HYS
        go_wp2
        go_ret2
        exact ⟨ao4, cap4, by first | (rw [← HN.out]; done) | (rw [← HN.out]; rfl), by rw [← HN.out]; exact HO4.out, by rw [← HN.out]; exact HF4.out.1, HF4.out.2⟩
end
end Go.Proofs.Ythdmmjboaoonbaa
