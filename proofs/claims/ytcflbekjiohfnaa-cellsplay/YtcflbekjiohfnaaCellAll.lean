/- Set, Fill, Batch by one contract each, whatever they are handed; the statements' helper kinds. -/
import Derived.Test.YtcflbekjiohfnaaCellLaw
namespace Go.Proofs.Ytcflbekjiohfnaa
open Go.RowKit
set_option linter.unusedVariables false

def setL (nk : Int) (L : List Int) (c k : Int) : List Int := if errS nk L.length c k = 0 then put L c k else L
def fillL (nk zw zh : Int) (L : List Int) (x y a b k : Int) : List Int := if errF nk zw zh x y a b k = 0 then puts L (rectE zw x y a.toNat k b.toNat) else L
def batL (nk : Int) (L : List Int) (es : List Ed) : List Int := if errB nk L.length es = 0 then puts L es else L
theorem setL_len (nk : Int) (L : List Int) (c k : Int) : (setL nk L c k).length = L.length := by unfold setL; split <;> simp [put_len]
theorem fillL_len (nk zw zh : Int) (L : List Int) (x y a b k : Int) : (fillL nk zw zh L x y a b k).length = L.length := by unfold fillL; split <;> simp [puts_len]
theorem batL_len (nk : Int) (L : List Int) (es : List Ed) : (batL nk L es).length = L.length := by unfold batL; split <;> simp [puts_len]

set_option maxHeartbeats 400000 in
theorem table_grd {w : World} {B : Nat} {zw zh : Int} {tp : Value} {ks : List Kd} {cl : Int} {ko : Option Addr} {L : List Int} (h : Grd w B zw zh tp ks cl ko L) :
    Calls Try.prog 27 #[.pointer (some ⟨B, 0, none⟩)] w fun e w' => e = .returned tp ∧ w' = w := by
  have c0 : w.cell? ⟨B, 2, none⟩ = some tp := h.blk.at (j := 2) rfl
  clear h
  go_enter Try.func27, Try.ntmps27
  go_wp2
  go_ret
  exact ⟨rfl, rfl⟩
set_option maxHeartbeats 400000 in
theorem table_nil (w : World) : Calls Try.prog 27 #[.pointer none] w fun e w' => e = .returned (.pointer none) ∧ w' = w := by
  go_enter Try.func27, Try.ntmps27
  go_wp2
  go_ret
  exact ⟨rfl, rfl⟩
theorem set_any {w : World} {F : Nat → Prop} {B K T : Nat} {zw zh : Int} {ks : List Kd} {cl : Int} {L : List Int} (h : Own w F B K T zw zh ks cl L) (c k : Int) :
    Calls Try.prog 11 #[.pointer (some ⟨B, 0, none⟩), .int .i64 c, .int .i64 k] w fun e w' => ∃ v, e = .returned (.tuple #[v, .int .i64 (errS ks.length L.length c k)]) ∧ IS w' w.heap.size v (diffs L (setL ks.length L c k)) ∧ Own w' F B K T zw zh ks cl (setL ks.length L c k) ∧ But w.heap.size K w w' := by
  by_cases he : errS ks.length L.length c k = 0
  · rw [show setL ks.length L c k = put L c k from by unfold setL; rw [if_pos he], he]
    exact set_yes h c k he
  · rw [show setL ks.length L c k = L from by unfold setL; rw [if_neg he], diffs_self]
    exact (set_no h.gv (by simp) c k he).mono (fun e w' hh => ⟨_, hh.1, IS.nil _ _, by rw [hh.2]; exact h, by rw [hh.2]; exact But.refl _ _ _⟩)
theorem errF_nn {nk zw zh x y a b k : Int} (he : errF nk zw zh x y a b k = 0) : 0 ≤ a ∧ 0 ≤ b := by
  unfold errF at he
  split at he
  · split at he
    · rename_i h
      have := rectB_iff.1 h
      omega
    · omega
  · omega
theorem fill_any {w : World} {F : Nat → Prop} {B K T : Nat} {zw zh : Int} {ks : List Kd} {cl : Int} {L : List Int} (h : Own w F B K T zw zh ks cl L) (x y a b k : Int) :
    Calls Try.prog 12 #[.pointer (some ⟨B, 0, none⟩), .int .i64 x, .int .i64 y, .int .i64 a, .int .i64 b, .int .i64 k] w fun e w' => ∃ v, e = .returned (.tuple #[v, .int .i64 (errF ks.length zw zh x y a b k)]) ∧ IS w' w.heap.size v (diffs L (fillL ks.length zw zh L x y a b k)) ∧ Own w' F B K T zw zh ks cl (fillL ks.length zw zh L x y a b k) ∧ But w.heap.size K w w' := by
  by_cases he : errF ks.length zw zh x y a b k = 0
  · rw [show fillL ks.length zw zh L x y a b k = puts L (rectE zw x y a.toNat k b.toNat) from by unfold fillL; rw [if_pos he], he]
    obtain ⟨ha, hb⟩ := errF_nn he
    have := fill_yes h x y k a.toNat b.toNat (by rw [Int.toNat_of_nonneg ha, Int.toNat_of_nonneg hb]; exact he)
    rw [Int.toNat_of_nonneg ha, Int.toNat_of_nonneg hb] at this
    exact this
  · rw [show fillL ks.length zw zh L x y a b k = L from by unfold fillL; rw [if_neg he], diffs_self]
    exact (fill_no h.grd x y a b k he).mono (fun e w' hh => ⟨_, hh.1, IS.nil _ _, h.below hh.2, Below.but K hh.2⟩)
theorem batch_any {w : World} {F : Nat → Prop} {B K T : Nat} {zw zh : Int} {ks : List Kd} {cl : Int} {L : List Int} (h : Own w F B K T zw zh ks cl L) (ao : Option Addr) (cap n : Nat) (es : List Ed) (hn : es.length = n) (hes : n ≤ 9223372036854775807) (he : EAt w ao es) (hoff : EOff ao es K) :
    Calls Try.prog 13 #[.pointer (some ⟨B, 0, none⟩), .slice ao n cap] w fun e w' => ∃ v, e = .returned (.tuple #[v, .int .i64 (errB ks.length L.length es)]) ∧ IS w' w.heap.size v (diffs L (batL ks.length L es)) ∧ Own w' F B K T zw zh ks cl (batL ks.length L es) ∧ But w.heap.size K w w' := by
  subst hn
  by_cases hr : errB ks.length L.length es = 0
  · rw [show batL ks.length L es = puts L es from by unfold batL; rw [if_pos hr], hr]
    exact batch_yes h ao cap es he hoff hr
  · rw [show batL ks.length L es = L from by unfold batL; rw [if_neg hr], diffs_self]
    exact (batch_no h.gv ao cap es hes he hr).mono (fun e w' hh => ⟨_, hh.1, IS.nil _ _, h.below hh.2, Below.but K hh.2⟩)

set_option maxRecDepth 100000 in
set_option maxHeartbeats 800000 in
/-- kinds: each cell's kind, as the grid tells it. -/
theorem gkinds_any {w : World} {p : Value} {ks : List Kd} {cl : Int} {L : List Int} (h : GV w p ks cl L) : Calls Try.prog 30 #[p] w fun e w' => ∃ v, e = .returned v ∧ IS w' w.heap.size v L ∧ Below w.heap.size w w' := by
  have H : Hid (GV w p ks cl L) := h
  have hl := h.len
  obtain ⟨i0, hi, hz0, hz1, hz2⟩ := info_parts Try.infoI
  clear h
  generalize hM : L.length = M at *
  go_enter Try.func30, Try.ntmps30
  go_wp2
  go_loopw [3, 4] (fun s i wr => ∃ (k : Nat) (sv : Value), sv = s ∧ k ≤ M ∧ i = .int .i64 k ∧ Hid (IS wr w.heap.size sv (L.take k)) ∧ Below w.heap.size w wr) (fun _ i _ => M - (intOf i).toNat)
  case atStart => exact ⟨0, _, rfl, Nat.zero_le _, rfl, by show IS _ _ _ _; simp; exact IS.nil _ _, Below.refl _ _⟩
  case round =>
    obtain ⟨k, s, hs, hkn, rfl, HI, hB⟩ := hrel
    subst hs
    have hsz := hB.size
    by_cases hlt : k < M
    · have HN : Hid (hasN M k = true) := hasN_iff.2 ⟨by omega, by omega⟩
      have HG : Hid (getN L k = lAt L k) := by show _ = _; unfold getN; rw [hM, if_pos HN.out]; simp
      have HS : Hid (L.take (k + 1) = L.take k ++ [lAt L k]) := ltake_snoc (by omega)
      have hown : wr.ownsRow w.heap.size 3 1 s (L.take k).length (ints (L.take k)) := HI.out
      have htl : (L.take k).length ≤ M := by rw [List.length_take]; omega
      generalize L.take k = fs at *
      generalize lAt L k = x at *
      go_wp2_with fail
      refine (get_any (H.out.below hB) (k : Int)).mono ?_
      rintro e w1 ⟨rfl, rfl⟩
      rw [hM, HN.out, HG.out]
      go_wp2_with (at_builtin; refine wpList_append_own _ rfl _ _ 29 rfl w.heap.size 3 i0 (.int .i64 0) 1 8 Try.underlying29 hi hz0 hz1 hz2 rfl (by decide) _ _ _ rfl (hown.alloc _) ⟨w1.heap.size, 0, none⟩ 1 1 [.int .i64 x] rfl rfl (int_news (Blk.new w1 3 #[.int .i64 x])) (by simp [Value.oneCell']) (by unfold maxLen; omega) (by omega) (by simp; omega) ?_)
      intro v' w7 hown2 hgrow _
      have hB7 := (below_new hB (Nat.le_refl _) (.cells #[.int .i64 x] 3)).grown hgrow (by simp; omega) (fun r hr => (hown.lt r hr).1)
      have HI7 : Hid (IS w7 w.heap.size v' (fs ++ [x])) := by
        show IS _ _ _ _
        unfold IS
        rw [show (fs ++ [x]).length = fs.length + 1 by simp, show ints (fs ++ [x]) = ints fs ++ [.int .i64 x] by simp [ints]]
        exact hown2
      clear hown2 hgrow hown
      go_wp2
      go_roundw
      case rel => exact ⟨k + 1, _, rfl, by omega, by go_num, by rw [HS.out]; exact HI7, hB7⟩
      case measure => simp [intOf]; omega
    · have HN : Hid (hasN M k = false) := by
        show _ = _
        cases hh : hasN M k with
        | false => rfl
        | true => have := hasN_iff.1 hh; omega
      go_wp2_with fail
      refine (get_any (H.out.below hB) (k : Int)).mono ?_
      rintro e w1 ⟨rfl, rfl⟩
      rw [hM, HN.out]
      have hIk : IS w1 w.heap.size s L := by
        have := HI.out
        rwa [show k = M by omega, ← hM, List.take_length] at this
      have HI' : Hid (IS w1 w.heap.size s L) := hIk
      clear HI hIk
      go_wp2
      go_ret
      exact ⟨s, rfl, HI'.out, hB⟩
end Go.Proofs.Ytcflbekjiohfnaa
