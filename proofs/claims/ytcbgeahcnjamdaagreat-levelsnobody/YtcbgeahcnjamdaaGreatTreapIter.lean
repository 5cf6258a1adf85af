/- Layer 6 (treap): the items of a sequence, one by one, as it is at each step. -/
import Derived.Test.YtcbgeahcnjamdaaGreatBag
import Derived.Test.YtcbgeahcnjamdaaGreatTreapRead
import Derived.Test.YtcbgeahcnjamdaaGreatKit
namespace Go.Proofs.YtcbgeahcnjamdaaGreat
open Go.RowKit Go.Shelf
attribute [local go_sem] Oper.semAt_some
set_option linter.unusedVariables false
variable {Xh : Hx}

/-- The functions that Walk and onward hand back, over their two boxes. -/
abbrev walkF (b c : Nat) : Value := .func (.func 207) #[] #[.pointer (some ⟨b, 0, none⟩), .pointer (some ⟨c, 0, none⟩)]
abbrev onwF (b c : Nat) : Value := .func (.func 214) #[] #[.pointer (some ⟨b, 0, none⟩), .pointer (some ⟨c, 0, none⟩)]
/-- The two boxes: a forest's address (nil: none), an item's number. -/
def Bxs (b c : Nat) (p : Option Addr) (i : Int) (w : World) : Prop := Blk w b 188 #[.pointer p] ∧ Blk w c 21 #[.int .i32 i]
theorem Bxs.below {b c : Nat} {p : Option Addr} {i : Int} {w w' : World} (h : Bxs b c p i w) (hb : Below w.heap.size w w') : Bxs b c p i w' := ⟨h.1.below hb, h.2.below hb⟩
theorem Bxs.kept {b c : Nat} {p : Option Addr} {i : Int} {w w' : World} (h : Bxs b c p i w) (h1 : w'.heap[b]? = w.heap[b]?) (h2 : w'.heap[c]? = w.heap[c]?) : Bxs b c p i w' := ⟨h1.trans h.1, h2.trans h.2⟩
set_option maxHeartbeats 400000 in
theorem onward_ab (p : Option Addr) (i : Int) (w : World) : Calls Tryz.prog 208 #[.pointer p, .int .i32 i] w fun e w' => ∃ b c, e = .returned (onwF b c) ∧ Bxs b c p i w' ∧ w.heap.size ≤ b ∧ w.heap.size ≤ c ∧ Below w.heap.size w w' := by
  go_enter Tryz.func208, Tryz.ntmps208
  go_wp2
  go_ret
  refine ⟨_, _, rfl, ⟨(Blk.new w _ _).alloc _, ?_⟩, Nat.le_refl _, Nat.le_succ _, below_new ((Below.refl _ _).alloc (Nat.le_refl _) _) (Nat.le_refl _) _⟩
  have := Blk.new (w.alloc (.cells #[.pointer p] 188)) 21 #[.int .i32 i]
  rwa [World.size_alloc] at this
set_option maxHeartbeats 400000 in
theorem walk_ab (p : Option Addr) (i : Int) (w : World) : Calls Tryz.prog 182 #[.pointer p, .int .i32 i] w fun e w' => ∃ b c, e = .returned (walkF b c) ∧ Bxs b c p i w' ∧ w.heap.size ≤ b ∧ w.heap.size ≤ c ∧ Below w.heap.size w w' := by
  go_enter Tryz.func182, Tryz.ntmps182
  go_wp2
  go_ret
  refine ⟨_, _, rfl, ⟨(Blk.new w _ _).alloc _, ?_⟩, Nat.le_refl _, Nat.le_succ _, below_new ((Below.refl _ _).alloc (Nat.le_refl _) _) (Nat.le_refl _) _⟩
  have := Blk.new (w.alloc (.cells #[.pointer p] 188)) 21 #[.int .i32 i]
  rwa [World.size_alloc] at this

theorem idx_at {L : List Int} (hn : L.Nodup) {m : Nat} (h : m < L.length) : L.idxOf (lAt L m) = m := by
  rw [lAt_eq h]; exact hn.idxOf_getElem m h
section
variable {F : Nat → Prop} {B : Nat} {K : List Bool} {fr : List Int} {S : Int → List Int} {V : Int → Vl} {mx : Nat}
/-- What stands behind the item m of a sequence. -/
theorem nx_at {w : World} (h : Tp Xh w F B K fr S V mx) {i : Int} {m : Nat} (hm : m < (S i).length) : nxS (S (lAt (S i) m)) (lAt (S i) m) = lAt (S i) (m + 1) := by
  rw [h.same (lAt_mem hm)]
  unfold nxS
  rw [if_pos (lAt_mem hm), idx_at (h.nodup i) hm]
  rcases Nat.lt_or_ge (m + 1) (S i).length with h1 | h1
  · rw [List.drop_eq_getElem_cons h1, lAt_eq h1]; rfl
  · rw [List.drop_eq_nil_of_le h1, lAt_out h1]; rfl
set_option maxRecDepth 100000 in
set_option maxHeartbeats 4000000 in
theorem onward1_seq (n : Nat) (hn : 1 ≤ n) (b c : Nat) (i : Int) (w : World) (hbx : Bxs b c (some ⟨B, 0, none⟩) i w) (h : Tp Xh w F B K fr S V mx) (hb : -2147483648 ≤ i ∧ i ≤ 2147483647) :
    SeqL Fence.wide n Tryz.prog 214 #[.pointer (some ⟨b, 0, none⟩), .pointer (some ⟨c, 0, none⟩)] (fun x : Int => #[.int .i32 x]) (fun k _ => F k ∨ k = b ∨ k = c) (AllOf (S i)) (PartOf (S i)) (S i).length w := fun l J Jx X hX hJ hJx hl1 hl2 hY h0 => by
  have hTX := h.below hX
  have hbX := hbx.below hX
  have bw := hbx.1.lt
  have cw := hbx.2.lt
  have HK : Hid (∀ A A' : World, w.heap.size ≤ A.heap.size → KeptBy l (fun k _ => F k ∨ k = b ∨ k = c) A A' → Tp Xh A F B K fr S V mx → Bxs b c (some ⟨B, 0, none⟩) i A → Tp Xh A' F B K fr S V mx ∧ Bxs b c (some ⟨B, 0, none⟩) i A') := fun A A' hs hk h1 h2 =>
    ⟨h1.kept (fun k hF => hk.old (h1.lt k hF) (by have := h.lt k hF; omega) (fun _ => .inl hF)) hk.size, h2.kept (hk.old (by omega) (by omega) (fun _ => .inr (.inl rfl))) (hk.old (by omega) (by omega) (fun _ => .inr (.inr rfl)))⟩
  have HL : Hid (∀ m, m < (S i).length → -2147483648 ≤ lAt (S i) m ∧ lAt (S i) m ≤ 2147483647 ∧ lAt (S i) m ≠ 0) := fun m hm => by
    have h1 := isK_bd (hTX.mem.2 (by rw [hTX.same (lAt_mem hm)]; exact lAt_mem hm) : isK K (lAt (S i) m) = true)
    have := h.klen
    exact ⟨by omega, by omega, by omega⟩
  have HNX : Hid (∀ m, m < (S i).length → nxS (S (lAt (S i) m)) (lAt (S i) m) = lAt (S i) (m + 1)) := fun m hm => nx_at h hm
  have HID : Hid (∀ m, m < (S i).length → (S i).idxOf (lAt (S i) m) = m) := fun m hm => idx_at (h.nodup i) hm
  have HTX : Hid (Tp Xh X F B K fr S V mx) := hTX
  have HBX : Hid (Bxs b c (some ⟨B, 0, none⟩) i X) := hbX
  have HYY : Hid (∀ pre x W1, J pre W1 → pre.length < (S i).length ∧ PartOf (S i) (pre ++ [x]) → YieldAt Fence.wide (n - 1) Tryz.prog l #[.int .i32 x] W1 fun e W' => (e = .returned (.bool true) ∧ J (pre ++ [x]) W' ∧ KeptBy l (fun k _ => F k ∨ k = b ∨ k = c) W1 W') ∨ (e = .returned (.bool false) ∧ Jx (pre ++ [x]) W' ∧ KeptBy l (fun _ _ => False) W1 W')) := hY
  have c1 := hbX.1.cell1
  have c2 := hbX.2.cell1
  have HXs : Hid (w.heap.size ≤ X.heap.size) := hX.size
  have H0 : Hid (J [] X) := h0
  have HF := tfirst_any hTX i hb
  have hhd : (S i).headD 0 = lAt (S i) 0 := by cases S i <;> rfl
  rw [hhd] at HF
  clear h hbx hX hTX hbX hJ hJx hY h0 hhd bw cw
  refine callsIn_of_wp Tryz.func214 rfl trivial ?_ rfl
  simp only [Tryz.ntmps214, List.size_toArray, List.length_cons, List.length_nil, Nat.reduceAdd, Nat.reduceSub, Array.replicate_succ, Array.replicate_zero, List.push_toArray, List.append_toArray, List.nil_append, List.cons_append]
  gi_wp2_with fail
  refine ⟨trivial, ?_⟩
  refine (callsIn_wide.2 HF).mono ?_
  rintro e w0 ⟨rfl, rfl⟩
  clear HF
  gi_wp2
  gi_loopw [4] (fun v wr => ∃ m : Nat, m ≤ (S i).length ∧ v = .int .i32 (lAt (S i) m) ∧ Hid (J ((S i).take m) wr) ∧ Hid (Tp Xh wr F B K fr S V mx ∧ Bxs b c (some ⟨B, 0, none⟩) i wr ∧ w.heap.size ≤ wr.heap.size)) (fun v _ => (S i).length - (S i).idxOf (intOf v))
  case atStart => exact ⟨0, Nat.zero_le _, rfl, H0.out, HTX.out, HBX.out, HXs.out⟩
  case round =>
    obtain ⟨m, hm, rfl, HJm, HS⟩ := hrel
    by_cases hlt : m < (S i).length
    · obtain ⟨z1, z2, z3⟩ := HL.out m hlt
      have z3' : (lAt (S i) m != 0) = true := by simpa using z3
      obtain ⟨f1, t1, a1, b1, hy1, hR1⟩ := HYY.out _ (lAt (S i) m) wr HJm.out ⟨by rw [List.length_take]; omega, by rw [← ltake_snoc hlt]; exact List.take_prefix _ _⟩
      have htk : (S i).take m ++ [lAt (S i) m] = (S i).take (m + 1) := (ltake_snoc hlt).symm
      rw [htk] at hR1
      have hid := HID.out m hlt
      have hid2 : m + 1 < (S i).length → (S i).idxOf (lAt (S i) (m + 1)) = m + 1 := HID.out (m + 1)
      have hid3 : ¬ m + 1 < (S i).length → (S i).idxOf (lAt (S i) (m + 1)) = (S i).length := fun h1 => by
        rw [lAt_out (by omega)]
        exact List.idxOf_eq_length (fun h2 => by
          obtain ⟨q, hq, e⟩ := List.getElem_of_mem h2
          have := (HL.out q hq).2.2
          rw [lAt_eq hq] at this
          exact this e)
      have hdec : (S i).length - (S i).idxOf (lAt (S i) (m + 1)) < (S i).length - (S i).idxOf (lAt (S i) m) := by
        by_cases h1 : m + 1 < (S i).length
        · rw [hid2 h1, hid]; omega
        · rw [hid3 h1, hid]; omega
      have hnx := HNX.out m hlt
      have DEC : Hid ((S i).length - (S i).idxOf (lAt (S i) (m + 1)) < (S i).length - (S i).idxOf (lAt (S i) m)) := hdec
      clear htk hid hid2 hid3 hdec
      have HNX1 : Hid (∀ A, Tp Xh A F B K fr S V mx → Calls Tryz.prog 177 #[.pointer (some ⟨B, 0, none⟩), .int .i32 (lAt (S i) m)] A fun e w' => e = .returned (.int .i32 (lAt (S i) (m + 1))) ∧ w' = A) := fun A hA => by
        have := tnext_any hA (lAt (S i) m) ⟨z1, z2⟩
        rwa [hnx] at this
      clear hnx z1 z2 z3
      generalize lAt (S i) m = x at *
      gi_wp2
      repeat (refine ⟨fun _ h => (by cases h), ?_⟩; gi_wp2)
      refine hR1.mono ?_
      rintro e X1 (⟨rfl, hX1, k1⟩ | ⟨rfl, hx1, k1⟩)
      · obtain ⟨hT0, hB0, hs0⟩ := HS.out
        obtain ⟨T1, B1⟩ := HK.out wr X1 hs0 k1 hT0 hB0
        have d1 := B1.1.cell1
        have HN := HNX1.out X1 T1
        have HJ1 : Hid _ := hX1
        have HS1 : Hid (Tp Xh X1 F B K fr S V mx ∧ Bxs b c (some ⟨B, 0, none⟩) i X1 ∧ w.heap.size ≤ X1.heap.size) := ⟨T1, B1, Nat.le_trans hs0 k1.size⟩
        clear hy1 hR1 hX1 k1 hT0 hB0 hs0 T1 B1 HS HJm
        gi_wp2_with fail
        refine ⟨trivial, ?_⟩
        refine (callsIn_wide.2 HN).mono ?_
        rintro e X2 ⟨rfl, rfl⟩
        gi_wp2
        go_roundw
        case rel => exact ⟨m + 1, by omega, rfl, HJ1.out, HS1.out⟩
        case measure => exact DEC.out
      · clear hy1 hR1
        gi_wp2
        go_end0
        exact ⟨⟨_, rfl⟩, .inr ⟨_, List.take_prefix _ _, hx1⟩⟩
    · obtain rfl : m = (S i).length := by omega
      rw [lAt_out (Nat.le_refl _)]
      rw [List.take_length] at HJm
      gi_wp2
      repeat (refine ⟨fun _ h => (by cases h), ?_⟩; gi_wp2)
      go_end0
      exact ⟨⟨_, rfl⟩, .inl ⟨_, rfl, HJm.out⟩⟩
end
end Go.Proofs.YtcbgeahcnjamdaaGreat
