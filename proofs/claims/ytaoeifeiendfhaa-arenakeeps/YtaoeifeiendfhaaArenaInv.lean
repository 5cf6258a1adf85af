/- What ArenaKeeps keeps, in plain mathematics and in memory: an arena of numbers beside the list of what is taken and the list of its things. -/
import Derived.Test.YtaoeifeiendfhaaArenaInt
import Derived.Test.YtaoeifeiendfhaaArenaAwake
namespace Go.Proofs.Ytaoeifeiendfhaa
open Go.RowKit
set_option linter.unusedVariables false

theorem infoNi : (Try.prog.info? 3).map (fun i => (i.zero, i.size, i.bytes)) = some (some (.int .i64 0), 1, 8) := by kernel_rfl
def nInts (fs : List Int) : List Value := fs.map (Value.int .i64)
theorem nInts_len (xs : List Int) : (nInts xs).length = xs.length := by simp [nInts]
theorem nInts_at {xs : List Int} {i : Nat} (h : i < xs.length) : (nInts xs)[i]? = some (.int .i64 (lAt xs i)) := by
  unfold nInts; rw [List.getElem?_map, lAt_some h]; rfl
theorem nInts_snoc (xs : List Int) (x : Int) : nInts (xs ++ [x]) = nInts xs ++ [.int .i64 x] := by simp [nInts]
theorem i32s_one (xs : List Int) : ∀ u ∈ i32s xs, u.oneCell' = true := by
  intro u hu
  obtain ⟨y, _, rfl⟩ := List.mem_map.1 hu
  rfl
theorem nInts_one (xs : List Int) : ∀ u ∈ nInts xs, u.oneCell' = true := by
  intro u hu
  obtain ⟨y, _, rfl⟩ := List.mem_map.1 hu
  rfl
/-- The list without its place k. -/
def cutL (xs : List Int) (k : Nat) : List Int := xs.take k ++ xs.drop (k + 1)
theorem i32s_cut (xs : List Int) (k : Nat) : i32s (cutL xs k) = i32s (xs.take k) ++ i32s (xs.drop (k + 1)) := by simp [i32s, cutL]
theorem nInts_cut (xs : List Int) (k : Nat) : nInts (cutL xs k) = nInts (xs.take k) ++ nInts (xs.drop (k + 1)) := by simp [nInts, cutL]
theorem cutL_len {xs : List Int} {k : Nat} (h : k < xs.length) : (cutL xs k).length = xs.length - 1 := by simp [cutL]; omega
theorem cutL_at {xs : List Int} {k i : Nat} (h : k < xs.length) (hi : i < xs.length - 1) : lAt (cutL xs k) i = lAt xs (if i < k then i else i + 1) := by
  unfold lAt cutL
  rw [List.getD_eq_getElem?_getD, List.getD_eq_getElem?_getD, List.getElem?_append, List.length_take, Nat.min_eq_left (by omega)]
  split
  · rw [List.getElem?_take_of_lt (by assumption)]
  · rw [List.getElem?_drop]; congr 2; omega
theorem lAt_snoc (xs : List Int) (x : Int) (i : Nat) : lAt (xs ++ [x]) i = if i < xs.length then lAt xs i else if i = xs.length then x else 0 := by
  unfold lAt
  rw [List.getD_eq_getElem?_getD, List.getD_eq_getElem?_getD, List.getElem?_append]
  split
  · rfl
  · split
    · subst i; simp
    · rw [List.getElem?_eq_none (by simp; omega)]; rfl

theorem RowW.room {w : World} {e : TypeId} {size g n cap : Nat} {xs : List Value} (h : RowW w e size (.slice (some ⟨g, 0, none⟩) n cap) n xs) : n ≤ cap ∧ cap ≤ 9223372036854775807 := by
  rcases h.2 with ⟨e, _⟩ | ⟨g', cap', cur, e, _, e1, e2, _⟩
  · cases e
  · cases e; unfold maxLen at e2; omega
theorem RowW.drewn {w : World} {e : TypeId} {size n : Nat} {v : Value} {xs : List Value} (h : RowW w e size v n xs) : RowW w.drew e size v n xs := h.kept fun _ _ => rfl
/-- The front and the rest of a row of one-cell elements. -/
theorem RowW.front {w : World} {e : TypeId} {g n cap k : Nat} {f : Int → Value} {xs : List Int} (h : RowW w e 1 (.slice (some ⟨g, 0, none⟩) n cap) n (xs.map f)) (hk : k ≤ n) : RowW w e 1 (.slice (some ⟨g, 0, none⟩) k k) k ((xs.take k).map f) := by
  have := h.cutTo hk
  rwa [Nat.mul_one, ← List.map_take] at this
theorem RowW.rest {w : World} {e : TypeId} {g n cap k : Nat} {f : Int → Value} {xs : List Int} (h : RowW w e 1 (.slice (some ⟨g, 0, none⟩) n cap) n (xs.map f)) : ∀ j u, ((xs.drop k).map f)[j]? = some u → w.cell? ((⟨g, k, none⟩ : Addr).add j) = some u := by
  intro j u hu
  rw [List.map_drop, List.getElem?_drop] at hu
  rw [add_eq]
  exact h.cell hu

/-- tk: the numbers that are taken; th: their things. -/
structure Kept (L : List Slt) (fr tk th : List Int) : Prop where
  len : th.length = tk.length
  cnt : tk.length + fr.length = L.length
  is : ∀ i, i < tk.length → 1 ≤ lAt tk i ∧ L[(lAt tk i - 1).toNat]? = some ([.int .i64 (lAt th i)], true)
  nd : ∀ i j, i < tk.length → j < tk.length → lAt tk i = lAt tk j → i = j
  off : ∀ f ∈ fr, 1 ≤ f ∧ ∃ cs, L[(f - 1).toNat]? = some (cs, false)
  fd : fr.Nodup
theorem Kept.empty : Kept [] [] [] [] := ⟨rfl, rfl, fun i hi => (by cases hi), fun i j hi => (by cases hi), fun f hf => (by cases hf), List.nodup_nil⟩
theorem Kept.le {L : List Slt} {fr tk th : List Int} (h : Kept L fr tk th) {i : Nat} (hi : i < tk.length) : 1 ≤ lAt tk i ∧ lAt tk i ≤ L.length := by
  obtain ⟨h1, h2⟩ := h.is i hi
  have := (List.getElem?_eq_some_iff.1 h2).1
  omega
theorem Kept.isT {L : List Slt} {fr tk th : List Int} (h : Kept L fr tk th) {i : Nat} (hi : i < tk.length) : isT L (lAt tk i) = true := by
  obtain ⟨h1, h2⟩ := h.is i hi
  exact isT_iff.2 ⟨_, _, by omega, h2⟩
theorem takeI_bdk {L : List Slt} {fr : List Int} (h : ∀ f ∈ fr, 1 ≤ f ∧ f ≤ L.length) : 1 ≤ takeI L fr ∧ takeI L fr ≤ (L.length : Int) + 1 := by
  rcases List.eq_nil_or_concat fr with rfl | ⟨fr', f, rfl⟩
  · rw [takeI_nil]; omega
  · rw [List.concat_eq_append] at h ⊢
    rw [takeI_snoc]
    have := h f (by simp)
    omega
/-- What is taken now was not taken. -/
theorem Kept.new {L : List Slt} {fr tk th : List Int} (h : Kept L fr tk th) {i : Nat} (hi : i < tk.length) : lAt tk i ≠ takeI L fr := by
  obtain ⟨h1, h2⟩ := h.is i hi
  rcases List.eq_nil_or_concat fr with rfl | ⟨fr', f, rfl⟩
  · rw [takeI_nil]
    have := h.le hi
    omega
  · rw [List.concat_eq_append] at *
    rw [takeI_snoc]
    intro e
    obtain ⟨_, cs, h3⟩ := h.off f (by simp)
    rw [← e, h2] at h3
    cases h3
theorem Kept.take {L : List Slt} {fr tk th : List Int} (h : Kept L fr tk th) (x : Int) : Kept (takeL L fr ([.int .i64 x], true)) fr.dropLast (tk ++ [takeI L fr]) (th ++ [x]) := by
  have hnew := fun i hi => h.new (i := i) hi
  have main : (∀ i, i < tk.length → (takeL L fr ([.int .i64 x], true))[(lAt tk i - 1).toNat]? = some ([.int .i64 (lAt th i)], true)) ∧ 1 ≤ takeI L fr ∧ (takeL L fr ([.int .i64 x], true))[(takeI L fr - 1).toNat]? = some ([.int .i64 x], true) ∧
      (∀ f ∈ fr.dropLast, 1 ≤ f ∧ ∃ cs, (takeL L fr ([.int .i64 x], true))[(f - 1).toNat]? = some (cs, false)) ∧ fr.dropLast.Nodup := by
    rcases List.eq_nil_or_concat fr with rfl | ⟨fr', f, rfl⟩
    · rw [takeI_nil, takeL_nil]
      refine ⟨fun i hi => ?_, by omega, ?_, fun f hf => (by cases hf), List.nodup_nil⟩
      · obtain ⟨h1, h2⟩ := h.is i hi
        rw [List.getElem?_append_left (List.getElem?_eq_some_iff.1 h2).1]
        exact h2
      · rw [show ((L.length : Int) + 1 - 1).toNat = L.length by omega]; simp
    · rw [List.concat_eq_append] at *
      rw [takeI_snoc] at hnew ⊢
      rw [takeL_snoc, List.dropLast_concat]
      obtain ⟨hf1, cs, hf2⟩ := h.off f (by simp)
      have hlt := (List.getElem?_eq_some_iff.1 hf2).1
      have hfd := List.nodup_append.1 h.fd
      refine ⟨fun i hi => ?_, hf1, by rw [List.getElem?_set_self hlt], fun g hg => ?_, hfd.1⟩
      · obtain ⟨h1, h2⟩ := h.is i hi
        have := hnew i hi
        rw [List.getElem?_set_ne (by omega)]
        exact h2
      · obtain ⟨hg1, cs', hg2⟩ := h.off g (by simp [hg])
        refine ⟨hg1, cs', ?_⟩
        have : g ≠ f := fun e => hfd.2.2 g hg f (by simp) e
        rw [List.getElem?_set_ne (by omega)]
        exact hg2
  obtain ⟨m1, m2, m3, m4, m5⟩ := main
  have hlen := takeL_len L fr ([.int .i64 x], true)
  have hle := takeL_le L fr ([.int .i64 x], true)
  have hc := h.cnt
  refine ⟨by simp [h.len], by rw [List.length_append, List.length_singleton]; omega, fun i hi => ?_, fun i j hi hj e => ?_, m4, m5⟩
  · rw [List.length_append, List.length_singleton] at hi
    rw [lAt_snoc, lAt_snoc, h.len]
    by_cases h1 : i < tk.length
    · rw [if_pos h1, if_pos h1]
      exact ⟨(h.is i h1).1, m1 i h1⟩
    · rw [if_neg h1, if_neg h1, if_pos (by omega), if_pos (by omega)]
      exact ⟨m2, m3⟩
  · rw [List.length_append, List.length_singleton] at hi hj
    rw [lAt_snoc, lAt_snoc] at e
    by_cases h1 : i < tk.length
    · rw [if_pos h1] at e
      by_cases h2 : j < tk.length
      · rw [if_pos h2] at e
        exact h.nd i j h1 h2 e
      · rw [if_neg h2, if_pos (by omega)] at e
        exact absurd e (hnew i h1)
    · rw [if_neg h1, if_pos (by omega)] at e
      by_cases h2 : j < tk.length
      · rw [if_pos h2] at e
        exact absurd e.symm (hnew j h2)
      · omega
theorem Kept.free {L : List Slt} {fr tk th : List Int} (h : Kept L fr tk th) {k : Nat} (hk : k < tk.length) (z : List Value) : Kept (L.set (lAt tk k - 1).toNat (z, false)) (fr ++ [lAt tk k]) (cutL tk k) (cutL th k) := by
  obtain ⟨hk1, hk2⟩ := h.is k hk
  have hlt := (List.getElem?_eq_some_iff.1 hk2).1
  have hc := h.cnt
  have hkh : k < th.length := by rw [h.len]; exact hk
  refine ⟨by rw [cutL_len hk, cutL_len hkh, h.len], by rw [cutL_len hk]; simp; omega, fun i hi => ?_, fun i j hi hj e => ?_, fun f hf => ?_, ?_⟩
  · rw [cutL_len hk] at hi
    rw [cutL_at hk hi, cutL_at hkh (by rw [h.len]; exact hi)]
    have hi' : (if i < k then i else i + 1) < tk.length := by split <;> omega
    have hne : (if i < k then i else i + 1) ≠ k := by split <;> omega
    generalize (if i < k then i else i + 1) = q at *
    obtain ⟨h1, h2⟩ := h.is q hi'
    refine ⟨h1, ?_⟩
    have : lAt tk q ≠ lAt tk k := fun e => hne (h.nd q k hi' hk e)
    rw [List.getElem?_set_ne (by omega)]
    exact h2
  · rw [cutL_len hk] at hi hj
    rw [cutL_at hk hi, cutL_at hk hj] at e
    have := h.nd _ _ (by split <;> omega) (by split <;> omega) e
    split at this <;> split at this <;> omega
  · rcases List.mem_append.1 hf with hf | hf
    · obtain ⟨h1, cs, h2⟩ := h.off f hf
      refine ⟨h1, ?_⟩
      by_cases e : (lAt tk k - 1).toNat = (f - 1).toNat
      · rw [← e, List.getElem?_set_self hlt]; exact ⟨z, rfl⟩
      · rw [List.getElem?_set_ne e]; exact ⟨cs, h2⟩
    · simp at hf
      subst hf
      exact ⟨hk1, z, by rw [List.getElem?_set_self hlt]⟩
  · refine List.nodup_append.2 ⟨h.fd, by simp, fun a ha b hb e => ?_⟩
    simp at hb
    subst hb e
    obtain ⟨_, cs, h2⟩ := h.off _ ha
    rw [hk2] at h2
    cases h2
/-- How many slots there are behind a Take. -/
theorem Kept.most {L : List Slt} {fr tk th : List Int} (h : Kept L fr tk th) (s : Slt) : (L.length < tk.length + 1 → (takeL L fr s).length = tk.length + 1) ∧ (¬ L.length < tk.length + 1 → (takeL L fr s).length = L.length) := by
  have hc := h.cnt
  rcases List.eq_nil_or_concat fr with rfl | ⟨fr', f, rfl⟩
  · rw [takeL_nil]; simp at hc ⊢; omega
  · rw [List.concat_eq_append] at *
    rw [takeL_snoc]; simp at hc ⊢; omega

/-- In memory: the arena, and the two rows. -/
structure Kp (w wr : World) (Fa : Nat → Prop) (B G : Nat) (L : List Slt) (fr : List Int) (vt vh : Value) (tk th : List Int) : Prop where
  a : AI.Ar wr Fa B G L fr
  t : RowW wr 21 1 vt tk.length (i32s tk)
  h : RowW wr 3 1 vh th.length (nInts th)
  ap : Apart vt vh
  dt : ∀ k, vt.ownBlock = some k → ¬ Fa k ∧ w.heap.size ≤ k
  dh : ∀ k, vh.ownBlock = some k → ¬ Fa k ∧ w.heap.size ≤ k
  fa : ∀ k, Fa k → w.heap.size ≤ k
  below : Below w.heap.size w wr
section
variable {w wr w' W1 w2 : World} {Fa Fa' : Nat → Prop} {B G G' : Nat} {L L' : List Slt} {fr fr' : List Int} {vt vh v' : Value} {tk th tk' th' : List Int}
theorem Kp.arena (h : Kp w wr Fa B G L fr vt vh tk th) (hA : AI.Ar w' Fa' B G' L' fr') (hS : Step Fa Fa' wr w') : Kp w w' Fa' B G' L' fr' vt vh tk th :=
  ⟨hA, h.t.kept fun k hk => hS.only.block k (h.t.lt hk) (h.dt k hk).1, h.h.kept fun k hk => hS.only.block k (h.h.lt hk) (h.dh k hk).1, h.ap,
    fun k hk => ⟨fun h1 => (hS.ext k h1).elim (h.dt k hk).1 (fun h2 => by have := h.t.lt hk; omega), (h.dt k hk).2⟩, fun k hk => ⟨fun h1 => (hS.ext k h1).elim (h.dh k hk).1 (fun h2 => by have := h.h.lt hk; omega), (h.dh k hk).2⟩,
    hS.from h.below.size h.fa, hS.start h.below (Nat.le_refl _) h.fa⟩
theorem Kp.drewN (h : Kp w wr Fa B G L fr vt vh tk th) (n : Nat) : Kp w (wr.drewN n) Fa B G L fr vt vh tk th :=
  h.arena (h.a.drewN n) ((Step.refl Fa wr).drewN n)
/-- The row of numbers is told anew. -/
theorem Kp.numbers (h : Kp w wr Fa B G L fr vt vh tk th) (h1 : Below wr.heap.size wr W1) (hg : W1.grownBy w2 vt.ownBlock) (hown : RowW w2 21 1 v' tk'.length (i32s tk')) (hat : ∀ k, v'.ownBlock = some k → vt.ownBlock = some k ∨ wr.heap.size ≤ k) : Kp w w2 Fa B G L fr v' vh tk' th := by
  have keep : ∀ k, k < wr.heap.size → vt.ownBlock ≠ some k → w2.heap[k]? = wr.heap[k]? := fun k hk hn => (hg.block k (Nat.lt_of_lt_of_le hk h1.size) (Ne.symm hn)).trans (h1.block k hk)
  have hs : wr.heap.size ≤ w2.heap.size := Nat.le_trans h1.size hg.size
  refine ⟨h.a.kept (fun k hk => keep k (h.a.lt k hk) (fun e => (h.dt k e).1 hk)) hs, hown, h.h.kept fun k hk => keep k (h.h.lt hk) (fun e => h.ap k e hk), fun k hk hk' => ?_, fun k hk => ?_, h.dh, h.fa, ?_⟩
  · rcases hat k hk with h2 | h2
    · exact h.ap k h2 hk'
    · have := h.h.lt hk'; omega
  · rcases hat k hk with h2 | h2
    · exact h.dt k h2
    · exact ⟨fun h3 => by have := h.a.lt k h3; omega, Nat.le_trans h.below.size h2⟩
  · exact h.below.trans ⟨hg.os.trans h1.os, hg.tape.trans h1.tape, hg.output.trans h1.output, hs, fun k hk => keep k (Nat.lt_of_lt_of_le hk h.below.size) (fun e => by have := (h.dt k e).2; omega)⟩
/-- The row of things is told anew. -/
theorem Kp.things (h : Kp w wr Fa B G L fr vt vh tk th) (h1 : Below wr.heap.size wr W1) (hg : W1.grownBy w2 vh.ownBlock) (hown : RowW w2 3 1 v' th'.length (nInts th')) (hat : ∀ k, v'.ownBlock = some k → vh.ownBlock = some k ∨ wr.heap.size ≤ k) : Kp w w2 Fa B G L fr vt v' tk th' := by
  have keep : ∀ k, k < wr.heap.size → vh.ownBlock ≠ some k → w2.heap[k]? = wr.heap[k]? := fun k hk hn => (hg.block k (Nat.lt_of_lt_of_le hk h1.size) (Ne.symm hn)).trans (h1.block k hk)
  have hs : wr.heap.size ≤ w2.heap.size := Nat.le_trans h1.size hg.size
  refine ⟨h.a.kept (fun k hk => keep k (h.a.lt k hk) (fun e => (h.dh k e).1 hk)) hs, h.t.kept fun k hk => keep k (h.t.lt hk) (fun e => h.ap k hk e), hown, fun k hk hk' => ?_, h.dt, fun k hk => ?_, h.fa, ?_⟩
  · rcases hat k hk' with h2 | h2
    · exact h.ap k hk h2
    · have := h.t.lt hk; omega
  · rcases hat k hk with h2 | h2
    · exact h.dh k h2
    · exact ⟨fun h3 => by have := h.a.lt k h3; omega, Nat.le_trans h.below.size h2⟩
  · exact h.below.trans ⟨hg.os.trans h1.os, hg.tape.trans h1.tape, hg.output.trans h1.output, hs, fun k hk => keep k (Nat.lt_of_lt_of_le hk h.below.size) (fun e => by have := (h.dh k e).2; omega)⟩
end
end Go.Proofs.Ytaoeifeiendfhaa
