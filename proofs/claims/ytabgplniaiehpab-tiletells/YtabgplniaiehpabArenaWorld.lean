/- Over whatever program: rows of one's own, whose slice may reach less far than their block; append onto them; what a call leaves that writes the blocks of a footprint alone. -/
import Derived.Test.YtabgplniaiehpabKit
import Derived.Maps.AppendAt
import Derived.Laws.Rows
namespace Go.Proofs.Ytabgplniaiehpab
open Go.RowKit
set_option linter.unusedVariables false

/-- A slice v of n elements, whose cells are xs: nil, or at the front of a block of its own. -/
def RowW (w : World) (e : TypeId) (size : Nat) (v : Value) (n : Nat) (xs : List Value) : Prop :=
  xs.length = n * size ∧ ((v = .slice none 0 0 ∧ n = 0) ∨ ∃ g cap cur, v = .slice (some ⟨g, 0, none⟩) n cap ∧ Blk w g e cur ∧ n ≤ cap ∧ cap ≤ maxLen ∧ cap * size ≤ cur.size ∧ cur.toList.take (n * size) = xs)

section
variable {w w' : World} {e : TypeId} {size : Nat} {v : Value} {n : Nat} {xs : List Value}
theorem RowW.empty (w : World) (e : TypeId) (size : Nat) : RowW w e size (.slice none 0 0) 0 [] := ⟨by simp, .inl ⟨rfl, rfl⟩⟩
theorem RowW.form (h : RowW w e size v n xs) : ∃ ao cap, v = .slice ao n cap := by
  rcases h.2 with ⟨rfl, rfl⟩ | ⟨g, cap, cur, rfl, _⟩
  · exact ⟨_, _, rfl⟩
  · exact ⟨_, _, rfl⟩
theorem RowW.led (h : RowW w e size v n xs) (hn : 0 < n) : ∃ g cap, v = .slice (some ⟨g, 0, none⟩) n cap := by
  rcases h.2 with ⟨rfl, rfl⟩ | ⟨g, cap, cur, rfl, _⟩
  · omega
  · exact ⟨_, _, rfl⟩
theorem RowW.lt (h : RowW w e size v n xs) {k : Nat} (hk : v.ownBlock = some k) : k < w.heap.size := by
  rcases h.2 with ⟨rfl, _⟩ | ⟨g, cap, cur, rfl, hb, _⟩
  · cases hk
  · cases hk; exact hb.lt
theorem RowW.kept (h : RowW w e size v n xs) (hb : ∀ k, v.ownBlock = some k → w'.heap[k]? = w.heap[k]?) : RowW w' e size v n xs := by
  refine ⟨h.1, ?_⟩
  rcases h.2 with h1 | ⟨g, cap, cur, rfl, hg, rest⟩
  · exact .inl h1
  · exact .inr ⟨g, cap, cur, rfl, (hb g rfl).trans hg, rest⟩
theorem RowW.cell {g cap : Nat} (h : RowW w e size (.slice (some ⟨g, 0, none⟩) n cap) n xs) {j : Nat} {u : Value} (hj : xs[j]? = some u) : w.cell? ⟨g, j, none⟩ = some u := by
  rcases h.2 with ⟨h1, _⟩ | ⟨g', cap', cur, hv, hg, _, _, _, ht⟩
  · cases h1
  · cases hv
    refine hg.at ?_
    rw [← ht, List.getElem?_take] at hj
    split at hj
    · simpa using hj
    · cases hj
theorem RowW.frozen {g cap : Nat} (h : RowW w e size (.slice (some ⟨g, 0, none⟩) n cap) n xs) (j : Nat) : w.frozen? ⟨g, j, none⟩ = false := by
  rcases h.2 with ⟨h1, _⟩ | ⟨g', cap', cur, hv, hg, _⟩
  · cases h1
  · cases hv; exact hg.frozen j
theorem RowW.set {g cap : Nat} (h : RowW w e size (.slice (some ⟨g, 0, none⟩) n cap) n xs) {j : Nat} (hj : j < n * size) (u : Value) : RowW (w.setCell ⟨g, j, none⟩ u) e size (.slice (some ⟨g, 0, none⟩) n cap) n (xs.set j u) := by
  refine ⟨by rw [List.length_set]; exact h.1, ?_⟩
  rcases h.2 with ⟨h1, _⟩ | ⟨g', cap', cur, hv, hg, hn, hc, hs, ht⟩
  · cases h1
  · cases hv
    refine .inr ⟨g, cap, _, rfl, hg.setAt j u, hn, hc, by simpa using hs, ?_⟩
    rw [Array.toList_setIfInBounds, List.take_set, ht]
theorem RowW.cut {g cap : Nat} (h : RowW w e size (.slice (some ⟨g, 0, none⟩) n cap) n xs) {k : Nat} (hk : k ≤ n) : RowW w e size (.slice (some ⟨g, 0, none⟩) k cap) k (xs.take (k * size)) := by
  have hm : k * size ≤ n * size := Nat.mul_le_mul_right _ hk
  refine ⟨by rw [List.length_take, h.1]; omega, ?_⟩
  rcases h.2 with ⟨h1, _⟩ | ⟨g', cap', cur, hv, hg, hn, hc, hs, ht⟩
  · cases h1
  · cases hv
    exact .inr ⟨g, cap, cur, rfl, hg, by omega, hc, hs, by rw [← ht, List.take_take, Nat.min_eq_left hm]⟩
theorem RowW.cutTo {g cap : Nat} (h : RowW w e size (.slice (some ⟨g, 0, none⟩) n cap) n xs) {k : Nat} (hk : k ≤ n) : RowW w e size (.slice (some ⟨g, 0, none⟩) k k) k (xs.take (k * size)) := by
  have hm : k * size ≤ n * size := Nat.mul_le_mul_right _ hk
  refine ⟨by rw [List.length_take, h.1]; omega, ?_⟩
  rcases h.2 with ⟨h1, _⟩ | ⟨g', cap', cur, hv, hg, hn, hc, hs, ht⟩
  · cases h1
  · cases hv
    have hm2 : n * size ≤ cap * size := Nat.mul_le_mul_right _ hn
    exact .inr ⟨g, k, cur, rfl, hg, Nat.le_refl _, by omega, by omega, by rw [← ht, List.take_take, Nat.min_eq_left hm]⟩
end

section
variable {P : Program} (w : World)
/-- append onto a row of one's own: it lies where it lay, or in the block that is made now. -/
theorem run_append_row (t ty e : TypeId) (i : TypeInfo) (z : Value) (size bytes : Nat) (ht : P.underlying t = some (.slice e)) (hi : P.info? e = some i) (hz : i.zero = some z) (hsize : i.size = size) (hby : i.bytes = bytes) (hzs : z.cells.size = size)
    (v : Value) (n : Nat) (xs : List Value) (hown : RowW w e size v n xs) (ad : Addr) (m c : Nat) (news : List Value) (hl : news.length = m * size) (hnews : ∀ j u, news[j]? = some u → w.cell? (ad.add j) = some u) (h1 : ∀ u ∈ news, u.oneCell' = true)
    (hm : 0 < m) (h63 : n + m ≤ maxLen) (hbytes : (n + m) * bytes ≤ 140737488355328) :
    ∃ g cap w', (Builtin.append_ #[t, t] ty #[v, .slice (some ad) m c]).run P w = .ok (.slice (some ⟨g, 0, none⟩) (n + m) cap) w' ∧ RowW w' e size (.slice (some ⟨g, 0, none⟩) (n + m) cap) (n + m) (xs ++ news) ∧
      w.grownBy w' v.ownBlock ∧ (v.ownBlock = some g ∨ g = w.heap.size) ∧ g < w'.heap.size := by
  subst hsize hby
  have h63' : ((n + m : Nat) : Int) ≤ 9223372036854775807 := by simp only [maxLen] at h63; omega
  have hlen : (xs ++ news).length = (n + m) * i.size := by rw [List.length_append, hown.1, hl, Nat.add_mul]
  -- a block that is made now
  have made : ∀ old, RowW (w.drew.alloc (.cells (xs.toArray ++ news.toArray ++ Builtin.zeroCells z.cells (grownCap w (n + m) old e - (n + m))) e)) e i.size (.slice (some ⟨w.heap.size, 0, none⟩) (n + m) (grownCap w (n + m) old e)) (n + m) (xs ++ news) := by
    intro old
    have hge := grownCap_ge w (n + m) old e
    refine ⟨hlen, .inr ⟨_, _, _, rfl, Blk.new w.drew _ _, hge, grownCap_le_maxLen w (n + m) old e h63, ?_, ?_⟩⟩
    · simp only [Array.size_append, List.size_toArray, size_zeroCells, hzs, hown.1, hl, ← Nat.add_mul]
      exact Nat.mul_le_mul_right _ (by omega)
    · rw [← hlen]
      simp only [Array.toList_append]
      exact List.take_left
  have grows : ∀ (old : Nat) (row : Option Nat), w.grownBy (w.drew.alloc (.cells (xs.toArray ++ news.toArray ++ Builtin.zeroCells z.cells (grownCap w (n + m) old e - (n + m))) e)) row := fun old row => ⟨rfl, rfl, rfl, by simp, fun k hk _ => heap_alloc_old w.drew _ k hk⟩
  have lts : ∀ (old : Nat), w.heap.size < (w.drew.alloc (.cells (xs.toArray ++ news.toArray ++ Builtin.zeroCells z.cells (grownCap w (n + m) old e - (n + m))) e)).heap.size := fun old => by simp
  rcases hown.2 with ⟨rfl, rfl⟩ | ⟨g, cap, cur, rfl, hg, hnc, hcm, hcs, htake⟩
  · have hx : xs = [] := List.eq_nil_of_length_eq_zero (by simpa using hown.1)
    subst hx
    have hr := run_append_nil (P := P) w t ty e i z ht hi hz ad m c news hl hnews hm (by omega) (by simp at hbytes; omega)
    have h2 := made 0
    have h3 := grows 0
    have h4 := lts 0
    simp only [Nat.zero_add, List.nil_append, Array.empty_append] at h2 h3 h4 ⊢
    exact ⟨_, _, _, hr, h2, h3 _, .inr rfl, h4⟩
  · by_cases hroom : n + m ≤ cap
    · have hmul : (n + m) * i.size ≤ cap * i.size := Nat.mul_le_mul_right _ hroom
      have hfit : n * i.size + news.length ≤ cur.size := by rw [hl, ← Nat.add_mul]; omega
      have hr := run_append_room (P := P) w t ty e i ht hi g n cap cur hg ad m c news hl hnews h1 hroom hfit
      have hlt : g < w.heap.size := Blk.lt hg
      refine ⟨_, _, _, hr, ⟨hlen, .inr ⟨g, cap, _, rfl, setRow_heap w g cur _ e _ hg, hroom, hcm, ?_, ?_⟩⟩, ⟨rfl, rfl, rfl, by simp, fun k _ hk => setRow_other w g k _ (fun e => hk (by simp [Value.ownBlock, e]))⟩, .inl rfl, by simpa using hlt⟩
      · simp only [List.size_toArray, List.length_append, List.length_take, List.length_drop, Array.length_toList]
        omega
      · rw [htake, ← hlen]
        exact List.take_left
    · have hr := run_append_grow (P := P) w t ty e i z ht hi hz ⟨g, 0, none⟩ n cap xs hown.1 (fun j u hj => by rw [add_eq, Nat.zero_add]; exact RowW.cell hown hj) ad m c news hl hnews (by omega) h63' (growslice_fits (by omega) hbytes)
      exact ⟨_, _, _, hr, made cap, grows cap _, .inr rfl, lts cap⟩

/-- At the list of a plain region's operations. -/
theorem wpList_append_row {ops : Array Oper} {rest : List Oper} {o : Oper} {a : Act} {Q : Exit → Act → World → Prop} (hgd : o.guard = none) (s x : Operand) (t : TypeId) (ho : o.op = .call { callee := .builtin .append, args := #[s, x], argTypes := #[t, t] })
    (e : TypeId) (i : TypeInfo) (z : Value) (size bytes : Nat) (ht : P.underlying t = some (.slice e)) (hi : P.info? e = some i) (hz : i.zero = some z) (hsize : i.size = size) (hby : i.bytes = bytes) (hzs : z.cells.size = size)
    (v : Value) (n : Nat) (xs : List Value) (hs : a.eval s = v) (hown : RowW w e size v n xs) (ad : Addr) (m c : Nat) (news : List Value) (hx : a.eval x = .slice (some ad) m c) (hl : news.length = m * size) (hnews : ∀ j u, news[j]? = some u → w.cell? (ad.add j) = some u) (h1 : ∀ u ∈ news, u.oneCell' = true)
    (hm : 0 < m) (h63 : n + m ≤ maxLen) (hbytes : (n + m) * bytes ≤ 140737488355328)
    (h : ∀ g cap w', RowW w' e size (.slice (some ⟨g, 0, none⟩) (n + m) cap) (n + m) (xs ++ news) → w.grownBy w' v.ownBlock → (v.ownBlock = some g ∨ g = w.heap.size) → g < w'.heap.size → wpList P ops Q rest (a.put o.dst (.slice (some ⟨g, 0, none⟩) (n + m) cap)) w') : wpList P ops Q (o :: rest) a w :=
  wpList_plain hgd fun _ hK => by
    obtain ⟨g, cap, w', hr, h2, h3, h4, h5⟩ := run_append_row (P := P) w t o.type e i z size bytes ht hi hz hsize hby hzs v n xs hown ad m c news hl hnews h1 hm h63 hbytes
    unfold Oper.wp execOp
    simp only [ho, resolve, invoke, builtin, Sem.run_bind, Sem.run_pure, Result.andThen_ok, List.map_toArray, List.map_cons, List.map_nil, hs, hx, hr]
    exact hK _ _ (h g cap w' h2 h3 h4 h5)
/-- The same, inside a fence. -/
theorem wpListIn_append_row {F : Fence} {fn : Nat} {ops : Array Oper} {rest : List Oper} {o : Oper} {a : Act} {Q : Exit → Act → World → Prop} (hgd : o.guard = none) (s x : Operand) (t : TypeId) (ho : o.op = .call { callee := .builtin .append, args := #[s, x], argTypes := #[t, t] })
    (e : TypeId) (i : TypeInfo) (z : Value) (size bytes : Nat) (ht : P.underlying t = some (.slice e)) (hi : P.info? e = some i) (hz : i.zero = some z) (hsize : i.size = size) (hby : i.bytes = bytes) (hzs : z.cells.size = size)
    (v : Value) (n : Nat) (xs : List Value) (hs : a.eval s = v) (hown : RowW w e size v n xs) (ad : Addr) (m c : Nat) (news : List Value) (hx : a.eval x = .slice (some ad) m c) (hl : news.length = m * size) (hnews : ∀ j u, news[j]? = some u → w.cell? (ad.add j) = some u) (h1 : ∀ u ∈ news, u.oneCell' = true)
    (hm : 0 < m) (h63 : n + m ≤ maxLen) (hbytes : (n + m) * bytes ≤ 140737488355328)
    (h : ∀ g cap w', RowW w' e size (.slice (some ⟨g, 0, none⟩) (n + m) cap) (n + m) (xs ++ news) → w.grownBy w' v.ownBlock → (v.ownBlock = some g ∨ g = w.heap.size) → g < w'.heap.size → wpListIn F fn P ops Q rest (a.put o.dst (.slice (some ⟨g, 0, none⟩) (n + m) cap)) w') : wpListIn F fn P ops Q (o :: rest) a w := by
  refine wpListIn_plain hgd fun _ hK => ?_
  obtain ⟨g, cap, w', hr, h2, h3, h4, h5⟩ := run_append_row (P := P) w t o.type e i z size bytes ht hi hz hsize hby hzs v n xs hown ad m c news hl hnews h1 hm h63 hbytes
  unfold Oper.wpIn
  constructor
  · simp [Oper.about, ho, resolve, Target.leads, Sem.run_pure]
  · rw [Oper.semAt_plain F _ _ (by rw [ho]; intro c hc; cases hc)]
    simp [execOp, ho, resolve, invoke, builtin, hs, hx, hr, Result.andThen]
    exact hK _ _ (h g cap w' h2 h3 h4 h5)
/-- At a step of a region that draws its order. -/
theorem step_append_row {ops : Array Oper} {o : Oper} {a : Act} {K : Act → World → Prop} {Q : Exit → Act → World → Prop} {E : Prop} (hgd : o.guard = none) (s x : Operand) (t : TypeId) (ho : o.op = .call { callee := .builtin .append, args := #[s, x], argTypes := #[t, t] })
    (e : TypeId) (i : TypeInfo) (z : Value) (size bytes : Nat) (ht : P.underlying t = some (.slice e)) (hi : P.info? e = some i) (hz : i.zero = some z) (hsize : i.size = size) (hby : i.bytes = bytes) (hzs : z.cells.size = size)
    (v : Value) (n : Nat) (xs : List Value) (hs : a.eval s = v) (hown : RowW w e size v n xs) (ad : Addr) (m c : Nat) (news : List Value) (hx : a.eval x = .slice (some ad) m c) (hl : news.length = m * size) (hnews : ∀ j u, news[j]? = some u → w.cell? (ad.add j) = some u) (h1 : ∀ u ∈ news, u.oneCell' = true)
    (hm : 0 < m) (h63 : n + m ≤ maxLen) (hbytes : (n + m) * bytes ≤ 140737488355328)
    (h : ∀ g cap w', RowW w' e size (.slice (some ⟨g, 0, none⟩) (n + m) cap) (n + m) (xs ++ news) → w.grownBy w' v.ownBlock → (v.ownBlock = some g ∨ g = w.heap.size) → g < w'.heap.size → K (a.put o.dst (.slice (some ⟨g, 0, none⟩) (n + m) cap)) w') :
    if Region.wanted o (yielded ops a.tmps) = true then Oper.wp P o a w K Q else E := by
  have hw : Region.wanted o (yielded ops a.tmps) = true := by simp [Region.wanted, hgd]
  rw [if_pos hw]
  obtain ⟨g, cap, w', hr, h2, h3, h4, h5⟩ := run_append_row (P := P) w t o.type e i z size bytes ht hi hz hsize hby hzs v n xs hown ad m c news hl hnews h1 hm h63 hbytes
  unfold Oper.wp execOp
  simp only [ho, resolve, invoke, builtin, Sem.run_bind, Sem.run_pure, Result.andThen_ok, List.map_toArray, List.map_cons, List.map_nil, hs, hx, hr]
  exact h g cap w' h2 h3 h4 h5
end

/-- Only blocks of F were written. -/
structure Only (F : Nat → Prop) (w w' : World) : Prop where
  os : w'.os = w.os
  tape : w'.tape = w.tape
  output : w'.output = w.output
  size : w.heap.size ≤ w'.heap.size
  block : ∀ k, k < w.heap.size → ¬ F k → w'.heap[k]? = w.heap[k]?
/-- Only blocks of F were written; the blocks of F' are of F, or new. -/
structure Step (F F' : Nat → Prop) (w w' : World) : Prop where
  only : Only F w w'
  ext : ∀ k, F' k → F k ∨ w.heap.size ≤ k
theorem Only.refl (F : Nat → Prop) (w : World) : Only F w w := ⟨rfl, rfl, rfl, Nat.le_refl _, fun _ _ _ => rfl⟩
theorem Step.refl (F : Nat → Prop) (w : World) : Step F F w w := ⟨Only.refl F w, fun k h => .inl h⟩
theorem Step.trans {F F1 F2 : Nat → Prop} {w w1 w2 : World} (h : Step F F1 w w1) (k : Step F1 F2 w1 w2) : Step F F2 w w2 :=
  ⟨⟨k.only.os.trans h.only.os, k.only.tape.trans h.only.tape, k.only.output.trans h.only.output, Nat.le_trans h.only.size k.only.size, fun i hi hn =>
    (k.only.block i (Nat.lt_of_lt_of_le hi h.only.size) (fun h1 => (h.ext i h1).elim hn (by omega))).trans (h.only.block i hi hn)⟩,
   fun i hi => (k.ext i hi).elim (h.ext i) (fun h1 => .inr (Nat.le_trans h.only.size h1))⟩
theorem Step.size {F F' : Nat → Prop} {w w' : World} (h : Step F F' w w') : w.heap.size ≤ w'.heap.size := h.only.size
theorem Step.of_below {F : Nat → Prop} {w w' : World} (h : Below w.heap.size w w') : Step F F w w' := ⟨⟨h.os, h.tape, h.output, h.size, fun k hk _ => h.block k hk⟩, fun k hk => .inl hk⟩
theorem Step.below {F F' : Nat → Prop} {w w' : World} {n : Nat} (h : Step F F' w w') (hn : n ≤ w.heap.size) (hF : ∀ k, F k → n ≤ k) : Below n w w' :=
  ⟨h.only.os, h.only.tape, h.only.output, h.only.size, fun k hk => h.only.block k (by omega) (fun hf => by have := hF k hf; omega)⟩
/-- A step of blocks that all lie behind a start is no matter to it. -/
theorem Step.start {F F' : Nat → Prop} {a w w' : World} {n : Nat} (hb : Below n a w) (hn : n ≤ a.heap.size) (h : Step F F' w w') (hF : ∀ k, F k → n ≤ k) : Below n a w' := hb.trans (h.below (Nat.le_trans hn hb.size) hF)
theorem Step.from {F F' : Nat → Prop} {w w' : World} {n : Nat} (h : Step F F' w w') (hn : n ≤ w.heap.size) (hF : ∀ k, F k → n ≤ k) : ∀ k, F' k → n ≤ k := fun k hk => (h.ext k hk).elim (hF k) (Nat.le_trans hn)
theorem Step.cell {F F' : Nat → Prop} {w w' : World} {b o : Nat} (h : Step F F' w w') (hb : b < w.heap.size) (hn : ¬ F b) : w'.cell? ⟨b, o, none⟩ = w.cell? ⟨b, o, none⟩ := World.cell?_of_block (w := w) (h.only.block b hb hn)
theorem Only.set {F : Nat → Prop} {a b : World} (h : Only F a b) {K : Nat} (hK : F K ∨ a.heap.size ≤ K) (o : Nat) (u : Value) : Only F a (b.setCell ⟨K, o, none⟩ u) :=
  ⟨h.os, h.tape, h.output, by show _ ≤ (b.heap.modify _ _).size; rw [Array.size_modify]; exact h.size, fun k hk hn => (Below.heap_setCell b ⟨K, o, none⟩ u k (fun e => by subst e; rcases hK with h1 | h1; exact hn h1; exact absurd hk (by omega))).trans (h.block k hk hn)⟩
theorem Only.alloc {F : Nat → Prop} {a b : World} (h : Only F a b) (o : Obj) : Only F a (b.alloc o) :=
  ⟨h.os, h.tape, h.output, by simp; have := h.size; omega, fun k hk hn => (heap_alloc_old b o k (Nat.lt_of_lt_of_le hk h.size)).trans (h.block k hk hn)⟩
theorem Only.grown {F : Nat → Prop} {a b c : World} (h : Only F a b) {row : Option Nat} (hg : b.grownBy c row) (hr : ∀ k, row = some k → F k ∨ a.heap.size ≤ k) : Only F a c :=
  ⟨hg.os.trans h.os, hg.tape.trans h.tape, hg.output.trans h.output, Nat.le_trans h.size hg.size, fun k hk hn => (hg.block k (Nat.lt_of_lt_of_le hk h.size) (fun e => by rcases hr k e.symm with h1 | h1; exact hn h1; exact absurd hk (by omega))).trans (h.block k hk hn)⟩
theorem Only.drew {F : Nat → Prop} {a b : World} (h : Only F a b) : Only F a b.drew := ⟨h.os, h.tape, h.output, h.size, h.block⟩
end Go.Proofs.Ytabgplniaiehpab

/- Over whatever program: a struct in a block of its own, some of whose fields are rows of its own. -/
namespace Go.Proofs.Ytabgplniaiehpab
open Go.RowKit
set_option linter.unusedVariables false

/-- Two rows that share no block. -/
def Apart (v u : Value) : Prop := ∀ k, v.ownBlock = some k → u.ownBlock ≠ some k
theorem Apart.symm {v u : Value} (h : Apart v u) : Apart u v := fun k h1 h2 => h k h2 h1
/-- What a field is: a row of n elements of type e, size cells each, whose cells are xs; or something else. -/
inductive Fld where
  | row (e : TypeId) (size n : Nat) (xs : List Value)
  | other
/-- A struct of type T in block B, its fields vs; it lies, with its rows, in the blocks of F. -/
structure Rcd (W : World) (F : Nat → Prop) (B : Nat) (T : TypeId) (vs : List Value) (rs : List Fld) : Prop where
  blk : Blk W B T vs.toArray
  b : F B
  lt : ∀ k, F k → k < W.heap.size
  get : ∀ (j : Nat) e sz n xs, rs[j]? = some (Fld.row e sz n xs) → ∃ v, vs[j]? = some v ∧ RowW W e sz v n xs ∧ ∀ k, v.ownBlock = some k → F k ∧ k ≠ B
  apart : ∀ (i j : Nat) e sz n xs e' sz' n' xs' v u, i ≠ j → rs[i]? = some (Fld.row e sz n xs) → rs[j]? = some (Fld.row e' sz' n' xs') → vs[i]? = some v → vs[j]? = some u → Apart v u

section
variable {W W' : World} {F F' : Nat → Prop} {B : Nat} {T : TypeId} {vs : List Value} {rs : List Fld}
theorem Rcd.kept (h : Rcd W F B T vs rs) (hb : ∀ k, F k → W'.heap[k]? = W.heap[k]?) (hs : W.heap.size ≤ W'.heap.size) : Rcd W' F B T vs rs :=
  ⟨(hb B h.b).trans h.blk, h.b, fun k hk => Nat.lt_of_lt_of_le (h.lt k hk) hs, fun j e sz n xs hj => by
    obtain ⟨v, h1, h2, h3⟩ := h.get j e sz n xs hj
    exact ⟨v, h1, h2.kept fun k hk => hb k (h3 k hk).1, h3⟩, h.apart⟩
theorem Rcd.below (h : Rcd W F B T vs rs) (hb : Below W.heap.size W W') : Rcd W' F B T vs rs := h.kept (fun k hk => hb.block k (h.lt k hk)) hb.size
theorem Rcd.drewN (h : Rcd W F B T vs rs) (n : Nat) : Rcd (W.drewN n) F B T vs rs := h.kept (fun _ _ => rfl) (Nat.le_refl _)
theorem Rcd.step {F1 : Nat → Prop} (h : Rcd W F B T vs rs) (hb : Step F' F1 W W') (hd : ∀ k, F k → ¬ F' k) : Rcd W' F B T vs rs := h.kept (fun k hk => hb.only.block k (h.lt k hk) (hd k hk)) hb.size
theorem Rcd.blt (h : Rcd W F B T vs rs) : B < W.heap.size := h.lt B h.b
theorem Rcd.cell (h : Rcd W F B T vs rs) {j : Nat} {v : Value} (hj : vs[j]? = some v) : W.cell? ⟨B, j, none⟩ = some v := h.blk.at (by simpa using hj)
theorem Rcd.frozen (h : Rcd W F B T vs rs) (j : Nat) : W.frozen? ⟨B, j, none⟩ = false := h.blk.frozen j
theorem set_get {α : Type} {l : List α} {i j : Nat} {x y : α} (h : (l.set i x)[j]? = some y) : (i = j ∧ x = y ∧ i < l.length) ∨ (i ≠ j ∧ l[j]? = some y) := by
  rw [List.getElem?_set] at h
  split at h
  · rename_i hij
    split at h
    · cases h; exact .inl ⟨hij, rfl, by omega⟩
    · cases h
  · rename_i hij
    exact .inr ⟨hij, h⟩
theorem size_setCell (W : World) (a : Addr) (u : Value) : (W.setCell a u).heap.size = W.heap.size := by show (W.heap.modify _ _).size = _; rw [Array.size_modify]
/-- A field j that is a row is told anew: the new row lies where the old one lay, or behind W. -/
theorem Rcd.regrow (h : Rcd W F B T vs rs) {j : Nat} {e : TypeId} {sz n : Nat} {xs : List Value} {v : Value} (hr : rs[j]? = some (Fld.row e sz n xs)) (hv : vs[j]? = some v) {W1 w2 : World} (h1 : Below W.heap.size W W1) (hg : W1.grownBy w2 v.ownBlock)
    {g cap n' : Nat} {xs' : List Value} (hown : RowW w2 e sz (.slice (some ⟨g, 0, none⟩) n' cap) n' xs') (hat : v.ownBlock = some g ∨ W.heap.size ≤ g) :
    Blk w2 B T vs.toArray ∧ Rcd (w2.setCell ⟨B, j, none⟩ (.slice (some ⟨g, 0, none⟩) n' cap)) (fun k => F k ∨ k = g) B T (vs.set j (.slice (some ⟨g, 0, none⟩) n' cap)) (rs.set j (Fld.row e sz n' xs')) ∧ Step F (fun k => F k ∨ k = g) W (w2.setCell ⟨B, j, none⟩ (.slice (some ⟨g, 0, none⟩) n' cap)) := by
  obtain ⟨v', e1, hrow, hF⟩ := h.get j e sz n xs hr
  obtain rfl : v' = v := Option.some.inj (e1.symm.trans hv)
  have hB := h.blt
  have hs1 := h1.size
  have hs2 := hg.size
  have hgB : g ≠ B := by
    rcases hat with h' | h'
    · exact (hF g h').2
    · omega
  have keep : ∀ k, k < W.heap.size → v'.ownBlock ≠ some k → w2.heap[k]? = W.heap[k]? := fun k hk hn => (hg.block k (by omega) (Ne.symm hn)).trans (h1.block k hk)
  have hb2 : Blk w2 B T vs.toArray := (keep B hB (fun e => (hF B e).2 rfl)).trans h.blk
  have hsz := size_setCell w2 ⟨B, j, none⟩ (.slice (some ⟨g, 0, none⟩) n' cap)
  refine ⟨hb2, ⟨?_, .inl h.b, fun k hk => ?_, fun i e' sz' m ys hi => ?_, fun i l e2 sz2 n2 xs2 e3 sz3 n3 xs3 x y hil hi hl hx hy => ?_⟩, ⟨?_, fun k hk => ?_⟩⟩
  · have := hb2.setAt j (.slice (some ⟨g, 0, none⟩) n' cap)
    simpa using this
  · rw [hsz]
    rcases hk with hk | rfl
    · have := h.lt k hk; omega
    · exact hown.lt rfl
  · rcases set_get hi with ⟨rfl, e2, _⟩ | ⟨hne, hi⟩
    · cases e2
      refine ⟨_, by rw [List.getElem?_set_self (List.getElem?_eq_some_iff.1 hv).1], hown.kept fun k hk => Below.heap_setCell w2 ⟨B, _, none⟩ _ k (fun e => by cases hk; exact hgB e), fun k hk => by cases hk; exact ⟨.inr rfl, hgB⟩⟩
    · obtain ⟨u, hu, hrow', hF'⟩ := h.get i e' sz' m ys hi
      refine ⟨u, by rw [List.getElem?_set_ne hne]; exact hu, hrow'.kept fun k hk => ?_, fun k hk => ⟨.inl (hF' k hk).1, (hF' k hk).2⟩⟩
      exact (Below.heap_setCell w2 ⟨B, _, none⟩ _ k (hF' k hk).2).trans (keep k (hrow'.lt hk) (fun e => h.apart j i _ _ _ _ _ _ _ _ _ _ hne hr hi hv hu k e hk))
  · -- apart
    have main : ∀ (i : Nat) u e' sz' m ys, j ≠ i → rs[i]? = some (Fld.row e' sz' m ys) → vs[i]? = some u → Apart (.slice (some ⟨g, 0, none⟩) n' cap) u := by
      intro i u e' sz' m ys hne hi hu k hk hk'
      have hkg : g = k := by simpa [Value.ownBlock] using hk
      subst hkg
      rcases hat with h' | h'
      · exact h.apart j i _ _ _ _ _ _ _ _ _ _ hne hr hi hv hu g h' hk'
      · obtain ⟨u', hu', hrow', _⟩ := h.get i e' sz' m ys hi
        obtain rfl : u' = u := Option.some.inj (hu'.symm.trans hu)
        have := hrow'.lt hk'; omega
    rcases set_get hi with ⟨rfl, e4, _⟩ | ⟨hne, hi⟩
    · rw [List.getElem?_set_self (List.getElem?_eq_some_iff.1 hv).1] at hx
      cases hx
      rw [List.getElem?_set_ne hil] at hl hy
      exact main l y _ _ _ _ hil hl hy
    · rw [List.getElem?_set_ne hne] at hx
      rcases set_get hl with ⟨rfl, e4, _⟩ | ⟨hne', hl⟩
      · rw [List.getElem?_set_self (List.getElem?_eq_some_iff.1 hv).1] at hy
        cases hy
        exact (main i x _ _ _ _ hne hi hx).symm
      · rw [List.getElem?_set_ne hne'] at hy
        exact h.apart i l _ _ _ _ _ _ _ _ _ _ hil hi hl hx hy
  · refine Only.set ⟨hg.os.trans h1.os, hg.tape.trans h1.tape, hg.output.trans h1.output, by omega, fun k hk hn => ?_⟩ (.inl h.b) j _
    exact keep k hk (fun e => hn (hF k e).1)
  · rcases hk with hk | rfl
    · exact .inl hk
    · rcases hat with h' | h'
      · exact .inl (hF k h').1
      · exact .inr h'
/-- A row is cut. -/
theorem Rcd.cut (h : Rcd W F B T vs rs) {j : Nat} {e : TypeId} {sz n g cap : Nat} {xs : List Value} (hr : rs[j]? = some (Fld.row e sz n xs)) (hv : vs[j]? = some (.slice (some ⟨g, 0, none⟩) n cap)) {k : Nat} (hk : k ≤ n) :
    Rcd (W.setCell ⟨B, j, none⟩ (.slice (some ⟨g, 0, none⟩) k cap)) F B T (vs.set j (.slice (some ⟨g, 0, none⟩) k cap)) (rs.set j (Fld.row e sz k (xs.take (k * sz)))) ∧ Step F F W (W.setCell ⟨B, j, none⟩ (.slice (some ⟨g, 0, none⟩) k cap)) := by
  obtain ⟨v', e1, hrow, hF⟩ := h.get j e sz n xs hr
  obtain rfl : v' = _ := Option.some.inj (e1.symm.trans hv)
  have hFg := hF g rfl
  obtain ⟨_, h2, h3⟩ := h.regrow hr hv (Below.refl _ W) (w2 := W) ⟨rfl, rfl, rfl, Nat.le_refl _, fun _ _ _ => rfl⟩ (hrow.cut hk) (.inl rfl)
  have hFF : (fun q => F q ∨ q = g) = F := by
    funext q
    apply propext
    constructor
    · rintro (h' | rfl)
      · exact h'
      · exact hFg.1
    · exact .inl
  rw [hFF] at h2 h3
  exact ⟨h2, h3⟩
/-- A cell of a row is written. -/
theorem Rcd.put (h : Rcd W F B T vs rs) {j : Nat} {e : TypeId} {sz n g cap : Nat} {xs : List Value} (hr : rs[j]? = some (Fld.row e sz n xs)) (hv : vs[j]? = some (.slice (some ⟨g, 0, none⟩) n cap)) {i : Nat} (hi : i < n * sz) (u : Value) :
    Rcd (W.setCell ⟨g, i, none⟩ u) F B T vs (rs.set j (Fld.row e sz n (xs.set i u))) ∧ Step F F W (W.setCell ⟨g, i, none⟩ u) := by
  obtain ⟨v', e1, hrow, hF⟩ := h.get j e sz n xs hr
  obtain rfl : v' = _ := Option.some.inj (e1.symm.trans hv)
  have hFg := hF g rfl
  have hrl := (List.getElem?_eq_some_iff.1 hr).1
  refine ⟨⟨(Below.heap_setCell W ⟨g, i, none⟩ u B (Ne.symm hFg.2)).trans h.blk, h.b, fun k hk => by rw [size_setCell]; exact h.lt k hk, fun l e' sz' m ys hl => ?_, fun i' l e2 sz2 n2 xs2 e3 sz3 n3 xs3 x y hil hi' hl hx hy => ?_⟩, ⟨(Only.refl F W).set (.inl hFg.1) i u, fun k hk => .inl hk⟩⟩
  · rcases set_get hl with ⟨rfl, e2, _⟩ | ⟨hne, hl⟩
    · cases e2
      exact ⟨_, hv, hrow.set hi u, hF⟩
    · obtain ⟨y, hy, hrow', hF'⟩ := h.get l e' sz' m ys hl
      exact ⟨y, hy, hrow'.kept fun k hk => Below.heap_setCell W ⟨g, i, none⟩ u k (fun e => by rw [e] at hk; exact h.apart j l _ _ _ _ _ _ _ _ _ _ hne hr hl hv hy g rfl hk), hF'⟩
  · have old : ∀ (q : Nat) e2 sz2 n2 xs2, (rs.set j (Fld.row e sz n (xs.set i u)))[q]? = some (Fld.row e2 sz2 n2 xs2) → ∃ e3 sz3 n3 xs3, rs[q]? = some (Fld.row e3 sz3 n3 xs3) := by
      intro q e2 sz2 n2 xs2 hq
      rcases set_get hq with ⟨rfl, _, _⟩ | ⟨_, hq⟩
      · exact ⟨_, _, _, _, hr⟩
      · exact ⟨_, _, _, _, hq⟩
    obtain ⟨a1, a2, a3, a4, ha⟩ := old _ _ _ _ _ hi'
    obtain ⟨b1, b2, b3, b4, hb⟩ := old _ _ _ _ _ hl
    exact h.apart i' l _ _ _ _ _ _ _ _ _ _ hil ha hb hx hy
end
end Go.Proofs.Ytabgplniaiehpab

/- Layer 5 (arena) in memory: slots in a row, free numbers in another one. -/
namespace Go.Proofs.Ytabgplniaiehpab
open Go.RowKit
set_option linter.unusedVariables false

/-- A slot: the cells of its thing; whether it is taken. -/
abbrev Slt := List Value × Bool
def slc (s : Slt) : List Value := s.1 ++ [.bool s.2]
/-- The cells of slots. -/
def slcs (L : List Slt) : List Value := L.flatMap slc
def WSl (m : Nat) (L : List Slt) : Prop := ∀ s ∈ L, s.1.length = m
theorem slc_len {m : Nat} {s : Slt} (h : s.1.length = m) : (slc s).length = m + 1 := by simp [slc, h]
theorem slcs_len {m : Nat} {L : List Slt} (h : WSl m L) : (slcs L).length = L.length * (m + 1) := by
  induction L with
  | nil => simp [slcs]
  | cons s L ih =>
    have h1 := ih (fun x hx => h x (by simp [hx]))
    unfold slcs at h1 ⊢
    rw [List.flatMap_cons, List.length_append, h1, slc_len (h s (by simp)), List.length_cons, Nat.add_mul]
    omega
theorem slcs_snoc (L : List Slt) (s : Slt) : slcs (L ++ [s]) = slcs L ++ slc s := by simp [slcs]
theorem slcs_at {m : Nat} {L : List Slt} (h : WSl m L) {i j : Nat} {s : Slt} (hi : L[i]? = some s) (hj : j < m + 1) : (slcs L)[i * (m + 1) + j]? = (slc s)[j]? := by
  induction L generalizing i with
  | nil => simp at hi
  | cons x L ih =>
    have hx := slc_len (h x (by simp))
    unfold slcs at ih ⊢
    rw [List.flatMap_cons]
    cases i with
    | zero =>
      simp at hi
      subst hi
      rw [Nat.zero_mul, Nat.zero_add, List.getElem?_append_left (by omega)]
    | succ i =>
      simp at hi
      rw [Nat.add_mul, Nat.one_mul, List.getElem?_append_right (by omega), hx, show i * (m + 1) + (m + 1) + j - (m + 1) = i * (m + 1) + j by omega]
      exact ih (fun y hy => h y (by simp [hy])) hi
theorem slcs_set {m : Nat} {L : List Slt} (h : WSl m L) {i j : Nat} {s s' : Slt} {u : Value} (hi : L[i]? = some s) (hj : j < m + 1) (hs : slc s' = (slc s).set j u) : (slcs L).set (i * (m + 1) + j) u = slcs (L.set i s') := by
  induction L generalizing i with
  | nil => simp at hi
  | cons x L ih =>
    have hx := slc_len (h x (by simp))
    unfold slcs at ih ⊢
    rw [List.flatMap_cons]
    cases i with
    | zero =>
      simp at hi
      subst hi
      rw [Nat.zero_mul, Nat.zero_add, List.set_append_left _ _ (by omega), List.set_cons_zero, List.flatMap_cons, hs]
    | succ i =>
      simp at hi
      rw [Nat.add_mul, Nat.one_mul, List.set_append_right _ _ (by omega), hx, show i * (m + 1) + (m + 1) + j - (m + 1) = i * (m + 1) + j by omega, ih (fun y hy => h y (by simp [hy])) hi, List.set_cons_succ, List.flatMap_cons]
theorem WSl.set {m : Nat} {L : List Slt} (h : WSl m L) {i : Nat} {s : Slt} (hs : s.1.length = m) : WSl m (L.set i s) := fun x hx => by
  rcases List.mem_or_eq_of_mem_set hx with h1 | h1
  · exact h x h1
  · rw [h1]; exact hs
theorem WSl.snoc {m : Nat} {L : List Slt} (h : WSl m L) {s : Slt} (hs : s.1.length = m) : WSl m (L ++ [s]) := fun x hx => by
  rcases List.mem_append.1 hx with h1 | h1
  · exact h x h1
  · simp at h1; rw [h1]; exact hs

/-- Is the number i one of a slot that is taken? -/
def isT (L : List Slt) (i : Int) : Bool := decide (1 ≤ i) && (match L[(i - 1).toNat]? with | some s => s.2 | none => false)
theorem isT_low {L : List Slt} {i : Int} (h : ¬ 1 ≤ i) : isT L i = false := by simp [isT, h]
theorem isT_high {L : List Slt} {i : Int} (h : (L.length : Int) < i) : isT L i = false := by
  unfold isT
  rw [List.getElem?_eq_none (by omega)]
  simp
theorem isT_at {L : List Slt} {k : Nat} {s : Slt} (h : L[k]? = some s) : isT L ((k : Int) + 1) = s.2 := by
  unfold isT
  rw [show ((k : Int) + 1 - 1).toNat = k by omega, h]
  simp
  omega
theorem isT_iff {L : List Slt} {i : Int} : isT L i = true ↔ ∃ (k : Nat) (x : List Value), i = k + 1 ∧ L[k]? = some (x, true) := by
  constructor
  · intro h
    unfold isT at h
    simp only [Bool.and_eq_true, decide_eq_true_eq] at h
    obtain ⟨h1, h2⟩ := h
    cases hq : L[(i - 1).toNat]? with
    | none => rw [hq] at h2; cases h2
    | some s =>
      rw [hq] at h2
      obtain ⟨x, b⟩ := s
      simp at h2
      subst h2
      exact ⟨(i - 1).toNat, x, by omega, hq⟩
  · rintro ⟨k, x, rfl, h⟩
    rw [isT_at h]

/-- The slot that is taken next; the slots behind that, with s there. -/
def takeI (L : List Slt) (fr : List Int) : Int := match fr.getLast? with | none => (L.length : Int) + 1 | some f => f
def takeL (L : List Slt) (fr : List Int) (s : Slt) : List Slt := match fr.getLast? with | none => L ++ [s] | some f => L.set (f - 1).toNat s
theorem takeI_nil (L : List Slt) : takeI L [] = (L.length : Int) + 1 := rfl
theorem takeI_snoc (L : List Slt) (fr : List Int) (f : Int) : takeI L (fr ++ [f]) = f := by unfold takeI; rw [List.getLast?_concat]
theorem takeL_nil (L : List Slt) (s : Slt) : takeL L [] s = L ++ [s] := rfl
theorem takeL_snoc (L : List Slt) (fr : List Int) (f : Int) (s : Slt) : takeL L (fr ++ [f]) s = L.set (f - 1).toNat s := by unfold takeL; rw [List.getLast?_concat]
theorem takeL_len (L : List Slt) (fr : List Int) (s : Slt) : (takeL L fr s).length + fr.length = L.length + fr.dropLast.length + 1 := by
  rcases List.eq_nil_or_concat fr with rfl | ⟨fr', f, rfl⟩
  · simp [takeL_nil]
  · rw [List.concat_eq_append, takeL_snoc]; simp; omega
theorem takeL_le (L : List Slt) (fr : List Int) (s : Slt) : (takeL L fr s).length ≤ L.length + 1 ∧ L.length ≤ (takeL L fr s).length ∧ fr.dropLast.length ≤ fr.length := by
  rcases List.eq_nil_or_concat fr with rfl | ⟨fr', f, rfl⟩
  · simp [takeL_nil]
  · rw [List.concat_eq_append, takeL_snoc]; simp

def i32s (xs : List Int) : List Value := xs.map (Value.int .i32)
theorem i32s_len (xs : List Int) : (i32s xs).length = xs.length := by simp [i32s]
theorem i32s_at {xs : List Int} {i : Nat} (h : i < xs.length) : (i32s xs)[i]? = some (.int .i32 (lAt xs i)) := by
  unfold i32s; rw [List.getElem?_map, lAt_some h]; rfl
theorem i32s_snoc (xs : List Int) (x : Int) : i32s (xs ++ [x]) = i32s xs ++ [.int .i32 x] := by simp [i32s]

/-- A block's cells f v u: v stands at o, u at o1. -/
structure Hole (f : Value → Value → List Value) (o o1 : Nat) : Prop where
  a : ∀ v u, (f v u)[o]? = some v
  b : ∀ v u, (f v u)[o1]? = some u
  sa : ∀ v u x, (f v u).set o x = f x u
  sb : ∀ v u x, (f v u).set o1 x = f v x
theorem hole2 (ex : List Value) : Hole (fun v u => v :: u :: ex) 0 1 := ⟨fun _ _ => rfl, fun _ _ => rfl, fun _ _ _ => rfl, fun _ _ _ => rfl⟩
section
variable {f : Value → Value → List Value} {o o1 : Nat} {W : World} {B : Nat} {t : TypeId} {a b : Value}
theorem Hole.cells (k : Hole f o o1) (h : Blk W B t (f a b).toArray) : W.cell? ⟨B, o, none⟩ = some a ∧ W.cell? ⟨B, o1, none⟩ = some b := ⟨h.at (by simpa using k.a a b), h.at (by simpa using k.b a b)⟩
theorem Hole.set0 (k : Hole f o o1) (h : Blk W B t (f a b).toArray) (x : Value) : Blk (W.setCell ⟨B, o, none⟩ x) B t (f x b).toArray := by have := h.setAt o x; rw [← k.sa a b x]; simpa using this
theorem Hole.set1 (k : Hole f o o1) (h : Blk W B t (f a b).toArray) (x : Value) : Blk (W.setCell ⟨B, o1, none⟩ x) B t (f a x).toArray := by have := h.setAt o1 x; rw [← k.sb a b x]; simpa using this
end
/-- An arena (of type T, its slots' type S, m cells a thing) in block B, its two cells at o0 and o1, the block's cells φ v u: its slots L, in block G; the free ones fr, as they were freed; it lies in the blocks of F. -/
structure ArnX (φ : Value → Value → List Value) (o0 o1 : Nat) (T S m : Nat) (W : World) (F : Nat → Prop) (B G : Nat) (L : List Slt) (fr : List Int) : Prop where
  ex : ∃ v u, Blk W B T (φ v u).toArray ∧ RowW W S (m + 1) v L.length (slcs L) ∧ RowW W 21 1 u fr.length (i32s fr) ∧ Apart v u ∧ (∀ k, v.ownBlock = some k → k = G ∧ F k ∧ k ≠ B) ∧ (∀ k, u.ownBlock = some k → F k ∧ k ≠ B)
  b : F B
  lt : ∀ k, F k → k < W.heap.size
  wsl : WSl m L
  fr : ∀ f ∈ fr, 1 ≤ f ∧ f ≤ L.length
  ok : Hole φ o0 o1

abbrev Arn (T S m : Nat) := ArnX (fun v u => [v, u]) 0 1 T S m

section
variable {φ : Value → Value → List Value} {o0 o1 : Nat} {T S m : Nat} {W W' : World} {F F' : Nat → Prop} {B G : Nat} {L : List Slt} {fr : List Int}
theorem ArnX.kept (h : ArnX φ o0 o1 T S m W F B G L fr) (hb : ∀ k, F k → W'.heap[k]? = W.heap[k]?) (hs : W.heap.size ≤ W'.heap.size) : ArnX φ o0 o1 T S m W' F B G L fr := by
  obtain ⟨v, u, h1, h2, h3, h4, h5, h6⟩ := h.ex
  exact ⟨⟨v, u, (hb B h.b).trans h1, h2.kept fun k hk => hb k (h5 k hk).2.1, h3.kept fun k hk => hb k (h6 k hk).1, h4, h5, h6⟩, h.b, fun k hk => Nat.lt_of_lt_of_le (h.lt k hk) hs, h.wsl, h.fr, h.ok⟩
theorem ArnX.below (h : ArnX φ o0 o1 T S m W F B G L fr) (hb : Below W.heap.size W W') : ArnX φ o0 o1 T S m W' F B G L fr := h.kept (fun k hk => hb.block k (h.lt k hk)) hb.size
theorem ArnX.drewN (h : ArnX φ o0 o1 T S m W F B G L fr) (n : Nat) : ArnX φ o0 o1 T S m (W.drewN n) F B G L fr := h.kept (fun _ _ => rfl) (Nat.le_refl _)
theorem Step.drewN (h : Step F F' W W') (n : Nat) : Step F F' W (W'.drewN n) := ⟨⟨h.only.os, h.only.tape, h.only.output, h.only.size, h.only.block⟩, h.ext⟩
/-- Something else was written, that lies in the blocks of F'. -/
theorem ArnX.step {F1 : Nat → Prop} (h : ArnX φ o0 o1 T S m W F B G L fr) (hb : Step F' F1 W W') (hd : ∀ k, F k → ¬ F' k) : ArnX φ o0 o1 T S m W' F B G L fr := h.kept (fun k hk => hb.only.block k (h.lt k hk) (hd k hk)) hb.size
theorem Step.apart {F1 F2 : Nat → Prop} (hb : Step F' F1 W W') (hd : ∀ k, F2 k → ¬ F' k) (hl : ∀ k, F2 k → k < W.heap.size) : ∀ k, F2 k → ¬ F1 k := fun k hk h1 => (hb.ext k h1).elim (hd k hk) (fun h2 => by have := hl k hk; omega)
theorem ArnX.blt (h : ArnX φ o0 o1 T S m W F B G L fr) : B < W.heap.size := h.lt B h.b
theorem ArnX.head (h : ArnX φ o0 o1 T S m W F B G L fr) : ∃ ao cap, W.cell? ⟨B, o0, none⟩ = some (.slice ao L.length cap) := by
  obtain ⟨v, u, h1, h2, h3, h4, h5, h6⟩ := h.ex
  obtain ⟨ao, cap, rfl⟩ := h2.form
  exact ⟨ao, cap, (h.ok.cells h1).1⟩
theorem ArnX.tail (h : ArnX φ o0 o1 T S m W F B G L fr) : ∃ ao cap, W.cell? ⟨B, o1, none⟩ = some (.slice ao fr.length cap) := by
  obtain ⟨v, u, h1, h2, h3, h4, h5, h6⟩ := h.ex
  obtain ⟨ao, cap, rfl⟩ := h3.form
  exact ⟨ao, cap, (h.ok.cells h1).2⟩
theorem ArnX.row (h : ArnX φ o0 o1 T S m W F B G L fr) (hn : 0 < L.length) : ∃ cap, W.cell? ⟨B, o0, none⟩ = some (.slice (some ⟨G, 0, none⟩) L.length cap) := by
  obtain ⟨v, u, h1, h2, h3, h4, h5, h6⟩ := h.ex
  obtain ⟨g, cap, rfl⟩ := h2.led hn
  obtain ⟨rfl, _⟩ := h5 g rfl
  exact ⟨cap, (h.ok.cells h1).1⟩
theorem ArnX.froz (h : ArnX φ o0 o1 T S m W F B G L fr) (j : Nat) : W.frozen? ⟨B, j, none⟩ = false := by
  obtain ⟨v, u, h1, _⟩ := h.ex
  exact h1.frozen j
/-- The row of slots: where slot k lies. -/
theorem ArnX.slot (h : ArnX φ o0 o1 T S m W F B G L fr) {k : Nat} {s : Slt} (hk : L[k]? = some s) : F G ∧ G ≠ B ∧ (∀ j u, (slc s)[j]? = some u → W.cell? ⟨G, k * (m + 1) + j, none⟩ = some u) ∧ (∀ j, W.frozen? ⟨G, j, none⟩ = false) := by
  obtain ⟨v, u, h1, h2, h3, h4, h5, h6⟩ := h.ex
  have hlt := (List.getElem?_eq_some_iff.1 hk).1
  obtain ⟨g, cap, rfl⟩ := h2.led (by omega)
  obtain ⟨rfl, hF, hB⟩ := h5 g rfl
  have hs := slc_len (h.wsl s (List.mem_of_getElem? hk))
  refine ⟨hF, hB, fun j u hj => ?_, h2.frozen⟩
  have hjl := (List.getElem?_eq_some_iff.1 hj).1
  exact h2.cell ((slcs_at h.wsl hk (by omega)).trans hj)
theorem ArnX.slotAt (h : ArnX φ o0 o1 T S m W F B G L fr) {k j : Nat} (hk : k < L.length) (hj : j < m + 1) : ∃ u, W.cell? ⟨G, k * (m + 1) + j, none⟩ = some u := by
  have hs := h.wsl _ (List.getElem_mem hk)
  have hl := slc_len hs
  exact ⟨_, (h.slot (List.getElem?_eq_getElem hk)).2.2.1 j _ (List.getElem?_eq_getElem (by omega))⟩
theorem ArnX.slotFz (h : ArnX φ o0 o1 T S m W F B G L fr) (hk : 0 < L.length) (j : Nat) : W.frozen? ⟨G, j, none⟩ = false := (h.slot (List.getElem?_eq_getElem hk)).2.2.2 j
theorem ArnX.slotF (h : ArnX φ o0 o1 T S m W F B G L fr) (hk : 0 < L.length) : F G ∧ G ≠ B := ⟨(h.slot (List.getElem?_eq_getElem hk)).1, (h.slot (List.getElem?_eq_getElem hk)).2.1⟩
/-- A cell of slot k is written. -/
theorem ArnX.put (h : ArnX φ o0 o1 T S m W F B G L fr) {k j : Nat} {s s' : Slt} {u : Value} (hk : L[k]? = some s) (hj : j < m + 1) (hs : slc s' = (slc s).set j u) (hl : s'.1.length = m) : ArnX φ o0 o1 T S m (W.setCell ⟨G, k * (m + 1) + j, none⟩ u) F B G (L.set k s') fr := by
  obtain ⟨v, y, h1, h2, h3, h4, h5, h6⟩ := h.ex
  have hlt := (List.getElem?_eq_some_iff.1 hk).1
  obtain ⟨g, cap, rfl⟩ := h2.led (by omega)
  obtain ⟨rfl, hF, hB⟩ := h5 g rfl
  have hsz : (W.setCell ⟨g, k * (m + 1) + j, none⟩ u).heap.size = W.heap.size := by show (W.heap.modify _ _).size = _; rw [Array.size_modify]
  have hin : k * (m + 1) + j < L.length * (m + 1) := by
    have h1 : (k + 1) * (m + 1) ≤ L.length * (m + 1) := Nat.mul_le_mul_right _ (by omega)
    rw [Nat.add_mul] at h1; omega
  have hset := h2.set hin u
  rw [slcs_set h.wsl hk hj hs] at hset
  refine ⟨⟨_, y, (Below.heap_setCell W ⟨g, _, none⟩ u B (Ne.symm hB)).trans h1, by rw [List.length_set]; exact hset, h3.kept fun q hq => Below.heap_setCell W ⟨g, _, none⟩ u q (fun e => by rw [e] at hq; exact h4 g rfl hq), h4, h5, h6⟩, h.b, fun q hq => by rw [hsz]; exact h.lt q hq, h.wsl.set hl, by rw [List.length_set]; exact h.fr, h.ok⟩
theorem ArnX.step_set (h : ArnX φ o0 o1 T S m W F B G L fr) (hG : F G) (j : Nat) (u : Value) : Step F F W (W.setCell ⟨G, j, none⟩ u) := ⟨(Only.refl F W).set (.inl hG) j u, fun k hk => .inl hk⟩
/-- A row of slots that has grown by one. -/
theorem ArnX.regrow {v u : Value} {w2 : World} {o : Obj} {g cap : Nat} {s : Slt} (h : ArnX φ o0 o1 T S m W F B G L fr) (h1 : Blk W B T (φ v u).toArray) (h3 : RowW W 21 1 u fr.length (i32s fr)) (h4 : Apart v u) (h5 : ∀ k, v.ownBlock = some k → k = G ∧ F k ∧ k ≠ B) (h6 : ∀ k, u.ownBlock = some k → F k ∧ k ≠ B)
    (hown : RowW w2 S (m + 1) (.slice (some ⟨g, 0, none⟩) (L.length + 1) cap) (L.length + 1) (slcs L ++ slc s)) (hg : (W.alloc o).grownBy w2 v.ownBlock) (hat : v.ownBlock = some g ∨ g = W.heap.size + 1) (hl : s.1.length = m) :
    Blk w2 B T (φ v u).toArray ∧ ArnX φ o0 o1 T S m (w2.setCell ⟨B, o0, none⟩ (.slice (some ⟨g, 0, none⟩) (L.length + 1) cap)) (fun k => F k ∨ k = g) B g (L ++ [s]) fr ∧ Step F (fun k => F k ∨ k = g) W (w2.setCell ⟨B, o0, none⟩ (.slice (some ⟨g, 0, none⟩) (L.length + 1) cap)) := by
  have hB := h.blt
  have hnB : v.ownBlock ≠ some B := fun e => (h5 B e).2.2 rfl
  have hs2 := hg.size
  simp at hs2
  have hgB : g ≠ B := by
    rcases hat with h' | h'
    · exact (h5 g h').2.2
    · omega
  have hb2 : Blk w2 B T (φ v u).toArray := (h1.alloc o).kept hg (Ne.symm hnB)
  have hug : u.ownBlock ≠ some g := by
    rcases hat with h' | h'
    · exact h4 g h'
    · intro e; have := h3.lt e; omega
  have hsz : (w2.setCell ⟨B, o0, none⟩ (.slice (some ⟨g, 0, none⟩) (L.length + 1) cap)).heap.size = w2.heap.size := by show (w2.heap.modify _ _).size = _; rw [Array.size_modify]
  refine ⟨hb2, ⟨⟨_, u, h.ok.set0 hb2 _, ?_, ?_, fun k hk hk' => ?_, fun k hk => ?_, fun k hk => ⟨.inl (h6 k hk).1, (h6 k hk).2⟩⟩, .inl h.b, fun k hk => ?_, h.wsl.snoc hl, fun f hf => ?_, h.ok⟩, ⟨?_, fun k hk => ?_⟩⟩
  · rw [slcs_snoc, List.length_append]
    exact hown.kept fun k hk => Below.heap_setCell w2 ⟨B, o0, none⟩ _ k (fun e => by cases hk; exact hgB e)
  · refine h3.kept fun k hk => ?_
    have hkl := h3.lt hk
    exact (Below.heap_setCell w2 ⟨B, o0, none⟩ _ k (h6 k hk).2).trans ((hg.block k (by simp; omega) (fun e => h4 k e.symm hk)).trans (heap_alloc_old W o k hkl))
  · cases hk; exact hug hk'
  · cases hk; exact ⟨rfl, .inr rfl, hgB⟩
  · rw [hsz]
    rcases hk with hk | rfl
    · have := h.lt k hk; omega
    · exact hown.lt rfl
  · have := h.fr f hf
    simp; omega
  · exact (((Only.refl F W).alloc o).grown hg (fun k hk => .inl (h5 k hk).2.1)).set (.inl h.b) o0 _
  · rcases hk with hk | rfl
    · exact .inl hk
    · rcases hat with h' | h'
      · exact .inl (h5 k h').2.1
      · right; omega
/-- A number more that is free. -/
theorem ArnX.refree {v u : Value} {w2 : World} {o : Obj} {g cap : Nat} {f : Int} (h : ArnX φ o0 o1 T S m W F B G L fr) (h1 : Blk W B T (φ v u).toArray) (h2 : RowW W S (m + 1) v L.length (slcs L)) (h3 : RowW W 21 1 u fr.length (i32s fr)) (h4 : Apart v u) (h5 : ∀ k, v.ownBlock = some k → k = G ∧ F k ∧ k ≠ B) (h6 : ∀ k, u.ownBlock = some k → F k ∧ k ≠ B)
    (hown : RowW w2 21 1 (.slice (some ⟨g, 0, none⟩) (fr.length + 1) cap) (fr.length + 1) (i32s fr ++ [.int .i32 f])) (hg : (W.alloc o).grownBy w2 u.ownBlock) (hat : u.ownBlock = some g ∨ g = W.heap.size + 1) (hf : 1 ≤ f ∧ f ≤ L.length) :
    Blk w2 B T (φ v u).toArray ∧ ArnX φ o0 o1 T S m (w2.setCell ⟨B, o1, none⟩ (.slice (some ⟨g, 0, none⟩) (fr.length + 1) cap)) (fun k => F k ∨ k = g) B G L (fr ++ [f]) ∧ Step F (fun k => F k ∨ k = g) W (w2.setCell ⟨B, o1, none⟩ (.slice (some ⟨g, 0, none⟩) (fr.length + 1) cap)) := by
  have hB := h.blt
  have hnB : u.ownBlock ≠ some B := fun e => (h6 B e).2 rfl
  have hs2 := hg.size
  simp at hs2
  have hgB : g ≠ B := by
    rcases hat with h' | h'
    · exact (h6 g h').2
    · omega
  have hb2 : Blk w2 B T (φ v u).toArray := (h1.alloc o).kept hg (Ne.symm hnB)
  have hvg : v.ownBlock ≠ some g := by
    rcases hat with h' | h'
    · exact fun e => h4 g e h'
    · intro e; have := h2.lt e; omega
  have hsz : (w2.setCell ⟨B, o1, none⟩ (.slice (some ⟨g, 0, none⟩) (fr.length + 1) cap)).heap.size = w2.heap.size := by show (w2.heap.modify _ _).size = _; rw [Array.size_modify]
  refine ⟨hb2, ⟨⟨v, _, h.ok.set1 hb2 _, ?_, ?_, fun k hk hk' => ?_, fun k hk => ?_, fun k hk => ?_⟩, .inl h.b, fun k hk => ?_, h.wsl, fun x hx => ?_, h.ok⟩, ⟨?_, fun k hk => ?_⟩⟩
  · refine h2.kept fun k hk => ?_
    have hkl := h2.lt hk
    exact (Below.heap_setCell w2 ⟨B, o1, none⟩ _ k (h5 k hk).2.2).trans ((hg.block k (by simp; omega) (fun e => h4 k hk e.symm)).trans (heap_alloc_old W o k hkl))
  · rw [i32s_snoc, List.length_append]
    exact hown.kept fun k hk => Below.heap_setCell w2 ⟨B, o1, none⟩ _ k (fun e => by cases hk; exact hgB e)
  · cases hk'; exact hvg hk
  · exact ⟨(h5 k hk).1, .inl (h5 k hk).2.1, (h5 k hk).2.2⟩
  · cases hk; exact ⟨.inr rfl, hgB⟩
  · rw [hsz]
    rcases hk with hk | rfl
    · have := h.lt k hk; omega
    · exact hown.lt rfl
  · rcases List.mem_append.1 hx with hx | hx
    · exact h.fr x hx
    · simp at hx; rw [hx]; exact hf
  · exact (((Only.refl F W).alloc o).grown hg (fun k hk => .inl (h6 k hk).1)).set (.inl h.b) o1 _
  · rcases hk with hk | rfl
    · exact .inl hk
    · rcases hat with h' | h'
      · exact .inl (h6 k h').1
      · right; omega
/-- The free number that came last is no longer free. -/
theorem ArnX.unfree {f : Int} (h : ArnX φ o0 o1 T S m W F B G L (fr ++ [f])) : ∃ H cap, W.cell? ⟨B, o1, none⟩ = some (.slice (some ⟨H, 0, none⟩) (fr.length + 1) cap) ∧ W.cell? ⟨H, fr.length, none⟩ = some (.int .i32 f) ∧ fr.length + 1 ≤ cap ∧ cap ≤ maxLen ∧
    ArnX φ o0 o1 T S m (W.setCell ⟨B, o1, none⟩ (.slice (some ⟨H, 0, none⟩) fr.length cap)) F B G L fr ∧ Step F F W (W.setCell ⟨B, o1, none⟩ (.slice (some ⟨H, 0, none⟩) fr.length cap)) := by
  obtain ⟨v, u, h1, h2, h3, h4, h5, h6⟩ := h.ex
  rw [List.length_append] at h3
  obtain ⟨H, cap, rfl⟩ := h3.led (by simp)
  have hcap : fr.length + 1 ≤ cap ∧ cap ≤ maxLen := by
    rcases h3.2 with ⟨e, _⟩ | ⟨g', cap', cur, e, _, e1, e2, _⟩
    · cases e
    · cases e; exact ⟨e1, e2⟩
  have hsz : (W.setCell ⟨B, o1, none⟩ (.slice (some ⟨H, 0, none⟩) fr.length cap)).heap.size = W.heap.size := by show (W.heap.modify _ _).size = _; rw [Array.size_modify]
  have hcut := h3.cut (k := fr.length) (by simp)
  rw [i32s_snoc, Nat.mul_one, ← i32s_len, List.take_left] at hcut
  refine ⟨H, cap, (h.ok.cells h1).2, h3.cell (by rw [i32s_snoc, List.getElem?_append_right (by rw [i32s_len]; exact Nat.le_refl _), i32s_len, Nat.sub_self]; rfl), hcap.1, hcap.2, ⟨⟨v, _, h.ok.set1 h1 _, ?_, ?_, fun k hk hk' => h4 k hk hk', h5, fun k hk => h6 k hk⟩, h.b, fun k hk => by rw [hsz]; exact h.lt k hk, h.wsl, fun x hx => h.fr x (by simp [hx]), h.ok⟩, ⟨(Only.refl F W).set (.inl h.b) o1 _, fun k hk => .inl hk⟩⟩
  · exact h2.kept fun k hk => Below.heap_setCell W ⟨B, o1, none⟩ _ k (h5 k hk).2.2
  · rw [← i32s_len]
    exact hcut.kept fun k hk => Below.heap_setCell W ⟨B, o1, none⟩ _ k (h6 k hk).2

/-- Cells are written, one behind the other. -/
def putAll (W : World) (G o : Nat) : List Value → World
  | [] => W
  | u :: us => putAll (W.setCell ⟨G, o, none⟩ u) G (o + 1) us
theorem putAll_snoc (W : World) (G o : Nat) (us : List Value) (u : Value) : putAll W G o (us ++ [u]) = (putAll W G o us).setCell ⟨G, o + us.length, none⟩ u := by
  induction us generalizing W o with
  | nil => rfl
  | cons x us ih =>
    show putAll _ G (o + 1) (us ++ [u]) = _
    rw [ih, List.length_cons, show o + 1 + us.length = o + (us.length + 1) by omega]
    rfl
theorem step_putAll {G : Nat} (hG : F G) (W : World) (o : Nat) (us : List Value) : Step F F W (putAll W G o us) := by
  induction us generalizing W o with
  | nil => exact Step.refl F W
  | cons x us ih => exact Step.trans ⟨(Only.refl F W).set (.inl hG) o x, fun k hk => .inl hk⟩ (ih _ _)
/-- A slot is written. -/
theorem ArnX.putAll (h : ArnX φ o0 o1 T S m W F B G L fr) {k : Nat} {s s' : Slt} (hk : L[k]? = some s) (hl : s'.1.length = m) : ArnX φ o0 o1 T S m (putAll W G (k * (m + 1)) (slc s')) F B G (L.set k s') fr := by
  have hs := h.wsl s (List.mem_of_getElem? hk)
  have hlt := (List.getElem?_eq_some_iff.1 hk).1
  have part : ∀ j, j ≤ m → ArnX φ o0 o1 T S m (Go.Proofs.Ytabgplniaiehpab.putAll W G (k * (m + 1)) (s'.1.take j)) F B G (L.set k (s'.1.take j ++ s.1.drop j, s.2)) fr := by
    intro j
    induction j with
    | zero =>
      intro _
      rw [List.take_zero, List.drop_zero, List.nil_append, show L.set k (s.1, s.2) = L from by rw [← (List.getElem?_eq_some_iff.1 hk).2]; exact List.set_getElem_self hlt]
      exact h
    | succ j ih =>
      intro hj
      have h1 := ih (by omega)
      have hx : s'.1[j]? = some (s'.1[j]) := List.getElem?_eq_getElem (by omega)
      rw [List.take_add_one, hx, Option.toList_some, putAll_snoc, List.length_take, Nat.min_eq_left (by omega)]
      have h2 := h1.put (k := k) (j := j) (s := (s'.1.take j ++ s.1.drop j, s.2)) (s' := (s'.1.take j ++ [s'.1[j]] ++ s.1.drop (j + 1), s.2)) (u := s'.1[j]) (by simp [hlt]) (by omega) ?_ (by simp; omega)
      · rwa [List.set_set] at h2
      · unfold slc
        have e : s.1.drop j = s.1[j] :: s.1.drop (j + 1) := List.drop_eq_getElem_cons (by omega)
        simp only [e, List.append_assoc, List.cons_append, List.nil_append]
        rw [List.set_append_right _ _ (by simp; omega), List.length_take, Nat.min_eq_left (by omega), Nat.sub_self]
        rfl
  have h1 := part m (Nat.le_refl _)
  rw [List.take_of_length_le (by omega), List.drop_of_length_le (by omega), List.append_nil] at h1
  have h2 := h1.put (k := k) (j := m) (s := (s'.1, s.2)) (s' := s') (u := .bool s'.2) (by simp [hlt]) (by omega) ?_ hl
  · rw [List.set_set] at h2
    unfold slc
    rw [putAll_snoc, hl]
    exact h2
  · unfold slc
    rw [List.set_append_right _ _ (by simp [hl]), hl, Nat.sub_self]
    rfl
end

/-- Two arenas that share no block, behind a start w. -/
structure Two (T1 S1 m1 T2 S2 m2 : Nat) (w wr : World) (Fa : Nat → Prop) (Ba Ga : Nat) (La : List Slt) (fa : List Int) (Fb : Nat → Prop) (Bb Gb : Nat) (Lb : List Slt) (fb : List Int) : Prop where
  a : Arn T1 S1 m1 wr Fa Ba Ga La fa
  b : Arn T2 S2 m2 wr Fb Bb Gb Lb fb
  dis : ∀ k, Fa k → ¬ Fb k
  fa : ∀ k, Fa k → w.heap.size ≤ k
  fb : ∀ k, Fb k → w.heap.size ≤ k
  below : Below w.heap.size w wr
section
variable {T1 S1 m1 T2 S2 m2 : Nat} {w wr w' : World} {Fa Fa' : Nat → Prop} {Ba Ga Ga' : Nat} {La La' : List Slt} {fa fa' : List Int} {Fb Fb' : Nat → Prop} {Bb Gb Gb' : Nat} {Lb Lb' : List Slt} {fb fb' : List Int}
theorem Two.stepA (h : Two T1 S1 m1 T2 S2 m2 w wr Fa Ba Ga La fa Fb Bb Gb Lb fb) (hA : Arn T1 S1 m1 w' Fa' Ba Ga' La' fa') (hS : Step Fa Fa' wr w') : Two T1 S1 m1 T2 S2 m2 w w' Fa' Ba Ga' La' fa' Fb Bb Gb Lb fb :=
  ⟨hA, h.b.step hS (fun k h1 h2 => h.dis k h2 h1), fun k h1 h2 => hS.apart (fun k h1 h2 => h.dis k h2 h1) h.b.lt k h2 h1, hS.from h.below.size h.fa, h.fb, hS.start h.below (Nat.le_refl _) h.fa⟩
theorem Two.stepB (h : Two T1 S1 m1 T2 S2 m2 w wr Fa Ba Ga La fa Fb Bb Gb Lb fb) (hB : Arn T2 S2 m2 w' Fb' Bb Gb' Lb' fb') (hS : Step Fb Fb' wr w') : Two T1 S1 m1 T2 S2 m2 w w' Fa Ba Ga La fa Fb' Bb Gb' Lb' fb' :=
  ⟨h.a.step hS h.dis, hB, hS.apart h.dis h.a.lt, h.fa, hS.from h.below.size h.fb, hS.start h.below (Nat.le_refl _) h.fb⟩
theorem Two.drewN (h : Two T1 S1 m1 T2 S2 m2 w wr Fa Ba Ga La fa Fb Bb Gb Lb fb) (n : Nat) : Two T1 S1 m1 T2 S2 m2 w (wr.drewN n) Fa Ba Ga La fa Fb Bb Gb Lb fb :=
  ⟨h.a.drewN n, h.b.drewN n, h.dis, h.fa, h.fb, h.below.trans ⟨rfl, rfl, rfl, Nat.le_refl _, fun _ _ => rfl⟩⟩
end
end Go.Proofs.Ytabgplniaiehpab
