/- Layer 6 (treap), plain: trees that are cut and joined, as the nodes tell. -/
import Derived.Test.YtcbgeahcnjamdabGreatTreapNode
namespace Go.Proofs.YtcbgeahcnjamdabGreat
open Go.RowKit
set_option linter.unusedVariables false

def AllTk (N : List Nt) (xs : List Int) : Prop := ∀ j ∈ xs, tk N j = true
theorem len_le {N : List Nt} {xs : List Int} (hn : xs.Nodup) (h : AllTk N xs) : xs.length ≤ N.length := by
  have := hn.length_le_of_subset (l₂ := List.map (fun k : Nat => (k : Int) + 1) (List.range N.length)) (fun j hj => by
    obtain ⟨h1, h2, _⟩ := tk_iff.1 (h j hj)
    exact List.mem_map.2 ⟨(j - 1).toNat, List.mem_range.2 (by omega), by omega⟩)
  simpa using this
theorem top_ok {N : List Nt} {p : Int} {t : Tr} (h : Hang (nd N) p t) (ht : AllTk N t.seq) : okI N t.top ∧ szOf N t.top = t.seq.length ∧ smOf N t.top = sumV (own (nd N) t.seq) := by
  cases t with
  | nil => exact ⟨.inl rfl, rfl, rfl⟩
  | node l i r =>
    have hi := ht i (by simp [Tr.seq])
    obtain ⟨h1, h2, h3, h4, h5, h6, h7⟩ := h
    exact ⟨.inr hi, (if_neg (tk_ne hi)).trans h4, (if_neg (tk_ne hi)).trans h5⟩
theorem top_bd {N : List Nt} {p : Int} {t : Tr} (h : Hang (nd N) p t) (ht : AllTk N t.seq) (hn : t.seq.Nodup) (hN : N.length ≤ 2147483647) : 0 ≤ szOf N t.top ∧ szOf N t.top ≤ 2147483647 := by
  have := len_le hn ht
  rw [(top_ok h ht).2.1]
  omega

/-- c is set left of k; right of it. -/
def stepL (N : List Nt) (k c : Int) : List Nt := reckN (hangN (linkL N k c) c k) k
def stepR (N : List Nt) (k c : Int) : List Nt := reckN (hangN (linkR N k c) c k) k

theorem nd_stepL {N : List Nt} {k c : Int} (hk : tk N k = true) (hc : okI N c) (hne : c ≠ k) : (stepL N k c).length = N.length ∧ (∀ j, tk (stepL N k c) j = tk N j) ∧
    nd (stepL N k c) k = ((nd N k).wl c).ws (szOf N c + 1 + szOf N (nd N k).r) (tog (tog (smOf N c) (nd N k).own) (smOf N (nd N k).r)) ∧
    (c ≠ 0 → nd (stepL N k c) c = (nd N c).wu k) ∧ (∀ j, j ≠ k → j ≠ c → nd (stepL N k c) j = nd N j) := by
  have hc1 : okI (linkL N k c) c := okI_setN _ hk hc
  have hk1 : tk (linkL N k c) k = true := by unfold linkL; rw [tk_setN _ hk]; exact hk
  have hk2 : tk (hangN (linkL N k c) c k) k = true := by rw [tk_hangN hc1]; exact hk1
  have n1 : ∀ j, nd (linkL N k c) j = if j = k then (nd N k).wl c else nd N j := fun j => by unfold linkL; rw [nd_setN _ hk]; rfl
  have n2 : ∀ j, nd (hangN (linkL N k c) c k) j = if j = c ∧ c ≠ 0 then (nd N j).wu k else if j = k then (nd N k).wl c else nd N j := fun j => by
    rw [nd_hangN hc1, n1]
    by_cases e : j = c ∧ c ≠ 0
    · rw [if_pos e, if_pos e, if_neg (by rw [e.1]; exact hne)]
    · rw [if_neg e, if_neg e]
  have nk : nd (hangN (linkL N k c) c k) k = (nd N k).wl c := by rw [n2, if_neg (fun e => hne e.1.symm), if_pos rfl]
  have sz : ∀ j, szOf (hangN (linkL N k c) c k) j = szOf N j := fun j => szOf_wu (by
    rw [n2]; split
    · rfl
    · split
      · rename_i e; rw [e]; rfl
      · rfl)
  have sm : ∀ j, smOf (hangN (linkL N k c) c k) j = smOf N j := fun j => smOf_wu (by
    rw [n2]; split
    · rfl
    · split
      · rename_i e; rw [e]; rfl
      · rfl)
  have n3 : ∀ j, nd (stepL N k c) j = if j = k then ((nd N k).wl c).ws (szOf N c + 1 + szOf N (nd N k).r) (tog (tog (smOf N c) (nd N k).own) (smOf N (nd N k).r)) else nd (hangN (linkL N k c) c k) j := fun j => by
    unfold stepL reckN
    rw [nd_setN _ hk2, nk, sz, sz, sm, sm]
    rfl
  refine ⟨?_, fun j => ?_, by rw [n3, if_pos rfl], fun h0 => by rw [n3, if_neg hne, n2, if_pos ⟨rfl, h0⟩], fun j h1 h2 => by rw [n3, if_neg h1, n2, if_neg (fun e => h2 e.1), if_neg h1]⟩
  · unfold stepL reckN; rw [setN_len, hangN_len]; unfold linkL; rw [setN_len]
  · unfold stepL reckN; rw [tk_setN _ hk2, tk_hangN hc1]; unfold linkL; rw [tk_setN _ hk]
theorem treeL {N : List Nt} {k p : Int} {t s : Tr} (ht : Hang (nd N) p t) (hs : Hang (nd N) k s) (hr : (nd N k).r = s.top) (hn : (t.seq ++ k :: s.seq).Nodup) (ha : AllTk N (t.seq ++ k :: s.seq)) :
    Hang (nd (stepL N k t.top)) (nd N k).u (.node t k s) ∧ Keeps (fun j => j = k ∨ j ∈ t.seq) N (stepL N k t.top) ∧ (∀ j, j ≠ k → j ∉ t.seq → nd (stepL N k t.top) j = nd N j) := by
  have hk : tk N k = true := ha k (by simp)
  have hat : AllTk N t.seq := fun j hj => ha j (by simp [hj])
  have has : AllTk N s.seq := fun j hj => ha j (by simp [hj])
  have hn1 := List.nodup_append.1 hn
  have hn2 := List.nodup_cons.1 hn1.2.1
  have hkt : ∀ j ∈ t.seq, j ≠ k := fun j hj e => hn1.2.2 j hj k (by simp) e
  obtain ⟨to, tz, tm⟩ := top_ok ht hat
  obtain ⟨so, sz, sm⟩ := top_ok hs has
  have hne : t.top ≠ k := by
    cases t with
    | nil => exact fun e => tk_ne hk e.symm
    | node l i r => exact hkt i (by simp [Tr.seq])
  obtain ⟨e1, e2, e3, e4, e5⟩ := nd_stepL hk to hne
  have out : ∀ j, j ≠ k → j ∉ t.seq → nd (stepL N k t.top) j = nd N j := fun j h1 h2 => by
    by_cases h0 : j = t.top
    · cases t with
      | nil =>
        rw [h0]
        have : nd (stepL N k (Tr.top .nil)) 0 = nd N 0 := by unfold nd; rw [if_neg (by decide), if_neg (by decide)]
        exact this
      | node l i r => exact absurd (by rw [h0]; simp [Tr.seq, Tr.top]) h2
    · exact e5 j h1 h0
  have top : t ≠ .nil → nd (stepL N k t.top) t.top = (nd N t.top).wu k := fun h => e4 (tk_ne (hat _ (Tr.top_mem h)))
  have own' : ∀ j, (nd (stepL N k t.top) j).own = (nd N j).own := fun j => by
    by_cases h1 : j = k
    · rw [h1, e3]; rfl
    · by_cases h2 : j = t.top
      · by_cases h3 : t = .nil
        · rw [h2, h3]
          show (nd _ 0).own = (nd _ 0).own
          unfold nd; rw [if_neg (by decide), if_neg (by decide)]
        · rw [h2, top h3]; rfl
      · rw [e5 j h1 h2]
  refine ⟨⟨by rw [e3]; rfl, by rw [e3]; rfl, by rw [e3]; exact hr, ?_, ?_, ?_, ?_⟩, ⟨e1, e2, own', fun j hj => out j (fun e => hj (.inl e)) (fun e => hj (.inr e))⟩, out⟩
  · rw [e3]
    show szOf N t.top + 1 + szOf N (nd N k).r = _
    rw [hr, tz, sz]
    simp [Tr.seq]
    omega
  · rw [e3]
    show tog (tog (smOf N t.top) (nd N k).own) (smOf N (nd N k).r) = _
    rw [hr, tm, sm, sumV_node, own_congr (g := nd N) (fun j _ => own' j)]
    simp [Tr.seq, own]
  · exact ht.rehang hn1.1 (fun j hj h0 => e5 j (hkt j hj) h0) (fun h => top h)
  · exact hs.congr (fun j hj => out j (fun e => hn2.1 (e ▸ hj)) (fun h => hn1.2.2 j h j (by simp [hj]) rfl))

theorem nd_stepR {N : List Nt} {k c : Int} (hk : tk N k = true) (hc : okI N c) (hne : c ≠ k) : (stepR N k c).length = N.length ∧ (∀ j, tk (stepR N k c) j = tk N j) ∧
    nd (stepR N k c) k = ((nd N k).wr c).ws (szOf N (nd N k).l + 1 + szOf N c) (tog (tog (smOf N (nd N k).l) (nd N k).own) (smOf N c)) ∧
    (c ≠ 0 → nd (stepR N k c) c = (nd N c).wu k) ∧ (∀ j, j ≠ k → j ≠ c → nd (stepR N k c) j = nd N j) := by
  have hc1 : okI (linkR N k c) c := okI_setN _ hk hc
  have hk1 : tk (linkR N k c) k = true := by unfold linkR; rw [tk_setN _ hk]; exact hk
  have hk2 : tk (hangN (linkR N k c) c k) k = true := by rw [tk_hangN hc1]; exact hk1
  have n1 : ∀ j, nd (linkR N k c) j = if j = k then (nd N k).wr c else nd N j := fun j => by unfold linkR; rw [nd_setN _ hk]; rfl
  have n2 : ∀ j, nd (hangN (linkR N k c) c k) j = if j = c ∧ c ≠ 0 then (nd N j).wu k else if j = k then (nd N k).wr c else nd N j := fun j => by
    rw [nd_hangN hc1, n1]
    by_cases e : j = c ∧ c ≠ 0
    · rw [if_pos e, if_pos e, if_neg (by rw [e.1]; exact hne)]
    · rw [if_neg e, if_neg e]
  have nk : nd (hangN (linkR N k c) c k) k = (nd N k).wr c := by rw [n2, if_neg (fun e => hne e.1.symm), if_pos rfl]
  have sz : ∀ j, szOf (hangN (linkR N k c) c k) j = szOf N j := fun j => szOf_wu (by
    rw [n2]; split
    · rfl
    · split
      · rename_i e; rw [e]; rfl
      · rfl)
  have sm : ∀ j, smOf (hangN (linkR N k c) c k) j = smOf N j := fun j => smOf_wu (by
    rw [n2]; split
    · rfl
    · split
      · rename_i e; rw [e]; rfl
      · rfl)
  have n3 : ∀ j, nd (stepR N k c) j = if j = k then ((nd N k).wr c).ws (szOf N (nd N k).l + 1 + szOf N c) (tog (tog (smOf N (nd N k).l) (nd N k).own) (smOf N c)) else nd (hangN (linkR N k c) c k) j := fun j => by
    unfold stepR reckN
    rw [nd_setN _ hk2, nk, sz, sz, sm, sm]
    rfl
  refine ⟨?_, fun j => ?_, by rw [n3, if_pos rfl], fun h0 => by rw [n3, if_neg hne, n2, if_pos ⟨rfl, h0⟩], fun j h1 h2 => by rw [n3, if_neg h1, n2, if_neg (fun e => h2 e.1), if_neg h1]⟩
  · unfold stepR reckN; rw [setN_len, hangN_len]; unfold linkR; rw [setN_len]
  · unfold stepR reckN; rw [tk_setN _ hk2, tk_hangN hc1]; unfold linkR; rw [tk_setN _ hk]
theorem treeR {N : List Nt} {k p : Int} {t s : Tr} (ht : Hang (nd N) p t) (hs : Hang (nd N) k s) (hr : (nd N k).l = s.top) (hn : (s.seq ++ k :: t.seq).Nodup) (ha : AllTk N (s.seq ++ k :: t.seq)) :
    Hang (nd (stepR N k t.top)) (nd N k).u (.node s k t) ∧ Keeps (fun j => j = k ∨ j ∈ t.seq) N (stepR N k t.top) ∧ (∀ j, j ≠ k → j ∉ t.seq → nd (stepR N k t.top) j = nd N j) := by
  have hk : tk N k = true := ha k (by simp)
  have hat : AllTk N t.seq := fun j hj => ha j (by simp [hj])
  have has : AllTk N s.seq := fun j hj => ha j (by simp [hj])
  have hn1 := List.nodup_append.1 hn
  have hn2 := List.nodup_cons.1 hn1.2.1
  have hkt : ∀ j ∈ t.seq, j ≠ k := fun j hj e => hn2.1 (e ▸ hj)
  obtain ⟨to, tz, tm⟩ := top_ok ht hat
  obtain ⟨so, sz, sm⟩ := top_ok hs has
  have hne : t.top ≠ k := by
    cases t with
    | nil => exact fun e => tk_ne hk e.symm
    | node l i r => exact hkt i (by simp [Tr.seq])
  obtain ⟨e1, e2, e3, e4, e5⟩ := nd_stepR hk to hne
  have out : ∀ j, j ≠ k → j ∉ t.seq → nd (stepR N k t.top) j = nd N j := fun j h1 h2 => by
    by_cases h0 : j = t.top
    · cases t with
      | nil =>
        rw [h0]
        have : nd (stepR N k (Tr.top .nil)) 0 = nd N 0 := by unfold nd; rw [if_neg (by decide), if_neg (by decide)]
        exact this
      | node l i r => exact absurd (by rw [h0]; simp [Tr.seq, Tr.top]) h2
    · exact e5 j h1 h0
  have top : t ≠ .nil → nd (stepR N k t.top) t.top = (nd N t.top).wu k := fun h => e4 (tk_ne (hat _ (Tr.top_mem h)))
  have own' : ∀ j, (nd (stepR N k t.top) j).own = (nd N j).own := fun j => by
    by_cases h1 : j = k
    · rw [h1, e3]; rfl
    · by_cases h2 : j = t.top
      · by_cases h3 : t = .nil
        · rw [h2, h3]
          show (nd _ 0).own = (nd _ 0).own
          unfold nd; rw [if_neg (by decide), if_neg (by decide)]
        · rw [h2, top h3]; rfl
      · rw [e5 j h1 h2]
  refine ⟨⟨by rw [e3]; rfl, by rw [e3]; exact hr, by rw [e3]; rfl, ?_, ?_, ?_, ?_⟩, ⟨e1, e2, own', fun j hj => out j (fun e => hj (.inl e)) (fun e => hj (.inr e))⟩, out⟩
  · rw [e3]
    show szOf N (nd N k).l + 1 + szOf N t.top = _
    rw [hr, tz, sz]
    simp [Tr.seq]
    omega
  · rw [e3]
    show tog (tog (smOf N (nd N k).l) (nd N k).own) (smOf N t.top) = _
    rw [hr, tm, sm, sumV_node, own_congr (g := nd N) (fun j _ => own' j)]
    simp [Tr.seq, own]
  · exact hs.congr (fun j hj => out j (fun e => hn1.2.2 j hj k (by simp) e) (fun h => hn1.2.2 j hj j (by simp [h]) rfl))
  · exact ht.rehang hn2.2 (fun j hj h0 => e5 j (hkt j hj) h0) (fun h => top h)


/-- All items of a way up. -/
theorem Path.congr {g g' : Int → Nd} {fs : List Fm} {c : Int} (h : Path g fs c) (hg : ∀ j, j ∈ pre fs ∨ j ∈ post fs → g' j = g j) : Path g' fs c := by
  induction fs generalizing c with
  | nil => trivial
  | cons f fs ih =>
    obtain ⟨b, k, s⟩ := f
    obtain ⟨h1, h2, h3, h4, h5⟩ := h
    have hk : g' k = g k := hg k (by cases b <;> simp [pre, post])
    have hs : ∀ j ∈ s.seq, g' j = g j := fun j hj => hg j (by cases b <;> simp [pre, post, hj])
    have hr : ∀ j, j ∈ pre fs ∨ j ∈ post fs → g' j = g j := fun j hj => hg j (by cases b <;> simp [pre, post] <;> rcases hj with hj | hj <;> simp [hj])
    simp only at h1 h2 h3 h4 h5
    exact ⟨by rw [hk]; exact h1, by rw [hk]; exact h2, h3.congr hs, by rw [hk]; exact h4, ih h5 hr⟩

/-- A cut under way: the trees a and b, ahead of the item and behind it, and the way up that is left. -/
structure Uz (P R : List Int) (N0 N : List Nt) (fs : List Fm) (a b : Tr) (c : Int) : Prop where
  path : Path (nd N) fs c
  ha : ∃ p, Hang (nd N) p a
  hb : ∃ p, Hang (nd N) p b
  hp : pre fs ++ a.seq = P
  hr : b.seq ++ post fs = R
  keeps : Keeps (fun j => j ∈ P ∨ j ∈ R) N0 N
theorem Uz.items {P R : List Int} {N0 N : List Nt} {fs : List Fm} {a b : Tr} {c : Int} (h : Uz P R N0 N fs a b c) (ha : AllTk N0 (P ++ R)) : AllTk N (P ++ R) := fun j hj => by rw [h.keeps.tk]; exact ha j hj
theorem Uz.left {P R : List Int} {N0 N : List Nt} {k : Int} {s : Tr} {fs : List Fm} {a b : Tr} {c : Int} (h : Uz P R N0 N (⟨true, k, s⟩ :: fs) a b c) (hn : (P ++ R).Nodup) (ha : AllTk N0 (P ++ R)) :
    (tk N k = true ∧ okI N b.top ∧ (nd N k).r = s.top ∧ okI N s.top ∧ (∃ q, Hang (nd N) q b) ∧ Hang (nd N) k s ∧ (nd N k).u = upOf fs ∧ b.seq.Nodup ∧ s.seq.Nodup) ∧ Uz P R N0 (stepL N k b.top) fs a (.node b k s) k := by
  obtain ⟨h1, h2, h3, h4, h5⟩ := h.path
  simp only [cond_true] at h1 h2
  obtain ⟨pb, hb⟩ := h.hb
  obtain ⟨pa, hA⟩ := h.ha
  have hall := h.items ha
  have hp := h.hp
  have hr := h.hr
  simp only [pre, post] at hp hr
  have hR : (b.seq ++ k :: s.seq) ++ post fs = R := by simpa using hr
  have hsub : ∀ j, j ∈ b.seq ++ k :: s.seq → j ∈ R := fun j hj => by rw [← hR]; exact List.mem_append_left _ hj
  have hnR := (List.nodup_append.1 hn).2.1
  have hnn : (b.seq ++ k :: s.seq).Nodup := by rw [← hR] at hnR; exact (List.nodup_append.1 hnR).1
  have hal : AllTk N (b.seq ++ k :: s.seq) := fun j hj => hall j (List.mem_append_right _ (hsub j hj))
  obtain ⟨t1, t2, t3⟩ := treeL hb h3 h2 hnn hal
  have hdis : ∀ j, j ∈ P → j ∉ R := fun j h1 h2 => (List.nodup_append.1 hn).2.2 j h1 j h2 rfl
  have hout : ∀ j, j ∈ P ∨ j ∈ post fs → nd (stepL N k b.top) j = nd N j := fun j hj => by
    have : j ∉ b.seq ++ k :: s.seq := by
      rcases hj with hj | hj
      · exact fun e => hdis j hj (hsub j e)
      · intro e; rw [← hR] at hnR; exact (List.nodup_append.1 hnR).2.2 j e j hj rfl
    simp only [List.mem_append, List.mem_cons, not_or] at this
    exact t3 j this.2.1 this.1
  refine ⟨⟨hal k (by simp), (top_ok hb (fun j hj => hal j (by simp [hj]))).1, h2, (top_ok h3 (fun j hj => hal j (by simp [hj]))).1, ⟨pb, hb⟩, h3, h4, (List.nodup_append.1 hnn).1, (List.nodup_cons.1 (List.nodup_append.1 hnn).2.1).2⟩, ⟨?_, ⟨pa, hA.congr (fun j hj => hout j (.inl (by rw [← hp]; simp [hj])))⟩, ⟨_, t1⟩, hp, by simpa [Tr.seq] using hR, h.keeps.trans (t2.mono (fun j hj => .inr (hsub j (by rcases hj with rfl | hj <;> simp_all))))⟩⟩
  exact h5.congr (fun j hj => hout j (hj.imp (fun h' => by rw [← hp]; simp [h']) id))
theorem Uz.right {P R : List Int} {N0 N : List Nt} {k : Int} {s : Tr} {fs : List Fm} {a b : Tr} {c : Int} (h : Uz P R N0 N (⟨false, k, s⟩ :: fs) a b c) (hn : (P ++ R).Nodup) (ha : AllTk N0 (P ++ R)) :
    (tk N k = true ∧ okI N a.top ∧ (nd N k).l = s.top ∧ okI N s.top ∧ (∃ q, Hang (nd N) q a) ∧ Hang (nd N) k s ∧ (nd N k).u = upOf fs ∧ a.seq.Nodup ∧ s.seq.Nodup) ∧ Uz P R N0 (stepR N k a.top) fs (.node s k a) b k := by
  obtain ⟨h1, h2, h3, h4, h5⟩ := h.path
  simp only [cond_false] at h1 h2
  obtain ⟨pb, hb⟩ := h.hb
  obtain ⟨pa, hA⟩ := h.ha
  have hall := h.items ha
  have hp := h.hp
  have hr := h.hr
  simp only [pre, post] at hp hr
  have hR : pre fs ++ (s.seq ++ k :: a.seq) = P := by simpa using hp
  have hsub : ∀ j, j ∈ s.seq ++ k :: a.seq → j ∈ P := fun j hj => by rw [← hR]; exact List.mem_append_right _ hj
  have hnR := (List.nodup_append.1 hn).1
  have hnn : (s.seq ++ k :: a.seq).Nodup := by rw [← hR] at hnR; exact (List.nodup_append.1 hnR).2.1
  have hal : AllTk N (s.seq ++ k :: a.seq) := fun j hj => hall j (List.mem_append_left _ (hsub j hj))
  obtain ⟨t1, t2, t3⟩ := treeR hA h3 h2 hnn hal
  have hdis : ∀ j, j ∈ P → j ∉ R := fun j h1 h2 => (List.nodup_append.1 hn).2.2 j h1 j h2 rfl
  have hout : ∀ j, j ∈ pre fs ∨ j ∈ R → nd (stepR N k a.top) j = nd N j := fun j hj => by
    have : j ∉ s.seq ++ k :: a.seq := by
      rcases hj with hj | hj
      · intro e; rw [← hR] at hnR; exact (List.nodup_append.1 hnR).2.2 j hj j e rfl
      · exact fun e => hdis j (hsub j e) hj
    simp only [List.mem_append, List.mem_cons, not_or] at this
    exact t3 j this.2.1 this.2.2
  refine ⟨⟨hal k (by simp), (top_ok hA (fun j hj => hal j (by simp [hj]))).1, h2, (top_ok h3 (fun j hj => hal j (by simp [hj]))).1, ⟨pa, hA⟩, h3, h4, (List.nodup_cons.1 (List.nodup_append.1 hnn).2.1).2, (List.nodup_append.1 hnn).1⟩, ⟨?_, ⟨_, t1⟩, ⟨pb, hb.congr (fun j hj => hout j (.inr (by rw [← hr]; simp [hj])))⟩, by simpa [Tr.seq] using hR, hr, h.keeps.trans (t2.mono (fun j hj => .inl (hsub j (by rcases hj with rfl | hj <;> simp_all))))⟩⟩
  exact h5.congr (fun j hj => hout j (hj.imp id (fun h' => by rw [← hr]; simp [h'])))
/-- Where the way up goes on from. -/
theorem Uz.from {P R : List Int} {N0 N : List Nt} {f : Fm} {fs : List Fm} {a b : Tr} {k : Int} (h : Uz P R N0 N (f :: fs) a b k) (hn : (P ++ R).Nodup) (ha : AllTk N0 (P ++ R)) (hk : k ∈ a.seq ∨ k ∈ b.seq) : tk N f.k = true ∧ (decide ((nd N f.k).l = k) = f.d) := by
  obtain ⟨h1, h2, h3, h4, h5⟩ := h.path
  obtain ⟨d, q, s⟩ := f
  have hall := h.items ha
  have hp := h.hp
  have hr := h.hr
  have hkm : k ∈ P ++ R := by
    rw [← hp, ← hr]
    rcases hk with hk | hk <;> simp [hk]
  cases d with
  | true =>
    simp only [cond_true] at h1
    refine ⟨hall q ?_, by simp [h1]⟩
    rw [← hr]; simp [post]
  | false =>
    simp only [cond_false] at h1 h2
    refine ⟨hall q ?_, ?_⟩
    · rw [← hp]; simp [pre]
    · simp only [decide_eq_false_iff_not]
      rw [h2]
      intro e
      have hks : k ∈ s.seq := by
        rw [← e]
        refine Tr.top_mem (fun e0 => tk_ne (hall k hkm) ?_)
        rw [← e, e0]; rfl
      have hn' := hn
      rw [← hp, ← hr] at hn'
      simp only [pre] at hn'
      rcases hk with hk | hk
      · exact (List.nodup_append.1 (List.nodup_append.1 hn').1).2.2 k (by simp [hks]) k hk rfl
      · exact (List.nodup_append.1 hn').2.2 k (by simp [hks]) k (by simp [hk]) rfl

/-- A join under way: the tree t, and the two ways up that are left. -/
structure Zp (Q : List Int) (N0 N : List Nt) (ls rs : List Fm) (t : Tr) : Prop where
  lp : ∃ c, Path (nd N) ls c
  rp : ∃ c, Path (nd N) rs c
  ld : ∀ f ∈ ls, f.d = false
  rd : ∀ f ∈ rs, f.d = true
  ht : ∃ p, Hang (nd N) p t ∧ (ls = [] → rs = [] → p = 0)
  hq : pre ls ++ t.seq ++ post rs = Q
  lo : post ls = []
  ro : pre rs = []
  keeps : Keeps (fun j => j ∈ Q) N0 N
theorem Zp.items {Q : List Int} {N0 N : List Nt} {ls rs : List Fm} {t : Tr} (h : Zp Q N0 N ls rs t) (ha : AllTk N0 Q) : AllTk N Q := fun j hj => by rw [h.keeps.tk]; exact ha j hj
theorem Zp.left {Q : List Int} {N0 N : List Nt} {k : Int} {d : Bool} {s : Tr} {ls rs : List Fm} {t : Tr} (h : Zp Q N0 N (⟨d, k, s⟩ :: ls) rs t) (hn : Q.Nodup) (ha : AllTk N0 Q) :
    (tk N k = true ∧ okI N t.top ∧ (nd N k).l = s.top ∧ okI N s.top ∧ (∃ q, Hang (nd N) q t) ∧ Hang (nd N) k s ∧ (nd N k).u = upOf ls ∧ t.seq.Nodup ∧ s.seq.Nodup) ∧ Zp Q N0 (stepR N k t.top) ls rs (.node s k t) := by
  obtain rfl : d = false := h.ld ⟨d, k, s⟩ List.mem_cons_self
  obtain ⟨c, h1, h2, h3, h4, h5⟩ := h.lp
  simp only [cond_false] at h1 h2
  obtain ⟨p, hT, hp0⟩ := h.ht
  have hall := h.items ha
  have hq := h.hq
  simp only [pre] at hq
  have hR : pre ls ++ (s.seq ++ k :: t.seq) ++ post rs = Q := by simpa using hq
  have hsub : ∀ j, j ∈ s.seq ++ k :: t.seq → j ∈ Q := fun j hj => by rw [← hR]; exact List.mem_append_left _ (List.mem_append_right _ hj)
  have hnQ := hn
  rw [← hR] at hnQ
  have hn1 := List.nodup_append.1 hnQ
  have hn2 := List.nodup_append.1 hn1.1
  have hal : AllTk N (s.seq ++ k :: t.seq) := fun j hj => hall j (hsub j hj)
  obtain ⟨t1, t2, t3⟩ := treeR hT h3 h2 hn2.2.1 hal
  have hout : ∀ j, j ∈ pre ls ∨ j ∈ post rs → nd (stepR N k t.top) j = nd N j := fun j hj => by
    have : j ∉ s.seq ++ k :: t.seq := by
      rcases hj with hj | hj
      · exact fun e => hn2.2.2 j hj j e rfl
      · exact fun e => hn1.2.2 j (List.mem_append_right _ e) j hj rfl
    simp only [List.mem_append, List.mem_cons, not_or] at this
    exact t3 j this.2.1 this.2.2
  have hlo : post ls = [] := by have := h.lo; simpa [post] using this
  obtain ⟨c2, hr⟩ := h.rp
  have hs1 := List.nodup_append.1 hn2.2.1
  refine ⟨⟨hal k (by simp), (top_ok hT (fun j hj => hal j (by simp [hj]))).1, h2, (top_ok h3 (fun j hj => hal j (by simp [hj]))).1, ⟨p, hT⟩, h3, h4, (List.nodup_cons.1 hs1.2.1).2, hs1.1⟩,
    ⟨⟨k, h5.congr (fun j hj => hout j (.inl (by rw [hlo] at hj; simpa using hj)))⟩, ⟨c2, hr.congr (fun j hj => hout j (.inr (by rw [h.ro] at hj; simpa using hj)))⟩, fun f hf => h.ld f (by simp [hf]), h.rd, ⟨_, t1, fun e1 e2 => by rw [h4, e1]; rfl⟩, by simpa [Tr.seq] using hR, hlo, h.ro, h.keeps.trans (t2.mono (fun j hj => hsub j (by rcases hj with rfl | hj <;> simp_all)))⟩⟩
theorem Zp.right {Q : List Int} {N0 N : List Nt} {k : Int} {d : Bool} {s : Tr} {ls rs : List Fm} {t : Tr} (h : Zp Q N0 N ls (⟨d, k, s⟩ :: rs) t) (hn : Q.Nodup) (ha : AllTk N0 Q) :
    (tk N k = true ∧ okI N t.top ∧ (nd N k).r = s.top ∧ okI N s.top ∧ (∃ q, Hang (nd N) q t) ∧ Hang (nd N) k s ∧ (nd N k).u = upOf rs ∧ t.seq.Nodup ∧ s.seq.Nodup) ∧ Zp Q N0 (stepL N k t.top) ls rs (.node t k s) := by
  obtain rfl : d = true := h.rd ⟨d, k, s⟩ List.mem_cons_self
  obtain ⟨c, h1, h2, h3, h4, h5⟩ := h.rp
  simp only [cond_true] at h1 h2
  obtain ⟨p, hT, hp0⟩ := h.ht
  have hall := h.items ha
  have hq := h.hq
  simp only [post] at hq
  have hR : pre ls ++ (t.seq ++ k :: s.seq) ++ post rs = Q := by simpa using hq
  have hsub : ∀ j, j ∈ t.seq ++ k :: s.seq → j ∈ Q := fun j hj => by rw [← hR]; exact List.mem_append_left _ (List.mem_append_right _ hj)
  have hnQ := hn
  rw [← hR] at hnQ
  have hn1 := List.nodup_append.1 hnQ
  have hn2 := List.nodup_append.1 hn1.1
  have hal : AllTk N (t.seq ++ k :: s.seq) := fun j hj => hall j (hsub j hj)
  obtain ⟨t1, t2, t3⟩ := treeL hT h3 h2 hn2.2.1 hal
  have hout : ∀ j, j ∈ pre ls ∨ j ∈ post rs → nd (stepL N k t.top) j = nd N j := fun j hj => by
    have : j ∉ t.seq ++ k :: s.seq := by
      rcases hj with hj | hj
      · exact fun e => hn2.2.2 j hj j e rfl
      · exact fun e => hn1.2.2 j (List.mem_append_right _ e) j hj rfl
    simp only [List.mem_append, List.mem_cons, not_or] at this
    exact t3 j this.2.1 this.1
  have hro : pre rs = [] := by have := h.ro; simpa [pre] using this
  obtain ⟨c2, hl⟩ := h.lp
  have hs1 := List.nodup_append.1 hn2.2.1
  refine ⟨⟨hal k (by simp), (top_ok hT (fun j hj => hal j (by simp [hj]))).1, h2, (top_ok h3 (fun j hj => hal j (by simp [hj]))).1, ⟨p, hT⟩, h3, h4, hs1.1, (List.nodup_cons.1 hs1.2.1).2⟩,
    ⟨⟨c2, hl.congr (fun j hj => hout j (.inl (by rw [h.lo] at hj; simpa using hj)))⟩, ⟨k, h5.congr (fun j hj => hout j (.inr (by rw [hro] at hj; simpa using hj)))⟩, h.ld, fun f hf => h.rd f (by simp [hf]), ⟨_, t1, fun e1 e2 => by rw [h4, e2]; rfl⟩, by simpa [Tr.seq] using hR, h.lo, hro, h.keeps.trans (t2.mono (fun j hj => hsub j (by rcases hj with rfl | hj <;> simp_all)))⟩⟩
end Go.Proofs.YtcbgeahcnjamdabGreat
