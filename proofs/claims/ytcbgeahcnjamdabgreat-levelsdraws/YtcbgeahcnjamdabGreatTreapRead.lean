/- Layer 6 (treap): the contracts of what reads a forest. -/
import Derived.Test.YtcbgeahcnjamdabGreatTreapForest
namespace Go.Proofs.YtcbgeahcnjamdabGreat
open Go.RowKit
set_option linter.unusedVariables false
variable {Xh : Hx}

theorem Blk.store4 {W : World} {B : Nat} {t : TypeId} {a b c e : Value} (h : Blk W B t #[a, b, c, e]) (a' b' c' e' : Value) : Blk ((((W.setCell ⟨B, 0, none⟩ a').setCell ⟨B, 1, none⟩ b').setCell ⟨B, 2, none⟩ c').setCell ⟨B, 3, none⟩ e') B t #[a', b', c', e'] := by
  simpa using (((h.setAt 0 a').setAt 1 b').setAt 2 c').setAt 3 e'
section
variable {w : World} {F : Nat → Prop} {B : Nat} {K : List Bool} {fr : List Int} {S : Int → List Int} {V : Int → Vl} {mx : Nat}
theorem root_un {d : Option Addr} {G : Nat} {N : List Nt} (h : Frs Xh d w F B G N fr) (hN : N.length ≤ 2147483647) {i : Int} (hb : -2147483648 ≤ i ∧ i ≤ 2147483647) (hi : tk N i = false) :
    Calls Tryz.prog 114 #[.pointer (some ⟨B, 0, none⟩), .int .i32 i] w fun e w' => e = .returned (.int .i32 0) ∧ w' = w := by
  have HA := at_un h hN hb hi
  clear h
  go_enter Tryz.func114, Tryz.ntmps114
  go_wp2_with fail
  refine HA.mono ?_
  rintro e w0 ⟨rfl, rfl⟩
  go_wp2
  go_ret
  exact ⟨rfl, rfl⟩
/-- The root of a sequence's tree, 0 of none; what it tells. -/
theorem Tp.root (h : Tp Xh w F B K fr S V mx) (i : Int) (hb : -2147483648 ≤ i ∧ i ≤ 2147483647) : ∃ x : Int, Calls Tryz.prog 114 #[.pointer (some ⟨B, 0, none⟩), .int .i32 i] w (fun e w' => e = .returned (.int .i32 x) ∧ w' = w) ∧
    Calls Tryz.prog 120 #[.pointer (some ⟨B, 0, none⟩), .int .i32 x] w (fun e w' => e = .returned (.int .i64 (S i).length) ∧ w' = w) ∧
    (∀ w1, Below w.heap.size w w1 → Calls Tryz.prog 122 #[.pointer (some ⟨B, 0, none⟩), .int .i32 x] w1 (fun e w' => e = .returned (vlc (sumV ((S i).map V))) ∧ Below w1.heap.size w1 w')) ∧
    Calls Tryz.prog 140 #[.pointer (some ⟨B, 0, none⟩), .int .i32 x] w (fun e w' => e = .returned (.int .i32 ((S i).headD 0)) ∧ w' = w) ∧
    (S i = [] → x = 0) ∧ (x ≠ 0 → x ∈ S i) ∧ (S i ≠ [] → x ≠ 0) ∧ (∀ j, (x = 0 ∧ S j = []) ∨ S j ≠ S i ∨ True) := by
  obtain ⟨G, N, d, Fa, h1, h2, h3, h4, h5, h6⟩ := h.ex
  have hN : N.length ≤ 2147483647 := by have := h.klen; rw [← h3, List.length_map] at this; exact this
  cases hi : tk N i with
  | false =>
    have e := h2.none i hi
    refine ⟨0, root_un h1 hN hb hi, ?_, fun w1 hb1 => ?_, ?_, fun _ => rfl, fun h => absurd rfl h, fun h => absurd e h, fun _ => .inr (.inr trivial)⟩
    · rw [e]; exact size_any h1 hN (.inl rfl)
    · rw [e]; exact sum_any (h1.below hb1) hN (.inl rfl)
    · rw [e]; exact leftmost_nil w _
  | true =>
    obtain ⟨t, e, g⟩ := h2.tree i hi
    have hm := h2.mem i hi
    have ht0 : t ≠ .nil := fun e0 => by rw [e0] at e; rw [← e] at hm; simp [Tr.seq] at hm
    obtain ⟨o1, o2, o3⟩ := top_ok g.hang g.all
    have hk := tk_ne (g.all _ (Tr.top_mem ht0))
    refine ⟨t.top, root_tk h1 hN g (by rw [e]; exact hm), ?_, fun w1 hb1 => ?_, ?_, fun h0 => absurd h0 (h2.ne.2 hi), fun _ => by rw [← e]; exact Tr.top_mem ht0, fun _ => hk, fun _ => .inr (.inr trivial)⟩
    · have := size_any h1 hN o1; rw [o2, e] at this; exact this
    · have := sum_any (h1.below hb1) hN o1
      rw [o3, e, show own (nd N) (S i) = (S i).map V from List.map_congr_left (fun j _ => h4 j)] at this
      exact this
    · have := leftmost_tk h1 hN g.hang g.all ht0; rw [e] at this; exact this
theorem tsize_any (h : Tp Xh w F B K fr S V mx) (i : Int) (hb : -2147483648 ≤ i ∧ i ≤ 2147483647) :
    Calls Tryz.prog 99 #[.pointer (some ⟨B, 0, none⟩), .int .i32 i] w fun e w' => e = .returned (.int .i64 (S i).length) ∧ w' = w := by
  obtain ⟨x, h1, h2, _⟩ := h.root i hb
  clear h
  go_enter Tryz.func99, Tryz.ntmps99
  go_wp2_with fail
  refine h1.mono ?_
  rintro e w0 ⟨rfl, rfl⟩
  go_wp2_with fail
  refine h2.mono ?_
  rintro e w1 ⟨rfl, rfl⟩
  go_wp2
  go_ret
  exact ⟨rfl, rfl⟩
theorem tfirst_any (h : Tp Xh w F B K fr S V mx) (i : Int) (hb : -2147483648 ≤ i ∧ i ≤ 2147483647) :
    Calls Tryz.prog 138 #[.pointer (some ⟨B, 0, none⟩), .int .i32 i] w fun e w' => e = .returned (.int .i32 ((S i).headD 0)) ∧ w' = w := by
  obtain ⟨x, h1, _, _, h2, _⟩ := h.root i hb
  generalize (S i).headD 0 = z at *
  clear h
  go_enter Tryz.func138, Tryz.ntmps138
  go_wp2_with fail
  refine h1.mono ?_
  rintro e w0 ⟨rfl, rfl⟩
  go_wp2_with fail
  refine h2.mono ?_
  rintro e w1 ⟨rfl, rfl⟩
  go_wp2
  go_ret
  exact ⟨rfl, rfl⟩
theorem ttotal_any (h : Tp Xh w F B K fr S V mx) (i : Int) (hb : -2147483648 ≤ i ∧ i ≤ 2147483647) :
    Calls Tryz.prog 115 #[.pointer (some ⟨B, 0, none⟩), .int .i32 i] w fun e w' => e = .returned (vlc (sumV ((S i).map V))) ∧ Below w.heap.size w w' := by
  obtain ⟨x, h1, _, h2, _⟩ := h.root i hb
  have hb1 := (Below.refl w.heap.size w).alloc (Nat.le_refl _) (.cells #[.int .i64 0, .int .i64 0, .int .i64 0, .int .u8 0] 128)
  obtain ⟨y, h1', _, h2', _⟩ := (h.below hb1).root i hb
  have X2 : Hid _ := h2'
  have HB : Hid _ := hb1
  clear h h1 h2 h2' hb1
  go_enter Tryz.func115, Tryz.ntmps115
  go_wp2_with fail
  refine h1'.mono ?_
  rintro e w0 ⟨rfl, rfl⟩
  clear h1'
  go_wp2_with fail
  refine (X2.out _ (Below.refl _ _)).mono ?_
  rintro e w1 ⟨rfl, hb2⟩
  have hbk := (Blk.new w 128 #[.int .i64 0, .int .i64 0, .int .i64 0, .int .u8 0]).below hb2
  generalize hZ : sumV ((S i).map V) = Z at *
  have HZ : Hid _ := hZ
  clear hZ
  have c0 := hbk.at (j := 0) rfl
  have c1 := hbk.at (j := 1) rfl
  have c2 := hbk.at (j := 2) rfl
  have c3 := hbk.at (j := 3) rfl
  have f0 := hbk.frozen 0
  have f1 := hbk.frozen 1
  have f2 := hbk.frozen 2
  have f3 := hbk.frozen 3
  have HK : Hid _ := hbk
  have HB2 : Hid (Below w.heap.size w w1) := HB.out.trans (hb2.mono (by simp))
  clear hb2 hbk X2 HB
  go_wp2
  refine bodyPost_ret (results_cell_row rfl _ _ w.heap.size 128 _ (0, 0) _ rfl (Blk.store4 HK.out _ _ _ _) Tryz.underlying128 rfl (by kernel_rfl)) rfl ?_
  rw [HZ.out]
  exact ⟨rfl, ((((HB2.out.setCell (Nat.le_refl _) _).setCell (Nat.le_refl _) _).setCell (Nat.le_refl _) _).setCell (Nat.le_refl _) _)⟩
end
end Go.Proofs.YtcbgeahcnjamdabGreat

/- Layer 6 (treap): Same, Get, Place, Next, Len. -/
namespace Go.Proofs.YtcbgeahcnjamdabGreat
open Go.RowKit
set_option linter.unusedVariables false
variable {Xh : Hx}

/-- At which place an item stands; what stands behind it. -/
def plS (l : List Int) (i : Int) : Int := if i ∈ l then (l.idxOf i : Int) else -1
def nxS (l : List Int) (i : Int) : Int := if i ∈ l then (l.drop (l.idxOf i + 1)).headD 0 else 0
theorem idx_mid {a b : List Int} {i : Int} (h : i ∉ a) : (a ++ i :: b).idxOf i = a.length := by
  rw [List.idxOf_append, if_neg h]; simp
theorem plS_mid {a b : List Int} {i : Int} (h : i ∉ a) : plS (a ++ i :: b) i = a.length := by
  unfold plS; rw [if_pos (by simp), idx_mid h]
theorem nxS_mid {a b : List Int} {i : Int} (h : i ∉ a) : nxS (a ++ i :: b) i = b.headD 0 := by
  unfold nxS; rw [if_pos (by simp), idx_mid h, show a ++ i :: b = (a ++ [i]) ++ b by simp, List.drop_left' (by simp)]
section
variable {w : World} {F : Nat → Prop} {B : Nat} {K : List Bool} {fr : List Int} {S : Int → List Int} {V : Int → Vl} {mx : Nat}
theorem tsame_any (h : Tp Xh w F B K fr S V mx) (i j : Int) (hb : -2147483648 ≤ i ∧ i ≤ 2147483647) (hc : -2147483648 ≤ j ∧ j ≤ 2147483647) :
    Calls Tryz.prog 91 #[.pointer (some ⟨B, 0, none⟩), .int .i32 i, .int .i32 j] w fun e w' => e = .returned (.bool (decide (j ∈ S i))) ∧ w' = w := by
  have key : ∃ x y : Int, Calls Tryz.prog 114 #[.pointer (some ⟨B, 0, none⟩), .int .i32 i] w (fun e w' => e = .returned (.int .i32 x) ∧ w' = w) ∧ Calls Tryz.prog 114 #[.pointer (some ⟨B, 0, none⟩), .int .i32 j] w (fun e w' => e = .returned (.int .i32 y) ∧ w' = w) ∧ ((x != 0) && (x == y)) = decide (j ∈ S i) := by
    by_cases hj : j ∈ S i
    · obtain ⟨G, N, d, Fa, h1, h2, h3, h4, h5, h6⟩ := h.ex
      have hN : N.length ≤ 2147483647 := by have := h.klen; rw [← h3, List.length_map] at this; exact this
      obtain ⟨t1, t2⟩ := h2.memTk hj
      obtain ⟨t, e, g⟩ := h2.tree i t2
      have hm := h2.mem i t2
      refine ⟨t.top, t.top, root_tk h1 hN g (by rw [e]; exact hm), root_tk h1 hN g (by rw [e]; exact hj), ?_⟩
      have ht0 : t ≠ .nil := fun e0 => by rw [e0] at e; rw [← e] at hm; simp [Tr.seq] at hm
      have := tk_ne (g.all _ (Tr.top_mem ht0))
      simp [hj, this]
    · obtain ⟨x, a1, _, _, _, a2, a3, _⟩ := h.root i hb
      obtain ⟨y, b1, _, _, _, b2, b3, _⟩ := h.root j hc
      refine ⟨x, y, a1, b1, ?_⟩
      rw [decide_eq_false hj]
      by_cases hx : x = 0
      · simp [hx]
      · by_cases hxy : x = y
        · exfalso
          have c1 := h.same (a3 hx)
          have c2 := h.same (b3 (hxy ▸ hx))
          have : j ∈ S j := h.mem.1 (by
            cases hk : isK K j with
            | true => rfl
            | false => exact absurd (b2 (h.nil.1 hk)) (hxy ▸ hx))
          rw [← c2, ← hxy, c1] at this
          exact hj this
        · simp [hx, hxy]
  obtain ⟨x, y, h1, h2, h3⟩ := key
  rw [← h3]
  clear h h3
  by_cases hx : x = 0
  · subst hx
    go_enter Tryz.func91, Tryz.ntmps91
    go_wp2_with fail
    refine h1.mono ?_
    rintro e w0 ⟨rfl, rfl⟩
    go_wp2
    go_ret
    exact ⟨rfl, rfl⟩
  · have hx1 : (x != 0) = true := by simpa using hx
    go_enter Tryz.func91, Tryz.ntmps91
    go_wp2_with fail
    refine h1.mono ?_
    rintro e w0 ⟨rfl, rfl⟩
    go_wp2_with fail
    refine h2.mono ?_
    rintro e w1 ⟨rfl, rfl⟩
    go_wp2
    go_ret
    exact ⟨by rw [hx1]; simp, rfl⟩
theorem tlen_any (h : Tp Xh w F B K fr S V mx) : Calls Tryz.prog 172 #[.pointer (some ⟨B, 0, none⟩)] w fun e w' => e = .returned (.int .i64 ((K.length : Int) - fr.length)) ∧ Below w.heap.size w w' := by
  obtain ⟨G, N, d, Fa, h1, h2, h3, h4, h5, h6⟩ := h.ex
  have hl : (slN N).length = K.length := by rw [slN_len, ← h3, List.length_map]
  have hf : fr.length ≤ K.length := by
    have := h.fk.1.length_le_of_subset (l₂ := List.map (fun k : Nat => (k : Int) + 1) (List.range K.length)) (fun j hj => by
      obtain ⟨_, b1, b2⟩ := h.fk.2 j hj
      exact List.mem_map.2 ⟨(j - 1).toNat, List.mem_range.2 (by omega), by omega⟩)
    simpa using this
  have HL := AN.len_any h1.arn (by rw [hl]; exact h.klen) (by have := h.klen; omega)
  rw [hl] at HL
  clear h h1 h2 h3 h4 h5 h6 hl hf
  generalize (K.length : Int) - fr.length = z at *
  go_enter Tryz.func172, Tryz.ntmps172
  go_wp2_with fail
  refine HL.mono ?_
  rintro e w0 ⟨rfl, nq, rfl⟩
  go_wp2
  go_ret
  exact ⟨rfl, ⟨rfl, rfl, rfl, Nat.le_refl _, fun _ _ => rfl⟩⟩
set_option maxHeartbeats 1000000 in
theorem tnext_any (h : Tp Xh w F B K fr S V mx) (i : Int) (hb : -2147483648 ≤ i ∧ i ≤ 2147483647) :
    Calls Tryz.prog 130 #[.pointer (some ⟨B, 0, none⟩), .int .i32 i] w fun e w' => e = .returned (.int .i32 (nxS (S i) i)) ∧ w' = w := by
  obtain ⟨G, N, d, Fa, h1, h2, h3, h4, h5, h6⟩ := h.ex
  have hN : N.length ≤ 2147483647 := by have := h.klen; rw [← h3, List.length_map] at this; exact this
  clear h
  cases hi : tk N i with
  | false =>
    rw [h2.none i hi, show nxS [] i = 0 from if_neg (by simp)]
    have HA := at_un h1 hN hb hi
    clear h1 h2 h3 h4 h5 h6
    go_enter Tryz.func130, Tryz.ntmps130
    go_wp2_with fail
    refine HA.mono ?_
    rintro e w0 ⟨rfl, rfl⟩
    go_wp2
    go_ret
    exact ⟨rfl, rfl⟩
  | true =>
    obtain ⟨t, e, g⟩ := h2.tree i hi
    have hm := h2.mem i hi
    rw [← e] at hm
    obtain ⟨fs, l, r, et⟩ := Tr.find hm
    have hseq : S i = (pre fs ++ l.seq) ++ i :: (r.seq ++ post fs) := by rw [← e, et, plug_seq]; simp [Tr.seq]
    have hni : i ∉ pre fs ++ l.seq := by
      have := h2.nodup i
      rw [hseq] at this
      exact fun h' => (List.nodup_append.1 this).2.2 i h' i (by simp) rfl
    rw [hseq, nxS_mid hni]
    have gg := g.hang
    rw [et] at gg
    obtain ⟨hpath, y1, y2, y3, y4, y5, y6, y7⟩ := Hang.path gg
    have HA : Hid (∀ j, tk N j = true → Calls Tryz.prog 119 #[.pointer (some ⟨B, 0, none⟩), .int .i32 j] w fun e w' => e = .returned (.pointer (some ⟨G, loc j, none⟩)) ∧ w' = w) := fun j hj => at_tk h1 hN hj
    have HU : Hid (∀ j, tk N j = true → w.cell? ⟨G, loc j + 12, none⟩ = some (.int .i32 (nd N j).u) ∧ w.cell? ⟨G, loc j + 11, none⟩ = some (.int .i32 (nd N j).r)) := fun j hj => ⟨h1.at hj rfl, h1.at hj rfl⟩
    have HT : Hid (Good N t) := g
    have HI : Hid (tk N i = true) := hi
    have HE : Hid (t = plug fs (.node l i r)) := et
    have hr := (HU.out i hi).2
    rw [y3] at hr
    cases r with
    | node rl k rr =>
      have hk : tk N k = true := g.all k (by rw [et]; exact plug_mem (by simp [Tr.seq]))
      have hk0 : (k != 0) = true := by simpa using tk_ne hk
      have HL := leftmost_tk h1 hN y7 (fun j hj => g.all j (by rw [et]; exact plug_mem (by rw [Tr.seq]; simp [hj]))) (by simp)
      rw [head_app (by simp [Tr.seq])]
      rw [show (Tr.node rl k rr).top = k from rfl] at hr HL
      generalize (Tr.node rl k rr).seq.headD 0 = z at *
      clear h1 h2 h3 h4 h5 h6 hm hseq hni gg hpath y1 y2 y3 y4 y5 y6 y7 e et hi hk g
      go_enter Tryz.func130, Tryz.ntmps130
      go_wp2_with fail
      refine (HA.out i HI.out).mono ?_
      rintro e w0 ⟨rfl, rfl⟩
      go_wp2_with fail
      refine HL.mono ?_
      rintro e w1 ⟨rfl, rfl⟩
      go_wp2
      go_ret
      exact ⟨rfl, rfl⟩
    | nil =>
      rw [show Tr.seq .nil = [] from rfl, List.nil_append]
      rw [show Tr.top .nil = 0 from rfl] at hr
      generalize hz : (post fs).headD 0 = z at *
      have HZ : Hid ((post fs).headD 0 = z) := hz
      clear h1 h2 h3 h4 h5 h6 hm hseq hni gg hpath y1 y2 y3 y4 y5 y6 y7 e et hi g hz
      go_enter Tryz.func130, Tryz.ntmps130
      go_wp2_with fail
      refine (HA.out i HI.out).mono ?_
      rintro e w0 ⟨rfl, rfl⟩
      go_wp2
      go_loopg [5, 6] fs.length (fun q vn vk wr => ∃ (gs : List Fm) (p : Tr), gs.length = q ∧ vn = .pointer (some ⟨G, loc p.top, none⟩) ∧ vk = .int .i32 p.top ∧ Hid (t = plug gs p ∧ p ≠ .nil ∧ (post gs).headD 0 = z) ∧ wr = w0)
      case atStart => exact ⟨fs, .node l i .nil, rfl, rfl, rfl, ⟨HE.out, by simp, HZ.out⟩, rfl⟩
      case round =>
        obtain ⟨gs, p, hk, rfl, rfl, HP, rfl⟩ := hrel
        obtain ⟨e1, e2, e3⟩ := HP.out
        have hm : tk N p.top = true := HT.out.all _ (by rw [e1]; exact plug_mem (Tr.top_mem e2))
        have hu := (HU.out _ hm).1
        have gg := HT.out.hang
        rw [e1] at gg
        obtain ⟨hpath, hhang⟩ := Hang.path gg
        have hup : (nd N p.top).u = upOf gs := plug_up gg e2
        rw [hup] at hu
        cases gs with
        | nil =>
          rw [show upOf [] = 0 from rfl] at hu
          have A : Aside (0 = z) := e3
          clear e1 e2 e3 hup hk hm gg hpath hhang HP
          go_wp2
          go_ret
          rw [← A.out]
          exact ⟨rfl, rfl⟩
        | cons f gs =>
          obtain ⟨fd, k, s⟩ := f
          rw [show upOf (⟨fd, k, s⟩ :: gs) = k from rfl] at hu
          rw [plug_cons] at e1
          have hf : tk N k = true := by
            have := HT.out.all (Fm.join ⟨fd, k, s⟩ p).top (by rw [e1]; exact plug_mem (Tr.top_mem (join_ne _ p)))
            rwa [join_top] at this
          have hf0 : (k != 0) = true := by simpa using tk_ne hf
          have HF : Hid (tk N k = true) := hf
          have hur := (HU.out _ hf).2
          have hA := (HA.out k hf)
          obtain ⟨x1, x2, x3, x4, x5⟩ := hpath
          cases fd with
          | true =>
            simp only [cond_true] at x1 x2
            have hne : ((nd N k).r == p.top) = false := by
              rw [x2]
              simp only [beq_eq_false_iff_ne]
              intro e
              have hps : p.top ∈ s.seq := by
                rw [← e]
                refine Tr.top_mem (fun e0 => tk_ne hm ?_)
                rw [← e, e0]; rfl
              have hn := HT.out.nodup
              rw [e1, plug_seq] at hn
              have hn2 := (List.nodup_append.1 (List.nodup_append.1 hn).1).2.1
              simp only [Fm.join, cond_true, Tr.seq] at hn2
              exact (List.nodup_append.1 hn2).2.2 p.top (Tr.top_mem e2) p.top (by simp [hps]) rfl
            have A : Aside (k = z) := e3
            clear e1 e2 e3 hup hk hm gg hhang HP x1 x2 x3 x4 x5 hf
            go_wp2_with fail
            refine hA.mono ?_
            rintro e w1 ⟨rfl, rfl⟩
            go_wp2
            go_ret
            rw [← A.out]
            exact ⟨rfl, rfl⟩
          | false =>
            simp only [cond_false] at x1 x2
            rw [x1] at hur
            have A : Aside (t = plug gs (Fm.join ⟨false, k, s⟩ p) ∧ gs.length + 1 = gk ∧ (post gs).headD 0 = z) := ⟨e1, hk, e3⟩
            clear e1 e2 e3 hup hk hm gg hhang HP x1 x2 x3 x4 x5 hf
            go_wp2_with fail
            refine hA.mono ?_
            rintro e w1 ⟨rfl, rfl⟩
            go_wp2_with fail
            refine (HA.out k HF.out).mono ?_
            rintro e w2 ⟨rfl, rfl⟩
            go_wp2
            obtain ⟨a1, a2, a3⟩ := A.out
            go_roundg gs.length
            case measure => omega
            case rel => exact ⟨gs, Fm.join ⟨false, k, s⟩ p, rfl, by rw [join_top], by rw [join_top], ⟨a1, join_ne _ p, a3⟩, rfl⟩
end
end Go.Proofs.YtcbgeahcnjamdabGreat
