/- Layer 6 (treap): Get, Place, Find. -/
import Derived.Test.YtkpfonfcgoocfaaTreapRead
namespace Go.Proofs.Ytkpfonfcgoocfaa
open Go.RowKit
set_option linter.unusedVariables false
variable {Xh : Hx}

/-- The first item with a bit of a mask. -/
def fdS (V : Int → Vl) (l : List Int) (mask : Int) : Int := (l.find? fun j => hasB (V j).m mask).getD 0
section
variable {w : World} {F : Nat → Prop} {B : Nat} {K : List Bool} {fr : List Int} {S : Int → List Int} {V : Int → Vl} {mx : Nat}
set_option maxHeartbeats 1000000 in
theorem tget_any (h : Tp Xh w F B K fr S V mx) (i : Int) (hb : -2147483648 ≤ i ∧ i ≤ 2147483647) :
    Calls Try.prog 37 #[.pointer (some ⟨B, 0, none⟩), .int .i32 i] w fun e w' => e = .returned (.tuple #[vlc (if isK K i = true then V i else zeV), .bool (isK K i)]) ∧ Below w.heap.size w w' := by
  obtain ⟨G, N, d, Fa, h1, h2, h3, h4, h5, h6⟩ := h.ex
  have hN : N.length ≤ 2147483647 := by have := h.klen; rw [← h3, List.length_map] at this; exact this
  have hb1 := (Below.refl w.heap.size w).alloc (Nat.le_refl _) (.cells #[.int .i64 0, .int .i64 0, .int .i64 0, .int .u8 0] 40)
  have hF1 := h1.below hb1
  rw [← h3, ← tk_isK, ← h4]
  clear h h1 h2 h3 h4 h5 h6
  cases hi : tk N i with
  | false =>
    rw [if_neg (by simp)]
    have HA := at_un hF1 hN hb hi
    clear hF1 hb1
    go_enter Try.func37, Try.ntmps37
    go_wp2_with fail
    refine HA.mono ?_
    rintro e w0 ⟨rfl, rfl⟩
    go_wp2
    go_returns
    exact ⟨rfl, (Below.refl _ _).alloc (Nat.le_refl _) _⟩
  | true =>
    rw [if_pos rfl]
    have HA := at_tk hF1 hN hi
    have c0 := hF1.at hi (j := 0) rfl
    have c1 := hF1.at hi (j := 1) rfl
    have c2 := hF1.at hi (j := 2) rfl
    have c3 := hF1.at hi (j := 3) rfl
    rw [Nat.add_zero] at c0
    clear hF1 hb1
    go_enter Try.func37, Try.ntmps37
    go_wp2_with fail
    refine HA.mono ?_
    rintro e w0 ⟨rfl, rfl⟩
    go_wp2
    go_returns
    exact ⟨rfl, (Below.refl _ _).alloc (Nat.le_refl _) _⟩
set_option maxHeartbeats 1000000 in
theorem tplace_any (h : Tp Xh w F B K fr S V mx) (i : Int) (hb : -2147483648 ≤ i ∧ i ≤ 2147483647) :
    Calls Try.prog 34 #[.pointer (some ⟨B, 0, none⟩), .int .i32 i] w fun e w' => e = .returned (.int .i64 (plS (S i) i)) ∧ w' = w := by
  obtain ⟨G, N, d, Fa, h1, h2, h3, h4, h5, h6⟩ := h.ex
  have hN : N.length ≤ 2147483647 := by have := h.klen; rw [← h3, List.length_map] at this; exact this
  clear h
  cases hi : tk N i with
  | false =>
    rw [h2.none i hi, show plS [] i = -1 from if_neg (by simp)]
    have HA := at_un h1 hN hb hi
    clear h1 h2 h3 h4 h5 h6
    go_enter Try.func34, Try.ntmps34
    go_wp2_with fail
    refine HA.mono ?_
    rintro e w0 ⟨rfl, rfl⟩
    go_wp2
    go_ret
    exact ⟨rfl, rfl⟩
  | true =>
    obtain ⟨t, e, g⟩ := h2.tree i hi
    have hm := h2.mem i hi
    rw [← e] at hm
    obtain ⟨fs, l, r, et⟩ := Tr.find hm
    have hseq : S i = (pre fs ++ l.seq) ++ i :: (r.seq ++ post fs) := by rw [← e, et, plug_seq]; simp [Tr.seq]
    have hni : i ∉ pre fs ++ l.seq := by
      have := h2.nodup i
      rw [hseq] at this
      exact fun h' => (List.nodup_append.1 this).2.2 i h' i (by simp) rfl
    have hlen : (pre fs ++ l.seq).length ≤ 2147483647 := by
      have := h2.len i
      rw [hseq] at this
      simp only [List.length_append, List.length_cons] at this ⊢
      omega
    rw [hseq, plS_mid hni]
    have gg := g.hang
    rw [et] at gg
    obtain ⟨hpath, y1, y2, y3, y4, y5, y6, y7⟩ := Hang.path gg
    have HA : Hid (∀ j, tk N j = true → Calls Try.prog 89 #[.pointer (some ⟨B, 0, none⟩), .int .i32 j] w fun e w' => e = .returned (.pointer (some ⟨G, loc j, none⟩)) ∧ w' = w) := fun j hj => at_tk h1 hN hj
    have HZ : Hid (∀ (p : Tr) (q : Int), Hang (nd N) q p → AllTk N p.seq → Calls Try.prog 90 #[.pointer (some ⟨B, 0, none⟩), .int .i32 p.top] w fun e w' => e = .returned (.int .i64 p.seq.length) ∧ w' = w) := fun p q hp ha => by
      obtain ⟨o1, o2, _⟩ := top_ok hp ha
      have := size_any h1 hN o1
      rwa [o2] at this
    have HU : Hid (∀ j, tk N j = true → w.cell? ⟨G, loc j + 12, none⟩ = some (.int .i32 (nd N j).u) ∧ w.cell? ⟨G, loc j + 11, none⟩ = some (.int .i32 (nd N j).r) ∧ w.cell? ⟨G, loc j + 10, none⟩ = some (.int .i32 (nd N j).l)) := fun j hj => ⟨h1.at hj rfl, h1.at hj rfl, h1.at hj rfl⟩
    have HT : Hid (Good N t) := g
    have HI : Hid (tk N i = true) := hi
    have HE : Hid (t = plug fs (.node l i r)) := et
    have hl := (HU.out i hi).2.2
    rw [y2] at hl
    have hal : AllTk N l.seq := fun j hj => g.all j (by rw [et]; exact plug_mem (by rw [Tr.seq]; simp [hj]))
    have H1 := HZ.out l i y6 hal
    rw [List.length_append] at hlen ⊢
    generalize hln : l.seq.length = ll at *
    generalize hz : (((pre fs).length + ll : Nat) : Int) = z at *
    have HZ2 : Hid ((((pre fs).length + ll : Nat) : Int) = z ∧ (pre fs).length + ll ≤ 2147483647) := ⟨hz, hlen⟩
    clear h1 h2 h3 h4 h5 h6 hm hseq hni gg hpath y1 y2 y3 y4 y5 y6 y7 e et hi g hz hal hln hlen
    go_enter Try.func34, Try.ntmps34
    go_wp2_with fail
    refine (HA.out i HI.out).mono ?_
    rintro e w0 ⟨rfl, rfl⟩
    go_wp2_with fail
    refine H1.mono ?_
    rintro e w1 ⟨rfl, rfl⟩
    clear H1
    go_wp2
    go_loopg [5, 6, 7] fs.length (fun q vn va vk wr => ∃ (gs : List Fm) (p : Tr) (A : Nat), gs.length = q ∧ vn = .pointer (some ⟨G, loc p.top, none⟩) ∧ va = .int .i64 A ∧ vk = .int .i32 p.top ∧ Hid (t = plug gs p ∧ p ≠ .nil ∧ (((pre gs).length + A : Nat) : Int) = z ∧ (pre gs).length + A ≤ 2147483647) ∧ wr = w1)
    case atStart => exact ⟨fs, .node l i r, ll, rfl, rfl, rfl, rfl, ⟨HE.out, by simp, HZ2.out⟩, rfl⟩
    case round =>
      obtain ⟨gs, p, A, hk, rfl, rfl, rfl, HP, rfl⟩ := hrel
      obtain ⟨e1, e2, e3, e4⟩ := HP.out
      have hm : tk N p.top = true := HT.out.all _ (by rw [e1]; exact plug_mem (Tr.top_mem e2))
      have hu := (HU.out _ hm).1
      have gg := HT.out.hang
      rw [e1] at gg
      obtain ⟨hpath, hhang⟩ := Hang.path gg
      have hup : (nd N p.top).u = upOf gs := plug_up gg e2
      rw [hup] at hu
      cases gs with
      | nil =>
        rw [show upOf [] = 0 from rfl] at hu
        have A0 : Hid ((A : Int) = z) := by show _ = _; rw [← e3]; simp [pre]
        clear e1 e2 e3 e4 hup hk hm gg hpath hhang HP
        go_wp2
        go_ret
        rw [← A0.out]
        exact ⟨rfl, rfl⟩
      | cons f gs =>
        obtain ⟨fd, k, s⟩ := f
        rw [show upOf (⟨fd, k, s⟩ :: gs) = k from rfl] at hu
        rw [plug_cons] at e1
        have hjm : k ∈ t.seq ∧ ∀ j ∈ s.seq, j ∈ t.seq := by
          rw [e1]
          exact ⟨plug_mem (by cases fd <;> simp [Fm.join, Tr.seq]), fun j hj => plug_mem (by cases fd <;> simp [Fm.join, Tr.seq, hj])⟩
        have hf : tk N k = true := HT.out.all k hjm.1
        have hf0 : (k != 0) = true := by simpa using tk_ne hf
        have hur := (HU.out _ hf).2.1
        have hul := (HU.out _ hf).2.2
        have hA := (HA.out k hf)
        obtain ⟨x1, x2, x3, x4, x5⟩ := hpath
        have HS := HZ.out s k x3 (fun j hj => HT.out.all j (hjm.2 j hj))
        cases fd with
        | true =>
          simp only [cond_true] at x1 x2
          have hne : ((nd N k).r == p.top) = false := by
            rw [x2]
            simp only [beq_eq_false_iff_ne]
            intro e
            have hps : p.top ∈ s.seq := by
              rw [← e]
              refine Tr.top_mem (fun e0 => tk_ne hm ?_)
              rw [← e, e0]; rfl
            have hn := HT.out.nodup
            rw [e1, plug_seq] at hn
            have hn2 := (List.nodup_append.1 (List.nodup_append.1 hn).1).2.1
            simp only [Fm.join, cond_true, Tr.seq] at hn2
            exact (List.nodup_append.1 hn2).2.2 p.top (Tr.top_mem e2) p.top (by simp [hps]) rfl
          have A0 : Hid (t = plug gs (Fm.join ⟨true, k, s⟩ p) ∧ gs.length + 1 = gk ∧ (((pre gs).length + A : Nat) : Int) = z ∧ (pre gs).length + A ≤ 2147483647) := ⟨e1, hk, e3, e4⟩
          clear e1 e2 e3 e4 hup hk hm gg hhang HP x1 x2 x3 x4 x5 hf hjm HS hul
          go_wp2_with fail
          refine hA.mono ?_
          rintro e w2 ⟨rfl, rfl⟩
          go_wp2
          obtain ⟨a1, a2, a3⟩ := A0.out
          go_roundg gs.length
          case measure => omega
          case rel => exact ⟨gs, Fm.join ⟨true, k, s⟩ p, A, rfl, by rw [join_top], rfl, by rw [join_top], ⟨a1, join_ne _ p, a3⟩, rfl⟩
        | false =>
          simp only [cond_false] at x1 x2
          rw [x1] at hur
          rw [x2] at hul
          simp only [pre, List.length_append, List.length_cons, List.length_nil] at e3 e4
          generalize hsn : s.seq.length = sn at *
          have A0 : Hid (t = plug gs (Fm.join ⟨false, k, s⟩ p) ∧ gs.length + 1 = gk ∧ (((pre gs).length + (A + sn + 1) : Nat) : Int) = z ∧ (pre gs).length + (A + sn + 1) ≤ 2147483647) := ⟨e1, hk, by rw [← e3]; simp; omega, by omega⟩
          have hs1 : A + sn + 1 ≤ 2147483647 := by omega
          clear e1 e2 e3 e4 hup hk hm gg hhang HP x1 x2 x3 x4 x5 hf hjm hsn
          go_wp2_with fail
          refine hA.mono ?_
          rintro e w2 ⟨rfl, rfl⟩
          go_wp2_with fail
          refine HS.mono ?_
          rintro e w3 ⟨rfl, rfl⟩
          go_wp2
          obtain ⟨a1, a2, a3⟩ := A0.out
          go_roundg gs.length
          case measure => omega
          case rel => exact ⟨gs, Fm.join ⟨false, k, s⟩ p, A + sn + 1, rfl, by rw [join_top], by (congr 1), by rw [join_top], ⟨a1, join_ne _ p, a3⟩, rfl⟩
end
end Go.Proofs.Ytkpfonfcgoocfaa
