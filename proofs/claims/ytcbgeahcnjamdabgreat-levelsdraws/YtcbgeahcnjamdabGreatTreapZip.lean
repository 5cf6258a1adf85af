/- Layer 6 (treap): the first and the last item of a tree; a join, from there up to both roots. -/
import Derived.Test.YtcbgeahcnjamdabGreatTreapUnzip
namespace Go.Proofs.YtcbgeahcnjamdabGreat
open Go.RowKit
set_option linter.unusedVariables false
variable {Xh : Hx}

theorem head_app {xs ys : List Int} (h : xs ≠ []) : (xs ++ ys).headD 0 = xs.headD 0 := by cases xs with | nil => exact absurd rfl h | cons x xs => rfl
theorem last_app {xs ys : List Int} {y : Int} (h : ys ≠ []) : (xs ++ y :: ys).getLastD 0 = ys.getLastD 0 := by
  rcases List.eq_nil_or_concat ys with rfl | ⟨zs, z, rfl⟩
  · exact absurd rfl h
  · rw [List.concat_eq_append, ← List.cons_append, ← List.append_assoc, List.getLastD_concat, List.getLastD_concat]
section
variable {d : Option Addr} {w : World} {F : Nat → Prop} {B G : Nat} {N : List Nt} {fr : List Int}
set_option maxHeartbeats 1000000 in
theorem leftmost_tk (h : Frs Xh d w F B G N fr) (hN : N.length ≤ 2147483647) {t : Tr} {q : Int} (ht : Hang (nd N) q t) (ha : AllTk N t.seq) (h0 : t ≠ .nil) :
    Calls Tryz.prog 140 #[.pointer (some ⟨B, 0, none⟩), .int .i32 t.top] w fun e w' => e = .returned (.int .i32 (t.seq.headD 0)) ∧ w' = w := by
  have HA : Hid (∀ j, tk N j = true → Calls Tryz.prog 119 #[.pointer (some ⟨B, 0, none⟩), .int .i32 j] w fun e w' => e = .returned (.pointer (some ⟨G, loc j, none⟩)) ∧ w' = w) := fun j hj => at_tk h hN hj
  have HU : Hid (∀ j, tk N j = true → w.cell? ⟨G, loc j + 10, none⟩ = some (.int .i32 (nd N j).l)) := fun j hj => h.at hj rfl
  have HI : Hid (tk N t.top = true) := ha _ (Tr.top_mem h0)
  have hi0 := tk_ne HI.out
  have HT : Hid (Hang (nd N) q t ∧ AllTk N t.seq ∧ t ≠ .nil) := ⟨ht, ha, h0⟩
  clear h ht ha h0
  go_enter Tryz.func140, Tryz.ntmps140
  go_wp2_with fail
  refine (HA.out _ HI.out).mono ?_
  rintro e w0 ⟨rfl, rfl⟩
  go_wp2
  go_loopg [1, 5] t.seq.length (fun k vi vn wr => ∃ (p : Tr) (q' : Int), p.seq.length = k ∧ vi = .int .i32 p.top ∧ vn = .pointer (some ⟨G, loc p.top, none⟩) ∧ Hid (Hang (nd N) q' p ∧ AllTk N p.seq ∧ p ≠ .nil) ∧ Hid (p.seq.headD 0 = t.seq.headD 0) ∧ wr = w0)
  case atStart => exact ⟨t, q, rfl, rfl, rfl, HT.out, rfl, rfl⟩
  case round =>
    obtain ⟨p, q', hk, rfl, rfl, HP, HG, rfl⟩ := hrel
    obtain ⟨e1, e2, e3⟩ := HP.out
    cases p with
    | nil => exact absurd rfl e3
    | node l i r =>
      have hm : tk N i = true := e2 i (by simp [Tr.seq])
      obtain ⟨x1, x2, x3, x4, x5, x6, x7⟩ := e1
      have hu := HU.out _ hm
      rw [x2] at hu
      rw [show (Tr.node l i r).top = i from rfl]
      cases l with
      | nil =>
        rw [show Tr.top .nil = 0 from rfl] at hu
        have A0 : Hid (t.seq.headD 0 = i) := by show _ = _; rw [← HG.out]; rfl
        clear x1 x2 x3 x4 x5 x6 x7 e2 e3 hk hm HG HP
        go_wp2
        rw [A0.out]
        go_ret
        exact ⟨rfl, rfl⟩
      | node ll k lr =>
        rw [show (Tr.node ll k lr).top = k from rfl] at hu
        have hf : tk N k = true := e2 k (by simp [Tr.seq])
        have hf0 : (k != 0) = true := by simpa using tk_ne hf
        have HF : Hid (tk N k = true) := hf
        have A0 : Hid ((Tr.node ll k lr).seq.length < gk ∧ Hang (nd N) i (Tr.node ll k lr) ∧ AllTk N (Tr.node ll k lr).seq ∧ (Tr.node ll k lr).seq.headD 0 = t.seq.headD 0) :=
          ⟨by rw [← hk]; simp [Tr.seq]; try omega, x6, fun j hj => e2 j (by rw [Tr.seq]; simp [hj]), by rw [← HG.out]; exact (head_app (by simp [Tr.seq])).symm⟩
        clear x1 x2 x3 x4 x5 x6 x7 e2 e3 hk hm hf HG HP
        go_wp2_with fail
        refine (HA.out k HF.out).mono ?_
        rintro e w1 ⟨rfl, rfl⟩
        go_wp2
        obtain ⟨a1, a2, a3, a4⟩ := A0.out
        go_roundg (Tr.node ll k lr).seq.length
        case measure => exact a1
        case rel => exact ⟨.node ll k lr, i, rfl, rfl, rfl, ⟨a2, a3, by simp⟩, a4, rfl⟩
set_option maxHeartbeats 1000000 in
theorem rightmost_tk (h : Frs Xh d w F B G N fr) (hN : N.length ≤ 2147483647) {t : Tr} {q : Int} (ht : Hang (nd N) q t) (ha : AllTk N t.seq) (h0 : t ≠ .nil) :
    Calls Tryz.prog 143 #[.pointer (some ⟨B, 0, none⟩), .int .i32 t.top] w fun e w' => e = .returned (.int .i32 (t.seq.getLastD 0)) ∧ w' = w := by
  have HA : Hid (∀ j, tk N j = true → Calls Tryz.prog 119 #[.pointer (some ⟨B, 0, none⟩), .int .i32 j] w fun e w' => e = .returned (.pointer (some ⟨G, loc j, none⟩)) ∧ w' = w) := fun j hj => at_tk h hN hj
  have HU : Hid (∀ j, tk N j = true → w.cell? ⟨G, loc j + 11, none⟩ = some (.int .i32 (nd N j).r)) := fun j hj => h.at hj rfl
  have HI : Hid (tk N t.top = true) := ha _ (Tr.top_mem h0)
  have hi0 := tk_ne HI.out
  have HT : Hid (Hang (nd N) q t ∧ AllTk N t.seq ∧ t ≠ .nil) := ⟨ht, ha, h0⟩
  clear h ht ha h0
  go_enter Tryz.func143, Tryz.ntmps143
  go_wp2_with fail
  refine (HA.out _ HI.out).mono ?_
  rintro e w0 ⟨rfl, rfl⟩
  go_wp2
  go_loopg [1, 5] t.seq.length (fun k vi vn wr => ∃ (p : Tr) (q' : Int), p.seq.length = k ∧ vi = .int .i32 p.top ∧ vn = .pointer (some ⟨G, loc p.top, none⟩) ∧ Hid (Hang (nd N) q' p ∧ AllTk N p.seq ∧ p ≠ .nil) ∧ Hid (p.seq.getLastD 0 = t.seq.getLastD 0) ∧ wr = w0)
  case atStart => exact ⟨t, q, rfl, rfl, rfl, HT.out, rfl, rfl⟩
  case round =>
    obtain ⟨p, q', hk, rfl, rfl, HP, HG, rfl⟩ := hrel
    obtain ⟨e1, e2, e3⟩ := HP.out
    cases p with
    | nil => exact absurd rfl e3
    | node l i r =>
      have hm : tk N i = true := e2 i (by simp [Tr.seq])
      obtain ⟨x1, x2, x3, x4, x5, x6, x7⟩ := e1
      have hu := HU.out _ hm
      rw [x3] at hu
      rw [show (Tr.node l i r).top = i from rfl]
      cases r with
      | nil =>
        rw [show Tr.top .nil = 0 from rfl] at hu
        have A0 : Hid (t.seq.getLastD 0 = i) := by show _ = _; rw [← HG.out]; exact List.getLastD_concat
        clear x1 x2 x3 x4 x5 x6 x7 e2 e3 hk hm HG HP
        go_wp2
        rw [A0.out]
        go_ret
        exact ⟨rfl, rfl⟩
      | node rl k rr =>
        rw [show (Tr.node rl k rr).top = k from rfl] at hu
        have hf : tk N k = true := e2 k (by simp [Tr.seq])
        have hf0 : (k != 0) = true := by simpa using tk_ne hf
        have HF : Hid (tk N k = true) := hf
        have A0 : Hid ((Tr.node rl k rr).seq.length < gk ∧ Hang (nd N) i (Tr.node rl k rr) ∧ AllTk N (Tr.node rl k rr).seq ∧ (Tr.node rl k rr).seq.getLastD 0 = t.seq.getLastD 0) :=
          ⟨by rw [← hk]; simp [Tr.seq]; try omega, x7, fun j hj => e2 j (by rw [Tr.seq]; simp [hj]), by rw [← HG.out]; exact (last_app (by simp [Tr.seq])).symm⟩
        clear x1 x2 x3 x4 x5 x6 x7 e2 e3 hk hm hf HG HP
        go_wp2_with fail
        refine (HA.out k HF.out).mono ?_
        rintro e w1 ⟨rfl, rfl⟩
        go_wp2
        obtain ⟨a1, a2, a3, a4⟩ := A0.out
        go_roundg (Tr.node rl k rr).seq.length
        case measure => exact a1
        case rel => exact ⟨.node rl k rr, i, rfl, rfl, rfl, ⟨a2, a3, by simp⟩, a4, rfl⟩
theorem leftmost_nil (w : World) (p : Value) : Calls Tryz.prog 140 #[p, .int .i32 0] w fun e w' => e = .returned (.int .i32 0) ∧ w' = w := by
  go_enter Tryz.func140, Tryz.ntmps140
  go_wp2
  go_ret
  exact ⟨rfl, rfl⟩
theorem okUp {Q : List Int} {N0 N1 : List Nt} {ls rs : List Fm} {t : Tr} (h : Zp Q N0 N1 ls rs t) (ha : AllTk N0 Q) : okI N1 (upOf ls) ∧ okI N1 (upOf rs) := by
  have hall := h.items ha
  have hq := h.hq
  constructor
  · cases ls with
    | nil => exact .inl rfl
    | cons f ls =>
      obtain ⟨d, k, s⟩ := f
      obtain rfl : d = false := h.ld ⟨d, k, s⟩ List.mem_cons_self
      exact .inr (hall k (by rw [← hq]; simp [pre]))
  · cases rs with
    | nil => exact .inl rfl
    | cons f rs =>
      obtain ⟨d, k, s⟩ := f
      obtain rfl : d = true := h.rd ⟨d, k, s⟩ List.mem_cons_self
      exact .inr (hall k (by rw [← hq]; simp [post]))
set_option maxHeartbeats 4000000 in
theorem zip_tk (h : Frs Xh d w F B G N fr) (hN : N.length ≤ 2147483647) {ls rs : List Fm} {Q : List Int} (hz : Zp Q N N ls rs .nil) (hl0 : ls ≠ []) (hnd : Q.Nodup) (hall : AllTk N Q) :
    Calls Tryz.prog 142 #[.pointer (some ⟨B, 0, none⟩), .int .i32 (upOf ls), .int .i32 (upOf rs)] w fun e w' => e = .returned (.tuple #[]) ∧ ∃ N' t, Frs Xh d w' F B G N' fr ∧ Step F F w w' ∧ Keeps (fun j => j ∈ Q) N N' ∧ Good N' t ∧ t.seq = Q := by
  have HF : Hid (Frs Xh d w F B G N fr) := h
  have HZ0 : Hid (Zp Q N N ls rs .nil) := hz
  have ND : Hid (Q.Nodup) := hnd
  have AL : Hid (AllTk N Q) := hall
  have L0 : Hid (ls ≠ []) := hl0
  clear h hz hnd hall hl0
  go_enter Tryz.func142, Tryz.ntmps142
  go_wp2
  go_loopg [1, 2, 6] (ls.length + rs.length) (fun q va vb vt wr => ∃ (l : List Fm) (r : List Fm) (t : Tr) (N1 : List Nt), l.length + r.length = q ∧ va = .int .i32 (upOf l) ∧ vb = .int .i32 (upOf r) ∧ vt = .int .i32 t.top ∧
    Hid (Zp Q N N1 l r t) ∧ Hid (Frs Xh d wr F B G N1 fr) ∧ Hid (Step F F w wr))
  case atStart => exact ⟨ls, rs, .nil, N, rfl, rfl, rfl, rfl, HZ0.out, HF.out, Step.refl _ _⟩
  case round =>
    obtain ⟨l, r, t, N1, hk, rfl, rfl, rfl, HZ, HX, HS⟩ := hrel
    have hN1 : N1.length ≤ 2147483647 := by rw [HZ.out.keeps.len]; exact hN
    have HLo : Hid (∀ {w : World}, Frs Xh d w F B G N1 fr → Calls Tryz.prog 147 #[.pointer (some ⟨B, 0, none⟩), .int .i32 (upOf l), .int .i32 (upOf r)] w fun e w' => e = .returned (.bool (lowB N1 (upOf l) (upOf r))) ∧ Below w.heap.size w w') :=
      fun h => lower_any h hN1 (okUp HZ.out AL.out).1 (okUp HZ.out AL.out).2
    have HL := HLo.out HX.out
    clear HLo
    cases l with
    | nil =>
      cases r with
      | nil =>
        rw [show upOf [] = 0 from rfl]
        obtain ⟨p, h1, h2⟩ := HZ.out.ht
        obtain rfl := h2 rfl rfl
        have hq := HZ.out.hq
        simp only [pre, post, List.nil_append, List.append_nil] at hq
        have FIN : Hid (Keeps (fun j => j ∈ Q) N N1 ∧ Good N1 t ∧ t.seq = Q) := ⟨HZ.out.keeps, ⟨h1, by rw [hq]; exact HZ.out.items AL.out, by rw [hq]; exact ND.out⟩, hq⟩
        clear h1 h2 hq hk HL HZ
        go_wp2
        go_returns
        exact ⟨rfl, N1, t, HX.out, HS.out, FIN.out⟩
      | cons f r =>
        obtain ⟨fd, fk, fs⟩ := f
        rw [show upOf (⟨fd, fk, fs⟩ :: r) = fk from rfl, show upOf [] = 0 from rfl] at *
        have LOW : lowB N1 0 fk = false := if_pos rfl
        have hf0 : (fk != 0) = true := by have := HZ.out.right ND.out AL.out; simpa using tk_ne this.1.1
        obtain ⟨⟨q1, q2, q3, q4, ⟨p5, q5⟩, q6, q7, q8, q9⟩, z2⟩ := HZ.out.right ND.out AL.out
        have aT : AllTk N1 Q := HZ.out.items AL.out
        have hbm : ∀ j ∈ t.seq, j ∈ Q := fun j hj => by rw [← HZ.out.hq]; simp [hj]
        have hsm : ∀ j ∈ fs.seq, j ∈ Q := fun j hj => by rw [← z2.hq]; simp [Tr.seq, hj]
        have HST : Hid (∀ {w : World}, Frs Xh d w F B G N1 fr → Calls Tryz.prog 144 #[.pointer (some ⟨B, 0, none⟩), .int .i32 fk, .int .i32 t.top] w fun e w' => e = .returned (.tuple #[]) ∧ Frs Xh d w' F B G (stepL N1 fk t.top) fr ∧ Step F F w w') :=
          fun h => setLeft_any h hN1 q1 q2 (by rw [q3]; exact q4) (top_bd q5 (fun j hj => aT j (hbm j hj)) q8 hN1) (by rw [q3]; exact top_bd q6 (fun j hj => aT j (hsm j hj)) q9 hN1)
        have HAT : Hid (∀ {w : World}, Frs Xh d w F B G N1 fr → Calls Tryz.prog 119 #[.pointer (some ⟨B, 0, none⟩), .int .i32 fk] w fun e w' => e = .returned (.pointer (some ⟨G, loc fk, none⟩)) ∧ w' = w) := fun h => at_tk h hN1 q1
        have HUP : Hid (∀ {w : World}, Frs Xh d w F B G N1 fr → w.cell? ⟨G, loc fk + 12, none⟩ = some (.int .i32 (upOf r))) := fun h => by rw [← q7]; exact h.at q1 (j := 12) rfl
        have HZ2 : Hid (Zp Q N (stepL N1 fk t.top) ([] : List Fm) r (.node t fk fs)) := z2
        have A0 : Hid ((([] : List Fm)).length + r.length < gk) := by show _ < _; simp at hk ⊢; omega
        clear q1 q2 q3 q4 q5 q6 q7 q8 q9 z2 aT hbm hsm hk HZ
        go_wp2_with fail
        refine HL.mono ?_
        rintro e w1 ⟨rfl, hb1⟩
        rw [LOW]
        have HX1 : Hid _ := HX.out.below hb1
        have HS1 : Hid (Step F F w w1) := HS.out.trans (Step.of_below hb1)
        have hu := HUP.out HX1.out
        clear HL hb1 HX HS HUP
        go_wp2_with fail
        refine (HAT.out HX1.out).mono ?_
        rintro e w2 ⟨rfl, rfl⟩
        go_wp2_with fail
        refine (HST.out HX1.out).mono ?_
        rintro e w3 ⟨rfl, a3, b3⟩
        have HX3 : Hid _ := a3
        have HS3 : Hid (Step F F w w3) := HS1.out.trans b3
        clear a3 b3 HST HAT HX1 HS1 hu
        go_wp2
        go_roundg ((([] : List Fm)).length + r.length)
        case measure => exact A0.out
        case rel => exact ⟨([] : List Fm), r, .node t fk fs, _, rfl, rfl, rfl, rfl, HZ2.out, HX3.out, HS3.out⟩
    | cons f l =>
      obtain ⟨fd, fk, fs⟩ := f
      have hf0 : (fk != 0) = true := by have := HZ.out.left ND.out AL.out; simpa using tk_ne this.1.1
      cases r with
      | nil =>
        rw [show upOf (⟨fd, fk, fs⟩ :: l) = fk from rfl, show upOf [] = 0 from rfl] at *
        have LOW : lowB N1 fk 0 = true := by unfold lowB; rw [if_neg (by simpa using hf0), if_pos rfl]
        obtain ⟨⟨q1, q2, q3, q4, ⟨p5, q5⟩, q6, q7, q8, q9⟩, z2⟩ := HZ.out.left ND.out AL.out
        have aT : AllTk N1 Q := HZ.out.items AL.out
        have hbm : ∀ j ∈ t.seq, j ∈ Q := fun j hj => by rw [← HZ.out.hq]; simp [hj]
        have hsm : ∀ j ∈ fs.seq, j ∈ Q := fun j hj => by rw [← z2.hq]; simp [Tr.seq, hj]
        have HST : Hid (∀ {w : World}, Frs Xh d w F B G N1 fr → Calls Tryz.prog 145 #[.pointer (some ⟨B, 0, none⟩), .int .i32 fk, .int .i32 t.top] w fun e w' => e = .returned (.tuple #[]) ∧ Frs Xh d w' F B G (stepR N1 fk t.top) fr ∧ Step F F w w') :=
          fun h => setRight_any h hN1 q1 q2 (by rw [q3]; exact q4) (by rw [q3]; exact top_bd q6 (fun j hj => aT j (hsm j hj)) q9 hN1) (top_bd q5 (fun j hj => aT j (hbm j hj)) q8 hN1)
        have HAT : Hid (∀ {w : World}, Frs Xh d w F B G N1 fr → Calls Tryz.prog 119 #[.pointer (some ⟨B, 0, none⟩), .int .i32 fk] w fun e w' => e = .returned (.pointer (some ⟨G, loc fk, none⟩)) ∧ w' = w) := fun h => at_tk h hN1 q1
        have HUP : Hid (∀ {w : World}, Frs Xh d w F B G N1 fr → w.cell? ⟨G, loc fk + 12, none⟩ = some (.int .i32 (upOf l))) := fun h => by rw [← q7]; exact h.at q1 (j := 12) rfl
        have HZ2 : Hid (Zp Q N (stepR N1 fk t.top) l ([] : List Fm) (.node fs fk t)) := z2
        have A0 : Hid (l.length + (([] : List Fm)).length < gk) := by show _ < _; simp at hk ⊢; omega
        clear q1 q2 q3 q4 q5 q6 q7 q8 q9 z2 aT hbm hsm hk HZ
        go_wp2_with fail
        refine HL.mono ?_
        rintro e w1 ⟨rfl, hb1⟩
        rw [LOW]
        have HX1 : Hid _ := HX.out.below hb1
        have HS1 : Hid (Step F F w w1) := HS.out.trans (Step.of_below hb1)
        have hu := HUP.out HX1.out
        clear HL hb1 HX HS HUP
        go_wp2_with fail
        refine (HAT.out HX1.out).mono ?_
        rintro e w2 ⟨rfl, rfl⟩
        go_wp2_with fail
        refine (HST.out HX1.out).mono ?_
        rintro e w3 ⟨rfl, a3, b3⟩
        have HX3 : Hid _ := a3
        have HS3 : Hid (Step F F w w3) := HS1.out.trans b3
        clear a3 b3 HST HAT HX1 HS1 hu
        go_wp2
        go_roundg (l.length + (([] : List Fm)).length)
        case measure => exact A0.out
        case rel => exact ⟨l, ([] : List Fm), .node fs fk t, _, rfl, rfl, rfl, rfl, HZ2.out, HX3.out, HS3.out⟩
      | cons g r =>
        obtain ⟨gd, gk', gs⟩ := g
        rw [show upOf (⟨fd, fk, fs⟩ :: l) = fk from rfl, show upOf (⟨gd, gk', gs⟩ :: r) = gk' from rfl] at *
        cases LOW : lowB N1 fk gk' with
        | true =>
          obtain ⟨⟨q1, q2, q3, q4, ⟨p5, q5⟩, q6, q7, q8, q9⟩, z2⟩ := HZ.out.left ND.out AL.out
          have aT : AllTk N1 Q := HZ.out.items AL.out
          have hbm : ∀ j ∈ t.seq, j ∈ Q := fun j hj => by rw [← HZ.out.hq]; simp [hj]
          have hsm : ∀ j ∈ fs.seq, j ∈ Q := fun j hj => by rw [← z2.hq]; simp [Tr.seq, hj]
          have HST : Hid (∀ {w : World}, Frs Xh d w F B G N1 fr → Calls Tryz.prog 145 #[.pointer (some ⟨B, 0, none⟩), .int .i32 fk, .int .i32 t.top] w fun e w' => e = .returned (.tuple #[]) ∧ Frs Xh d w' F B G (stepR N1 fk t.top) fr ∧ Step F F w w') :=
            fun h => setRight_any h hN1 q1 q2 (by rw [q3]; exact q4) (by rw [q3]; exact top_bd q6 (fun j hj => aT j (hsm j hj)) q9 hN1) (top_bd q5 (fun j hj => aT j (hbm j hj)) q8 hN1)
          have HAT : Hid (∀ {w : World}, Frs Xh d w F B G N1 fr → Calls Tryz.prog 119 #[.pointer (some ⟨B, 0, none⟩), .int .i32 fk] w fun e w' => e = .returned (.pointer (some ⟨G, loc fk, none⟩)) ∧ w' = w) := fun h => at_tk h hN1 q1
          have HUP : Hid (∀ {w : World}, Frs Xh d w F B G N1 fr → w.cell? ⟨G, loc fk + 12, none⟩ = some (.int .i32 (upOf l))) := fun h => by rw [← q7]; exact h.at q1 (j := 12) rfl
          have HZ2 : Hid (Zp Q N (stepR N1 fk t.top) l (⟨gd, gk', gs⟩ :: r) (.node fs fk t)) := z2
          have A0 : Hid (l.length + ((⟨gd, gk', gs⟩ :: r)).length < gk) := by show _ < _; simp at hk ⊢; omega
          clear q1 q2 q3 q4 q5 q6 q7 q8 q9 z2 aT hbm hsm hk HZ
          go_wp2_with fail
          refine HL.mono ?_
          rintro e w1 ⟨rfl, hb1⟩
          skip
          have HX1 : Hid _ := HX.out.below hb1
          have HS1 : Hid (Step F F w w1) := HS.out.trans (Step.of_below hb1)
          have hu := HUP.out HX1.out
          clear HL hb1 HX HS HUP
          go_wp2_with fail
          refine (HAT.out HX1.out).mono ?_
          rintro e w2 ⟨rfl, rfl⟩
          go_wp2_with fail
          refine (HST.out HX1.out).mono ?_
          rintro e w3 ⟨rfl, a3, b3⟩
          have HX3 : Hid _ := a3
          have HS3 : Hid (Step F F w w3) := HS1.out.trans b3
          clear a3 b3 HST HAT HX1 HS1 hu
          go_wp2
          go_roundg (l.length + ((⟨gd, gk', gs⟩ :: r)).length)
          case measure => exact A0.out
          case rel => exact ⟨l, (⟨gd, gk', gs⟩ :: r), .node fs fk t, _, rfl, rfl, rfl, rfl, HZ2.out, HX3.out, HS3.out⟩
        | false =>
          obtain ⟨⟨q1, q2, q3, q4, ⟨p5, q5⟩, q6, q7, q8, q9⟩, z2⟩ := HZ.out.right ND.out AL.out
          have aT : AllTk N1 Q := HZ.out.items AL.out
          have hbm : ∀ j ∈ t.seq, j ∈ Q := fun j hj => by rw [← HZ.out.hq]; simp [hj]
          have hsm : ∀ j ∈ gs.seq, j ∈ Q := fun j hj => by rw [← z2.hq]; simp [Tr.seq, hj]
          have HST : Hid (∀ {w : World}, Frs Xh d w F B G N1 fr → Calls Tryz.prog 144 #[.pointer (some ⟨B, 0, none⟩), .int .i32 gk', .int .i32 t.top] w fun e w' => e = .returned (.tuple #[]) ∧ Frs Xh d w' F B G (stepL N1 gk' t.top) fr ∧ Step F F w w') :=
            fun h => setLeft_any h hN1 q1 q2 (by rw [q3]; exact q4) (top_bd q5 (fun j hj => aT j (hbm j hj)) q8 hN1) (by rw [q3]; exact top_bd q6 (fun j hj => aT j (hsm j hj)) q9 hN1)
          have HAT : Hid (∀ {w : World}, Frs Xh d w F B G N1 fr → Calls Tryz.prog 119 #[.pointer (some ⟨B, 0, none⟩), .int .i32 gk'] w fun e w' => e = .returned (.pointer (some ⟨G, loc gk', none⟩)) ∧ w' = w) := fun h => at_tk h hN1 q1
          have HUP : Hid (∀ {w : World}, Frs Xh d w F B G N1 fr → w.cell? ⟨G, loc gk' + 12, none⟩ = some (.int .i32 (upOf r))) := fun h => by rw [← q7]; exact h.at q1 (j := 12) rfl
          have HZ2 : Hid (Zp Q N (stepL N1 gk' t.top) (⟨fd, fk, fs⟩ :: l) r (.node t gk' gs)) := z2
          have A0 : Hid (((⟨fd, fk, fs⟩ :: l)).length + r.length < gk) := by show _ < _; simp at hk ⊢; omega
          clear q1 q2 q3 q4 q5 q6 q7 q8 q9 z2 aT hbm hsm hk HZ
          go_wp2_with fail
          refine HL.mono ?_
          rintro e w1 ⟨rfl, hb1⟩
          skip
          have HX1 : Hid _ := HX.out.below hb1
          have HS1 : Hid (Step F F w w1) := HS.out.trans (Step.of_below hb1)
          have hu := HUP.out HX1.out
          clear HL hb1 HX HS HUP
          go_wp2_with fail
          refine (HAT.out HX1.out).mono ?_
          rintro e w2 ⟨rfl, rfl⟩
          go_wp2_with fail
          refine (HST.out HX1.out).mono ?_
          rintro e w3 ⟨rfl, a3, b3⟩
          have HX3 : Hid _ := a3
          have HS3 : Hid (Step F F w w3) := HS1.out.trans b3
          clear a3 b3 HST HAT HX1 HS1 hu
          go_wp2
          go_roundg (((⟨fd, fk, fs⟩ :: l)).length + r.length)
          case measure => exact A0.out
          case rel => exact ⟨(⟨fd, fk, fs⟩ :: l), r, .node t gk' gs, _, rfl, rfl, rfl, rfl, HZ2.out, HX3.out, HS3.out⟩
end
end Go.Proofs.YtcbgeahcnjamdabGreat
