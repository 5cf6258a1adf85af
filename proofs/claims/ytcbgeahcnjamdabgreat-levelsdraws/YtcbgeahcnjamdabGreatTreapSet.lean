/- Layer 6 (treap): Set. -/
import Derived.Test.YtcbgeahcnjamdabGreatTreapCut
namespace Go.Proofs.YtcbgeahcnjamdabGreat
open Go.RowKit
set_option linter.unusedVariables false
variable {Xh : Hx}

def updV (V : Int → Vl) (i : Int) (x : Vl) : Int → Vl := fun j => if j = i then x else V j
theorem join_seq (f : Fm) (p : Tr) : (f.join p).seq = cond f.d (p.seq ++ f.k :: f.s.seq) (f.s.seq ++ f.k :: p.seq) := by obtain ⟨d, k, s⟩ := f; cases d <;> rfl
theorem treeK {N : List Nt} {f : Fm} {p : Tr} (hp : Hang (nd N) f.k p) (hs : Hang (nd N) f.k f.s) (c1 : cond f.d (nd N f.k).l (nd N f.k).r = p.top) (c2 : cond f.d (nd N f.k).r (nd N f.k).l = f.s.top) (hn : (f.join p).seq.Nodup) (ha : AllTk N (f.join p).seq) (hN : N.length ≤ 2147483647) :
    (tk N f.k = true ∧ okI N (nd N f.k).l ∧ okI N (nd N f.k).r ∧ (0 ≤ szOf N (nd N f.k).l ∧ szOf N (nd N f.k).l ≤ 2147483647) ∧ (0 ≤ szOf N (nd N f.k).r ∧ szOf N (nd N f.k).r ≤ 2147483647)) ∧
      Hang (nd (reckN N f.k)) (nd N f.k).u (f.join p) ∧ (∀ j, j ≠ f.k → nd (reckN N f.k) j = nd N j) ∧ (∀ j, tk (reckN N f.k) j = tk N j) ∧ (reckN N f.k).length = N.length ∧ (∀ j, (nd (reckN N f.k) j).own = (nd N j).own) ∧ (nd (reckN N f.k) f.k).u = (nd N f.k).u := by
  obtain ⟨d, k, s⟩ := f
  simp only at hp hs c1 c2
  rw [join_seq] at hn ha
  have hap : AllTk N p.seq := fun j hj => ha j (by cases d <;> simp [hj])
  have has : AllTk N s.seq := fun j hj => ha j (by cases d <;> simp [hj])
  have hk : tk N k = true := ha k (by cases d <;> simp)
  have hkp : k ∉ p.seq ∧ k ∉ s.seq ∧ p.seq.Nodup ∧ s.seq.Nodup := by
    cases d with
    | true =>
      have h1 := List.nodup_append.1 hn
      have h2 := List.nodup_cons.1 h1.2.1
      exact ⟨fun h => h1.2.2 k h k (by simp) rfl, h2.1, h1.1, h2.2⟩
    | false =>
      have h1 := List.nodup_append.1 hn
      have h2 := List.nodup_cons.1 h1.2.1
      exact ⟨h2.1, fun h => h1.2.2 k h k (by simp) rfl, h2.2, h1.1⟩
  obtain ⟨po, pz, pm⟩ := top_ok hp hap
  obtain ⟨so, sz, sm⟩ := top_ok hs has
  have bp := top_bd hp hap hkp.2.2.1 hN
  have bs := top_bd hs has hkp.2.2.2 hN
  have n1 : nd (reckN N k) = upd (nd N) k ((nd N k).ws (szOf N (nd N k).l + 1 + szOf N (nd N k).r) (tog (tog (smOf N (nd N k).l) (nd N k).own) (smOf N (nd N k).r))) := nd_setN _ hk
  have own1 : ∀ j, (nd (reckN N k) j).own = (nd N j).own := fun j => by
    rw [n1]; unfold upd; split
    · rename_i e; rw [e]; rfl
    · rfl
  have out1 : ∀ j, j ≠ k → nd (reckN N k) j = nd N j := fun j hj => by rw [n1, upd_ne _ _ hj]
  have hp' : Hang (nd (reckN N k)) k p := hp.congr (fun j hj => out1 j (fun e => hkp.1 (e ▸ hj)))
  have hs' : Hang (nd (reckN N k)) k s := hs.congr (fun j hj => out1 j (fun e => hkp.2.1 (e ▸ hj)))
  refine ⟨?_, ?_, out1, tk_setN _ hk, setN_len _ _ _, own1, by rw [n1, upd_at]; rfl⟩
  · cases d with
    | true => simp only [cond_true] at c1 c2; rw [c1, c2]; exact ⟨hk, po, so, bp, bs⟩
    | false => simp only [cond_false] at c1 c2; rw [c1, c2]; exact ⟨hk, so, po, bs, bp⟩
  · cases d with
    | true =>
      simp only [cond_true] at c1 c2
      refine ⟨by rw [n1, upd_at]; rfl, by rw [n1, upd_at]; exact c1, by rw [n1, upd_at]; exact c2, ?_, ?_, hp', hs'⟩
      · rw [n1, upd_at]
        show szOf N (nd N k).l + 1 + szOf N (nd N k).r = _
        rw [c1, c2, pz, sz]; simp [Tr.seq]; omega
      · rw [own_congr (g := nd N) (fun j _ => own1 j), n1, upd_at]
        show tog (tog (smOf N (nd N k).l) (nd N k).own) (smOf N (nd N k).r) = _
        rw [c1, c2, pm, sm, sumV_node]; simp [Tr.seq, own]
    | false =>
      simp only [cond_false] at c1 c2
      refine ⟨by rw [n1, upd_at]; rfl, by rw [n1, upd_at]; exact c2, by rw [n1, upd_at]; exact c1, ?_, ?_, hs', hp'⟩
      · rw [n1, upd_at]
        show szOf N (nd N k).l + 1 + szOf N (nd N k).r = _
        rw [c1, c2, pz, sz]; simp [Tr.seq]; omega
      · rw [own_congr (g := nd N) (fun j _ => own1 j), n1, upd_at]
        show tog (tog (smOf N (nd N k).l) (nd N k).own) (smOf N (nd N k).r) = _
        rw [c1, c2, pm, sm, sumV_node]; simp [Tr.seq, own]

/-- A value that is set, and sums that are reckoned anew up to the root: the way up that is left, and the tree that is done. -/
structure St (t : Tr) (N0 N : List Nt) (fs : List Fm) (p : Tr) : Prop where
  sh : plug fs p = t
  path : Path (nd N) fs p.top
  hang : Hang (nd N) (upOf fs) p
  len : N.length = N0.length
  tk : ∀ j, Go.Proofs.YtcbgeahcnjamdabGreat.tk N j = Go.Proofs.YtcbgeahcnjamdabGreat.tk N0 j
  own : ∀ j, (nd N j).own = (nd N0 j).own
  out : ∀ j, j ∉ t.seq → nd N j = nd N0 j
theorem St.step {t : Tr} {N0 N : List Nt} {f : Fm} {fs : List Fm} {p : Tr} (h : St t N0 N (f :: fs) p) (hn : t.seq.Nodup) (ha : AllTk N0 t.seq) (hN : N0.length ≤ 2147483647) :
    (Go.Proofs.YtcbgeahcnjamdabGreat.tk N f.k = true ∧ okI N (nd N f.k).l ∧ okI N (nd N f.k).r ∧ (0 ≤ szOf N (nd N f.k).l ∧ szOf N (nd N f.k).l ≤ 2147483647) ∧ (0 ≤ szOf N (nd N f.k).r ∧ szOf N (nd N f.k).r ≤ 2147483647)) ∧
      St t N0 (reckN N f.k) fs (f.join p) ∧ (nd (reckN N f.k) f.k).u = upOf fs := by
  obtain ⟨h1, h2, h3, h4, h5⟩ := h.path
  have hsh := h.sh
  rw [plug_cons] at hsh
  have hseq := plug_seq fs (f.join p)
  rw [hsh] at hseq
  have hn1 := hn
  rw [hseq] at hn1
  have hn2 := List.nodup_append.1 hn1
  have hn3 := List.nodup_append.1 hn2.1
  have hsub : ∀ j ∈ (f.join p).seq, j ∈ t.seq := fun j hj => by rw [hseq]; simp [hj]
  obtain ⟨t1, t2, t3, t4, t5, t6, t7⟩ := treeK h.hang h3 h1 h2 hn3.2.1 (fun j hj => by rw [h.tk]; exact ha j (hsub j hj)) (by rw [h.len]; exact hN)
  have hkm : f.k ∈ (f.join p).seq := by rw [join_seq]; cases f.d <;> simp
  refine ⟨t1, ⟨hsh, ?_, by rw [← h4]; exact t2, by rw [t5]; exact h.len, fun j => (t4 j).trans (h.tk j), fun j => (t6 j).trans (h.own j), fun j hj => (t3 j (fun e => hj (e ▸ hsub _ hkm))).trans (h.out j hj)⟩, by rw [t7]; exact h4⟩
  rw [join_top]
  refine h5.congr (fun j hj => t3 j (fun e => ?_))
  rcases hj with hj | hj
  · exact hn3.2.2 j hj f.k hkm e
  · exact hn2.2.2 f.k (by simp [hkm]) j hj e.symm

section
variable {w : World} {F : Nat → Prop} {B : Nat} {K : List Bool} {fr : List Int} {S : Int → List Int} {V : Int → Vl} {mx : Nat}
set_option maxHeartbeats 2000000 in
theorem tset_any (h : Tp Xh w F B K fr S V mx) (i : Int) (x : Vl) (hb : -2147483648 ≤ i ∧ i ≤ 2147483647) :
    Calls Tryz.prog 134 #[.pointer (some ⟨B, 0, none⟩), .int .i32 i, vlc x] w fun e w' => e = .returned (.bool (isK K i)) ∧ Tp Xh w' F B K fr S (if isK K i = true then updV V i x else V) mx ∧ Step F F w w' := by
  have hb1 := (Below.refl w.heap.size w).alloc (Nat.le_refl _) (.cells #[.int .i64 x.c, .int .i64 x.s, .int .i64 x.l, .int .u8 x.m] 128)
  have hT := h.below hb1
  have HS0 : Hid (Step F F w _) := Step.of_below hb1
  have hx0 := (Blk.new w 128 #[.int .i64 x.c, .int .i64 x.s, .int .i64 x.l, .int .u8 x.m]).at (j := 0) rfl
  have hx1 := (Blk.new w 128 #[.int .i64 x.c, .int .i64 x.s, .int .i64 x.l, .int .u8 x.m]).at (j := 1) rfl
  have hx2 := (Blk.new w 128 #[.int .i64 x.c, .int .i64 x.s, .int .i64 x.l, .int .u8 x.m]).at (j := 2) rfl
  have hx3 := (Blk.new w 128 #[.int .i64 x.c, .int .i64 x.s, .int .i64 x.l, .int .u8 x.m]).at (j := 3) rfl
  clear h hb1
  obtain ⟨G, N, d, Fa, h1, h2, h3, h4, h5, h6⟩ := hT.ex
  have hN : N.length ≤ 2147483647 := by have := hT.klen; rw [← h3, List.length_map] at this; exact this
  have HTp : Hid _ := hT
  have hk : isK K i = tk N i := by rw [tk_isK, h3]
  rw [hk]
  cases hi : tk N i with
  | false =>
    rw [if_neg (by simp)]
    have HA := at_un h1 hN hb hi
    clear hT h1 h2 h3 h4 h5 h6 hk hx0 hx1 hx2 hx3
    go_enter Tryz.func134, Tryz.ntmps134
    go_wp2_with fail
    refine HA.mono ?_
    rintro e w0 ⟨rfl, rfl⟩
    go_wp2
    go_ret
    exact ⟨rfl, HTp.out, HS0.out⟩
  | true =>
    rw [if_pos rfl]
    obtain ⟨t, e, g⟩ := h2.tree i hi
    have hm := h2.mem i hi
    rw [← e] at hm
    obtain ⟨fs, l, r, et⟩ := Tr.find hm
    have HA := at_tk h1 hN hi
    have c0 := h1.at hi (j := 0) rfl
    have c1 := h1.at hi (j := 1) rfl
    have c2 := h1.at hi (j := 2) rfl
    have c3 := h1.at hi (j := 3) rfl
    have f0 := h1.fz hi (loc i)
    have f1 := h1.fz hi (loc i + 1)
    have f2 := h1.fz hi (loc i + 2)
    have f3 := h1.fz hi (loc i + 3)
    rw [Nat.add_zero] at c0
    obtain ⟨a1, b1⟩ := h1.putOwn hi x
    have n0 : nd (setN N i ((nd N i).wo x)) = upd (nd N) i ((nd N i).wo x) := nd_setN _ hi
    have tk0 : ∀ j, tk (setN N i ((nd N i).wo x)) j = tk N j := tk_setN _ hi
    have hst : St t (setN N i ((nd N i).wo x)) (setN N i ((nd N i).wo x)) (⟨true, i, r⟩ :: fs) l := by
      obtain ⟨hpath, y1, y2, y3, y4, y5, y6, y7⟩ := Hang.path (et ▸ g.hang)
      have hn := g.nodup
      rw [et, plug_seq] at hn
      have hn2 := List.nodup_append.1 hn
      have hn3 := List.nodup_append.1 hn2.1
      have hn4 := List.nodup_append.1 hn3.2.1
      have hn5 := List.nodup_cons.1 hn4.2.1
      refine ⟨et.symm, ⟨?_, ?_, ?_, ?_, ?_⟩, ?_, rfl, fun _ => rfl, fun _ => rfl, fun _ _ => rfl⟩
      · simp only [cond_true]; rw [n0, upd_at]; exact y2
      · simp only [cond_true]; rw [n0, upd_at]; exact y3
      · exact y7.congr (fun j hj => by rw [n0, upd_ne]; exact fun e0 => hn5.1 (e0 ▸ hj))
      · rw [n0, upd_at]; exact y1
      · refine hpath.congr (fun j hj => by
          rw [n0, upd_ne]
          rintro rfl
          rcases hj with hj | hj
          · exact hn3.2.2 j hj j (by simp [Tr.seq]) rfl
          · exact hn2.2.2 j (by simp [Tr.seq]) j hj rfl)
      · exact y6.congr (fun j hj => by rw [n0, upd_ne]; exact fun e0 => hn4.2.2 j hj i (by simp) e0)
    have ND : Hid (t.seq.Nodup) := g.nodup
    have AL : Hid (AllTk (setN N i ((nd N i).wo x)) t.seq) := fun j hj => by rw [tk0]; exact g.all j hj
    have hN0 : (setN N i ((nd N i).wo x)).length ≤ 2147483647 := by rw [setN_len]; exact hN
    have FIN : Hid (∀ w' N', Frs Xh d w' Fa B G N' fr → Step Fa Fa (w.alloc (.cells #[.int .i64 x.c, .int .i64 x.s, .int .i64 x.l, .int .u8 x.m] 128)) w' → St t (setN N i ((nd N i).wo x)) N' [] t → Tp Xh w' F B K fr S (updV V i x) mx ∧ Step F F w w') := fun w' N' k1 k2 k3 => by
      have hkp : N'.map (·.2) = K := by
        rw [← h3]
        exact flags_of (by rw [k3.len, setN_len]) (fun j => by rw [k3.tk, tk0])
      have hw : Wd N' S := by
        refine h2.re (A := fun j => j ∈ S i) (fun j => (k3.tk j).trans (tk0 j)) (fun j hj => ?_) (fun j hj => (h2.memTk hj).1) (fun j y hj hy => by rw [h2.same i j hj] at hy; exact hy) (fun j _ => rfl) (fun j hj => ?_)
        · rw [k3.out j (by rw [e]; exact hj), n0, upd_ne]; exact fun e0 => hj (by rw [e0, ← e]; exact hm)
        · refine ⟨⟨t, by rw [e, h2.same i j hj], k3.hang, fun y hy => by rw [k3.tk]; exact AL.out y hy, g.nodup⟩, ?_, fun y hy => ?_⟩
          · rw [h2.same i j hj]; exact hj
          · rw [h2.same i j hj] at hy ⊢; exact ⟨hy, h2.same i y hy⟩
      have hv : ∀ j, (nd N' j).own = updV V i x j := fun j => by
        rw [k3.own, n0]
        unfold upd updV
        split
        · rfl
        · exact h4 j
      obtain ⟨q1, q2⟩ := hT.wrote h1 h3 h5 h6 k1 k2 hw hkp hv
      exact ⟨q1, HS0.out.trans q2⟩
    have HX : Hid _ := a1
    have HS1 : Hid _ := b1
    have HST : Hid (St t (setN N i ((nd N i).wo x)) (setN N i ((nd N i).wo x)) (⟨true, i, r⟩ :: fs) l) := hst
    clear hT h1 h2 h3 h4 h5 h6 hk e g hm et a1 b1 n0 tk0 hst
    generalize setN N i ((nd N i).wo x) = N0 at *
    go_enter Tryz.func134, Tryz.ntmps134
    go_wp2_with fail
    refine HA.mono ?_
    rintro e w0 ⟨rfl, rfl⟩
    go_wp2_with fail
    generalize hW0 : w.alloc (.cells #[.int .i64 x.c, .int .i64 x.s, .int .i64 x.l, .int .u8 x.m] 128) = w9 at *
    generalize hW1 : (((w9.setCell ⟨G, loc i, none⟩ (.int .i64 x.c)).setCell ⟨G, loc i + 1, none⟩ (.int .i64 x.s)).setCell ⟨G, loc i + 2, none⟩ (.int .i64 x.l)).setCell ⟨G, loc i + 3, none⟩ (.int .u8 x.m) = w8 at *
    clear hx0 hx1 hx2 hx3 c0 c1 c2 c3 f0 f1 f2 f3 HA hW0 hW1
    go_loopg [8] (fs.length + 1) (fun q vk wr => ∃ (gs : List Fm) (p : Tr) (N1 : List Nt), gs.length = q ∧ vk = .int .i32 (upOf gs) ∧ Hid (St t N0 N1 gs p) ∧ Hid (Frs Xh d wr Fa B G N1 fr) ∧ Hid (Step Fa Fa w9 wr))
    case atStart => exact ⟨⟨true, i, r⟩ :: fs, l, N0, rfl, rfl, HST.out, HX.out, HS1.out⟩
    case round =>
      obtain ⟨gs, p, N1, hk, rfl, HZ, HX1, HS2⟩ := hrel
      cases gs with
      | nil =>
        rw [show upOf [] = 0 from rfl]
        have hp : p = t := HZ.out.sh
        have R0 : Hid _ := FIN.out wr N1 HX1.out HS2.out (by have := HZ.out; rw [hp] at this; exact this)
        clear hp hk FIN
        go_wp2
        go_ret
        exact ⟨rfl, R0.out⟩
      | cons f gs =>
        rw [show upOf (f :: gs) = f.k from rfl]
        obtain ⟨⟨q1, q2, q3, q4, q5⟩, z2, z3⟩ := HZ.out.step ND.out AL.out hN0
        have hk0 : (f.k != 0) = true := by simpa using tk_ne q1
        have hN1 : N1.length ≤ 2147483647 := by rw [HZ.out.len]; exact hN0
        have HR := reckon_any HX1.out hN1 q1 q2 q3 q4 q5
        have hk2 : tk (reckN N1 f.k) f.k = true := by rw [show tk (reckN N1 f.k) f.k = tk N1 f.k from tk_setN _ q1 _]; exact q1
        have hl2 : (reckN N1 f.k).length ≤ 2147483647 := by unfold reckN; rw [setN_len]; exact hN1
        have HA2 : Hid (∀ w', Frs Xh d w' Fa B G (reckN N1 f.k) fr → Calls Tryz.prog 119 #[.pointer (some ⟨B, 0, none⟩), .int .i32 f.k] w' (fun e w'' => e = .returned (.pointer (some ⟨G, loc f.k, none⟩)) ∧ w'' = w') ∧ w'.cell? ⟨G, loc f.k + 12, none⟩ = some (.int .i32 (upOf gs))) :=
          fun w' h' => ⟨at_tk h' hl2 hk2, by rw [← z3]; exact h'.at hk2 (j := 12) rfl⟩
        have HZ2 : Hid _ := z2
        have A0 : Hid (gs.length + 1 = gk) := hk
        rw [show setN N1 f.k ((nd N1 f.k).ws (szOf N1 (nd N1 f.k).l + 1 + szOf N1 (nd N1 f.k).r) (tog (tog (smOf N1 (nd N1 f.k).l) (nd N1 f.k).own) (smOf N1 (nd N1 f.k).r))) = reckN N1 f.k from rfl] at HR
        clear q1 q2 q3 q4 q5 z2 z3 hk hk2 hl2 HZ
        go_wp2_with fail
        refine HR.mono ?_
        rintro e w2 ⟨rfl, a2, b2⟩
        obtain ⟨H2, u2⟩ := HA2.out w2 a2
        have HX2 : Hid _ := a2
        have HS3 : Hid (Step Fa Fa w9 w2) := HS2.out.trans b2
        clear a2 b2 HR HX1 HS2 HA2
        go_wp2_with fail
        refine H2.mono ?_
        rintro e w3 ⟨rfl, rfl⟩
        go_wp2
        go_roundg gs.length
        case measure => have := A0.out; omega
        case rel => exact ⟨gs, f.join p, reckN N1 f.k, rfl, rfl, HZ2.out, HX2.out, HS3.out⟩
end
end Go.Proofs.YtcbgeahcnjamdabGreat
