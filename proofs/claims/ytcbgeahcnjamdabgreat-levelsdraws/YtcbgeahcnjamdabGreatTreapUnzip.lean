/- Layer 6 (treap): a cut, from the item up to the root. -/
import Derived.Test.YtcbgeahcnjamdabGreatTreapRoot
namespace Go.Proofs.YtcbgeahcnjamdabGreat
open Go.RowKit
set_option linter.unusedVariables false
variable {Xh : Hx}

def dOf : List Fm → Bool
  | [] => false
  | f :: _ => f.d
section
variable {d : Option Addr} {w : World} {F : Nat → Prop} {B G : Nat} {N : List Nt} {fr : List Int}
set_option maxHeartbeats 4000000 in
theorem unzip_tk (h : Frs Xh d w F B G N fr) (hN : N.length ≤ 2147483647) {i : Int} {fs : List Fm} {l r : Tr} (ht : Good N (plug fs (.node l i r))) :
    Calls Tryz.prog 139 #[.pointer (some ⟨B, 0, none⟩), .int .i32 i] w fun e w' => e = .returned (.tuple #[]) ∧ ∃ N' a b, Frs Xh d w' F B G N' fr ∧ Step F F w w' ∧ Keeps (fun j => j ∈ (plug fs (.node l i r)).seq) N N' ∧
      Good N' a ∧ Good N' b ∧ a.seq = pre fs ++ l.seq ∧ b.seq = i :: r.seq ++ post fs := by
  obtain ⟨P, hP⟩ : ∃ P, P = pre fs ++ l.seq := ⟨_, rfl⟩
  obtain ⟨R, hR⟩ : ∃ R, R = i :: r.seq ++ post fs := ⟨_, rfl⟩
  have hseq : (plug fs (.node l i r)).seq = P ++ R := by rw [plug_seq, hP, hR]; simp [Tr.seq]
  have hnd : (P ++ R).Nodup := by rw [← hseq]; exact ht.nodup
  have hall : AllTk N (P ++ R) := by rw [← hseq]; exact ht.all
  have hi : tk N i = true := hall i (by rw [hR]; simp)
  obtain ⟨hpath, hhang⟩ := Hang.path ht.hang
  obtain ⟨h1, h2, h3, h4, h5, h6, h7⟩ := hhang
  have huz : Uz P R N N (⟨true, i, r⟩ :: fs) l .nil l.top := ⟨⟨h2, h3, h7, h1, hpath⟩, ⟨_, h6⟩, ⟨0, trivial⟩, by rw [hP]; simp [pre], by rw [hR]; simp [post, Tr.seq], Keeps.refl _ _⟩
  have HA := at_tk h hN hi
  have hc := h.at hi (j := 10) rfl
  rw [h2] at hc
  have HF : Hid (Frs Xh d w F B G N fr) := h
  have HU : Hid (Uz P R N N (⟨true, i, r⟩ :: fs) l .nil l.top) := huz
  have ND : Hid ((P ++ R).Nodup) := hnd
  have AL : Hid (AllTk N (P ++ R)) := hall
  have SQ : Hid ((plug fs (.node l i r)).seq = P ++ R ∧ P = pre fs ++ l.seq ∧ R = i :: r.seq ++ post fs) := ⟨hseq, hP, hR⟩
  clear h ht hP hR hseq hnd hall hi hpath h1 h2 h3 h4 h5 h6 h7 huz
  go_enter Tryz.func139, Tryz.ntmps139
  go_wp2_with fail
  refine HA.mono ?_
  rintro e w0 ⟨rfl, rfl⟩
  clear HA
  go_wp2
  go_loopg [4, 5, 6, 7] (fs.length + 1) (fun q va vb vd vk wr => ∃ (gs : List Fm) (a b : Tr) (c : Int) (N1 : List Nt), gs.length = q ∧ va = .int .i32 a.top ∧ vb = .int .i32 b.top ∧ vd = .bool (dOf gs) ∧ vk = .int .i32 (upOf gs) ∧
    Hid (Uz P R N N1 gs a b c) ∧ Hid (Frs Xh d wr F B G N1 fr) ∧ Hid (Step F F w0 wr))
  case atStart => exact ⟨⟨true, i, r⟩ :: fs, l, .nil, l.top, N, rfl, rfl, rfl, rfl, rfl, HU.out, HF.out, Step.refl _ _⟩
  case round =>
    obtain ⟨gs, a, b, c, N1, hk, rfl, rfl, rfl, rfl, HZ, HX, HS⟩ := hrel
    cases gs with
    | nil =>
      rw [show upOf [] = 0 from rfl, show dOf [] = false from rfl]
      have hN1 : N1.length ≤ 2147483647 := by rw [HZ.out.keeps.len]; exact hN
      have aT : AllTk N1 (P ++ R) := HZ.out.items AL.out
      have hp := HZ.out.hp
      have hr := HZ.out.hr
      simp only [pre, post, List.nil_append, List.append_nil] at hp hr
      obtain ⟨pa, ha⟩ := HZ.out.ha
      obtain ⟨pb, hb⟩ := HZ.out.hb
      have ala : AllTk N1 a.seq := fun j hj => aT j (by rw [← hp]; simp [hj])
      have alb : AllTk N1 b.seq := fun j hj => aT j (by rw [← hr]; simp [hj])
      have hnp := List.nodup_append.1 ND.out
      rw [← hp, ← hr] at hnp
      have oka := (top_ok ha ala).1
      have okb := (top_ok hb alb).1
      have H1 := hang_any HX.out hN1 (p := 0) oka
      have okb1 : okI (hangN N1 a.top 0) b.top := okb.imp id (fun h' => by rw [tk_hangN oka]; exact h')
      have H2 : Hid (∀ w1, Frs Xh d w1 F B G (hangN N1 a.top 0) fr → Calls Tryz.prog 146 #[.pointer (some ⟨B, 0, none⟩), .int .i32 b.top, .int .i32 0] w1 fun e w' => e = .returned (.tuple #[]) ∧ Frs Xh d w' F B G (hangN (hangN N1 a.top 0) b.top 0) fr ∧ Step F F w1 w') :=
        fun w1 h1 => hang_any h1 (by rw [hangN_len]; exact hN1) okb1
      have n1 : ∀ j, nd (hangN (hangN N1 a.top 0) b.top 0) j = if (j = b.top ∧ b.top ≠ 0) then (if (j = a.top ∧ a.top ≠ 0) then (nd N1 j).wu 0 else nd N1 j).wu 0 else (if (j = a.top ∧ a.top ≠ 0) then (nd N1 j).wu 0 else nd N1 j) := fun j => by rw [nd_hangN okb1, nd_hangN oka]
      have own1 : ∀ j, (nd (hangN (hangN N1 a.top 0) b.top 0) j).own = (nd N1 j).own := fun j => by rw [n1]; split <;> split <;> rfl
      have tk1 : ∀ j, tk (hangN (hangN N1 a.top 0) b.top 0) j = tk N1 j := fun j => by rw [tk_hangN okb1, tk_hangN oka]
      have na : ∀ j ∈ a.seq, nd (hangN (hangN N1 a.top 0) b.top 0) j = if j = a.top then (nd N1 j).wu 0 else nd N1 j := fun j hj => by
        have hj0 := tk_ne (ala j hj)
        have hjb : ¬ (j = b.top ∧ b.top ≠ 0) := fun ⟨e1, e2⟩ => hnp.2.2 j hj j (by rw [e1]; exact Tr.top_mem (fun e => e2 (by rw [e]; rfl))) rfl
        rw [n1, if_neg hjb]
        by_cases e : j = a.top
        · rw [if_pos e, if_pos ⟨e, e ▸ hj0⟩]
        · rw [if_neg e, if_neg (fun h' => e h'.1)]
      have nb : ∀ j ∈ b.seq, nd (hangN (hangN N1 a.top 0) b.top 0) j = if j = b.top then (nd N1 j).wu 0 else nd N1 j := fun j hj => by
        have hj0 := tk_ne (alb j hj)
        have hja : ¬ (j = a.top ∧ a.top ≠ 0) := fun ⟨e1, e2⟩ => hnp.2.2 j (by rw [e1]; exact Tr.top_mem (fun e => e2 (by rw [e]; rfl))) j hj rfl
        rw [n1, if_neg hja]
        by_cases e : j = b.top
        · rw [if_pos e, if_pos ⟨e, e ▸ hj0⟩]
        · rw [if_neg e, if_neg (fun h' => e h'.1)]
      have ga : Good (hangN (hangN N1 a.top 0) b.top 0) a := ⟨ha.rehang hnp.1 (fun j hj h0 => by rw [na j hj, if_neg h0]) (fun h0 => by rw [na _ (Tr.top_mem h0), if_pos rfl]), fun j hj => by rw [tk1]; exact ala j hj, hnp.1⟩
      have gb : Good (hangN (hangN N1 a.top 0) b.top 0) b := ⟨hb.rehang hnp.2.1 (fun j hj h0 => by rw [nb j hj, if_neg h0]) (fun h0 => by rw [nb _ (Tr.top_mem h0), if_pos rfl]), fun j hj => by rw [tk1]; exact alb j hj, hnp.2.1⟩
      have kp : Keeps (fun j => j ∈ P ∨ j ∈ R) N1 (hangN (hangN N1 a.top 0) b.top 0) := ⟨by rw [hangN_len, hangN_len], tk1, own1, fun j hj => by
        rw [n1, if_neg (fun ⟨e1, e2⟩ => hj (.inr (by rw [← hr, e1]; exact Tr.top_mem (fun e => e2 (by rw [e]; rfl))))), if_neg (fun ⟨e1, e2⟩ => hj (.inl (by rw [← hp, e1]; exact Tr.top_mem (fun e => e2 (by rw [e]; rfl)))))]⟩
      have FIN : Hid (Keeps (fun j => j ∈ (plug fs (.node l i r)).seq) N (hangN (hangN N1 a.top 0) b.top 0) ∧ Good (hangN (hangN N1 a.top 0) b.top 0) a ∧ Good (hangN (hangN N1 a.top 0) b.top 0) b ∧ a.seq = pre fs ++ l.seq ∧ b.seq = i :: r.seq ++ post fs) :=
        ⟨by rw [SQ.out.1]; exact (HZ.out.keeps.trans kp).mono (fun j hj => List.mem_append.2 hj), ga, gb, hp.trans SQ.out.2.1, hr.trans SQ.out.2.2⟩
      clear hp hr ha hb ala alb hnp oka okb okb1 n1 own1 tk1 na nb ga gb kp hk aT HZ HU HF hc
      generalize hangN (hangN N1 a.top 0) b.top 0 = N3 at *
      rw [show (if a.top = 0 then N1 else setN N1 a.top ((nd N1 a.top).wu 0)) = hangN N1 a.top 0 from rfl] at H1
      go_wp2_with fail
      refine H1.mono ?_
      rintro e w1 ⟨rfl, a1, b1⟩
      have A1 : Hid _ := a1
      have B1 : Hid (Step F F w0 w1) := HS.out.trans b1
      clear a1 b1 H1 HS HX
      go_wp2_with fail
      refine (H2.out _ A1.out).mono ?_
      rintro e w2 ⟨rfl, a2, b2⟩
      have A2 : Hid _ := a2
      have B2 : Hid (Step F F w0 w2) := B1.out.trans b2
      clear a2 b2 H2 A1 B1
      go_wp2
      go_returns
      exact ⟨rfl, N3, a, b, A2.out, B2.out, FIN.out⟩
    | cons f gs =>
      obtain ⟨fd, k, s⟩ := f
      have hN1 : N1.length ≤ 2147483647 := by rw [HZ.out.keeps.len]; exact hN
      rw [show upOf (⟨fd, k, s⟩ :: gs) = k from rfl, show dOf (⟨fd, k, s⟩ :: gs) = fd from rfl]
      cases fd with
      | true =>
        obtain ⟨⟨q1, q2, q3, q4, ⟨p5, q5⟩, q6, q7, q8, q9⟩, z2⟩ := HZ.out.left ND.out AL.out
        have hk0 : (k != 0) = true := by simpa using tk_ne q1
        have HA := at_tk HX.out hN1 q1
        have hu := HX.out.at q1 (j := 12) rfl
        rw [q7] at hu
        have aT : AllTk N1 (P ++ R) := HZ.out.items AL.out
        have hbm : ∀ j ∈ b.seq, j ∈ P ++ R := fun j hj => by rw [← HZ.out.hr]; simp [hj]
        have hsm : ∀ j ∈ s.seq, j ∈ P ++ R := fun j hj => by rw [← HZ.out.hr]; simp [post, hj]
        have HL := setLeft_any HX.out hN1 q1 q2 (by rw [q3]; exact q4) (top_bd q5 (fun j hj => aT j (hbm j hj)) q8 hN1) (by rw [q3]; exact top_bd q6 (fun j hj => aT j (hsm j hj)) q9 hN1)
        have hl2 : (stepL N1 k b.top).length = N1.length := by unfold stepL reckN; rw [setN_len, hangN_len]; unfold linkL; rw [setN_len]
        have hN2 : (stepL N1 k b.top).length ≤ 2147483647 := by rw [hl2]; exact hN1
        have HZ2 : Hid (Uz P R N (stepL N1 k b.top) gs a (.node b k s) k) := z2
        have A0 : Hid (gs.length + 1 = gk) := hk
        clear q1 q2 q3 q4 q5 q6 q7 q8 q9 z2 aT hbm hsm hk HZ HX hl2
        go_wp2_with fail
        refine HA.mono ?_
        rintro e w1 ⟨rfl, rfl⟩
        clear HA
        go_wp2_with fail
        refine HL.mono ?_
        rintro e w2 ⟨rfl, a2, b2⟩
        have HX2 : Hid (Frs Xh d w2 F B G (stepL N1 k b.top) fr) := a2
        have HS2 : Hid (Step F F w0 w2) := HS.out.trans b2
        clear a2 b2 HL HS hu
        generalize stepL N1 k b.top = N2 at *
        cases gs with
        | nil =>
          rw [show upOf [] = 0 from rfl]
          go_wp2
          go_roundg 0
          case measure => have := A0.out; simp at this; omega
          case rel => exact ⟨[], a, (.node b k s), k, N2, rfl, rfl, rfl, rfl, rfl, HZ2.out, HX2.out, HS2.out⟩
        | cons f2 gs =>
          rw [show upOf (f2 :: gs) = f2.k from rfl]
          obtain ⟨y1, y2⟩ := HZ2.out.from ND.out AL.out (by simp [Tr.seq])
          have hf0 : (f2.k != 0) = true := by simpa using tk_ne y1
          have HA2 := at_tk HX2.out hN2 y1
          have hl := HX2.out.at y1 (j := 10) rfl
          have hd : ((nd N2 f2.k).l == k) = f2.d := by rw [← y2]; exact Bool.eq_iff_iff.2 (by simp)
          clear y1 y2
          go_wp2_with fail
          refine HA2.mono ?_
          rintro e w3 ⟨rfl, rfl⟩
          clear HA2
          go_wp2
          go_roundg (gs.length + 1)
          case measure => have := A0.out; simp at this; omega
          case rel => exact ⟨f2 :: gs, a, (.node b k s), k, N2, rfl, rfl, rfl, by simp [dOf], rfl, HZ2.out, HX2.out, HS2.out⟩
      | false =>
        obtain ⟨⟨q1, q2, q3, q4, ⟨p5, q5⟩, q6, q7, q8, q9⟩, z2⟩ := HZ.out.right ND.out AL.out
        have hk0 : (k != 0) = true := by simpa using tk_ne q1
        have HA := at_tk HX.out hN1 q1
        have hu := HX.out.at q1 (j := 12) rfl
        rw [q7] at hu
        have aT : AllTk N1 (P ++ R) := HZ.out.items AL.out
        have hbm : ∀ j ∈ a.seq, j ∈ P ++ R := fun j hj => by rw [← HZ.out.hp]; simp [hj]
        have hsm : ∀ j ∈ s.seq, j ∈ P ++ R := fun j hj => by rw [← HZ.out.hp]; simp [pre, hj]
        have HL := setRight_any HX.out hN1 q1 q2 (by rw [q3]; exact q4) (by rw [q3]; exact top_bd q6 (fun j hj => aT j (hsm j hj)) q9 hN1) (top_bd q5 (fun j hj => aT j (hbm j hj)) q8 hN1)
        have hl2 : (stepR N1 k a.top).length = N1.length := by unfold stepR reckN; rw [setN_len, hangN_len]; unfold linkR; rw [setN_len]
        have hN2 : (stepR N1 k a.top).length ≤ 2147483647 := by rw [hl2]; exact hN1
        have HZ2 : Hid (Uz P R N (stepR N1 k a.top) gs (.node s k a) b k) := z2
        have A0 : Hid (gs.length + 1 = gk) := hk
        clear q1 q2 q3 q4 q5 q6 q7 q8 q9 z2 aT hbm hsm hk HZ HX hl2
        go_wp2_with fail
        refine HA.mono ?_
        rintro e w1 ⟨rfl, rfl⟩
        clear HA
        go_wp2_with fail
        refine HL.mono ?_
        rintro e w2 ⟨rfl, a2, b2⟩
        have HX2 : Hid (Frs Xh d w2 F B G (stepR N1 k a.top) fr) := a2
        have HS2 : Hid (Step F F w0 w2) := HS.out.trans b2
        clear a2 b2 HL HS hu
        generalize stepR N1 k a.top = N2 at *
        cases gs with
        | nil =>
          rw [show upOf [] = 0 from rfl]
          go_wp2
          go_roundg 0
          case measure => have := A0.out; simp at this; omega
          case rel => exact ⟨[], (.node s k a), b, k, N2, rfl, rfl, rfl, rfl, rfl, HZ2.out, HX2.out, HS2.out⟩
        | cons f2 gs =>
          rw [show upOf (f2 :: gs) = f2.k from rfl]
          obtain ⟨y1, y2⟩ := HZ2.out.from ND.out AL.out (by simp [Tr.seq])
          have hf0 : (f2.k != 0) = true := by simpa using tk_ne y1
          have HA2 := at_tk HX2.out hN2 y1
          have hl := HX2.out.at y1 (j := 10) rfl
          have hd : ((nd N2 f2.k).l == k) = f2.d := by rw [← y2]; exact Bool.eq_iff_iff.2 (by simp)
          clear y1 y2
          go_wp2_with fail
          refine HA2.mono ?_
          rintro e w3 ⟨rfl, rfl⟩
          clear HA2
          go_wp2
          go_roundg (gs.length + 1)
          case measure => have := A0.out; simp at this; omega
          case rel => exact ⟨f2 :: gs, (.node s k a), b, k, N2, rfl, rfl, rfl, by simp [dOf], rfl, HZ2.out, HX2.out, HS2.out⟩
end
end Go.Proofs.YtcbgeahcnjamdabGreat
