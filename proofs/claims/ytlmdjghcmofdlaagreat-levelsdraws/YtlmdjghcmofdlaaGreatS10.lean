/- Lemmas. -/
import Derived.Test.YtlmdjghcmofdlaaGreatS09
import Derived.Deep.LoopGhost
import Derived.Test.YtlmdjghcmofdlaaGreatS05
set_option maxRecDepth 100000
set_option maxHeartbeats 64000000
namespace Go.Proofs.YtlmdjghcmofdlaaGreat
open Go.RowKit
set_option linter.unusedVariables false
variable {Xh : Hx}
def Fm.join (f : Fm) (t : Tr) : Tr := cond f.d (.node t f.k f.s) (.node f.s f.k t)
theorem plug_cons (f : Fm) (fs : List Fm) (t : Tr) : plug (f :: fs) t = plug fs (f.join t) := by obtain ⟨d, k, s⟩ := f; cases d <;> rfl
theorem join_top (f : Fm) (t : Tr) : (f.join t).top = f.k := by obtain ⟨d, k, s⟩ := f; cases d <;> rfl
theorem join_ne (f : Fm) (t : Tr) : f.join t ≠ .nil := by obtain ⟨d, k, s⟩ := f; cases d <;> simp [Fm.join]
theorem plug_mem {fs : List Fm} {t : Tr} {j : Int} (h : j ∈ t.seq) : j ∈ (plug fs t).seq := by rw [plug_seq]; simp [h]
theorem plug_up {g : Int → Nd} {fs : List Fm} {t : Tr} (h : Hang g 0 (plug fs t)) (ht : t ≠ .nil) : (g t.top).u = upOf fs := by
  have := (Hang.path h).2
  cases t with
  | nil => exact absurd rfl ht
  | node l i r => exact this.1
structure Good (N : List Nt) (t : Tr) : Prop where
  hang : Hang (nd N) 0 t
  all : AllTk N t.seq
  nodup : t.seq.Nodup
section
variable {d : Option Addr} {w : World} {F : Nat → Prop} {B G : Nat} {N : List Nt} {fr : List Int}
theorem root_tk (h : Frs Xh d w F B G N fr) (hN : N.length ≤ 2147483647) {i : Int} {t : Tr} (ht : Good N t) (hi : i ∈ t.seq) :
    Calls Tryz.prog 116 #[.pointer (some ⟨B, 0, none⟩), .int .i32 i] w fun e w' => e = .returned (.int .i32 t.top) ∧ w' = w := by
  have HA : Hid (∀ j, tk N j = true → Calls Tryz.prog 121 #[.pointer (some ⟨B, 0, none⟩), .int .i32 j] w fun e w' => e = .returned (.pointer (some ⟨G, loc j, none⟩)) ∧ w' = w) := fun j hj => at_tk h hN hj
  have HU : Hid (∀ j, tk N j = true → w.cell? ⟨G, loc j + 12, none⟩ = some (.int .i32 (nd N j).u)) := fun j hj => h.at hj rfl
  have HT : Hid (Good N t) := ht
  have HI : Hid (tk N i = true) := ht.all i hi
  obtain ⟨fs, l, r, e⟩ := Tr.find hi
  have HE : Hid (t = plug fs (.node l i r)) := e
  clear h ht hi e
  go_enter Tryz.func116, Tryz.ntmps116
  go_wp2_with fail
  refine (HA.out i HI.out).mono ?_
  rintro e w0 ⟨rfl, rfl⟩
  go_wp2
  go_loopg [1, 5] fs.length (fun k vi vn wr => ∃ (gs : List Fm) (p : Tr), gs.length = k ∧ vi = .int .i32 p.top ∧ vn = .pointer (some ⟨G, loc p.top, none⟩) ∧ Hid (t = plug gs p ∧ p ≠ .nil) ∧ wr = w0)
  case atStart => exact ⟨fs, .node l i r, rfl, rfl, rfl, ⟨HE.out, by simp⟩, rfl⟩
  case round =>
    obtain ⟨gs, p, hk, rfl, rfl, HP, rfl⟩ := hrel
    obtain ⟨e1, e2⟩ := HP.out
    have hm : tk N p.top = true := HT.out.all _ (by rw [e1]; exact plug_mem (Tr.top_mem e2))
    have hu := HU.out _ hm
    have hup : (nd N p.top).u = upOf gs := plug_up (by rw [← e1]; exact HT.out.hang) e2
    rw [hup] at hu
    cases gs with
    | nil =>
      rw [show upOf [] = 0 from rfl] at hu
      have A : Aside (t = p) := e1
      clear e1 hup hk hm
      go_wp2
      rw [A.out]
      go_ret
      exact ⟨rfl, rfl⟩
    | cons f gs =>
      rw [show upOf (f :: gs) = f.k from rfl] at hu
      rw [plug_cons] at e1
      have hf : tk N f.k = true := by
        have := HT.out.all (f.join p).top (by rw [e1]; exact plug_mem (Tr.top_mem (join_ne f p)))
        rwa [join_top] at this
      have hf0 : (f.k != 0) = true := by simpa using tk_ne hf
      have A : Aside (t = plug gs (f.join p) ∧ (f :: gs).length = gk) := ⟨e1, hk⟩
      have HF : Hid (tk N f.k = true) := hf
      clear e1 hup hk hm hf e2 HP
      go_wp2_with fail
      refine (HA.out f.k HF.out).mono ?_
      rintro e w1 ⟨rfl, rfl⟩
      go_wp2
      obtain ⟨a1, a2⟩ := A.out
      go_roundg gs.length
      case measure => simp at a2; omega
      case rel => exact ⟨gs, f.join p, rfl, by rw [join_top], by rw [join_top], ⟨a1, join_ne f p⟩, rfl⟩
end
end Go.Proofs.YtlmdjghcmofdlaaGreat
namespace Go.Proofs.YtlmdjghcmofdlaaGreat
open Go.RowKit
set_option linter.unusedVariables false
variable {Xh : Hx}
def dOf : List Fm → Bool
  | [] => false
  | f :: _ => f.d
section
variable {d : Option Addr} {w : World} {F : Nat → Prop} {B G : Nat} {N : List Nt} {fr : List Int}
theorem unzip_tk (h : Frs Xh d w F B G N fr) (hN : N.length ≤ 2147483647) {i : Int} {fs : List Fm} {l r : Tr} (ht : Good N (plug fs (.node l i r))) :
    Calls Tryz.prog 141 #[.pointer (some ⟨B, 0, none⟩), .int .i32 i] w fun e w' => e = .returned (.tuple #[]) ∧ ∃ N' a b, Frs Xh d w' F B G N' fr ∧ Step F F w w' ∧ Keeps (fun j => j ∈ (plug fs (.node l i r)).seq) N N' ∧
      Good N' a ∧ Good N' b ∧ a.seq = pre fs ++ l.seq ∧ b.seq = i :: r.seq ++ post fs := by
  obtain ⟨P, hP⟩ : ∃ P, P = pre fs ++ l.seq := ⟨_, rfl⟩
  obtain ⟨R, hR⟩ : ∃ R, R = i :: r.seq ++ post fs := ⟨_, rfl⟩
  have hseq : (plug fs (.node l i r)).seq = P ++ R := by rw [plug_seq, hP, hR]; simp [Tr.seq]
  have hnd : (P ++ R).Nodup := by rw [← hseq]; exact ht.nodup
  have hall : AllTk N (P ++ R) := by rw [← hseq]; exact ht.all
  have hi : tk N i = true := hall i (by rw [hR]; simp)
  obtain ⟨hpath, hhang⟩ := Hang.path ht.hang
  obtain ⟨h1, h2, h3, h4, h5, h6, h7⟩ := hhang
  have huz : Uz P R N N (⟨true, i, r⟩ :: fs) l .nil l.top := ⟨⟨h2, h3, h7, h1, hpath⟩, ⟨_, h6⟩, ⟨0, trivial⟩, by rw [hP]; simp [pre], by rw [hR]; simp [post, Tr.seq], Keeps.refl _ _⟩
  have HA := at_tk h hN hi
  have hc := h.at hi (j := 10) rfl
  rw [h2] at hc
  have HF : Hid (Frs Xh d w F B G N fr) := h
  have HU : Hid (Uz P R N N (⟨true, i, r⟩ :: fs) l .nil l.top) := huz
  have ND : Hid ((P ++ R).Nodup) := hnd
  have AL : Hid (AllTk N (P ++ R)) := hall
  have SQ : Hid ((plug fs (.node l i r)).seq = P ++ R ∧ P = pre fs ++ l.seq ∧ R = i :: r.seq ++ post fs) := ⟨hseq, hP, hR⟩
  clear h ht hP hR hseq hnd hall hi hpath h1 h2 h3 h4 h5 h6 h7 huz
  go_enter Tryz.func141, Tryz.ntmps141
  go_wp2_with fail
  refine HA.mono ?_
  rintro e w0 ⟨rfl, rfl⟩
  clear HA
  go_wp2
  go_loopg [4, 5, 6, 7] (fs.length + 1) (fun q va vb vd vk wr => ∃ (gs : List Fm) (a b : Tr) (c : Int) (N1 : List Nt), gs.length = q ∧ va = .int .i32 a.top ∧ vb = .int .i32 b.top ∧ vd = .bool (dOf gs) ∧ vk = .int .i32 (upOf gs) ∧
    Hid (Uz P R N N1 gs a b c) ∧ Hid (Frs Xh d wr F B G N1 fr) ∧ Hid (Step F F w0 wr))
  case atStart => exact ⟨⟨true, i, r⟩ :: fs, l, .nil, l.top, N, rfl, rfl, rfl, rfl, rfl, HU.out, HF.out, Step.refl _ _⟩
  case round =>
    obtain ⟨gs, a, b, c, N1, hk, rfl, rfl, rfl, rfl, HZ, HX, HS⟩ := hrel
    cases gs with
    | nil =>
      rw [show upOf [] = 0 from rfl, show dOf [] = false from rfl]
      have hN1 : N1.length ≤ 2147483647 := by rw [HZ.out.keeps.len]; exact hN
      have aT : AllTk N1 (P ++ R) := HZ.out.items AL.out
      have hp := HZ.out.hp
      have hr := HZ.out.hr
      simp only [pre, post, List.nil_append, List.append_nil] at hp hr
      obtain ⟨pa, ha⟩ := HZ.out.ha
      obtain ⟨pb, hb⟩ := HZ.out.hb
      have ala : AllTk N1 a.seq := fun j hj => aT j (by rw [← hp]; simp [hj])
      have alb : AllTk N1 b.seq := fun j hj => aT j (by rw [← hr]; simp [hj])
      have hnp := List.nodup_append.1 ND.out
      rw [← hp, ← hr] at hnp
      have oka := (top_ok ha ala).1
      have okb := (top_ok hb alb).1
      have H1 := hang_any HX.out hN1 (p := 0) oka
      have okb1 : okI (hangN N1 a.top 0) b.top := okb.imp id (fun h' => by rw [tk_hangN oka]; exact h')
      have H2 : Hid (∀ w1, Frs Xh d w1 F B G (hangN N1 a.top 0) fr → Calls Tryz.prog 148 #[.pointer (some ⟨B, 0, none⟩), .int .i32 b.top, .int .i32 0] w1 fun e w' => e = .returned (.tuple #[]) ∧ Frs Xh d w' F B G (hangN (hangN N1 a.top 0) b.top 0) fr ∧ Step F F w1 w') :=
        fun w1 h1 => hang_any h1 (by rw [hangN_len]; exact hN1) okb1
      have n1 : ∀ j, nd (hangN (hangN N1 a.top 0) b.top 0) j = if (j = b.top ∧ b.top ≠ 0) then (if (j = a.top ∧ a.top ≠ 0) then (nd N1 j).wu 0 else nd N1 j).wu 0 else (if (j = a.top ∧ a.top ≠ 0) then (nd N1 j).wu 0 else nd N1 j) := fun j => by rw [nd_hangN okb1, nd_hangN oka]
      have own1 : ∀ j, (nd (hangN (hangN N1 a.top 0) b.top 0) j).own = (nd N1 j).own := fun j => by rw [n1]; split <;> split <;> rfl
      have tk1 : ∀ j, tk (hangN (hangN N1 a.top 0) b.top 0) j = tk N1 j := fun j => by rw [tk_hangN okb1, tk_hangN oka]
      have na : ∀ j ∈ a.seq, nd (hangN (hangN N1 a.top 0) b.top 0) j = if j = a.top then (nd N1 j).wu 0 else nd N1 j := fun j hj => by
        have hj0 := tk_ne (ala j hj)
        have hjb : ¬ (j = b.top ∧ b.top ≠ 0) := fun ⟨e1, e2⟩ => hnp.2.2 j hj j (by rw [e1]; exact Tr.top_mem (fun e => e2 (by rw [e]; rfl))) rfl
        rw [n1, if_neg hjb]
        by_cases e : j = a.top
        · rw [if_pos e, if_pos ⟨e, e ▸ hj0⟩]
        · rw [if_neg e, if_neg (fun h' => e h'.1)]
      have nb : ∀ j ∈ b.seq, nd (hangN (hangN N1 a.top 0) b.top 0) j = if j = b.top then (nd N1 j).wu 0 else nd N1 j := fun j hj => by
        have hj0 := tk_ne (alb j hj)
        have hja : ¬ (j = a.top ∧ a.top ≠ 0) := fun ⟨e1, e2⟩ => hnp.2.2 j (by rw [e1]; exact Tr.top_mem (fun e => e2 (by rw [e]; rfl))) j hj rfl
        rw [n1, if_neg hja]
        by_cases e : j = b.top
        · rw [if_pos e, if_pos ⟨e, e ▸ hj0⟩]
        · rw [if_neg e, if_neg (fun h' => e h'.1)]
      have ga : Good (hangN (hangN N1 a.top 0) b.top 0) a := ⟨ha.rehang hnp.1 (fun j hj h0 => by rw [na j hj, if_neg h0]) (fun h0 => by rw [na _ (Tr.top_mem h0), if_pos rfl]), fun j hj => by rw [tk1]; exact ala j hj, hnp.1⟩
      have gb : Good (hangN (hangN N1 a.top 0) b.top 0) b := ⟨hb.rehang hnp.2.1 (fun j hj h0 => by rw [nb j hj, if_neg h0]) (fun h0 => by rw [nb _ (Tr.top_mem h0), if_pos rfl]), fun j hj => by rw [tk1]; exact alb j hj, hnp.2.1⟩
      have kp : Keeps (fun j => j ∈ P ∨ j ∈ R) N1 (hangN (hangN N1 a.top 0) b.top 0) := ⟨by rw [hangN_len, hangN_len], tk1, own1, fun j hj => by
        rw [n1, if_neg (fun ⟨e1, e2⟩ => hj (.inr (by rw [← hr, e1]; exact Tr.top_mem (fun e => e2 (by rw [e]; rfl))))), if_neg (fun ⟨e1, e2⟩ => hj (.inl (by rw [← hp, e1]; exact Tr.top_mem (fun e => e2 (by rw [e]; rfl)))))]⟩
      have FIN : Hid (Keeps (fun j => j ∈ (plug fs (.node l i r)).seq) N (hangN (hangN N1 a.top 0) b.top 0) ∧ Good (hangN (hangN N1 a.top 0) b.top 0) a ∧ Good (hangN (hangN N1 a.top 0) b.top 0) b ∧ a.seq = pre fs ++ l.seq ∧ b.seq = i :: r.seq ++ post fs) :=
        ⟨by rw [SQ.out.1]; exact (HZ.out.keeps.trans kp).mono (fun j hj => List.mem_append.2 hj), ga, gb, hp.trans SQ.out.2.1, hr.trans SQ.out.2.2⟩
      clear hp hr ha hb ala alb hnp oka okb okb1 n1 own1 tk1 na nb ga gb kp hk aT HZ HU HF hc
      generalize hangN (hangN N1 a.top 0) b.top 0 = N3 at *
      rw [show (if a.top = 0 then N1 else setN N1 a.top ((nd N1 a.top).wu 0)) = hangN N1 a.top 0 from rfl] at H1
      go_wp2_with fail
      refine H1.mono ?_
      rintro e w1 ⟨rfl, a1, b1⟩
      have A1 : Hid _ := a1
      have B1 : Hid (Step F F w0 w1) := HS.out.trans b1
      clear a1 b1 H1 HS HX
      go_wp2_with fail
      refine (H2.out _ A1.out).mono ?_
      rintro e w2 ⟨rfl, a2, b2⟩
      have A2 : Hid _ := a2
      have B2 : Hid (Step F F w0 w2) := B1.out.trans b2
      clear a2 b2 H2 A1 B1
      go_wp2
      go_returns
      exact ⟨rfl, N3, a, b, A2.out, B2.out, FIN.out⟩
    | cons f gs =>
      obtain ⟨fd, k, s⟩ := f
      have hN1 : N1.length ≤ 2147483647 := by rw [HZ.out.keeps.len]; exact hN
      rw [show upOf (⟨fd, k, s⟩ :: gs) = k from rfl, show dOf (⟨fd, k, s⟩ :: gs) = fd from rfl]
      cases fd with
      | true =>
        obtain ⟨⟨q1, q2, q3, q4, ⟨p5, q5⟩, q6, q7, q8, q9⟩, z2⟩ := HZ.out.left ND.out AL.out
        have hk0 : (k != 0) = true := by simpa using tk_ne q1
        have HA := at_tk HX.out hN1 q1
        have hu := HX.out.at q1 (j := 12) rfl
        rw [q7] at hu
        have aT : AllTk N1 (P ++ R) := HZ.out.items AL.out
        have hbm : ∀ j ∈ b.seq, j ∈ P ++ R := fun j hj => by rw [← HZ.out.hr]; simp [hj]
        have hsm : ∀ j ∈ s.seq, j ∈ P ++ R := fun j hj => by rw [← HZ.out.hr]; simp [post, hj]
        have HL := setLeft_any HX.out hN1 q1 q2 (by rw [q3]; exact q4) (top_bd q5 (fun j hj => aT j (hbm j hj)) q8 hN1) (by rw [q3]; exact top_bd q6 (fun j hj => aT j (hsm j hj)) q9 hN1)
        have hl2 : (stepL N1 k b.top).length = N1.length := by unfold stepL reckN; rw [setN_len, hangN_len]; unfold linkL; rw [setN_len]
        have hN2 : (stepL N1 k b.top).length ≤ 2147483647 := by rw [hl2]; exact hN1
        have HZ2 : Hid (Uz P R N (stepL N1 k b.top) gs a (.node b k s) k) := z2
        have A0 : Hid (gs.length + 1 = gk) := hk
        clear q1 q2 q3 q4 q5 q6 q7 q8 q9 z2 aT hbm hsm hk HZ HX hl2
        go_wp2_with fail
        refine HA.mono ?_
        rintro e w1 ⟨rfl, rfl⟩
        clear HA
        go_wp2_with fail
        refine HL.mono ?_
        rintro e w2 ⟨rfl, a2, b2⟩
        have HX2 : Hid (Frs Xh d w2 F B G (stepL N1 k b.top) fr) := a2
        have HS2 : Hid (Step F F w0 w2) := HS.out.trans b2
        clear a2 b2 HL HS hu
        generalize stepL N1 k b.top = N2 at *
        cases gs with
        | nil =>
          rw [show upOf [] = 0 from rfl]
          go_wp2
          go_roundg 0
          case measure => have := A0.out; simp at this; omega
          case rel => exact ⟨[], a, (.node b k s), k, N2, rfl, rfl, rfl, rfl, rfl, HZ2.out, HX2.out, HS2.out⟩
        | cons f2 gs =>
          rw [show upOf (f2 :: gs) = f2.k from rfl]
          obtain ⟨y1, y2⟩ := HZ2.out.from ND.out AL.out (by simp [Tr.seq])
          have hf0 : (f2.k != 0) = true := by simpa using tk_ne y1
          have HA2 := at_tk HX2.out hN2 y1
          have hl := HX2.out.at y1 (j := 10) rfl
          have hd : ((nd N2 f2.k).l == k) = f2.d := by rw [← y2]; exact Bool.eq_iff_iff.2 (by simp)
          clear y1 y2
          go_wp2_with fail
          refine HA2.mono ?_
          rintro e w3 ⟨rfl, rfl⟩
          clear HA2
          go_wp2
          go_roundg (gs.length + 1)
          case measure => have := A0.out; simp at this; omega
          case rel => exact ⟨f2 :: gs, a, (.node b k s), k, N2, rfl, rfl, rfl, by simp [dOf], rfl, HZ2.out, HX2.out, HS2.out⟩
      | false =>
        obtain ⟨⟨q1, q2, q3, q4, ⟨p5, q5⟩, q6, q7, q8, q9⟩, z2⟩ := HZ.out.right ND.out AL.out
        have hk0 : (k != 0) = true := by simpa using tk_ne q1
        have HA := at_tk HX.out hN1 q1
        have hu := HX.out.at q1 (j := 12) rfl
        rw [q7] at hu
        have aT : AllTk N1 (P ++ R) := HZ.out.items AL.out
        have hbm : ∀ j ∈ a.seq, j ∈ P ++ R := fun j hj => by rw [← HZ.out.hp]; simp [hj]
        have hsm : ∀ j ∈ s.seq, j ∈ P ++ R := fun j hj => by rw [← HZ.out.hp]; simp [pre, hj]
        have HL := setRight_any HX.out hN1 q1 q2 (by rw [q3]; exact q4) (by rw [q3]; exact top_bd q6 (fun j hj => aT j (hsm j hj)) q9 hN1) (top_bd q5 (fun j hj => aT j (hbm j hj)) q8 hN1)
        have hl2 : (stepR N1 k a.top).length = N1.length := by unfold stepR reckN; rw [setN_len, hangN_len]; unfold linkR; rw [setN_len]
        have hN2 : (stepR N1 k a.top).length ≤ 2147483647 := by rw [hl2]; exact hN1
        have HZ2 : Hid (Uz P R N (stepR N1 k a.top) gs (.node s k a) b k) := z2
        have A0 : Hid (gs.length + 1 = gk) := hk
        clear q1 q2 q3 q4 q5 q6 q7 q8 q9 z2 aT hbm hsm hk HZ HX hl2
        go_wp2_with fail
        refine HA.mono ?_
        rintro e w1 ⟨rfl, rfl⟩
        clear HA
        go_wp2_with fail
        refine HL.mono ?_
        rintro e w2 ⟨rfl, a2, b2⟩
        have HX2 : Hid (Frs Xh d w2 F B G (stepR N1 k a.top) fr) := a2
        have HS2 : Hid (Step F F w0 w2) := HS.out.trans b2
        clear a2 b2 HL HS hu
        generalize stepR N1 k a.top = N2 at *
        cases gs with
        | nil =>
          rw [show upOf [] = 0 from rfl]
          go_wp2
          go_roundg 0
          case measure => have := A0.out; simp at this; omega
          case rel => exact ⟨[], (.node s k a), b, k, N2, rfl, rfl, rfl, rfl, rfl, HZ2.out, HX2.out, HS2.out⟩
        | cons f2 gs =>
          rw [show upOf (f2 :: gs) = f2.k from rfl]
          obtain ⟨y1, y2⟩ := HZ2.out.from ND.out AL.out (by simp [Tr.seq])
          have hf0 : (f2.k != 0) = true := by simpa using tk_ne y1
          have HA2 := at_tk HX2.out hN2 y1
          have hl := HX2.out.at y1 (j := 10) rfl
          have hd : ((nd N2 f2.k).l == k) = f2.d := by rw [← y2]; exact Bool.eq_iff_iff.2 (by simp)
          clear y1 y2
          go_wp2_with fail
          refine HA2.mono ?_
          rintro e w3 ⟨rfl, rfl⟩
          clear HA2
          go_wp2
          go_roundg (gs.length + 1)
          case measure => have := A0.out; simp at this; omega
          case rel => exact ⟨f2 :: gs, (.node s k a), b, k, N2, rfl, rfl, rfl, by simp [dOf], rfl, HZ2.out, HX2.out, HS2.out⟩
end
end Go.Proofs.YtlmdjghcmofdlaaGreat
namespace Go.Proofs.YtlmdjghcmofdlaaGreat
open Go.RowKit
set_option linter.unusedVariables false
variable {Xh : Hx}
theorem head_app {xs ys : List Int} (h : xs ≠ []) : (xs ++ ys).headD 0 = xs.headD 0 := by cases xs with | nil => exact absurd rfl h | cons x xs => rfl
theorem last_app {xs ys : List Int} {y : Int} (h : ys ≠ []) : (xs ++ y :: ys).getLastD 0 = ys.getLastD 0 := by
  rcases List.eq_nil_or_concat ys with rfl | ⟨zs, z, rfl⟩
  · exact absurd rfl h
  · rw [List.concat_eq_append, ← List.cons_append, ← List.append_assoc, List.getLastD_concat, List.getLastD_concat]
section
variable {d : Option Addr} {w : World} {F : Nat → Prop} {B G : Nat} {N : List Nt} {fr : List Int}
theorem leftmost_tk (h : Frs Xh d w F B G N fr) (hN : N.length ≤ 2147483647) {t : Tr} {q : Int} (ht : Hang (nd N) q t) (ha : AllTk N t.seq) (h0 : t ≠ .nil) :
    Calls Tryz.prog 142 #[.pointer (some ⟨B, 0, none⟩), .int .i32 t.top] w fun e w' => e = .returned (.int .i32 (t.seq.headD 0)) ∧ w' = w := by
  have HA : Hid (∀ j, tk N j = true → Calls Tryz.prog 121 #[.pointer (some ⟨B, 0, none⟩), .int .i32 j] w fun e w' => e = .returned (.pointer (some ⟨G, loc j, none⟩)) ∧ w' = w) := fun j hj => at_tk h hN hj
  have HU : Hid (∀ j, tk N j = true → w.cell? ⟨G, loc j + 10, none⟩ = some (.int .i32 (nd N j).l)) := fun j hj => h.at hj rfl
  have HI : Hid (tk N t.top = true) := ha _ (Tr.top_mem h0)
  have hi0 := tk_ne HI.out
  have HT : Hid (Hang (nd N) q t ∧ AllTk N t.seq ∧ t ≠ .nil) := ⟨ht, ha, h0⟩
  clear h ht ha h0
  go_enter Tryz.func142, Tryz.ntmps142
  go_wp2_with fail
  refine (HA.out _ HI.out).mono ?_
  rintro e w0 ⟨rfl, rfl⟩
  go_wp2
  go_loopg [1, 5] t.seq.length (fun k vi vn wr => ∃ (p : Tr) (q' : Int), p.seq.length = k ∧ vi = .int .i32 p.top ∧ vn = .pointer (some ⟨G, loc p.top, none⟩) ∧ Hid (Hang (nd N) q' p ∧ AllTk N p.seq ∧ p ≠ .nil) ∧ Hid (p.seq.headD 0 = t.seq.headD 0) ∧ wr = w0)
  case atStart => exact ⟨t, q, rfl, rfl, rfl, HT.out, rfl, rfl⟩
  case round =>
    obtain ⟨p, q', hk, rfl, rfl, HP, HG, rfl⟩ := hrel
    obtain ⟨e1, e2, e3⟩ := HP.out
    cases p with
    | nil => exact absurd rfl e3
    | node l i r =>
      have hm : tk N i = true := e2 i (by simp [Tr.seq])
      obtain ⟨x1, x2, x3, x4, x5, x6, x7⟩ := e1
      have hu := HU.out _ hm
      rw [x2] at hu
      rw [show (Tr.node l i r).top = i from rfl]
      cases l with
      | nil =>
        rw [show Tr.top .nil = 0 from rfl] at hu
        have A0 : Hid (t.seq.headD 0 = i) := by show _ = _; rw [← HG.out]; rfl
        clear x1 x2 x3 x4 x5 x6 x7 e2 e3 hk hm HG HP
        go_wp2
        rw [A0.out]
        go_ret
        exact ⟨rfl, rfl⟩
      | node ll k lr =>
        rw [show (Tr.node ll k lr).top = k from rfl] at hu
        have hf : tk N k = true := e2 k (by simp [Tr.seq])
        have hf0 : (k != 0) = true := by simpa using tk_ne hf
        have HF : Hid (tk N k = true) := hf
        have A0 : Hid ((Tr.node ll k lr).seq.length < gk ∧ Hang (nd N) i (Tr.node ll k lr) ∧ AllTk N (Tr.node ll k lr).seq ∧ (Tr.node ll k lr).seq.headD 0 = t.seq.headD 0) :=
          ⟨by rw [← hk]; simp [Tr.seq]; try omega, x6, fun j hj => e2 j (by rw [Tr.seq]; simp [hj]), by rw [← HG.out]; exact (head_app (by simp [Tr.seq])).symm⟩
        clear x1 x2 x3 x4 x5 x6 x7 e2 e3 hk hm hf HG HP
        go_wp2_with fail
        refine (HA.out k HF.out).mono ?_
        rintro e w1 ⟨rfl, rfl⟩
        go_wp2
        obtain ⟨a1, a2, a3, a4⟩ := A0.out
        go_roundg (Tr.node ll k lr).seq.length
        case measure => exact a1
        case rel => exact ⟨.node ll k lr, i, rfl, rfl, rfl, ⟨a2, a3, by simp⟩, a4, rfl⟩
theorem rightmost_tk (h : Frs Xh d w F B G N fr) (hN : N.length ≤ 2147483647) {t : Tr} {q : Int} (ht : Hang (nd N) q t) (ha : AllTk N t.seq) (h0 : t ≠ .nil) :
    Calls Tryz.prog 145 #[.pointer (some ⟨B, 0, none⟩), .int .i32 t.top] w fun e w' => e = .returned (.int .i32 (t.seq.getLastD 0)) ∧ w' = w := by
  have HA : Hid (∀ j, tk N j = true → Calls Tryz.prog 121 #[.pointer (some ⟨B, 0, none⟩), .int .i32 j] w fun e w' => e = .returned (.pointer (some ⟨G, loc j, none⟩)) ∧ w' = w) := fun j hj => at_tk h hN hj
  have HU : Hid (∀ j, tk N j = true → w.cell? ⟨G, loc j + 11, none⟩ = some (.int .i32 (nd N j).r)) := fun j hj => h.at hj rfl
  have HI : Hid (tk N t.top = true) := ha _ (Tr.top_mem h0)
  have hi0 := tk_ne HI.out
  have HT : Hid (Hang (nd N) q t ∧ AllTk N t.seq ∧ t ≠ .nil) := ⟨ht, ha, h0⟩
  clear h ht ha h0
  go_enter Tryz.func145, Tryz.ntmps145
  go_wp2_with fail
  refine (HA.out _ HI.out).mono ?_
  rintro e w0 ⟨rfl, rfl⟩
  go_wp2
  go_loopg [1, 5] t.seq.length (fun k vi vn wr => ∃ (p : Tr) (q' : Int), p.seq.length = k ∧ vi = .int .i32 p.top ∧ vn = .pointer (some ⟨G, loc p.top, none⟩) ∧ Hid (Hang (nd N) q' p ∧ AllTk N p.seq ∧ p ≠ .nil) ∧ Hid (p.seq.getLastD 0 = t.seq.getLastD 0) ∧ wr = w0)
  case atStart => exact ⟨t, q, rfl, rfl, rfl, HT.out, rfl, rfl⟩
  case round =>
    obtain ⟨p, q', hk, rfl, rfl, HP, HG, rfl⟩ := hrel
    obtain ⟨e1, e2, e3⟩ := HP.out
    cases p with
    | nil => exact absurd rfl e3
    | node l i r =>
      have hm : tk N i = true := e2 i (by simp [Tr.seq])
      obtain ⟨x1, x2, x3, x4, x5, x6, x7⟩ := e1
      have hu := HU.out _ hm
      rw [x3] at hu
      rw [show (Tr.node l i r).top = i from rfl]
      cases r with
      | nil =>
        rw [show Tr.top .nil = 0 from rfl] at hu
        have A0 : Hid (t.seq.getLastD 0 = i) := by show _ = _; rw [← HG.out]; exact List.getLastD_concat
        clear x1 x2 x3 x4 x5 x6 x7 e2 e3 hk hm HG HP
        go_wp2
        rw [A0.out]
        go_ret
        exact ⟨rfl, rfl⟩
      | node rl k rr =>
        rw [show (Tr.node rl k rr).top = k from rfl] at hu
        have hf : tk N k = true := e2 k (by simp [Tr.seq])
        have hf0 : (k != 0) = true := by simpa using tk_ne hf
        have HF : Hid (tk N k = true) := hf
        have A0 : Hid ((Tr.node rl k rr).seq.length < gk ∧ Hang (nd N) i (Tr.node rl k rr) ∧ AllTk N (Tr.node rl k rr).seq ∧ (Tr.node rl k rr).seq.getLastD 0 = t.seq.getLastD 0) :=
          ⟨by rw [← hk]; simp [Tr.seq]; try omega, x7, fun j hj => e2 j (by rw [Tr.seq]; simp [hj]), by rw [← HG.out]; exact (last_app (by simp [Tr.seq])).symm⟩
        clear x1 x2 x3 x4 x5 x6 x7 e2 e3 hk hm hf HG HP
        go_wp2_with fail
        refine (HA.out k HF.out).mono ?_
        rintro e w1 ⟨rfl, rfl⟩
        go_wp2
        obtain ⟨a1, a2, a3, a4⟩ := A0.out
        go_roundg (Tr.node rl k rr).seq.length
        case measure => exact a1
        case rel => exact ⟨.node rl k rr, i, rfl, rfl, rfl, ⟨a2, a3, by simp⟩, a4, rfl⟩
theorem leftmost_nil (w : World) (p : Value) : Calls Tryz.prog 142 #[p, .int .i32 0] w fun e w' => e = .returned (.int .i32 0) ∧ w' = w := by
  go_enter Tryz.func142, Tryz.ntmps142
  go_wp2
  go_ret
  exact ⟨rfl, rfl⟩
theorem okUp {Q : List Int} {N0 N1 : List Nt} {ls rs : List Fm} {t : Tr} (h : Zp Q N0 N1 ls rs t) (ha : AllTk N0 Q) : okI N1 (upOf ls) ∧ okI N1 (upOf rs) := by
  have hall := h.items ha
  have hq := h.hq
  constructor
  · cases ls with
    | nil => exact .inl rfl
    | cons f ls =>
      obtain ⟨d, k, s⟩ := f
      obtain rfl : d = false := h.ld ⟨d, k, s⟩ List.mem_cons_self
      exact .inr (hall k (by rw [← hq]; simp [pre]))
  · cases rs with
    | nil => exact .inl rfl
    | cons f rs =>
      obtain ⟨d, k, s⟩ := f
      obtain rfl : d = true := h.rd ⟨d, k, s⟩ List.mem_cons_self
      exact .inr (hall k (by rw [← hq]; simp [post]))
theorem zip_tk (h : Frs Xh d w F B G N fr) (hN : N.length ≤ 2147483647) {ls rs : List Fm} {Q : List Int} (hz : Zp Q N N ls rs .nil) (hl0 : ls ≠ []) (hnd : Q.Nodup) (hall : AllTk N Q) :
    Calls Tryz.prog 144 #[.pointer (some ⟨B, 0, none⟩), .int .i32 (upOf ls), .int .i32 (upOf rs)] w fun e w' => e = .returned (.tuple #[]) ∧ ∃ N' t, Frs Xh d w' F B G N' fr ∧ Step F F w w' ∧ Keeps (fun j => j ∈ Q) N N' ∧ Good N' t ∧ t.seq = Q := by
  have HF : Hid (Frs Xh d w F B G N fr) := h
  have HZ0 : Hid (Zp Q N N ls rs .nil) := hz
  have ND : Hid (Q.Nodup) := hnd
  have AL : Hid (AllTk N Q) := hall
  have L0 : Hid (ls ≠ []) := hl0
  clear h hz hnd hall hl0
  go_enter Tryz.func144, Tryz.ntmps144
  go_wp2
  go_loopg [1, 2, 6] (ls.length + rs.length) (fun q va vb vt wr => ∃ (l : List Fm) (r : List Fm) (t : Tr) (N1 : List Nt), l.length + r.length = q ∧ va = .int .i32 (upOf l) ∧ vb = .int .i32 (upOf r) ∧ vt = .int .i32 t.top ∧
    Hid (Zp Q N N1 l r t) ∧ Hid (Frs Xh d wr F B G N1 fr) ∧ Hid (Step F F w wr))
  case atStart => exact ⟨ls, rs, .nil, N, rfl, rfl, rfl, rfl, HZ0.out, HF.out, Step.refl _ _⟩
  case round =>
    obtain ⟨l, r, t, N1, hk, rfl, rfl, rfl, HZ, HX, HS⟩ := hrel
    have hN1 : N1.length ≤ 2147483647 := by rw [HZ.out.keeps.len]; exact hN
    have HLo : Hid (∀ {w : World}, Frs Xh d w F B G N1 fr → Calls Tryz.prog 149 #[.pointer (some ⟨B, 0, none⟩), .int .i32 (upOf l), .int .i32 (upOf r)] w fun e w' => e = .returned (.bool (lowB N1 (upOf l) (upOf r))) ∧ Below w.heap.size w w') :=
      fun h => lower_any h hN1 (okUp HZ.out AL.out).1 (okUp HZ.out AL.out).2
    have HL := HLo.out HX.out
    clear HLo
    cases l with
    | nil =>
      cases r with
      | nil =>
        rw [show upOf [] = 0 from rfl]
        obtain ⟨p, h1, h2⟩ := HZ.out.ht
        obtain rfl := h2 rfl rfl
        have hq := HZ.out.hq
        simp only [pre, post, List.nil_append, List.append_nil] at hq
        have FIN : Hid (Keeps (fun j => j ∈ Q) N N1 ∧ Good N1 t ∧ t.seq = Q) := ⟨HZ.out.keeps, ⟨h1, by rw [hq]; exact HZ.out.items AL.out, by rw [hq]; exact ND.out⟩, hq⟩
        clear h1 h2 hq hk HL HZ
        go_wp2
        go_returns
        exact ⟨rfl, N1, t, HX.out, HS.out, FIN.out⟩
      | cons f r =>
        obtain ⟨fd, fk, fs⟩ := f
        rw [show upOf (⟨fd, fk, fs⟩ :: r) = fk from rfl, show upOf [] = 0 from rfl] at *
        have LOW : lowB N1 0 fk = false := if_pos rfl
        have hf0 : (fk != 0) = true := by have := HZ.out.right ND.out AL.out; simpa using tk_ne this.1.1
        obtain ⟨⟨q1, q2, q3, q4, ⟨p5, q5⟩, q6, q7, q8, q9⟩, z2⟩ := HZ.out.right ND.out AL.out
        have aT : AllTk N1 Q := HZ.out.items AL.out
        have hbm : ∀ j ∈ t.seq, j ∈ Q := fun j hj => by rw [← HZ.out.hq]; simp [hj]
        have hsm : ∀ j ∈ fs.seq, j ∈ Q := fun j hj => by rw [← z2.hq]; simp [Tr.seq, hj]
        have HST : Hid (∀ {w : World}, Frs Xh d w F B G N1 fr → Calls Tryz.prog 146 #[.pointer (some ⟨B, 0, none⟩), .int .i32 fk, .int .i32 t.top] w fun e w' => e = .returned (.tuple #[]) ∧ Frs Xh d w' F B G (stepL N1 fk t.top) fr ∧ Step F F w w') :=
          fun h => setLeft_any h hN1 q1 q2 (by rw [q3]; exact q4) (top_bd q5 (fun j hj => aT j (hbm j hj)) q8 hN1) (by rw [q3]; exact top_bd q6 (fun j hj => aT j (hsm j hj)) q9 hN1)
        have HAT : Hid (∀ {w : World}, Frs Xh d w F B G N1 fr → Calls Tryz.prog 121 #[.pointer (some ⟨B, 0, none⟩), .int .i32 fk] w fun e w' => e = .returned (.pointer (some ⟨G, loc fk, none⟩)) ∧ w' = w) := fun h => at_tk h hN1 q1
        have HUP : Hid (∀ {w : World}, Frs Xh d w F B G N1 fr → w.cell? ⟨G, loc fk + 12, none⟩ = some (.int .i32 (upOf r))) := fun h => by rw [← q7]; exact h.at q1 (j := 12) rfl
        have HZ2 : Hid (Zp Q N (stepL N1 fk t.top) ([] : List Fm) r (.node t fk fs)) := z2
        have A0 : Hid ((([] : List Fm)).length + r.length < gk) := by show _ < _; simp at hk ⊢; omega
        clear q1 q2 q3 q4 q5 q6 q7 q8 q9 z2 aT hbm hsm hk HZ
        go_wp2_with fail
        refine HL.mono ?_
        rintro e w1 ⟨rfl, hb1⟩
        rw [LOW]
        have HX1 : Hid _ := HX.out.below hb1
        have HS1 : Hid (Step F F w w1) := HS.out.trans (Step.of_below hb1)
        have hu := HUP.out HX1.out
        clear HL hb1 HX HS HUP
        go_wp2_with fail
        refine (HAT.out HX1.out).mono ?_
        rintro e w2 ⟨rfl, rfl⟩
        go_wp2_with fail
        refine (HST.out HX1.out).mono ?_
        rintro e w3 ⟨rfl, a3, b3⟩
        have HX3 : Hid _ := a3
        have HS3 : Hid (Step F F w w3) := HS1.out.trans b3
        clear a3 b3 HST HAT HX1 HS1 hu
        go_wp2
        go_roundg ((([] : List Fm)).length + r.length)
        case measure => exact A0.out
        case rel => exact ⟨([] : List Fm), r, .node t fk fs, _, rfl, rfl, rfl, rfl, HZ2.out, HX3.out, HS3.out⟩
    | cons f l =>
      obtain ⟨fd, fk, fs⟩ := f
      have hf0 : (fk != 0) = true := by have := HZ.out.left ND.out AL.out; simpa using tk_ne this.1.1
      cases r with
      | nil =>
        rw [show upOf (⟨fd, fk, fs⟩ :: l) = fk from rfl, show upOf [] = 0 from rfl] at *
        have LOW : lowB N1 fk 0 = true := by unfold lowB; rw [if_neg (by simpa using hf0), if_pos rfl]
        obtain ⟨⟨q1, q2, q3, q4, ⟨p5, q5⟩, q6, q7, q8, q9⟩, z2⟩ := HZ.out.left ND.out AL.out
        have aT : AllTk N1 Q := HZ.out.items AL.out
        have hbm : ∀ j ∈ t.seq, j ∈ Q := fun j hj => by rw [← HZ.out.hq]; simp [hj]
        have hsm : ∀ j ∈ fs.seq, j ∈ Q := fun j hj => by rw [← z2.hq]; simp [Tr.seq, hj]
        have HST : Hid (∀ {w : World}, Frs Xh d w F B G N1 fr → Calls Tryz.prog 147 #[.pointer (some ⟨B, 0, none⟩), .int .i32 fk, .int .i32 t.top] w fun e w' => e = .returned (.tuple #[]) ∧ Frs Xh d w' F B G (stepR N1 fk t.top) fr ∧ Step F F w w') :=
          fun h => setRight_any h hN1 q1 q2 (by rw [q3]; exact q4) (by rw [q3]; exact top_bd q6 (fun j hj => aT j (hsm j hj)) q9 hN1) (top_bd q5 (fun j hj => aT j (hbm j hj)) q8 hN1)
        have HAT : Hid (∀ {w : World}, Frs Xh d w F B G N1 fr → Calls Tryz.prog 121 #[.pointer (some ⟨B, 0, none⟩), .int .i32 fk] w fun e w' => e = .returned (.pointer (some ⟨G, loc fk, none⟩)) ∧ w' = w) := fun h => at_tk h hN1 q1
        have HUP : Hid (∀ {w : World}, Frs Xh d w F B G N1 fr → w.cell? ⟨G, loc fk + 12, none⟩ = some (.int .i32 (upOf l))) := fun h => by rw [← q7]; exact h.at q1 (j := 12) rfl
        have HZ2 : Hid (Zp Q N (stepR N1 fk t.top) l ([] : List Fm) (.node fs fk t)) := z2
        have A0 : Hid (l.length + (([] : List Fm)).length < gk) := by show _ < _; simp at hk ⊢; omega
        clear q1 q2 q3 q4 q5 q6 q7 q8 q9 z2 aT hbm hsm hk HZ
        go_wp2_with fail
        refine HL.mono ?_
        rintro e w1 ⟨rfl, hb1⟩
        rw [LOW]
        have HX1 : Hid _ := HX.out.below hb1
        have HS1 : Hid (Step F F w w1) := HS.out.trans (Step.of_below hb1)
        have hu := HUP.out HX1.out
        clear HL hb1 HX HS HUP
        go_wp2_with fail
        refine (HAT.out HX1.out).mono ?_
        rintro e w2 ⟨rfl, rfl⟩
        go_wp2_with fail
        refine (HST.out HX1.out).mono ?_
        rintro e w3 ⟨rfl, a3, b3⟩
        have HX3 : Hid _ := a3
        have HS3 : Hid (Step F F w w3) := HS1.out.trans b3
        clear a3 b3 HST HAT HX1 HS1 hu
        go_wp2
        go_roundg (l.length + (([] : List Fm)).length)
        case measure => exact A0.out
        case rel => exact ⟨l, ([] : List Fm), .node fs fk t, _, rfl, rfl, rfl, rfl, HZ2.out, HX3.out, HS3.out⟩
      | cons g r =>
        obtain ⟨gd, gk', gs⟩ := g
        rw [show upOf (⟨fd, fk, fs⟩ :: l) = fk from rfl, show upOf (⟨gd, gk', gs⟩ :: r) = gk' from rfl] at *
        cases LOW : lowB N1 fk gk' with
        | true =>
          obtain ⟨⟨q1, q2, q3, q4, ⟨p5, q5⟩, q6, q7, q8, q9⟩, z2⟩ := HZ.out.left ND.out AL.out
          have aT : AllTk N1 Q := HZ.out.items AL.out
          have hbm : ∀ j ∈ t.seq, j ∈ Q := fun j hj => by rw [← HZ.out.hq]; simp [hj]
          have hsm : ∀ j ∈ fs.seq, j ∈ Q := fun j hj => by rw [← z2.hq]; simp [Tr.seq, hj]
          have HST : Hid (∀ {w : World}, Frs Xh d w F B G N1 fr → Calls Tryz.prog 147 #[.pointer (some ⟨B, 0, none⟩), .int .i32 fk, .int .i32 t.top] w fun e w' => e = .returned (.tuple #[]) ∧ Frs Xh d w' F B G (stepR N1 fk t.top) fr ∧ Step F F w w') :=
            fun h => setRight_any h hN1 q1 q2 (by rw [q3]; exact q4) (by rw [q3]; exact top_bd q6 (fun j hj => aT j (hsm j hj)) q9 hN1) (top_bd q5 (fun j hj => aT j (hbm j hj)) q8 hN1)
          have HAT : Hid (∀ {w : World}, Frs Xh d w F B G N1 fr → Calls Tryz.prog 121 #[.pointer (some ⟨B, 0, none⟩), .int .i32 fk] w fun e w' => e = .returned (.pointer (some ⟨G, loc fk, none⟩)) ∧ w' = w) := fun h => at_tk h hN1 q1
          have HUP : Hid (∀ {w : World}, Frs Xh d w F B G N1 fr → w.cell? ⟨G, loc fk + 12, none⟩ = some (.int .i32 (upOf l))) := fun h => by rw [← q7]; exact h.at q1 (j := 12) rfl
          have HZ2 : Hid (Zp Q N (stepR N1 fk t.top) l (⟨gd, gk', gs⟩ :: r) (.node fs fk t)) := z2
          have A0 : Hid (l.length + ((⟨gd, gk', gs⟩ :: r)).length < gk) := by show _ < _; simp at hk ⊢; omega
          clear q1 q2 q3 q4 q5 q6 q7 q8 q9 z2 aT hbm hsm hk HZ
          go_wp2_with fail
          refine HL.mono ?_
          rintro e w1 ⟨rfl, hb1⟩
          skip
          have HX1 : Hid _ := HX.out.below hb1
          have HS1 : Hid (Step F F w w1) := HS.out.trans (Step.of_below hb1)
          have hu := HUP.out HX1.out
          clear HL hb1 HX HS HUP
          go_wp2_with fail
          refine (HAT.out HX1.out).mono ?_
          rintro e w2 ⟨rfl, rfl⟩
          go_wp2_with fail
          refine (HST.out HX1.out).mono ?_
          rintro e w3 ⟨rfl, a3, b3⟩
          have HX3 : Hid _ := a3
          have HS3 : Hid (Step F F w w3) := HS1.out.trans b3
          clear a3 b3 HST HAT HX1 HS1 hu
          go_wp2
          go_roundg (l.length + ((⟨gd, gk', gs⟩ :: r)).length)
          case measure => exact A0.out
          case rel => exact ⟨l, (⟨gd, gk', gs⟩ :: r), .node fs fk t, _, rfl, rfl, rfl, rfl, HZ2.out, HX3.out, HS3.out⟩
        | false =>
          obtain ⟨⟨q1, q2, q3, q4, ⟨p5, q5⟩, q6, q7, q8, q9⟩, z2⟩ := HZ.out.right ND.out AL.out
          have aT : AllTk N1 Q := HZ.out.items AL.out
          have hbm : ∀ j ∈ t.seq, j ∈ Q := fun j hj => by rw [← HZ.out.hq]; simp [hj]
          have hsm : ∀ j ∈ gs.seq, j ∈ Q := fun j hj => by rw [← z2.hq]; simp [Tr.seq, hj]
          have HST : Hid (∀ {w : World}, Frs Xh d w F B G N1 fr → Calls Tryz.prog 146 #[.pointer (some ⟨B, 0, none⟩), .int .i32 gk', .int .i32 t.top] w fun e w' => e = .returned (.tuple #[]) ∧ Frs Xh d w' F B G (stepL N1 gk' t.top) fr ∧ Step F F w w') :=
            fun h => setLeft_any h hN1 q1 q2 (by rw [q3]; exact q4) (top_bd q5 (fun j hj => aT j (hbm j hj)) q8 hN1) (by rw [q3]; exact top_bd q6 (fun j hj => aT j (hsm j hj)) q9 hN1)
          have HAT : Hid (∀ {w : World}, Frs Xh d w F B G N1 fr → Calls Tryz.prog 121 #[.pointer (some ⟨B, 0, none⟩), .int .i32 gk'] w fun e w' => e = .returned (.pointer (some ⟨G, loc gk', none⟩)) ∧ w' = w) := fun h => at_tk h hN1 q1
          have HUP : Hid (∀ {w : World}, Frs Xh d w F B G N1 fr → w.cell? ⟨G, loc gk' + 12, none⟩ = some (.int .i32 (upOf r))) := fun h => by rw [← q7]; exact h.at q1 (j := 12) rfl
          have HZ2 : Hid (Zp Q N (stepL N1 gk' t.top) (⟨fd, fk, fs⟩ :: l) r (.node t gk' gs)) := z2
          have A0 : Hid (((⟨fd, fk, fs⟩ :: l)).length + r.length < gk) := by show _ < _; simp at hk ⊢; omega
          clear q1 q2 q3 q4 q5 q6 q7 q8 q9 z2 aT hbm hsm hk HZ
          go_wp2_with fail
          refine HL.mono ?_
          rintro e w1 ⟨rfl, hb1⟩
          skip
          have HX1 : Hid _ := HX.out.below hb1
          have HS1 : Hid (Step F F w w1) := HS.out.trans (Step.of_below hb1)
          have hu := HUP.out HX1.out
          clear HL hb1 HX HS HUP
          go_wp2_with fail
          refine (HAT.out HX1.out).mono ?_
          rintro e w2 ⟨rfl, rfl⟩
          go_wp2_with fail
          refine (HST.out HX1.out).mono ?_
          rintro e w3 ⟨rfl, a3, b3⟩
          have HX3 : Hid _ := a3
          have HS3 : Hid (Step F F w w3) := HS1.out.trans b3
          clear a3 b3 HST HAT HX1 HS1 hu
          go_wp2
          go_roundg (((⟨fd, fk, fs⟩ :: l)).length + r.length)
          case measure => exact A0.out
          case rel => exact ⟨(⟨fd, fk, fs⟩ :: l), r, .node t gk' gs, _, rfl, rfl, rfl, rfl, HZ2.out, HX3.out, HS3.out⟩
end
end Go.Proofs.YtlmdjghcmofdlaaGreat
namespace Go.Proofs.YtlmdjghcmofdlaaGreat
open Go.RowKit
set_option linter.unusedVariables false
variable {Xh : Hx}
def isK (K : List Bool) (i : Int) : Bool := decide (1 ≤ i) && K.getD (i - 1).toNat false
theorem tk_isK (N : List Nt) (i : Int) : tk N i = isK (N.map (·.2)) i := by
  unfold tk isT isK slN
  rw [List.getElem?_map, List.getD_eq_getElem?_getD, List.getElem?_map]
  cases N[(i - 1).toNat]? <;> rfl
theorem isK_bd {K : List Bool} {i : Int} (h : isK K i = true) : 1 ≤ i ∧ i ≤ K.length := by
  unfold isK at h
  simp only [Bool.and_eq_true, decide_eq_true_eq] at h
  refine ⟨h.1, ?_⟩
  rcases Nat.lt_or_ge (i - 1).toNat K.length with h1 | h1
  · omega
  · rw [List.getD_eq_getElem?_getD, List.getElem?_eq_none h1] at h; simp at h
theorem isK_set {K : List Bool} {i : Int} (b : Bool) (hi : 1 ≤ i ∧ i ≤ K.length) (j : Int) : isK (K.set (i - 1).toNat b) j = if j = i then b else isK K j := by
  unfold isK
  rw [List.getD_eq_getElem?_getD, List.getElem?_set]
  by_cases h1 : 1 ≤ j
  · by_cases e : j = i
    · subst e; rw [if_pos rfl, if_pos rfl, if_pos (by omega)]; simp [h1]
    · rw [if_neg (by omega), if_neg e, List.getD_eq_getElem?_getD]
  · have : j ≠ i := by omega
    simp [h1, this]
theorem isK_snoc {K : List Bool} (b : Bool) (j : Int) : isK (K ++ [b]) j = if j = (K.length : Int) + 1 then b else isK K j := by
  unfold isK
  rw [List.getD_eq_getElem?_getD, List.getD_eq_getElem?_getD]
  by_cases h1 : 1 ≤ j
  · by_cases e : j = (K.length : Int) + 1
    · subst e
      rw [if_pos rfl, show ((K.length : Int) + 1 - 1).toNat = K.length by omega, List.getElem?_concat_length]
      simp; omega
    · rw [if_neg e]
      rcases Nat.lt_or_ge (j - 1).toNat K.length with h2 | h2
      · rw [List.getElem?_append_left h2]
      · rw [List.getElem?_eq_none (by simp; omega), List.getElem?_eq_none h2]
  · have : j ≠ (K.length : Int) + 1 := by omega
    simp [h1, this]
structure Wd (N : List Nt) (S : Int → List Int) : Prop where
  tree : ∀ i, tk N i = true → ∃ t, t.seq = S i ∧ Good N t
  mem : ∀ i, tk N i = true → i ∈ S i
  same : ∀ i j, j ∈ S i → S j = S i
  none : ∀ i, tk N i = false → S i = []
theorem Wd.ne {N : List Nt} {S : Int → List Int} (h : Wd N S) {i : Int} : S i ≠ [] ↔ tk N i = true := by
  constructor
  · intro h1
    cases h2 : tk N i with
    | true => rfl
    | false => exact absurd (h.none i h2) h1
  · intro h1 h2
    have := h.mem i h1
    rw [h2] at this
    simp at this
theorem Wd.memTk {N : List Nt} {S : Int → List Int} (h : Wd N S) {i j : Int} (hj : j ∈ S i) : tk N j = true ∧ tk N i = true := by
  have h1 : tk N i = true := h.ne.1 (fun e => by rw [e] at hj; simp at hj)
  refine ⟨h.ne.1 ?_, h1⟩
  rw [h.same i j hj]
  exact h.ne.2 h1
theorem Wd.nodup {N : List Nt} {S : Int → List Int} (h : Wd N S) (i : Int) : (S i).Nodup := by
  cases h2 : tk N i with
  | true => obtain ⟨t, e, g⟩ := h.tree i h2; rw [← e]; exact g.nodup
  | false => rw [h.none i h2]; simp
def Dh (dr : Option (Nat × Nat × List Int)) (D Dg : Nat) (xs : List Int) : Prop := ∀ q, dr = some q → q = (D, Dg, xs)
def Dok (dr : Option (Nat × Nat × List Int)) (W : World) (F Fa : Nat → Prop) (d : Option Addr) (mx : Nat) : Prop := (d = none ∧ dr = none) ∨ ∃ D Dg xs n, d = some ⟨D, 0, none⟩ ∧ Drw W D Dg xs n ∧ n ≤ mx ∧ F D ∧ F Dg ∧ ¬ Fa D ∧ ¬ Fa Dg ∧ Dh dr D Dg xs
structure Tp (Xh : Hx) (W : World) (F : Nat → Prop) (B : Nat) (K : List Bool) (fr : List Int) (S : Int → List Int) (V : Int → Vl) (mx : Nat) : Prop where
  ex : ∃ G N d Fa, Frs Xh d W Fa B G N fr ∧ Wd N S ∧ N.map (·.2) = K ∧ (∀ i, (nd N i).own = V i) ∧ (∀ k, Fa k → F k) ∧ Dok Xh.dr W F Fa d mx
  lt : ∀ k, F k → k < W.heap.size
  fk : fr.Nodup ∧ ∀ f ∈ fr, isK K f = false ∧ 1 ≤ f ∧ f ≤ K.length
  klen : K.length ≤ 2147483647
section
variable {W W' : World} {F F' : Nat → Prop} {B : Nat} {K : List Bool} {fr : List Int} {S : Int → List Int} {V : Int → Vl} {mx : Nat}
theorem Tp.kept (h : Tp Xh W F B K fr S V mx) (hb : ∀ k, F k → W'.heap[k]? = W.heap[k]?) (hs : W.heap.size ≤ W'.heap.size) : Tp Xh W' F B K fr S V mx := by
  obtain ⟨G, N, d, Fa, h1, h2, h3, h4, h5, h6⟩ := h.ex
  refine ⟨⟨G, N, d, Fa, h1.kept (fun k hk => hb k (h5 k hk)) hs, h2, h3, h4, h5, h6.imp id ?_⟩, fun k hk => Nat.lt_of_lt_of_le (h.lt k hk) hs, h.fk, h.klen⟩
  rintro ⟨D, Dg, xs, n, a1, a2, a3, a4, a5, a6, a7⟩
  exact ⟨D, Dg, xs, n, a1, a2.kept (hb D a4) (hb Dg a5) hs, a3, a4, a5, a6, a7⟩
theorem Tp.shared (h : Tp Xh W F B K fr S V mx) {D Dg : Nat} {xs : List Int} (hd : Xh.dr = some (D, Dg, xs)) : F D ∧ F Dg ∧ D ≠ B ∧ Dg ≠ B ∧ ∃ n, n ≤ mx ∧ Drw W D Dg xs n := by
  obtain ⟨G, N, d, Fa, h1, h2, h3, h4, h5, h6⟩ := h.ex
  rcases h6 with ⟨_, e⟩ | ⟨D', Dg', xs', n, a1, a2, a3, a4, a5, a6, a7, a8⟩
  · rw [e] at hd; cases hd
  · cases a8 _ hd
    exact ⟨a4, a5, fun e => a6 (e ▸ h1.arn.b), fun e => a7 (e ▸ h1.arn.b), n, a3, a2⟩
theorem Tp.drawn (h : Tp Xh W F B K fr S V mx) {D Dg m n : Nat} {xs : List Int} (hd : Xh.dr = some (D, Dg, xs)) (hb : ∀ k, F k → k ≠ D → k ≠ Dg → W'.heap[k]? = W.heap[k]?) (hs : W.heap.size ≤ W'.heap.size) (hD : Drw W' D Dg xs n) (hn : n ≤ m) : Tp Xh W' F B K fr S V m := by
  obtain ⟨G, N, d, Fa, h1, h2, h3, h4, h5, h6⟩ := h.ex
  rcases h6 with ⟨_, e⟩ | ⟨D', Dg', xs', n', a1, a2, a3, a4, a5, a6, a7, a8⟩
  · rw [e] at hd; cases hd
  · cases a8 _ hd
    exact ⟨⟨G, N, d, Fa, h1.kept (fun k hk => hb k (h5 k hk) (fun e => a6 (e ▸ hk)) (fun e => a7 (e ▸ hk))) hs, h2, h3, h4, h5, .inr ⟨D, Dg, xs, n, a1, hD, hn, a4, a5, a6, a7, a8⟩⟩, fun k hk => Nat.lt_of_lt_of_le (h.lt k hk) hs, h.fk, h.klen⟩
theorem Tp.below (h : Tp Xh W F B K fr S V mx) (hb : Below W.heap.size W W') : Tp Xh W' F B K fr S V mx := h.kept (fun k hk => hb.block k (h.lt k hk)) hb.size
theorem Step.wide {Fa Fa' : Nat → Prop} (h : Step Fa Fa' W W') (hF : ∀ k, Fa k → F k) : Step F F W W' :=
  ⟨⟨h.only.os, h.only.tape, h.only.output, h.only.size, fun k hk hn => h.only.block k hk (fun h' => hn (hF k h'))⟩, fun k hk => .inl hk⟩
theorem Tp.mem (h : Tp Xh W F B K fr S V mx) {i : Int} : isK K i = true ↔ i ∈ S i := by
  obtain ⟨G, N, d, Fa, h1, h2, h3, h4, h5, h6⟩ := h.ex
  rw [← h3, ← tk_isK]
  exact ⟨h2.mem i, fun h' => (h2.memTk h').1⟩
theorem Tp.nil (h : Tp Xh W F B K fr S V mx) {i : Int} : isK K i = false ↔ S i = [] := by
  obtain ⟨G, N, d, Fa, h1, h2, h3, h4, h5, h6⟩ := h.ex
  rw [← h3, ← tk_isK]
  constructor
  · exact h2.none i
  · intro h'
    cases h'' : tk N i with
    | false => rfl
    | true => exact absurd h' (h2.ne.2 h'')
theorem Tp.same (h : Tp Xh W F B K fr S V mx) {i j : Int} (hj : j ∈ S i) : S j = S i := by
  obtain ⟨G, N, d, Fa, h1, h2, h3, h4, h5, h6⟩ := h.ex
  exact h2.same i j hj
theorem Tp.nodup (h : Tp Xh W F B K fr S V mx) (i : Int) : (S i).Nodup := by
  obtain ⟨G, N, d, Fa, h1, h2, h3, h4, h5, h6⟩ := h.ex
  exact h2.nodup i
theorem Tp.wrote {G : Nat} {N N' : List Nt} {d : Option Addr} {Fa : Nat → Prop} {S' : Int → List Int} {V' : Int → Vl} (h : Tp Xh W F B K fr S V mx) (h1 : Frs Xh d W Fa B G N fr) (h3 : N.map (·.2) = K) (h5 : ∀ k, Fa k → F k) (h6 : Dok Xh.dr W F Fa d mx)
    (hA : Frs Xh d W' Fa B G N' fr) (hS : Step Fa Fa W W') (hw : Wd N' S') (hk : N'.map (·.2) = K) (hv : ∀ i, (nd N' i).own = V' i) : Tp Xh W' F B K fr S' V' mx ∧ Step F F W W' := by
  refine ⟨⟨⟨G, N', d, Fa, hA, hw, hk, hv, h5, h6.imp id ?_⟩, fun k hk => Nat.lt_of_lt_of_le (h.lt k hk) hS.size, h.fk, h.klen⟩, hS.wide h5⟩
  rintro ⟨D, Dg, xs, n, a1, a2, a3, a4, a5, a6, a7, a8⟩
  exact ⟨D, Dg, xs, n, a1, a2.kept (hS.only.block D (h.lt D a4) a6) (hS.only.block Dg (h.lt Dg a5) a7) hS.size, a3, a4, a5, a6, a7, a8⟩
end
theorem flags_of {N N' : List Nt} (hlen : N'.length = N.length) (htk : ∀ i, tk N' i = tk N i) : N'.map (·.2) = N.map (·.2) := by
  apply List.ext_getElem?
  intro k
  rw [List.getElem?_map, List.getElem?_map]
  rcases Nat.lt_or_ge k N.length with h1 | h1
  · have h2 : k < N'.length := by rw [hlen]; exact h1
    have := htk ((k : Int) + 1)
    rw [tk_isK, tk_isK] at this
    unfold isK at this
    rw [List.getD_eq_getElem?_getD, List.getD_eq_getElem?_getD, List.getElem?_map, List.getElem?_map, show ((k : Int) + 1 - 1).toNat = k by omega, List.getElem?_eq_getElem h1, List.getElem?_eq_getElem h2] at this
    rw [List.getElem?_eq_getElem h1, List.getElem?_eq_getElem h2]
    simp only [Option.map_some] at this ⊢
    rw [show decide (1 ≤ (k : Int) + 1) = true by simp; omega] at this
    simpa using this
  · rw [List.getElem?_eq_none h1, List.getElem?_eq_none (by rw [hlen]; exact h1)]
theorem Keeps.flags {A : Int → Prop} {N N' : List Nt} (h : Keeps A N N') : N'.map (·.2) = N.map (·.2) := flags_of h.len h.tk
end Go.Proofs.YtlmdjghcmofdlaaGreat
namespace Go.Proofs.YtlmdjghcmofdlaaGreat
open Go.RowKit
set_option linter.unusedVariables false
variable {Xh : Hx}
theorem Blk.store4 {W : World} {B : Nat} {t : TypeId} {a b c e : Value} (h : Blk W B t #[a, b, c, e]) (a' b' c' e' : Value) : Blk ((((W.setCell ⟨B, 0, none⟩ a').setCell ⟨B, 1, none⟩ b').setCell ⟨B, 2, none⟩ c').setCell ⟨B, 3, none⟩ e') B t #[a', b', c', e'] := by
  simpa using (((h.setAt 0 a').setAt 1 b').setAt 2 c').setAt 3 e'
section
variable {w : World} {F : Nat → Prop} {B : Nat} {K : List Bool} {fr : List Int} {S : Int → List Int} {V : Int → Vl} {mx : Nat}
theorem root_un {d : Option Addr} {G : Nat} {N : List Nt} (h : Frs Xh d w F B G N fr) (hN : N.length ≤ 2147483647) {i : Int} (hb : -2147483648 ≤ i ∧ i ≤ 2147483647) (hi : tk N i = false) :
    Calls Tryz.prog 116 #[.pointer (some ⟨B, 0, none⟩), .int .i32 i] w fun e w' => e = .returned (.int .i32 0) ∧ w' = w := by
  have HA := at_un h hN hb hi
  clear h
  go_enter Tryz.func116, Tryz.ntmps116
  go_wp2_with fail
  refine HA.mono ?_
  rintro e w0 ⟨rfl, rfl⟩
  go_wp2
  go_ret
  exact ⟨rfl, rfl⟩
theorem Tp.root (h : Tp Xh w F B K fr S V mx) (i : Int) (hb : -2147483648 ≤ i ∧ i ≤ 2147483647) : ∃ x : Int, Calls Tryz.prog 116 #[.pointer (some ⟨B, 0, none⟩), .int .i32 i] w (fun e w' => e = .returned (.int .i32 x) ∧ w' = w) ∧
    Calls Tryz.prog 122 #[.pointer (some ⟨B, 0, none⟩), .int .i32 x] w (fun e w' => e = .returned (.int .i64 (S i).length) ∧ w' = w) ∧
    (∀ w1, Below w.heap.size w w1 → Calls Tryz.prog 124 #[.pointer (some ⟨B, 0, none⟩), .int .i32 x] w1 (fun e w' => e = .returned (vlc (sumV ((S i).map V))) ∧ Below w1.heap.size w1 w')) ∧
    Calls Tryz.prog 142 #[.pointer (some ⟨B, 0, none⟩), .int .i32 x] w (fun e w' => e = .returned (.int .i32 ((S i).headD 0)) ∧ w' = w) ∧
    (S i = [] → x = 0) ∧ (x ≠ 0 → x ∈ S i) ∧ (S i ≠ [] → x ≠ 0) ∧ (∀ j, (x = 0 ∧ S j = []) ∨ S j ≠ S i ∨ True) := by
  obtain ⟨G, N, d, Fa, h1, h2, h3, h4, h5, h6⟩ := h.ex
  have hN : N.length ≤ 2147483647 := by have := h.klen; rw [← h3, List.length_map] at this; exact this
  cases hi : tk N i with
  | false =>
    have e := h2.none i hi
    refine ⟨0, root_un h1 hN hb hi, ?_, fun w1 hb1 => ?_, ?_, fun _ => rfl, fun h => absurd rfl h, fun h => absurd e h, fun _ => .inr (.inr trivial)⟩
    · rw [e]; exact size_any h1 hN (.inl rfl)
    · rw [e]; exact sum_any (h1.below hb1) hN (.inl rfl)
    · rw [e]; exact leftmost_nil w _
  | true =>
    obtain ⟨t, e, g⟩ := h2.tree i hi
    have hm := h2.mem i hi
    have ht0 : t ≠ .nil := fun e0 => by rw [e0] at e; rw [← e] at hm; simp [Tr.seq] at hm
    obtain ⟨o1, o2, o3⟩ := top_ok g.hang g.all
    have hk := tk_ne (g.all _ (Tr.top_mem ht0))
    refine ⟨t.top, root_tk h1 hN g (by rw [e]; exact hm), ?_, fun w1 hb1 => ?_, ?_, fun h0 => absurd h0 (h2.ne.2 hi), fun _ => by rw [← e]; exact Tr.top_mem ht0, fun _ => hk, fun _ => .inr (.inr trivial)⟩
    · have := size_any h1 hN o1; rw [o2, e] at this; exact this
    · have := sum_any (h1.below hb1) hN o1
      rw [o3, e, show own (nd N) (S i) = (S i).map V from List.map_congr_left (fun j _ => h4 j)] at this
      exact this
    · have := leftmost_tk h1 hN g.hang g.all ht0; rw [e] at this; exact this
theorem tsize_any (h : Tp Xh w F B K fr S V mx) (i : Int) (hb : -2147483648 ≤ i ∧ i ≤ 2147483647) :
    Calls Tryz.prog 104 #[.pointer (some ⟨B, 0, none⟩), .int .i32 i] w fun e w' => e = .returned (.int .i64 (S i).length) ∧ w' = w := by
  obtain ⟨x, h1, h2, _⟩ := h.root i hb
  clear h
  go_enter Tryz.func104, Tryz.ntmps104
  go_wp2_with fail
  refine h1.mono ?_
  rintro e w0 ⟨rfl, rfl⟩
  go_wp2_with fail
  refine h2.mono ?_
  rintro e w1 ⟨rfl, rfl⟩
  go_wp2
  go_ret
  exact ⟨rfl, rfl⟩
theorem tfirst_any (h : Tp Xh w F B K fr S V mx) (i : Int) (hb : -2147483648 ≤ i ∧ i ≤ 2147483647) :
    Calls Tryz.prog 140 #[.pointer (some ⟨B, 0, none⟩), .int .i32 i] w fun e w' => e = .returned (.int .i32 ((S i).headD 0)) ∧ w' = w := by
  obtain ⟨x, h1, _, _, h2, _⟩ := h.root i hb
  generalize (S i).headD 0 = z at *
  clear h
  go_enter Tryz.func140, Tryz.ntmps140
  go_wp2_with fail
  refine h1.mono ?_
  rintro e w0 ⟨rfl, rfl⟩
  go_wp2_with fail
  refine h2.mono ?_
  rintro e w1 ⟨rfl, rfl⟩
  go_wp2
  go_ret
  exact ⟨rfl, rfl⟩
theorem ttotal_any (h : Tp Xh w F B K fr S V mx) (i : Int) (hb : -2147483648 ≤ i ∧ i ≤ 2147483647) :
    Calls Tryz.prog 117 #[.pointer (some ⟨B, 0, none⟩), .int .i32 i] w fun e w' => e = .returned (vlc (sumV ((S i).map V))) ∧ Below w.heap.size w w' := by
  obtain ⟨x, h1, _, h2, _⟩ := h.root i hb
  have hb1 := (Below.refl w.heap.size w).alloc (Nat.le_refl _) (.cells #[.int .i64 0, .int .i64 0, .int .i64 0, .int .u8 0] 129)
  obtain ⟨y, h1', _, h2', _⟩ := (h.below hb1).root i hb
  have X2 : Hid _ := h2'
  have HB : Hid _ := hb1
  clear h h1 h2 h2' hb1
  go_enter Tryz.func117, Tryz.ntmps117
  go_wp2_with fail
  refine h1'.mono ?_
  rintro e w0 ⟨rfl, rfl⟩
  clear h1'
  go_wp2_with fail
  refine (X2.out _ (Below.refl _ _)).mono ?_
  rintro e w1 ⟨rfl, hb2⟩
  have hbk := (Blk.new w 129 #[.int .i64 0, .int .i64 0, .int .i64 0, .int .u8 0]).below hb2
  generalize hZ : sumV ((S i).map V) = Z at *
  have HZ : Hid _ := hZ
  clear hZ
  have c0 := hbk.at (j := 0) rfl
  have c1 := hbk.at (j := 1) rfl
  have c2 := hbk.at (j := 2) rfl
  have c3 := hbk.at (j := 3) rfl
  have f0 := hbk.frozen 0
  have f1 := hbk.frozen 1
  have f2 := hbk.frozen 2
  have f3 := hbk.frozen 3
  have HK : Hid _ := hbk
  have HB2 : Hid (Below w.heap.size w w1) := HB.out.trans (hb2.mono (by simp))
  clear hb2 hbk X2 HB
  go_wp2
  refine bodyPost_ret (results_cell_row rfl _ _ w.heap.size 129 _ (0, 0) _ rfl (Blk.store4 HK.out _ _ _ _) Tryz.underlying129 rfl (by kernel_rfl)) rfl ?_
  rw [HZ.out]
  exact ⟨rfl, ((((HB2.out.setCell (Nat.le_refl _) _).setCell (Nat.le_refl _) _).setCell (Nat.le_refl _) _).setCell (Nat.le_refl _) _)⟩
end
end Go.Proofs.YtlmdjghcmofdlaaGreat
/- Layer 6 (treap): Same, Get, Place, Next, Len. -/
namespace Go.Proofs.YtlmdjghcmofdlaaGreat
open Go.RowKit
set_option linter.unusedVariables false
variable {Xh : Hx}
def nxS (l : List Int) (i : Int) : Int := if i ∈ l then (l.drop (l.idxOf i + 1)).headD 0 else 0
theorem nxS_mid {a b : List Int} {i : Int} (h : i ∉ a) : nxS (a ++ i :: b) i = b.headD 0 := by
  unfold nxS; rw [if_pos (by simp), idx_mid h, show a ++ i :: b = (a ++ [i]) ++ b by simp, List.drop_left' (by simp)]
section
variable {w : World} {F : Nat → Prop} {B : Nat} {K : List Bool} {fr : List Int} {S : Int → List Int} {V : Int → Vl} {mx : Nat}
theorem tsame_any (h : Tp Xh w F B K fr S V mx) (i j : Int) (hb : -2147483648 ≤ i ∧ i ≤ 2147483647) (hc : -2147483648 ≤ j ∧ j ≤ 2147483647) :
    Calls Tryz.prog 92 #[.pointer (some ⟨B, 0, none⟩), .int .i32 i, .int .i32 j] w fun e w' => e = .returned (.bool (decide (j ∈ S i))) ∧ w' = w := by
  have key : ∃ x y : Int, Calls Tryz.prog 116 #[.pointer (some ⟨B, 0, none⟩), .int .i32 i] w (fun e w' => e = .returned (.int .i32 x) ∧ w' = w) ∧ Calls Tryz.prog 116 #[.pointer (some ⟨B, 0, none⟩), .int .i32 j] w (fun e w' => e = .returned (.int .i32 y) ∧ w' = w) ∧ ((x != 0) && (x == y)) = decide (j ∈ S i) := by
    by_cases hj : j ∈ S i
    · obtain ⟨G, N, d, Fa, h1, h2, h3, h4, h5, h6⟩ := h.ex
      have hN : N.length ≤ 2147483647 := by have := h.klen; rw [← h3, List.length_map] at this; exact this
      obtain ⟨t1, t2⟩ := h2.memTk hj
      obtain ⟨t, e, g⟩ := h2.tree i t2
      have hm := h2.mem i t2
      refine ⟨t.top, t.top, root_tk h1 hN g (by rw [e]; exact hm), root_tk h1 hN g (by rw [e]; exact hj), ?_⟩
      have ht0 : t ≠ .nil := fun e0 => by rw [e0] at e; rw [← e] at hm; simp [Tr.seq] at hm
      have := tk_ne (g.all _ (Tr.top_mem ht0))
      simp [hj, this]
    · obtain ⟨x, a1, _, _, _, a2, a3, _⟩ := h.root i hb
      obtain ⟨y, b1, _, _, _, b2, b3, _⟩ := h.root j hc
      refine ⟨x, y, a1, b1, ?_⟩
      rw [decide_eq_false hj]
      by_cases hx : x = 0
      · simp [hx]
      · by_cases hxy : x = y
        · exfalso
          have c1 := h.same (a3 hx)
          have c2 := h.same (b3 (hxy ▸ hx))
          have : j ∈ S j := h.mem.1 (by
            cases hk : isK K j with
            | true => rfl
            | false => exact absurd (b2 (h.nil.1 hk)) (hxy ▸ hx))
          rw [← c2, ← hxy, c1] at this
          exact hj this
        · simp [hx, hxy]
  obtain ⟨x, y, h1, h2, h3⟩ := key
  rw [← h3]
  clear h h3
  by_cases hx : x = 0
  · subst hx
    go_enter Tryz.func92, Tryz.ntmps92
    go_wp2_with fail
    refine h1.mono ?_
    rintro e w0 ⟨rfl, rfl⟩
    go_wp2
    go_ret
    exact ⟨rfl, rfl⟩
  · have hx1 : (x != 0) = true := by simpa using hx
    go_enter Tryz.func92, Tryz.ntmps92
    go_wp2_with fail
    refine h1.mono ?_
    rintro e w0 ⟨rfl, rfl⟩
    go_wp2_with fail
    refine h2.mono ?_
    rintro e w1 ⟨rfl, rfl⟩
    go_wp2
    go_ret
    exact ⟨by rw [hx1]; simp, rfl⟩
theorem tnext_any (h : Tp Xh w F B K fr S V mx) (i : Int) (hb : -2147483648 ≤ i ∧ i ≤ 2147483647) :
    Calls Tryz.prog 132 #[.pointer (some ⟨B, 0, none⟩), .int .i32 i] w fun e w' => e = .returned (.int .i32 (nxS (S i) i)) ∧ w' = w := by
  obtain ⟨G, N, d, Fa, h1, h2, h3, h4, h5, h6⟩ := h.ex
  have hN : N.length ≤ 2147483647 := by have := h.klen; rw [← h3, List.length_map] at this; exact this
  clear h
  cases hi : tk N i with
  | false =>
    rw [h2.none i hi, show nxS [] i = 0 from if_neg (by simp)]
    have HA := at_un h1 hN hb hi
    clear h1 h2 h3 h4 h5 h6
    go_enter Tryz.func132, Tryz.ntmps132
    go_wp2_with fail
    refine HA.mono ?_
    rintro e w0 ⟨rfl, rfl⟩
    go_wp2
    go_ret
    exact ⟨rfl, rfl⟩
  | true =>
    obtain ⟨t, e, g⟩ := h2.tree i hi
    have hm := h2.mem i hi
    rw [← e] at hm
    obtain ⟨fs, l, r, et⟩ := Tr.find hm
    have hseq : S i = (pre fs ++ l.seq) ++ i :: (r.seq ++ post fs) := by rw [← e, et, plug_seq]; simp [Tr.seq]
    have hni : i ∉ pre fs ++ l.seq := by
      have := h2.nodup i
      rw [hseq] at this
      exact fun h' => (List.nodup_append.1 this).2.2 i h' i (by simp) rfl
    rw [hseq, nxS_mid hni]
    have gg := g.hang
    rw [et] at gg
    obtain ⟨hpath, y1, y2, y3, y4, y5, y6, y7⟩ := Hang.path gg
    have HA : Hid (∀ j, tk N j = true → Calls Tryz.prog 121 #[.pointer (some ⟨B, 0, none⟩), .int .i32 j] w fun e w' => e = .returned (.pointer (some ⟨G, loc j, none⟩)) ∧ w' = w) := fun j hj => at_tk h1 hN hj
    have HU : Hid (∀ j, tk N j = true → w.cell? ⟨G, loc j + 12, none⟩ = some (.int .i32 (nd N j).u) ∧ w.cell? ⟨G, loc j + 11, none⟩ = some (.int .i32 (nd N j).r)) := fun j hj => ⟨h1.at hj rfl, h1.at hj rfl⟩
    have HT : Hid (Good N t) := g
    have HI : Hid (tk N i = true) := hi
    have HE : Hid (t = plug fs (.node l i r)) := et
    have hr := (HU.out i hi).2
    rw [y3] at hr
    cases r with
    | node rl k rr =>
      have hk : tk N k = true := g.all k (by rw [et]; exact plug_mem (by simp [Tr.seq]))
      have hk0 : (k != 0) = true := by simpa using tk_ne hk
      have HL := leftmost_tk h1 hN y7 (fun j hj => g.all j (by rw [et]; exact plug_mem (by rw [Tr.seq]; simp [hj]))) (by simp)
      rw [head_app (by simp [Tr.seq])]
      rw [show (Tr.node rl k rr).top = k from rfl] at hr HL
      generalize (Tr.node rl k rr).seq.headD 0 = z at *
      clear h1 h2 h3 h4 h5 h6 hm hseq hni gg hpath y1 y2 y3 y4 y5 y6 y7 e et hi hk g
      go_enter Tryz.func132, Tryz.ntmps132
      go_wp2_with fail
      refine (HA.out i HI.out).mono ?_
      rintro e w0 ⟨rfl, rfl⟩
      go_wp2_with fail
      refine HL.mono ?_
      rintro e w1 ⟨rfl, rfl⟩
      go_wp2
      go_ret
      exact ⟨rfl, rfl⟩
    | nil =>
      rw [show Tr.seq .nil = [] from rfl, List.nil_append]
      rw [show Tr.top .nil = 0 from rfl] at hr
      generalize hz : (post fs).headD 0 = z at *
      have HZ : Hid ((post fs).headD 0 = z) := hz
      clear h1 h2 h3 h4 h5 h6 hm hseq hni gg hpath y1 y2 y3 y4 y5 y6 y7 e et hi g hz
      go_enter Tryz.func132, Tryz.ntmps132
      go_wp2_with fail
      refine (HA.out i HI.out).mono ?_
      rintro e w0 ⟨rfl, rfl⟩
      go_wp2
      go_loopg [5, 6] fs.length (fun q vn vk wr => ∃ (gs : List Fm) (p : Tr), gs.length = q ∧ vn = .pointer (some ⟨G, loc p.top, none⟩) ∧ vk = .int .i32 p.top ∧ Hid (t = plug gs p ∧ p ≠ .nil ∧ (post gs).headD 0 = z) ∧ wr = w0)
      case atStart => exact ⟨fs, .node l i .nil, rfl, rfl, rfl, ⟨HE.out, by simp, HZ.out⟩, rfl⟩
      case round =>
        obtain ⟨gs, p, hk, rfl, rfl, HP, rfl⟩ := hrel
        obtain ⟨e1, e2, e3⟩ := HP.out
        have hm : tk N p.top = true := HT.out.all _ (by rw [e1]; exact plug_mem (Tr.top_mem e2))
        have hu := (HU.out _ hm).1
        have gg := HT.out.hang
        rw [e1] at gg
        obtain ⟨hpath, hhang⟩ := Hang.path gg
        have hup : (nd N p.top).u = upOf gs := plug_up gg e2
        rw [hup] at hu
        cases gs with
        | nil =>
          rw [show upOf [] = 0 from rfl] at hu
          have A : Aside (0 = z) := e3
          clear e1 e2 e3 hup hk hm gg hpath hhang HP
          go_wp2
          go_ret
          rw [← A.out]
          exact ⟨rfl, rfl⟩
        | cons f gs =>
          obtain ⟨fd, k, s⟩ := f
          rw [show upOf (⟨fd, k, s⟩ :: gs) = k from rfl] at hu
          rw [plug_cons] at e1
          have hf : tk N k = true := by
            have := HT.out.all (Fm.join ⟨fd, k, s⟩ p).top (by rw [e1]; exact plug_mem (Tr.top_mem (join_ne _ p)))
            rwa [join_top] at this
          have hf0 : (k != 0) = true := by simpa using tk_ne hf
          have HF : Hid (tk N k = true) := hf
          have hur := (HU.out _ hf).2
          have hA := (HA.out k hf)
          obtain ⟨x1, x2, x3, x4, x5⟩ := hpath
          cases fd with
          | true =>
            simp only [cond_true] at x1 x2
            have hne : ((nd N k).r == p.top) = false := by
              rw [x2]
              simp only [beq_eq_false_iff_ne]
              intro e
              have hps : p.top ∈ s.seq := by
                rw [← e]
                refine Tr.top_mem (fun e0 => tk_ne hm ?_)
                rw [← e, e0]; rfl
              have hn := HT.out.nodup
              rw [e1, plug_seq] at hn
              have hn2 := (List.nodup_append.1 (List.nodup_append.1 hn).1).2.1
              simp only [Fm.join, cond_true, Tr.seq] at hn2
              exact (List.nodup_append.1 hn2).2.2 p.top (Tr.top_mem e2) p.top (by simp [hps]) rfl
            have A : Aside (k = z) := e3
            clear e1 e2 e3 hup hk hm gg hhang HP x1 x2 x3 x4 x5 hf
            go_wp2_with fail
            refine hA.mono ?_
            rintro e w1 ⟨rfl, rfl⟩
            go_wp2
            go_ret
            rw [← A.out]
            exact ⟨rfl, rfl⟩
          | false =>
            simp only [cond_false] at x1 x2
            rw [x1] at hur
            have A : Aside (t = plug gs (Fm.join ⟨false, k, s⟩ p) ∧ gs.length + 1 = gk ∧ (post gs).headD 0 = z) := ⟨e1, hk, e3⟩
            clear e1 e2 e3 hup hk hm gg hhang HP x1 x2 x3 x4 x5 hf
            go_wp2_with fail
            refine hA.mono ?_
            rintro e w1 ⟨rfl, rfl⟩
            go_wp2_with fail
            refine (HA.out k HF.out).mono ?_
            rintro e w2 ⟨rfl, rfl⟩
            go_wp2
            obtain ⟨a1, a2, a3⟩ := A.out
            go_roundg gs.length
            case measure => omega
            case rel => exact ⟨gs, Fm.join ⟨false, k, s⟩ p, rfl, by rw [join_top], by rw [join_top], ⟨a1, join_ne _ p, a3⟩, rfl⟩
end
end Go.Proofs.YtlmdjghcmofdlaaGreat
namespace Go.Proofs.YtlmdjghcmofdlaaGreat
open Go.RowKit
set_option linter.unusedVariables false
variable {Xh : Hx}
theorem Good.congr {N N' : List Nt} {t : Tr} (h : Good N t) (htk : ∀ j, tk N' j = tk N j) (hout : ∀ j ∈ t.seq, nd N' j = nd N j) : Good N' t :=
  ⟨h.hang.congr hout, fun j hj => by rw [htk]; exact h.all j hj, h.nodup⟩
theorem Wd.re {N N' : List Nt} {S S' : Int → List Int} {A : Int → Prop} (h : Wd N S) (htk : ∀ j, tk N' j = tk N j) (hout : ∀ j, ¬ A j → nd N' j = nd N j) (hA : ∀ j, A j → tk N j = true) (hcl : ∀ j x, A j → x ∈ S j → A x)
    (hS : ∀ j, ¬ A j → S' j = S j) (hin : ∀ j, A j → (∃ t, t.seq = S' j ∧ Good N' t) ∧ j ∈ S' j ∧ ∀ x ∈ S' j, A x ∧ S' x = S' j) : Wd N' S' := by
  have hop : ∀ j x, ¬ A j → x ∈ S j → ¬ A x := fun j x hj hx hx' => hj (hcl x j hx' (by rw [h.same j x hx]; exact h.mem j (h.memTk hx).2))
  refine ⟨fun j hj => ?_, fun j hj => ?_, fun j x hx => ?_, fun j hj => ?_⟩
  · by_cases ha : A j
    · exact (hin j ha).1
    · rw [htk] at hj
      obtain ⟨t, e, g⟩ := h.tree j hj
      exact ⟨t, by rw [hS j ha]; exact e, g.congr htk (fun x hx => hout x (hop j x ha (e ▸ hx)))⟩
  · by_cases ha : A j
    · exact (hin j ha).2.1
    · rw [htk] at hj
      rw [hS j ha]
      exact h.mem j hj
  · by_cases ha : A j
    · exact ((hin j ha).2.2 x hx).2
    · rw [hS j ha] at hx ⊢
      rw [hS x (hop j x ha hx)]
      exact h.same j x hx
  · rw [htk] at hj
    have ha : ¬ A j := fun h' => by rw [hA j h'] at hj; cases hj
    rw [hS j ha]
    exact h.none j hj
def cutS (S : Int → List Int) (i : Int) : Int → List Int := fun j => if j ∈ (S i).take ((S i).idxOf i) then (S i).take ((S i).idxOf i) else if j ∈ (S i).drop ((S i).idxOf i) then (S i).drop ((S i).idxOf i) else S j
def joinB (S : Int → List Int) (i j : Int) : Bool := decide (i ∈ S i) && decide (j ∈ S j) && !decide (j ∈ S i)
def joinS (S : Int → List Int) (i j : Int) : Int → List Int := if joinB S i j = true then fun k => if k ∈ S i ∨ k ∈ S j then S i ++ S j else S k else S
theorem cutS_none {S : Int → List Int} {i : Int} (h : S i = []) : cutS S i = S := by funext j; unfold cutS; rw [h]; simp
theorem cutS_mid {S : Int → List Int} {i : Int} {a b : List Int} (h : S i = a ++ i :: b) (hn : i ∉ a) : cutS S i = fun j => if j ∈ a then a else if j ∈ i :: b then i :: b else S j := by
  funext j; unfold cutS; rw [h, idx_mid hn, List.take_left, List.drop_left]
section
variable {w : World} {F : Nat → Prop} {B : Nat} {K : List Bool} {fr : List Int} {S : Int → List Int} {V : Int → Vl} {mx : Nat}
theorem tcut_any (h : Tp Xh w F B K fr S V mx) (i : Int) (hb : -2147483648 ≤ i ∧ i ≤ 2147483647) :
    Calls Tryz.prog 131 #[.pointer (some ⟨B, 0, none⟩), .int .i32 i] w fun e w' => e = .returned (.bool (isK K i)) ∧ Tp Xh w' F B K fr (cutS S i) V mx ∧ Step F F w w' := by
  obtain ⟨G, N, d, Fa, h1, h2, h3, h4, h5, h6⟩ := h.ex
  have hN : N.length ≤ 2147483647 := by have := h.klen; rw [← h3, List.length_map] at this; exact this
  have HTp : Hid (Tp Xh w F B K fr S V mx) := h
  have hk : isK K i = tk N i := by rw [tk_isK, h3]
  rw [hk]
  cases hi : tk N i with
  | false =>
    rw [cutS_none (h2.none i hi)]
    have HA := at_un h1 hN hb hi
    clear h h1 h2 h3 h4 h5 h6 hk
    go_enter Tryz.func131, Tryz.ntmps131
    go_wp2_with fail
    refine HA.mono ?_
    rintro e w0 ⟨rfl, rfl⟩
    go_wp2
    go_ret
    exact ⟨rfl, HTp.out, Step.refl _ _⟩
  | true =>
    obtain ⟨t, e, g⟩ := h2.tree i hi
    have hm := h2.mem i hi
    rw [← e] at hm
    obtain ⟨fs, l, r, et⟩ := Tr.find hm
    have hseq : S i = (pre fs ++ l.seq) ++ i :: (r.seq ++ post fs) := by rw [← e, et, plug_seq]; simp [Tr.seq]
    have hnd := h2.nodup i
    rw [hseq] at hnd
    have hni : i ∉ pre fs ++ l.seq := fun h' => (List.nodup_append.1 hnd).2.2 i h' i (by simp) rfl
    have HA := at_tk h1 hN hi
    have HU := unzip_tk h1 hN (et ▸ g)
    rw [cutS_mid hseq hni]
    have FIN : Hid (∀ w' N' a b, Frs Xh d w' Fa B G N' fr → Step Fa Fa w w' → Keeps (fun j => j ∈ (plug fs (.node l i r)).seq) N N' → Good N' a → Good N' b → a.seq = pre fs ++ l.seq → b.seq = i :: r.seq ++ post fs →
        Tp Xh w' F B K fr (fun j => if j ∈ pre fs ++ l.seq then pre fs ++ l.seq else if j ∈ i :: (r.seq ++ post fs) then i :: (r.seq ++ post fs) else S j) V mx ∧ Step F F w w') := fun w' N' a b k1 k2 k3 k4 k5 k6 k7 => by
      refine h.wrote h1 h3 h5 h6 k1 k2 ?_ (by rw [k3.flags]; exact h3) (fun j => (k3.own j).trans (h4 j))
      have hmem : ∀ j, j ∈ (plug fs (.node l i r)).seq ↔ j ∈ S i := fun j => by rw [← et, e]
      refine h2.re (A := fun j => j ∈ S i) k3.tk (fun j hj => k3.out j (fun h' => hj ((hmem j).1 h'))) (fun j hj => (h2.memTk hj).1) (fun j x hj hx => by rw [h2.same i j hj] at hx; exact hx) (fun j hj => ?_) (fun j hj => ?_)
      · rw [hseq] at hj
        rw [if_neg (fun h' => hj (List.mem_append_left _ h')), if_neg (fun h' => hj (List.mem_append_right _ h'))]
      · rw [hseq] at hj
        have hdis : ∀ x, x ∈ i :: (r.seq ++ post fs) → x ∉ pre fs ++ l.seq := fun x h1 h2 => (List.nodup_append.1 hnd).2.2 x h2 x h1 rfl
        by_cases ha : j ∈ pre fs ++ l.seq
        · simp only [if_pos ha]
          exact ⟨⟨a, k6, k4⟩, ha, fun x hx => ⟨by rw [hseq]; exact List.mem_append_left _ hx, by rw [if_pos hx]⟩⟩
        · have hb' : j ∈ i :: (r.seq ++ post fs) := (List.mem_append.1 hj).resolve_left ha
          simp only [if_neg ha, if_pos hb']
          exact ⟨⟨b, by rw [k7]; rfl, k5⟩, hb', fun x hx => ⟨by rw [hseq]; exact List.mem_append_right _ hx, by rw [if_neg (hdis x hx), if_pos hx]⟩⟩
    clear h h1 h2 h3 h4 h5 h6 hk e g hm et hseq hnd hni
    go_enter Tryz.func131, Tryz.ntmps131
    go_wp2_with fail
    refine HA.mono ?_
    rintro e w0 ⟨rfl, rfl⟩
    go_wp2_with fail
    refine HU.mono ?_
    rintro e w1 ⟨rfl, N', a, b, k1, k2, k3, k4, k5, k6, k7⟩
    have R0 : Hid _ := FIN.out w1 N' a b k1 k2 k3 k4 k5 k6 k7
    clear FIN HA HU k1 k2 k3 k4 k5 k6 k7
    go_wp2
    go_ret
    exact ⟨rfl, R0.out⟩
theorem tjoin_any (h : Tp Xh w F B K fr S V mx) (i j : Int) (hb : -2147483648 ≤ i ∧ i ≤ 2147483647) (hc : -2147483648 ≤ j ∧ j ≤ 2147483647) :
    Calls Tryz.prog 139 #[.pointer (some ⟨B, 0, none⟩), .int .i32 i, .int .i32 j] w fun e w' => e = .returned (.bool (joinB S i j)) ∧ Tp Xh w' F B K fr (joinS S i j) V mx ∧ Step F F w w' := by
  have HTp : Hid (Tp Xh w F B K fr S V mx) := h
  by_cases hj : joinB S i j = true
  · rw [hj]
    unfold joinB at hj
    simp only [Bool.and_eq_true, decide_eq_true_eq, Bool.not_eq_true', decide_eq_false_iff_not] at hj
    obtain ⟨⟨hi1, hj1⟩, hij⟩ := hj
    rw [show joinS S i j = fun k => if k ∈ S i ∨ k ∈ S j then S i ++ S j else S k by unfold joinS; rw [if_pos (by unfold joinB; simp [hi1, hj1, hij])]]
    obtain ⟨G, N, d, Fa, h1, h2, h3, h4, h5, h6⟩ := h.ex
    have hN : N.length ≤ 2147483647 := by have := h.klen; rw [← h3, List.length_map] at this; exact this
    obtain ⟨ta, ea, ga⟩ := h2.tree i (h2.memTk hi1).1
    obtain ⟨tb, eb, gb⟩ := h2.tree j (h2.memTk hj1).1
    have na : ta ≠ .nil := fun e0 => by rw [e0] at ea; rw [← ea] at hi1; simp [Tr.seq] at hi1
    have nb : tb ≠ .nil := fun e0 => by rw [e0] at eb; rw [← eb] at hj1; simp [Tr.seq] at hj1
    have HR1 := root_tk h1 hN ga (by rw [ea]; exact hi1)
    have HR2 := root_tk h1 hN gb (by rw [eb]; exact hj1)
    have HM1 := rightmost_tk h1 hN ga.hang ga.all na
    have HM2 := leftmost_tk h1 hN gb.hang gb.all nb
    have hdis : ∀ x, x ∈ S i → x ∉ S j := fun x hx hx' => hij (by rw [← h2.same i x hx, h2.same j x hx']; exact hj1)
    have hnd : (S i ++ S j).Nodup := List.nodup_append.2 ⟨h2.nodup i, h2.nodup j, fun x hx y hy e => hdis x hx (e ▸ hy)⟩
    have hall : AllTk N (S i ++ S j) := fun x hx => by
      rcases List.mem_append.1 hx with hx | hx
      · exact (h2.memTk hx).1
      · exact (h2.memTk hx).1
    obtain ⟨ls, el, l1, l2⟩ := Tr.last ta
    obtain ⟨rs, er, r1, r2⟩ := Tr.first tb
    have hls : pre ls = S i := by have := plug_seq ls .nil; rw [← el, ea, l2] at this; simpa [Tr.seq] using this.symm
    have hrs : post rs = S j := by have := plug_seq rs .nil; rw [← er, eb, r2] at this; simpa [Tr.seq] using this.symm
    have hl0 : ls ≠ [] := fun e0 => by rw [e0] at hls; rw [← hls] at hi1; simp [pre] at hi1
    have hr0 : rs ≠ [] := fun e0 => by rw [e0] at hrs; rw [← hrs] at hj1; simp [post] at hj1
    have ul : ta.seq.getLastD 0 = upOf ls := by
      cases ls with
      | nil => exact absurd rfl hl0
      | cons f ls =>
        obtain ⟨fd, k, s⟩ := f
        obtain rfl : fd = false := l1 ⟨fd, k, s⟩ List.mem_cons_self
        rw [ea, ← hls]
        exact List.getLastD_concat
    have ur : tb.seq.headD 0 = upOf rs := by
      cases rs with
      | nil => exact absurd rfl hr0
      | cons f rs =>
        obtain ⟨fd, k, s⟩ := f
        obtain rfl : fd = true := r1 ⟨fd, k, s⟩ List.mem_cons_self
        rw [eb, ← hrs]
        rfl
    rw [ul] at HM1
    rw [ur] at HM2
    have hz : Zp (S i ++ S j) N N ls rs .nil := ⟨⟨_, (Hang.path (el ▸ ga.hang)).1⟩, ⟨_, (Hang.path (er ▸ gb.hang)).1⟩, l1, r1, ⟨0, trivial, fun _ _ => rfl⟩, by rw [hls, hrs]; simp [Tr.seq], l2, r2, Keeps.refl _ _⟩
    have HZ := zip_tk h1 hN hz hl0 hnd hall
    have t1 : (ta.top == 0) = false := by simpa using tk_ne (ga.all _ (Tr.top_mem na))
    have t2 : (tb.top == 0) = false := by simpa using tk_ne (gb.all _ (Tr.top_mem nb))
    have t3 : (ta.top == tb.top) = false := by
      simp only [beq_eq_false_iff_ne]
      intro e0
      exact hdis ta.top (ea ▸ Tr.top_mem na) (by rw [e0, ← eb]; exact Tr.top_mem nb)
    have FIN : Hid (∀ w' N' t, Frs Xh d w' Fa B G N' fr → Step Fa Fa w w' → Keeps (fun x => x ∈ S i ++ S j) N N' → Good N' t → t.seq = S i ++ S j → Tp Xh w' F B K fr (fun k => if k ∈ S i ∨ k ∈ S j then S i ++ S j else S k) V mx ∧ Step F F w w') := fun w' N' t k1 k2 k3 k4 k5 => by
      refine h.wrote h1 h3 h5 h6 k1 k2 ?_ (by rw [k3.flags]; exact h3) (fun x => (k3.own x).trans (h4 x))
      refine h2.re (A := fun x => x ∈ S i ∨ x ∈ S j) k3.tk (fun x hx => k3.out x (fun h' => hx (List.mem_append.1 h'))) (fun x hx => hx.elim (fun h' => (h2.memTk h').1) (fun h' => (h2.memTk h').1)) (fun x y hx hy => ?_) (fun x hx => by rw [if_neg hx]) (fun x hx => ?_)
      · rcases hx with hx | hx
        · left; rw [h2.same i x hx] at hy; exact hy
        · right; rw [h2.same j x hx] at hy; exact hy
      · simp only [if_pos hx]
        exact ⟨⟨t, k5, k4⟩, List.mem_append.2 hx, fun y hy => ⟨List.mem_append.1 hy, by rw [if_pos (List.mem_append.1 hy)]⟩⟩
    clear h h1 h2 h3 h4 h5 h6 hdis hnd hall el l1 l2 er r1 r2 hls hrs hl0 hr0 ul ur hz ea eb ga gb na nb hi1 hj1 hij
    generalize ta.top = xa at *
    generalize tb.top = xb at *
    generalize upOf ls = ua at *
    generalize upOf rs = ub at *
    go_enter Tryz.func139, Tryz.ntmps139
    go_wp2_with fail
    refine HR1.mono ?_
    rintro e w0 ⟨rfl, rfl⟩
    go_wp2_with fail
    refine HR2.mono ?_
    rintro e w1 ⟨rfl, rfl⟩
    go_wp2_with fail
    refine HM1.mono ?_
    rintro e w2 ⟨rfl, rfl⟩
    go_wp2_with fail
    refine HM2.mono ?_
    rintro e w3 ⟨rfl, rfl⟩
    go_wp2_with fail
    refine HZ.mono ?_
    rintro e w4 ⟨rfl, N', t, k1, k2, k3, k4, k5⟩
    have R0 : Hid _ := FIN.out w4 N' t k1 k2 k3 k4 k5
    clear FIN HR1 HR2 HM1 HM2 HZ k1 k2 k3 k4 k5
    go_wp2
    go_ret
    exact ⟨rfl, R0.out⟩
  · rw [show joinS S i j = S from if_neg hj, show joinB S i j = false by simpa using hj]
    have key : ∃ x y : Int, Calls Tryz.prog 116 #[.pointer (some ⟨B, 0, none⟩), .int .i32 i] w (fun e w' => e = .returned (.int .i32 x) ∧ w' = w) ∧ Calls Tryz.prog 116 #[.pointer (some ⟨B, 0, none⟩), .int .i32 j] w (fun e w' => e = .returned (.int .i32 y) ∧ w' = w) ∧ (x = 0 ∨ y = 0 ∨ x = y) := by
      by_cases hij : j ∈ S i
      · obtain ⟨G, N, d, Fa, h1, h2, h3, h4, h5, h6⟩ := h.ex
        have hN : N.length ≤ 2147483647 := by have := h.klen; rw [← h3, List.length_map] at this; exact this
        obtain ⟨t1, t2⟩ := h2.memTk hij
        obtain ⟨t, e, g⟩ := h2.tree i t2
        exact ⟨t.top, t.top, root_tk h1 hN g (by rw [e]; exact h2.mem i t2), root_tk h1 hN g (by rw [e]; exact hij), .inr (.inr rfl)⟩
      · obtain ⟨x, a1, _, _, _, a2, _⟩ := h.root i hb
        obtain ⟨y, b1, _, _, _, b2, _⟩ := h.root j hc
        refine ⟨x, y, a1, b1, ?_⟩
        cases hi : isK K i with
        | false => exact .inl (a2 (h.nil.1 hi))
        | true =>
          cases hj' : isK K j with
          | false => exact .inr (.inl (b2 (h.nil.1 hj')))
          | true => exact absurd (by unfold joinB; simp [h.mem.1 hi, h.mem.1 hj', hij]) hj
    obtain ⟨x, y, HR1, HR2, hxy⟩ := key
    clear h hj
    by_cases hx : x = 0
    · subst hx
      clear hxy
      go_enter Tryz.func139, Tryz.ntmps139
      go_wp2_with fail
      refine HR1.mono ?_
      rintro e w0 ⟨rfl, rfl⟩
      go_wp2_with fail
      refine HR2.mono ?_
      rintro e w1 ⟨rfl, rfl⟩
      go_wp2
      go_ret
      exact ⟨rfl, HTp.out, Step.refl _ _⟩
    · have hx' : (x == 0) = false := by simpa using hx
      by_cases hy : y = 0
      · subst hy
        clear hxy
        go_enter Tryz.func139, Tryz.ntmps139
        go_wp2_with fail
        refine HR1.mono ?_
        rintro e w0 ⟨rfl, rfl⟩
        go_wp2_with fail
        refine HR2.mono ?_
        rintro e w1 ⟨rfl, rfl⟩
        go_wp2
        go_ret
        exact ⟨rfl, HTp.out, Step.refl _ _⟩
      · have hy' : (y == 0) = false := by simpa using hy
        obtain rfl : x = y := by omega
        clear hxy
        go_enter Tryz.func139, Tryz.ntmps139
        go_wp2_with fail
        refine HR1.mono ?_
        rintro e w0 ⟨rfl, rfl⟩
        go_wp2_with fail
        refine HR2.mono ?_
        rintro e w1 ⟨rfl, rfl⟩
        go_wp2
        go_ret
        exact ⟨rfl, HTp.out, Step.refl _ _⟩
end
end Go.Proofs.YtlmdjghcmofdlaaGreat
namespace Go.Proofs.YtlmdjghcmofdlaaGreat
open Go.RowKit
set_option linter.unusedVariables false
variable {Xh : Hx}
def updV (V : Int → Vl) (i : Int) (x : Vl) : Int → Vl := fun j => if j = i then x else V j
theorem join_seq (f : Fm) (p : Tr) : (f.join p).seq = cond f.d (p.seq ++ f.k :: f.s.seq) (f.s.seq ++ f.k :: p.seq) := by obtain ⟨d, k, s⟩ := f; cases d <;> rfl
theorem treeK {N : List Nt} {f : Fm} {p : Tr} (hp : Hang (nd N) f.k p) (hs : Hang (nd N) f.k f.s) (c1 : cond f.d (nd N f.k).l (nd N f.k).r = p.top) (c2 : cond f.d (nd N f.k).r (nd N f.k).l = f.s.top) (hn : (f.join p).seq.Nodup) (ha : AllTk N (f.join p).seq) (hN : N.length ≤ 2147483647) :
    (tk N f.k = true ∧ okI N (nd N f.k).l ∧ okI N (nd N f.k).r ∧ (0 ≤ szOf N (nd N f.k).l ∧ szOf N (nd N f.k).l ≤ 2147483647) ∧ (0 ≤ szOf N (nd N f.k).r ∧ szOf N (nd N f.k).r ≤ 2147483647)) ∧
      Hang (nd (reckN N f.k)) (nd N f.k).u (f.join p) ∧ (∀ j, j ≠ f.k → nd (reckN N f.k) j = nd N j) ∧ (∀ j, tk (reckN N f.k) j = tk N j) ∧ (reckN N f.k).length = N.length ∧ (∀ j, (nd (reckN N f.k) j).own = (nd N j).own) ∧ (nd (reckN N f.k) f.k).u = (nd N f.k).u := by
  obtain ⟨d, k, s⟩ := f
  simp only at hp hs c1 c2
  rw [join_seq] at hn ha
  have hap : AllTk N p.seq := fun j hj => ha j (by cases d <;> simp [hj])
  have has : AllTk N s.seq := fun j hj => ha j (by cases d <;> simp [hj])
  have hk : tk N k = true := ha k (by cases d <;> simp)
  have hkp : k ∉ p.seq ∧ k ∉ s.seq ∧ p.seq.Nodup ∧ s.seq.Nodup := by
    cases d with
    | true =>
      have h1 := List.nodup_append.1 hn
      have h2 := List.nodup_cons.1 h1.2.1
      exact ⟨fun h => h1.2.2 k h k (by simp) rfl, h2.1, h1.1, h2.2⟩
    | false =>
      have h1 := List.nodup_append.1 hn
      have h2 := List.nodup_cons.1 h1.2.1
      exact ⟨h2.1, fun h => h1.2.2 k h k (by simp) rfl, h2.2, h1.1⟩
  obtain ⟨po, pz, pm⟩ := top_ok hp hap
  obtain ⟨so, sz, sm⟩ := top_ok hs has
  have bp := top_bd hp hap hkp.2.2.1 hN
  have bs := top_bd hs has hkp.2.2.2 hN
  have n1 : nd (reckN N k) = upd (nd N) k ((nd N k).ws (szOf N (nd N k).l + 1 + szOf N (nd N k).r) (tog (tog (smOf N (nd N k).l) (nd N k).own) (smOf N (nd N k).r))) := nd_setN _ hk
  have own1 : ∀ j, (nd (reckN N k) j).own = (nd N j).own := fun j => by
    rw [n1]; unfold upd; split
    · rename_i e; rw [e]; rfl
    · rfl
  have out1 : ∀ j, j ≠ k → nd (reckN N k) j = nd N j := fun j hj => by rw [n1, upd_ne _ _ hj]
  have hp' : Hang (nd (reckN N k)) k p := hp.congr (fun j hj => out1 j (fun e => hkp.1 (e ▸ hj)))
  have hs' : Hang (nd (reckN N k)) k s := hs.congr (fun j hj => out1 j (fun e => hkp.2.1 (e ▸ hj)))
  refine ⟨?_, ?_, out1, tk_setN _ hk, setN_len _ _ _, own1, by rw [n1, upd_at]; rfl⟩
  · cases d with
    | true => simp only [cond_true] at c1 c2; rw [c1, c2]; exact ⟨hk, po, so, bp, bs⟩
    | false => simp only [cond_false] at c1 c2; rw [c1, c2]; exact ⟨hk, so, po, bs, bp⟩
  · cases d with
    | true =>
      simp only [cond_true] at c1 c2
      refine ⟨by rw [n1, upd_at]; rfl, by rw [n1, upd_at]; exact c1, by rw [n1, upd_at]; exact c2, ?_, ?_, hp', hs'⟩
      · rw [n1, upd_at]
        show szOf N (nd N k).l + 1 + szOf N (nd N k).r = _
        rw [c1, c2, pz, sz]; simp [Tr.seq]; omega
      · rw [own_congr (g := nd N) (fun j _ => own1 j), n1, upd_at]
        show tog (tog (smOf N (nd N k).l) (nd N k).own) (smOf N (nd N k).r) = _
        rw [c1, c2, pm, sm, sumV_node]; simp [Tr.seq, own]
    | false =>
      simp only [cond_false] at c1 c2
      refine ⟨by rw [n1, upd_at]; rfl, by rw [n1, upd_at]; exact c2, by rw [n1, upd_at]; exact c1, ?_, ?_, hs', hp'⟩
      · rw [n1, upd_at]
        show szOf N (nd N k).l + 1 + szOf N (nd N k).r = _
        rw [c1, c2, pz, sz]; simp [Tr.seq]; omega
      · rw [own_congr (g := nd N) (fun j _ => own1 j), n1, upd_at]
        show tog (tog (smOf N (nd N k).l) (nd N k).own) (smOf N (nd N k).r) = _
        rw [c1, c2, pm, sm, sumV_node]; simp [Tr.seq, own]
structure St (t : Tr) (N0 N : List Nt) (fs : List Fm) (p : Tr) : Prop where
  sh : plug fs p = t
  path : Path (nd N) fs p.top
  hang : Hang (nd N) (upOf fs) p
  len : N.length = N0.length
  tk : ∀ j, Go.Proofs.YtlmdjghcmofdlaaGreat.tk N j = Go.Proofs.YtlmdjghcmofdlaaGreat.tk N0 j
  own : ∀ j, (nd N j).own = (nd N0 j).own
  out : ∀ j, j ∉ t.seq → nd N j = nd N0 j
theorem St.step {t : Tr} {N0 N : List Nt} {f : Fm} {fs : List Fm} {p : Tr} (h : St t N0 N (f :: fs) p) (hn : t.seq.Nodup) (ha : AllTk N0 t.seq) (hN : N0.length ≤ 2147483647) :
    (Go.Proofs.YtlmdjghcmofdlaaGreat.tk N f.k = true ∧ okI N (nd N f.k).l ∧ okI N (nd N f.k).r ∧ (0 ≤ szOf N (nd N f.k).l ∧ szOf N (nd N f.k).l ≤ 2147483647) ∧ (0 ≤ szOf N (nd N f.k).r ∧ szOf N (nd N f.k).r ≤ 2147483647)) ∧
      St t N0 (reckN N f.k) fs (f.join p) ∧ (nd (reckN N f.k) f.k).u = upOf fs := by
  obtain ⟨h1, h2, h3, h4, h5⟩ := h.path
  have hsh := h.sh
  rw [plug_cons] at hsh
  have hseq := plug_seq fs (f.join p)
  rw [hsh] at hseq
  have hn1 := hn
  rw [hseq] at hn1
  have hn2 := List.nodup_append.1 hn1
  have hn3 := List.nodup_append.1 hn2.1
  have hsub : ∀ j ∈ (f.join p).seq, j ∈ t.seq := fun j hj => by rw [hseq]; simp [hj]
  obtain ⟨t1, t2, t3, t4, t5, t6, t7⟩ := treeK h.hang h3 h1 h2 hn3.2.1 (fun j hj => by rw [h.tk]; exact ha j (hsub j hj)) (by rw [h.len]; exact hN)
  have hkm : f.k ∈ (f.join p).seq := by rw [join_seq]; cases f.d <;> simp
  refine ⟨t1, ⟨hsh, ?_, by rw [← h4]; exact t2, by rw [t5]; exact h.len, fun j => (t4 j).trans (h.tk j), fun j => (t6 j).trans (h.own j), fun j hj => (t3 j (fun e => hj (e ▸ hsub _ hkm))).trans (h.out j hj)⟩, by rw [t7]; exact h4⟩
  rw [join_top]
  refine h5.congr (fun j hj => t3 j (fun e => ?_))
  rcases hj with hj | hj
  · exact hn3.2.2 j hj f.k hkm e
  · exact hn2.2.2 f.k (by simp [hkm]) j hj e.symm
section
variable {w : World} {F : Nat → Prop} {B : Nat} {K : List Bool} {fr : List Int} {S : Int → List Int} {V : Int → Vl} {mx : Nat}
theorem tset_any (h : Tp Xh w F B K fr S V mx) (i : Int) (x : Vl) (hb : -2147483648 ≤ i ∧ i ≤ 2147483647) :
    Calls Tryz.prog 136 #[.pointer (some ⟨B, 0, none⟩), .int .i32 i, vlc x] w fun e w' => e = .returned (.bool (isK K i)) ∧ Tp Xh w' F B K fr S (if isK K i = true then updV V i x else V) mx ∧ Step F F w w' := by
  have hb1 := (Below.refl w.heap.size w).alloc (Nat.le_refl _) (.cells #[.int .i64 x.c, .int .i64 x.s, .int .i64 x.l, .int .u8 x.m] 129)
  have hT := h.below hb1
  have HS0 : Hid (Step F F w _) := Step.of_below hb1
  have hx0 := (Blk.new w 129 #[.int .i64 x.c, .int .i64 x.s, .int .i64 x.l, .int .u8 x.m]).at (j := 0) rfl
  have hx1 := (Blk.new w 129 #[.int .i64 x.c, .int .i64 x.s, .int .i64 x.l, .int .u8 x.m]).at (j := 1) rfl
  have hx2 := (Blk.new w 129 #[.int .i64 x.c, .int .i64 x.s, .int .i64 x.l, .int .u8 x.m]).at (j := 2) rfl
  have hx3 := (Blk.new w 129 #[.int .i64 x.c, .int .i64 x.s, .int .i64 x.l, .int .u8 x.m]).at (j := 3) rfl
  clear h hb1
  obtain ⟨G, N, d, Fa, h1, h2, h3, h4, h5, h6⟩ := hT.ex
  have hN : N.length ≤ 2147483647 := by have := hT.klen; rw [← h3, List.length_map] at this; exact this
  have HTp : Hid _ := hT
  have hk : isK K i = tk N i := by rw [tk_isK, h3]
  rw [hk]
  cases hi : tk N i with
  | false =>
    rw [if_neg (by simp)]
    have HA := at_un h1 hN hb hi
    clear hT h1 h2 h3 h4 h5 h6 hk hx0 hx1 hx2 hx3
    go_enter Tryz.func136, Tryz.ntmps136
    go_wp2_with fail
    refine HA.mono ?_
    rintro e w0 ⟨rfl, rfl⟩
    go_wp2
    go_ret
    exact ⟨rfl, HTp.out, HS0.out⟩
  | true =>
    rw [if_pos rfl]
    obtain ⟨t, e, g⟩ := h2.tree i hi
    have hm := h2.mem i hi
    rw [← e] at hm
    obtain ⟨fs, l, r, et⟩ := Tr.find hm
    have HA := at_tk h1 hN hi
    have c0 := h1.at hi (j := 0) rfl
    have c1 := h1.at hi (j := 1) rfl
    have c2 := h1.at hi (j := 2) rfl
    have c3 := h1.at hi (j := 3) rfl
    have f0 := h1.fz hi (loc i)
    have f1 := h1.fz hi (loc i + 1)
    have f2 := h1.fz hi (loc i + 2)
    have f3 := h1.fz hi (loc i + 3)
    rw [Nat.add_zero] at c0
    obtain ⟨a1, b1⟩ := h1.putOwn hi x
    have n0 : nd (setN N i ((nd N i).wo x)) = upd (nd N) i ((nd N i).wo x) := nd_setN _ hi
    have tk0 : ∀ j, tk (setN N i ((nd N i).wo x)) j = tk N j := tk_setN _ hi
    have hst : St t (setN N i ((nd N i).wo x)) (setN N i ((nd N i).wo x)) (⟨true, i, r⟩ :: fs) l := by
      obtain ⟨hpath, y1, y2, y3, y4, y5, y6, y7⟩ := Hang.path (et ▸ g.hang)
      have hn := g.nodup
      rw [et, plug_seq] at hn
      have hn2 := List.nodup_append.1 hn
      have hn3 := List.nodup_append.1 hn2.1
      have hn4 := List.nodup_append.1 hn3.2.1
      have hn5 := List.nodup_cons.1 hn4.2.1
      refine ⟨et.symm, ⟨?_, ?_, ?_, ?_, ?_⟩, ?_, rfl, fun _ => rfl, fun _ => rfl, fun _ _ => rfl⟩
      · simp only [cond_true]; rw [n0, upd_at]; exact y2
      · simp only [cond_true]; rw [n0, upd_at]; exact y3
      · exact y7.congr (fun j hj => by rw [n0, upd_ne]; exact fun e0 => hn5.1 (e0 ▸ hj))
      · rw [n0, upd_at]; exact y1
      · refine hpath.congr (fun j hj => by
          rw [n0, upd_ne]
          rintro rfl
          rcases hj with hj | hj
          · exact hn3.2.2 j hj j (by simp [Tr.seq]) rfl
          · exact hn2.2.2 j (by simp [Tr.seq]) j hj rfl)
      · exact y6.congr (fun j hj => by rw [n0, upd_ne]; exact fun e0 => hn4.2.2 j hj i (by simp) e0)
    have ND : Hid (t.seq.Nodup) := g.nodup
    have AL : Hid (AllTk (setN N i ((nd N i).wo x)) t.seq) := fun j hj => by rw [tk0]; exact g.all j hj
    have hN0 : (setN N i ((nd N i).wo x)).length ≤ 2147483647 := by rw [setN_len]; exact hN
    have FIN : Hid (∀ w' N', Frs Xh d w' Fa B G N' fr → Step Fa Fa (w.alloc (.cells #[.int .i64 x.c, .int .i64 x.s, .int .i64 x.l, .int .u8 x.m] 129)) w' → St t (setN N i ((nd N i).wo x)) N' [] t → Tp Xh w' F B K fr S (updV V i x) mx ∧ Step F F w w') := fun w' N' k1 k2 k3 => by
      have hkp : N'.map (·.2) = K := by
        rw [← h3]
        exact flags_of (by rw [k3.len, setN_len]) (fun j => by rw [k3.tk, tk0])
      have hw : Wd N' S := by
        refine h2.re (A := fun j => j ∈ S i) (fun j => (k3.tk j).trans (tk0 j)) (fun j hj => ?_) (fun j hj => (h2.memTk hj).1) (fun j y hj hy => by rw [h2.same i j hj] at hy; exact hy) (fun j _ => rfl) (fun j hj => ?_)
        · rw [k3.out j (by rw [e]; exact hj), n0, upd_ne]; exact fun e0 => hj (by rw [e0, ← e]; exact hm)
        · refine ⟨⟨t, by rw [e, h2.same i j hj], k3.hang, fun y hy => by rw [k3.tk]; exact AL.out y hy, g.nodup⟩, ?_, fun y hy => ?_⟩
          · rw [h2.same i j hj]; exact hj
          · rw [h2.same i j hj] at hy ⊢; exact ⟨hy, h2.same i y hy⟩
      have hv : ∀ j, (nd N' j).own = updV V i x j := fun j => by
        rw [k3.own, n0]
        unfold upd updV
        split
        · rfl
        · exact h4 j
      obtain ⟨q1, q2⟩ := hT.wrote h1 h3 h5 h6 k1 k2 hw hkp hv
      exact ⟨q1, HS0.out.trans q2⟩
    have HX : Hid _ := a1
    have HS1 : Hid _ := b1
    have HST : Hid (St t (setN N i ((nd N i).wo x)) (setN N i ((nd N i).wo x)) (⟨true, i, r⟩ :: fs) l) := hst
    clear hT h1 h2 h3 h4 h5 h6 hk e g hm et a1 b1 n0 tk0 hst
    generalize setN N i ((nd N i).wo x) = N0 at *
    go_enter Tryz.func136, Tryz.ntmps136
    go_wp2_with fail
    refine HA.mono ?_
    rintro e w0 ⟨rfl, rfl⟩
    go_wp2_with fail
    generalize hW0 : w.alloc (.cells #[.int .i64 x.c, .int .i64 x.s, .int .i64 x.l, .int .u8 x.m] 129) = w9 at *
    generalize hW1 : (((w9.setCell ⟨G, loc i, none⟩ (.int .i64 x.c)).setCell ⟨G, loc i + 1, none⟩ (.int .i64 x.s)).setCell ⟨G, loc i + 2, none⟩ (.int .i64 x.l)).setCell ⟨G, loc i + 3, none⟩ (.int .u8 x.m) = w8 at *
    clear hx0 hx1 hx2 hx3 c0 c1 c2 c3 f0 f1 f2 f3 HA hW0 hW1
    go_loopg [8] (fs.length + 1) (fun q vk wr => ∃ (gs : List Fm) (p : Tr) (N1 : List Nt), gs.length = q ∧ vk = .int .i32 (upOf gs) ∧ Hid (St t N0 N1 gs p) ∧ Hid (Frs Xh d wr Fa B G N1 fr) ∧ Hid (Step Fa Fa w9 wr))
    case atStart => exact ⟨⟨true, i, r⟩ :: fs, l, N0, rfl, rfl, HST.out, HX.out, HS1.out⟩
    case round =>
      obtain ⟨gs, p, N1, hk, rfl, HZ, HX1, HS2⟩ := hrel
      cases gs with
      | nil =>
        rw [show upOf [] = 0 from rfl]
        have hp : p = t := HZ.out.sh
        have R0 : Hid _ := FIN.out wr N1 HX1.out HS2.out (by have := HZ.out; rw [hp] at this; exact this)
        clear hp hk FIN
        go_wp2
        go_ret
        exact ⟨rfl, R0.out⟩
      | cons f gs =>
        rw [show upOf (f :: gs) = f.k from rfl]
        obtain ⟨⟨q1, q2, q3, q4, q5⟩, z2, z3⟩ := HZ.out.step ND.out AL.out hN0
        have hk0 : (f.k != 0) = true := by simpa using tk_ne q1
        have hN1 : N1.length ≤ 2147483647 := by rw [HZ.out.len]; exact hN0
        have HR := reckon_any HX1.out hN1 q1 q2 q3 q4 q5
        have hk2 : tk (reckN N1 f.k) f.k = true := by rw [show tk (reckN N1 f.k) f.k = tk N1 f.k from tk_setN _ q1 _]; exact q1
        have hl2 : (reckN N1 f.k).length ≤ 2147483647 := by unfold reckN; rw [setN_len]; exact hN1
        have HA2 : Hid (∀ w', Frs Xh d w' Fa B G (reckN N1 f.k) fr → Calls Tryz.prog 121 #[.pointer (some ⟨B, 0, none⟩), .int .i32 f.k] w' (fun e w'' => e = .returned (.pointer (some ⟨G, loc f.k, none⟩)) ∧ w'' = w') ∧ w'.cell? ⟨G, loc f.k + 12, none⟩ = some (.int .i32 (upOf gs))) :=
          fun w' h' => ⟨at_tk h' hl2 hk2, by rw [← z3]; exact h'.at hk2 (j := 12) rfl⟩
        have HZ2 : Hid _ := z2
        have A0 : Hid (gs.length + 1 = gk) := hk
        rw [show setN N1 f.k ((nd N1 f.k).ws (szOf N1 (nd N1 f.k).l + 1 + szOf N1 (nd N1 f.k).r) (tog (tog (smOf N1 (nd N1 f.k).l) (nd N1 f.k).own) (smOf N1 (nd N1 f.k).r))) = reckN N1 f.k from rfl] at HR
        clear q1 q2 q3 q4 q5 z2 z3 hk hk2 hl2 HZ
        go_wp2_with fail
        refine HR.mono ?_
        rintro e w2 ⟨rfl, a2, b2⟩
        obtain ⟨H2, u2⟩ := HA2.out w2 a2
        have HX2 : Hid _ := a2
        have HS3 : Hid (Step Fa Fa w9 w2) := HS2.out.trans b2
        clear a2 b2 HR HX1 HS2 HA2
        go_wp2_with fail
        refine H2.mono ?_
        rintro e w3 ⟨rfl, rfl⟩
        go_wp2
        go_roundg gs.length
        case measure => have := A0.out; omega
        case rel => exact ⟨gs, f.join p, reckN N1 f.k, rfl, rfl, HZ2.out, HX2.out, HS3.out⟩
end
end Go.Proofs.YtlmdjghcmofdlaaGreat
namespace Go.Proofs.YtlmdjghcmofdlaaGreat
open Go.RowKit
set_option linter.unusedVariables false
variable {Xh : Hx}
def fdS (V : Int → Vl) (l : List Int) (mask : Int) : Int := (l.find? fun j => hasB (V j).m mask).getD 0
section
variable {w : World} {F : Nat → Prop} {B : Nat} {K : List Bool} {fr : List Int} {S : Int → List Int} {V : Int → Vl} {mx : Nat}
theorem tget_any (h : Tp Xh w F B K fr S V mx) (i : Int) (hb : -2147483648 ≤ i ∧ i ≤ 2147483647) :
    Calls Tryz.prog 135 #[.pointer (some ⟨B, 0, none⟩), .int .i32 i] w fun e w' => e = .returned (.tuple #[vlc (if isK K i = true then V i else zeV), .bool (isK K i)]) ∧ Below w.heap.size w w' := by
  obtain ⟨G, N, d, Fa, h1, h2, h3, h4, h5, h6⟩ := h.ex
  have hN : N.length ≤ 2147483647 := by have := h.klen; rw [← h3, List.length_map] at this; exact this
  have hb1 := (Below.refl w.heap.size w).alloc (Nat.le_refl _) (.cells #[.int .i64 0, .int .i64 0, .int .i64 0, .int .u8 0] 129)
  have hF1 := h1.below hb1
  rw [← h3, ← tk_isK, ← h4]
  clear h h1 h2 h3 h4 h5 h6
  cases hi : tk N i with
  | false =>
    rw [if_neg (by simp)]
    have HA := at_un hF1 hN hb hi
    clear hF1 hb1
    go_enter Tryz.func135, Tryz.ntmps135
    go_wp2_with fail
    refine HA.mono ?_
    rintro e w0 ⟨rfl, rfl⟩
    go_wp2
    go_returns
    exact ⟨rfl, (Below.refl _ _).alloc (Nat.le_refl _) _⟩
  | true =>
    rw [if_pos rfl]
    have HA := at_tk hF1 hN hi
    have c0 := hF1.at hi (j := 0) rfl
    have c1 := hF1.at hi (j := 1) rfl
    have c2 := hF1.at hi (j := 2) rfl
    have c3 := hF1.at hi (j := 3) rfl
    rw [Nat.add_zero] at c0
    clear hF1 hb1
    go_enter Tryz.func135, Tryz.ntmps135
    go_wp2_with fail
    refine HA.mono ?_
    rintro e w0 ⟨rfl, rfl⟩
    go_wp2
    go_returns
    exact ⟨rfl, (Below.refl _ _).alloc (Nat.le_refl _) _⟩
end
end Go.Proofs.YtlmdjghcmofdlaaGreat
namespace Go.Proofs.YtlmdjghcmofdlaaGreat
open Go.RowKit
set_option linter.unusedVariables false
variable {Xh : Hx}
theorem find_app {α : Type} {p : α → Bool} {a b : List α} (h : a.any p = true) : (a ++ b).find? p = a.find? p := by
  rw [List.find?_append]
  obtain ⟨x, h1, h2⟩ := List.any_eq_true.1 h
  have := List.find?_isSome.2 ⟨x, h1, h2⟩
  obtain ⟨y, hy⟩ := Option.isSome_iff_exists.1 this
  rw [hy]; rfl
theorem find_none' {α : Type} {p : α → Bool} {a b : List α} (h : a.any p = false) : (a ++ b).find? p = b.find? p := by
  rw [List.find?_append]
  rw [List.find?_eq_none.2 (fun x hx => by have := List.any_eq_false.1 h x hx; simpa using this)]
  rfl
theorem fldM (a b c d : Value) (w : World) : Sem.run Tryz.prog (Instr.field 129 (.agg #[a, b, c, d]) 3) w = .ok d w := by kernel_rfl
theorem fldV (Z : Vl) (w : World) : Sem.run Tryz.prog (Instr.field 129 (vlc Z) 3) w = .ok (.int .u8 Z.m) w := fldM _ _ _ _ w
section
variable {w : World} {F : Nat → Prop} {B : Nat} {K : List Bool} {fr : List Int} {S : Int → List Int} {V : Int → Vl} {mx : Nat}
theorem own_V {N : List Nt} {V : Int → Vl} (h : ∀ i, (nd N i).own = V i) (xs : List Int) : own (nd N) xs = xs.map V := List.map_congr_left (fun j _ => h j)
theorem tfind_any (h : Tp Xh w F B K fr S V mx) (i : Int) (mask : Int) (hb : -2147483648 ≤ i ∧ i ≤ 2147483647) (hmk : 0 ≤ mask ∧ mask ≤ 255) :
    Calls Tryz.prog 134 #[.pointer (some ⟨B, 0, none⟩), .int .i32 i, .int .u8 mask] w fun e w' => e = .returned (.int .i32 (fdS V (S i) mask)) ∧ Below w.heap.size w w' := by
  cases hany : (S i).any fun j => hasB (V j).m mask with
  | false =>
    rw [show fdS V (S i) mask = 0 by unfold fdS; rw [List.find?_eq_none.2 (fun x hx => by have := List.any_eq_false.1 hany x hx; simpa using this)]; rfl]
    obtain ⟨x, h1, _, h2, _⟩ := h.root i hb
    have hz : hasB (sumV ((S i).map V)).m mask = false := by rw [sumV_mark, List.any_map]; exact hany
    have hz' : (bits BinOp.and IntKind.u8 (sumV ((S i).map V)).m mask == 0) = true := by unfold hasB at hz; simpa using hz
    generalize sumV ((S i).map V) = Z at *
    have X2 : Hid (∀ w1, Below w.heap.size w w1 → Calls Tryz.prog 124 #[.pointer (some ⟨B, 0, none⟩), .int .i32 x] w1 (fun e w' => e = .returned (vlc Z) ∧ Below w1.heap.size w1 w')) := h2
    have hfl := fldV
    clear h hany h2 hz
    go_enter Tryz.func134, Tryz.ntmps134
    go_wp2_with fail
    refine h1.mono ?_
    rintro e w0 ⟨rfl, rfl⟩
    go_wp2_with fail
    refine (X2.out _ (Below.refl _ _)).mono ?_
    rintro e w1 ⟨rfl, hb1⟩
    go_wp2
    go_ret
    exact ⟨rfl, hb1⟩
  | true =>
    obtain ⟨G, N, d, Fa, h1, h2, h3, h4, h5, h6⟩ := h.ex
    have hN : N.length ≤ 2147483647 := by have := h.klen; rw [← h3, List.length_map] at this; exact this
    have hi : tk N i = true := h2.ne.1 (fun e => by rw [e] at hany; simp at hany)
    obtain ⟨t, e, g⟩ := h2.tree i hi
    have hm := h2.mem i hi
    have ht0 : t ≠ .nil := fun e0 => by rw [e0] at e; rw [← e] at hm; simp [Tr.seq] at hm
    rw [← e] at hany ⊢
    have HR := root_tk h1 hN g (by rw [e]; exact hm)
    have HA : Hid (∀ w1, Below w.heap.size w w1 → ∀ j, tk N j = true → Calls Tryz.prog 121 #[.pointer (some ⟨B, 0, none⟩), .int .i32 j] w1 fun e w' => e = .returned (.pointer (some ⟨G, loc j, none⟩)) ∧ w' = w1) := fun w1 hb1 j hj => at_tk (h1.below hb1) hN hj
    have HM : Hid (∀ w1, Below w.heap.size w w1 → ∀ (p : Tr) (q : Int), Hang (nd N) q p → AllTk N p.seq → Calls Tryz.prog 124 #[.pointer (some ⟨B, 0, none⟩), .int .i32 p.top] w1 fun e w' => e = .returned (vlc (sumV (p.seq.map V))) ∧ Below w1.heap.size w1 w') := fun w1 hb1 p q hp ha => by
      obtain ⟨o1, _, o3⟩ := top_ok hp ha
      have := sum_any (h1.below hb1) hN o1
      rwa [o3, own_V h4] at this
    have HU : Hid (∀ w1, Below w.heap.size w w1 → ∀ j, tk N j = true → w1.cell? ⟨G, loc j + 10, none⟩ = some (.int .i32 (nd N j).l) ∧ w1.cell? ⟨G, loc j + 11, none⟩ = some (.int .i32 (nd N j).r) ∧ w1.cell? ⟨G, loc j + 3, none⟩ = some (.int .u8 (V j).m)) :=
      fun w1 hb1 j hj => ⟨(h1.below hb1).at hj rfl, (h1.below hb1).at hj rfl, by rw [← h4]; exact (h1.below hb1).at hj rfl⟩
    have HB : ∀ (xs : List Int), xs.any (fun j => hasB (V j).m mask) = true → (bits BinOp.and IntKind.u8 (sumV (xs.map V)).m mask == 0) = false ∧ (bits BinOp.and IntKind.u8 (sumV (xs.map V)).m mask != 0) = true := fun xs hx => by
      have hz : hasB (sumV (xs.map V)).m mask = true := by rw [sumV_mark, List.any_map]; exact hx
      unfold hasB at hz
      exact ⟨by simpa using hz, hz⟩
    have HB' : ∀ (xs : List Int), xs.any (fun j => hasB (V j).m mask) = false → (bits BinOp.and IntKind.u8 (sumV (xs.map V)).m mask != 0) = false := fun xs hx => by
      have hz : hasB (sumV (xs.map V)).m mask = false := by rw [sumV_mark, List.any_map]; exact hx
      unfold hasB at hz
      exact hz
    have HBB : Hid _ := HB
    have HBB' : Hid _ := HB'
    have HT : Hid (Hang (nd N) 0 t ∧ AllTk N t.seq ∧ t ≠ .nil ∧ t.seq.any (fun j => hasB (V j).m mask) = true) := ⟨g.hang, g.all, ht0, hany⟩
    have hz1 := (HB t.seq hany).1
    have HM0 := HM.out w (Below.refl _ _) t 0 g.hang g.all
    generalize hfd : fdS V t.seq mask = z at *
    have HFD : Hid (fdS V t.seq mask = z) := hfd
    have hfl := fldV
    generalize hZ1 : sumV (t.seq.map V) = Z1 at *
    clear h h1 h2 h3 h4 h5 h6 hany hi e g hm ht0 HB HB' hfd hZ1
    go_enter Tryz.func134, Tryz.ntmps134
    go_wp2_with fail
    refine HR.mono ?_
    rintro e w0 ⟨rfl, rfl⟩
    go_wp2_with fail
    refine HM0.mono ?_
    rintro e w1 ⟨rfl, hb1⟩
    have HW : Hid (Below w0.heap.size w0 w1) := hb1
    clear HR HM0 hb1
    go_wp2
    go_loopg [7] t.seq.length (fun q vk wr => ∃ (p : Tr) (y : Int), p.seq.length = q ∧ vk = .int .i32 p.top ∧ Hid (Hang (nd N) y p ∧ AllTk N p.seq ∧ p ≠ .nil ∧ p.seq.any (fun j => hasB (V j).m mask) = true ∧ fdS V p.seq mask = z) ∧ Hid (Below w0.heap.size w0 wr))
    case atStart => exact ⟨t, 0, rfl, rfl, ⟨HT.out.1, HT.out.2.1, HT.out.2.2.1, HT.out.2.2.2, HFD.out⟩, HW.out⟩
    case round =>
      obtain ⟨p, y, hk, rfl, HP, HW1⟩ := hrel
      obtain ⟨e1, e2, e3, e4, e5⟩ := HP.out
      cases p with
      | nil => exact absurd rfl e3
      | node l k r =>
        have hm : tk N k = true := e2 k (by simp [Tr.seq])
        obtain ⟨x1, x2, x3, x4, x5, x6, x7⟩ := e1
        have aL : AllTk N l.seq := fun j hj => e2 j (by rw [Tr.seq]; simp [hj])
        have aR : AllTk N r.seq := fun j hj => e2 j (by rw [Tr.seq]; simp [hj])
        rw [show (Tr.node l k r).top = k from rfl]
        have HAk := HA.out wr HW1.out k hm
        obtain ⟨u1, u2, u3⟩ := HU.out wr HW1.out k hm
        rw [x2] at u1
        rw [x3] at u2
        have HML := HM.out wr HW1.out l k x6 aL
        rw [Tr.seq] at e4 e5
        have HI : Hid (tk N k = true) := hm
        cases hL : l.seq.any (fun j => hasB (V j).m mask) with
        | true =>
          have hz := (HBB.out _ hL).2
          have ln : l ≠ .nil := fun e0 => by rw [e0] at hL; simp [Tr.seq] at hL
          have A0 : Hid (l.seq.length < gk ∧ Hang (nd N) k l ∧ AllTk N l.seq ∧ l ≠ .nil ∧ l.seq.any (fun j => hasB (V j).m mask) = true ∧ fdS V l.seq mask = z) :=
            ⟨by rw [← hk, Tr.seq]; simp <;> omega, x6, aL, ln, hL, by rw [← e5]; unfold fdS; rw [find_app hL]⟩
          have HX2 : Hid ((nd N k).l = l.top) := x2
          generalize sumV (l.seq.map V) = Z2 at *
          clear e2 e3 e4 e5 x1 x2 x3 x4 x5 x6 x7 aL aR hk hm HP hL u2 u3
          go_wp2_with fail
          refine HAk.mono ?_
          rintro e w2 ⟨rfl, rfl⟩
          go_wp2_with fail
          refine HML.mono ?_
          rintro e w3 ⟨rfl, hb3⟩
          have hb4 := below_step HW1.out hb3 (Nat.le_refl _)
          have u1' := (HU.out w3 hb4 k HI.out).1
          rw [HX2.out] at u1'
          have HW4 : Hid _ := hb4
          clear hb3 hb4
          go_wp2
          obtain ⟨a1, a2⟩ := A0.out
          go_roundg l.seq.length
          case measure => exact a1
          case rel => exact ⟨l, k, rfl, rfl, a2, HW4.out⟩
        | false =>
          have hz := HBB'.out _ hL
          have e4' := e4
          rw [List.any_append, hL, Bool.false_or, List.any_cons] at e4'
          have e5' : fdS V (k :: r.seq) mask = z := by rw [← e5]; unfold fdS; rw [find_none' hL]
          generalize sumV (l.seq.map V) = Z2 at *
          cases hK : hasB (V k).m mask with
          | true =>
            have hz3 : (bits BinOp.and IntKind.u8 (V k).m mask != 0) = true := hK
            have A0 : Hid (k = z) := by show _ = _; rw [← e5']; unfold fdS; rw [List.find?_cons_of_pos (by exact hK)]; rfl
            clear e2 e3 e4 e5 x1 x2 x3 x4 x5 x6 x7 aL aR hk hm HP hL u2 e4' e5' hK
            go_wp2_with fail
            refine HAk.mono ?_
            rintro e w2 ⟨rfl, rfl⟩
            go_wp2_with fail
            refine HML.mono ?_
            rintro e w3 ⟨rfl, hb3⟩
            have hb4 := below_step HW1.out hb3 (Nat.le_refl _)
            have u3' := (HU.out w3 hb4 k HI.out).2.2
            have HW4 : Hid _ := hb4
            clear hb3 hb4
            go_wp2
            go_ret
            rw [← A0.out]
            exact ⟨rfl, HW4.out⟩
          | false =>
            rw [hK, Bool.false_or] at e4'
            have hz3 : (bits BinOp.and IntKind.u8 (V k).m mask != 0) = false := hK
            have rn : r ≠ .nil := fun e0 => by rw [e0] at e4'; simp [Tr.seq] at e4'
            have A0 : Hid (r.seq.length < gk ∧ Hang (nd N) k r ∧ AllTk N r.seq ∧ r ≠ .nil ∧ r.seq.any (fun j => hasB (V j).m mask) = true ∧ fdS V r.seq mask = z) :=
              ⟨by rw [← hk, Tr.seq]; simp <;> omega, x7, aR, rn, e4', by rw [← e5']; unfold fdS; rw [List.find?_cons_of_neg (by rw [hK]; simp)]⟩
            have HX3 : Hid ((nd N k).r = r.top) := x3
            clear e2 e3 e4 e5 x1 x2 x3 x4 x5 x6 x7 aL aR hk hm HP hL e4' e5' hK
            go_wp2_with fail
            refine HAk.mono ?_
            rintro e w2 ⟨rfl, rfl⟩
            go_wp2_with fail
            refine HML.mono ?_
            rintro e w3 ⟨rfl, hb3⟩
            have hb4 := below_step HW1.out hb3 (Nat.le_refl _)
            obtain ⟨_, u2', u3'⟩ := HU.out w3 hb4 k HI.out
            rw [HX3.out] at u2'
            have HW4 : Hid _ := hb4
            clear hb3 hb4
            go_wp2
            obtain ⟨a1, a2⟩ := A0.out
            go_roundg r.seq.length
            case measure => exact a1
            case rel => exact ⟨r, k, rfl, rfl, a2, HW4.out⟩
end
end Go.Proofs.YtlmdjghcmofdlaaGreat
