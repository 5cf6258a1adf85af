/- Layer 6 (treap): ways through a tree that change nothing. -/
import Derived.Test.YtcbgeahcnjamdabGreatTreapTree
import Derived.Deep.LoopGhost
namespace Go.Proofs.YtcbgeahcnjamdabGreat
open Go.RowKit
set_option linter.unusedVariables false
variable {Xh : Hx}

def Fm.join (f : Fm) (t : Tr) : Tr := cond f.d (.node t f.k f.s) (.node f.s f.k t)
theorem plug_cons (f : Fm) (fs : List Fm) (t : Tr) : plug (f :: fs) t = plug fs (f.join t) := by obtain ⟨d, k, s⟩ := f; cases d <;> rfl
theorem join_top (f : Fm) (t : Tr) : (f.join t).top = f.k := by obtain ⟨d, k, s⟩ := f; cases d <;> rfl
theorem join_ne (f : Fm) (t : Tr) : f.join t ≠ .nil := by obtain ⟨d, k, s⟩ := f; cases d <;> simp [Fm.join]
theorem plug_mem {fs : List Fm} {t : Tr} {j : Int} (h : j ∈ t.seq) : j ∈ (plug fs t).seq := by rw [plug_seq]; simp [h]
/-- What stands above the top of what is plugged in. -/
theorem plug_up {g : Int → Nd} {fs : List Fm} {t : Tr} (h : Hang g 0 (plug fs t)) (ht : t ≠ .nil) : (g t.top).u = upOf fs := by
  have := (Hang.path h).2
  cases t with
  | nil => exact absurd rfl ht
  | node l i r => exact this.1

/-- A tree, all of whose items are taken. -/
structure Good (N : List Nt) (t : Tr) : Prop where
  hang : Hang (nd N) 0 t
  all : AllTk N t.seq
  nodup : t.seq.Nodup

section
variable {d : Option Addr} {w : World} {F : Nat → Prop} {B G : Nat} {N : List Nt} {fr : List Int}
set_option maxHeartbeats 1000000 in
theorem root_tk (h : Frs Xh d w F B G N fr) (hN : N.length ≤ 2147483647) {i : Int} {t : Tr} (ht : Good N t) (hi : i ∈ t.seq) :
    Calls Tryz.prog 114 #[.pointer (some ⟨B, 0, none⟩), .int .i32 i] w fun e w' => e = .returned (.int .i32 t.top) ∧ w' = w := by
  have HA : Hid (∀ j, tk N j = true → Calls Tryz.prog 119 #[.pointer (some ⟨B, 0, none⟩), .int .i32 j] w fun e w' => e = .returned (.pointer (some ⟨G, loc j, none⟩)) ∧ w' = w) := fun j hj => at_tk h hN hj
  have HU : Hid (∀ j, tk N j = true → w.cell? ⟨G, loc j + 12, none⟩ = some (.int .i32 (nd N j).u)) := fun j hj => h.at hj rfl
  have HT : Hid (Good N t) := ht
  have HI : Hid (tk N i = true) := ht.all i hi
  obtain ⟨fs, l, r, e⟩ := Tr.find hi
  have HE : Hid (t = plug fs (.node l i r)) := e
  clear h ht hi e
  go_enter Tryz.func114, Tryz.ntmps114
  go_wp2_with fail
  refine (HA.out i HI.out).mono ?_
  rintro e w0 ⟨rfl, rfl⟩
  go_wp2
  go_loopg [1, 5] fs.length (fun k vi vn wr => ∃ (gs : List Fm) (p : Tr), gs.length = k ∧ vi = .int .i32 p.top ∧ vn = .pointer (some ⟨G, loc p.top, none⟩) ∧ Hid (t = plug gs p ∧ p ≠ .nil) ∧ wr = w0)
  case atStart => exact ⟨fs, .node l i r, rfl, rfl, rfl, ⟨HE.out, by simp⟩, rfl⟩
  case round =>
    obtain ⟨gs, p, hk, rfl, rfl, HP, rfl⟩ := hrel
    obtain ⟨e1, e2⟩ := HP.out
    have hm : tk N p.top = true := HT.out.all _ (by rw [e1]; exact plug_mem (Tr.top_mem e2))
    have hu := HU.out _ hm
    have hup : (nd N p.top).u = upOf gs := plug_up (by rw [← e1]; exact HT.out.hang) e2
    rw [hup] at hu
    cases gs with
    | nil =>
      rw [show upOf [] = 0 from rfl] at hu
      have A : Aside (t = p) := e1
      clear e1 hup hk hm
      go_wp2
      rw [A.out]
      go_ret
      exact ⟨rfl, rfl⟩
    | cons f gs =>
      rw [show upOf (f :: gs) = f.k from rfl] at hu
      rw [plug_cons] at e1
      have hf : tk N f.k = true := by
        have := HT.out.all (f.join p).top (by rw [e1]; exact plug_mem (Tr.top_mem (join_ne f p)))
        rwa [join_top] at this
      have hf0 : (f.k != 0) = true := by simpa using tk_ne hf
      have A : Aside (t = plug gs (f.join p) ∧ (f :: gs).length = gk) := ⟨e1, hk⟩
      have HF : Hid (tk N f.k = true) := hf
      clear e1 hup hk hm hf e2 HP
      go_wp2_with fail
      refine (HA.out f.k HF.out).mono ?_
      rintro e w1 ⟨rfl, rfl⟩
      go_wp2
      obtain ⟨a1, a2⟩ := A.out
      go_roundg gs.length
      case measure => simp at a2; omega
      case rel => exact ⟨gs, f.join p, rfl, by rw [join_top], by rw [join_top], ⟨a1, join_ne f p⟩, rfl⟩
end
end Go.Proofs.YtcbgeahcnjamdabGreat
