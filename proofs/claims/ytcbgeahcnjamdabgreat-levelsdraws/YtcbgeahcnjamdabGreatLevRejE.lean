/- Layer 10: a round of rejoin's range. -/
import Derived.Test.YtcbgeahcnjamdabGreatLevRejD
namespace Go.Proofs.YtcbgeahcnjamdabGreat
open Go.RowKit
set_option linter.unusedVariables false
/-- What stays the same while rejoin looks for another edge. -/
structure Rk where
  p : Gp
  B : Nat
  w0 : World
  F0 : Nat → Prop
  on : Int → Prop
  sv : Int → Int
  lv : Int → Int
  S : Int → Prop
  go : Eg
  gl : Int
  n : Int
  D : List Int
  C : Nat
  g0 : Gs
/-- What it rests on. -/
structure RkOk (r : Rk) : Prop where
  d : r.D.Nodup
  c : r.C + 100 ≤ 30000
  n : r.n < 2 ^ r.g0.m
  ne : r.g0.ne ≤ 1000000
  on : r.on r.go.a ∧ r.on r.go.b
  gl : r.gl < r.g0.m
/-- Between the rounds: L the list ranged over, pre what has risen of it, P how far edges may rise. -/
def Rr (r : Rk) (bs : List (Nat × TypeId × Array Value)) (Ds : List Nat) (X : Nat) (i : Nat) (v u : Int) (L : List Int) (P Z : Nat) (pre : List Int) (A : World) : Prop :=
  ∃ F g K, Jz r.p r.B r.w0 r.F0 bs Ds X Z A F g K ∧ Sg r.on r.sv r.lv r.S r.go r.gl r.n r.D r.C i v r.g0 g K ∧ NoTree g.E r.S i v ∧ Jn (Te g.E r.S i) v u ∧ potL g.E g.m r.D + pre.length ≤ P ∧ ∀ f, f ∈ g.s.L (u, (i : Int)) ↔ f ∈ L ∧ f ∉ pre
/-- Behind the round that found one. -/
def Rz (r : Rk) (bs : List (Nat × TypeId × Array Value)) (Ds : List Nat) (X Z : Nat) (A : World) : Prop :=
  ∃ F g K, Jz r.p r.B r.w0 r.F0 bs Ds X Z A F g K ∧ Sf r.on r.sv r.lv r.S r.go r.gl r.n r.D r.C r.g0 g K
section
variable {r : Rk} {bs : List (Nat × TypeId × Array Value)} {Ds : List Nat} {X i : Nat} {v u : Int} {L pre : List Int} {P Z : Nat} {A : World}
theorem Rr.own (r : Rk) (bs : List (Nat × TypeId × Array Value)) (Ds : List Nat) (X i : Nat) (v u : Int) (L : List Int) (P Z : Nat) : OwnIn X Z (Rr r bs Ds X i v u L P Z) := fun pre A A' row ⟨F, g, K, h1, h2⟩ hg hr => ⟨F, g, K, h1.grown hg hr, h2⟩
theorem Rz.own (r : Rk) (bs : List (Nat × TypeId × Array Value)) (Ds : List Nat) (X Z : Nat) : OwnIn X Z (fun (_ : List Int) => Rz r bs Ds X Z) := fun pre A A' row ⟨F, g, K, h1, h2⟩ hg hr => ⟨F, g, K, h1.grown hg hr, h2⟩
theorem Rr.below (h : Rr r bs Ds X i v u L P Z pre A) (hZ : Z ≤ A.heap.size) {A' : World} (hb : Below A.heap.size A A') : Rr r bs Ds X i v u L P Z pre A' ∧ BK X Z A A' := by
  obtain ⟨F, g, K, h1, h2⟩ := h
  obtain ⟨k1, k2⟩ := h1.step hZ (h1.j.gm.below hb) (Step.of_below hb)
  exact ⟨⟨F, g, K, k1, h2⟩, k2⟩
/-- The next edge: whether it leads to the other side; it is bound, or rises. -/
theorem Rr.next (ok : RkOk r) (hi : i < r.g0.m) (hgl : (i : Int) ≤ r.gl) (hL : L.Nodup) (h : Rr r bs Ds X i v u L P Z pre A) (hZ : Z ≤ A.heap.size) {x : Int} (hx : PartOf L (pre ++ [x])) :
    Calls Tryz.prog 59 #[.pointer (some ⟨r.B, 0, none⟩), .int .i64 x, .int .i64 i] A fun e W => ∃ t : Bool, e = .returned (.bool t) ∧ Hid (Rr r bs Ds X i v u L P Z pre W ∧ BK X Z A W) ∧ Z ≤ W.heap.size ∧
      (t = true → Hid (Calls Tryz.prog 60 #[.pointer (some ⟨r.B, 0, none⟩), .int .i64 x] W fun e W' => e = .returned (.tuple #[]) ∧ Rz r bs Ds X Z W' ∧ BK X Z A W')) ∧
      (t = false → Hid (Calls Tryz.prog 61 #[.pointer (some ⟨r.B, 0, none⟩), .int .i64 x] W fun e W' => e = .returned (.tuple #[]) ∧ Rr r bs Ds X i v u L P Z (pre ++ [x]) W' ∧ BK X Z A W')) := by
  obtain ⟨F, g, K, hJ, hS, hN, hj, hp, hl⟩ := h
  have hm : g.m = r.g0.m := hS.ck.m
  have hne : g.ne ≤ 1000000 := by rw [hS.ck.ne]; exact ok.ne
  obtain ⟨t, ht⟩ := hx
  have hnd : (pre ++ [x]).Nodup := by rw [← ht] at hL; exact (List.nodup_append.1 hL).1
  have hxp : x ∉ pre := fun k => by
    have := (List.nodup_append.1 hnd).2.2 x k x (by simp)
    exact this rfl
  have hxL : x ∈ L := by rw [← ht]; simp
  have hxg := (hl x).2 ⟨hxL, hxp⟩
  obtain ⟨y, y1, y2, y3, y4, y5, y6, y7, y8, y9, up⟩ := hS.upLoose ok.d hN (by omega) (by rw [hm]; exact ok.n) hxg hj
  have hpk := hS.pk
  have hc := ok.c
  have he64 := hS.gi.e64 y2
  refine (leads_any hJ.j.gm (by omega) (i := i) (by omega) he64 y2 (hS.gi.b64 y6) (hS.gi.b64 y7)).mono ?_
  rintro e W ⟨⟨t, rfl, ht'⟩, hb⟩
  obtain ⟨hJ1, hk1⟩ := hJ.step hZ (hJ.j.gm.below hb) (Step.of_below hb)
  have hZ1 : Z ≤ W.heap.size := Nat.le_trans hZ hb.size
  refine ⟨t, rfl, ⟨⟨F, g, K, hJ1, hS, hN, hj, hp, hl⟩, hk1⟩, hZ1, fun et => ?_, fun et => ?_⟩
  · have hnj : ¬ Jn (Te g.E r.S i) y.a y.b := fun k => by
      have q := hS.gi.vp_of_jn (i := i) (by omega) k y5
      have := ht'.2 ⟨q.1, q.2, by rw [hS.gi.q i (by omega), qd_jq]; exact k⟩
      rw [et] at this; cases this
    have hm23 := hS.gi.m
    refine (bind_any hJ1.j.gm (by omega) hS.gi y1 y2 y3 (i := i) (by omega) y4 (hS.vs_bind (by omega) hgl y1 y2 y3 y4 hnj) (hS.rp.bind y2 y3 y1 y4 hnj).1 hne).mono ?_
    rintro e W' ⟨rfl, F', g', k1, k2, k3, k4⟩
    obtain ⟨j1, j2⟩ := hJ1.step hZ1 k1 k2
    exact ⟨rfl, ⟨F', g', _, j1, hS.found (by omega) y1 y2 y3 y4 hnj k3 k4⟩, hk1.trans j2⟩
  · obtain ⟨q1, q2, q3⟩ := ht'.1 et
    rw [hS.gi.q i (by omega), qd_jq] at q3
    obtain ⟨u1, u2, u3, u4, u5, u6, u7, u8⟩ := up q3
    refine (riseLoose_any hJ1.j.gm (by omega) hS.gi y1 y2 y3 u1 y4 u2 u3 hne).mono ?_
    rintro e W' ⟨rfl, F', k1, k2⟩
    obtain ⟨j1, j2⟩ := hJ1.step hZ1 k1 k2
    refine ⟨rfl, ⟨F', _, _, j1, u4, u5, u7 u hj, ?_, fun f => ?_⟩, hk1.trans j2⟩
    · rw [riseLooseG_m, List.length_append]
      simp only [List.length_singleton]
      omega
    · rw [u8, hl]
      simp only [List.mem_append, List.mem_singleton, not_or]
      exact and_assoc
end
end Go.Proofs.YtcbgeahcnjamdabGreat
