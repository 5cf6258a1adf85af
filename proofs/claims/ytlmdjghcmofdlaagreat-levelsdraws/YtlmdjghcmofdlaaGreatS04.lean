/- Lemmas. -/
import Derived.Test.YtlmdjghcmofdlaaGreatS02
import Derived.Deep.Upon
set_option maxRecDepth 100000
set_option maxHeartbeats 64000000
namespace Go.Proofs.YtlmdjghcmofdlaaGreat
open Go.RowKit
set_option linter.unusedVariables false
structure SrcW (w : World) (size : Nat) (u : Value) (m : Nat) (news : List Value) : Prop where
  ex : ∃ ao c, u = .slice ao m c ∧ (m = 0 ∨ ∃ ad, ao = some ad ∧ ∀ j x, news[j]? = some x → w.cell? (ad.add j) = some x)
  len : news.length = m * size
  one : ∀ x ∈ news, x.oneCell' = true
theorem SrcW.new (w : World) (e : TypeId) (cs : List Value) (h1 : ∀ x ∈ cs, x.oneCell' = true) : SrcW (w.alloc (.cells cs.toArray e)) cs.length (.slice (some ⟨w.heap.size, 0, none⟩) 1 1) 1 cs := by
  refine ⟨⟨_, _, rfl, .inr ⟨_, rfl, fun j x hj => ?_⟩⟩, by simp, h1⟩
  rw [add_eq, Nat.zero_add]
  exact (Blk.new w e cs.toArray).at (by simpa using hj)
section
variable {P : Program} (w : World)
theorem run_append_any (t ty e : TypeId) (i : TypeInfo) (z : Value) (size bytes : Nat) (ht : P.underlying t = some (.slice e)) (hi : P.info? e = some i) (hz : i.zero = some z) (hsize : i.size = size) (hby : i.bytes = bytes) (hzs : z.cells.size = size)
    (v : Value) (n : Nat) (xs : List Value) (hown : RowW w e size v n xs) (u : Value) (m : Nat) (news : List Value) (hs : SrcW w size u m news) (h63 : n + m ≤ maxLen) (hbytes : (n + m) * bytes ≤ 140737488355328) :
    ∃ ao cap w', (Builtin.append_ #[t, t] ty #[v, u]).run P w = .ok (.slice ao (n + m) cap) w' ∧ RowW w' e size (.slice ao (n + m) cap) (n + m) (xs ++ news) ∧ w.grownBy w' v.ownBlock ∧ (∀ q, (Value.slice ao (n + m) cap).ownBlock = some q → v.ownBlock = some q ∨ w.heap.size ≤ q) := by
  obtain ⟨ao, c, rfl, h1⟩ := hs.ex
  by_cases hm : m = 0
  · subst hm
    have hnews : news = [] := List.eq_nil_of_length_eq_zero (by simpa using hs.len)
    subst hnews
    obtain ⟨a0, cap, rfl⟩ := hown.form
    have hle : n ≤ cap := by
      rcases hown.2 with ⟨e0, e1⟩ | ⟨g, cap', cur, e0, _, hh, _⟩
      · omega
      · cases e0; exact hh
    have hsrc : Src P i.size t (.slice ao 0 c) 0 [] w := by
      cases ao with
      | none => exact Src.ofNil w ht c
      | some ad => exact Src.ofSlice w ht ad 0 c [] (by simp) (fun j u hj => by simp at hj) (fun u hu => by cases hu)
    refine ⟨a0, cap, w, run_append_nothing w t t ty e i ht hi a0 n cap hle _ hsrc, by simpa using hown, ⟨rfl, rfl, rfl, Nat.le_refl _, fun _ _ _ => rfl⟩, fun q hq => .inl hq⟩
  · rcases h1 with h1 | ⟨ad, rfl, h2⟩
    · exact absurd h1 hm
    obtain ⟨g, cap, w', hr, g1, g2, g3, g4⟩ := run_append_row (P := P) w t ty e i z size bytes ht hi hz hsize hby hzs v n xs hown ad m c news hs.len h2 hs.one (by omega) h63 hbytes
    exact ⟨_, _, _, hr, g1, g2, fun q hq => by cases hq; exact g3.imp id (fun e => by rw [e]; exact Nat.le_refl _)⟩
theorem step_append_any {ops : Array Oper} {o : Oper} {a : Act} {K : Act → World → Prop} {Q : Exit → Act → World → Prop} {E : Prop} (hgd : o.guard = none) (s x : Operand) (t : TypeId) (ho : o.op = .call { callee := .builtin .append, args := #[s, x], argTypes := #[t, t] })
    (e : TypeId) (i : TypeInfo) (z : Value) (size bytes : Nat) (ht : P.underlying t = some (.slice e)) (hi : P.info? e = some i) (hz : i.zero = some z) (hsize : i.size = size) (hby : i.bytes = bytes) (hzs : z.cells.size = size)
    (v : Value) (n : Nat) (xs : List Value) (hs : a.eval s = v) (hown : RowW w e size v n xs) (u : Value) (m : Nat) (news : List Value) (hx : a.eval x = u) (hsrc : SrcW w size u m news) (N : Nat) (hN : n + m = N) (ys : List Value) (hys : xs ++ news = ys) (h63 : N ≤ maxLen) (hbytes : N * bytes ≤ 140737488355328)
    (h : ∀ ao cap w', RowW w' e size (.slice ao N cap) N ys → w.grownBy w' v.ownBlock → (∀ q, (Value.slice ao N cap).ownBlock = some q → v.ownBlock = some q ∨ w.heap.size ≤ q) → K (a.put o.dst (.slice ao N cap)) w') :
    if Region.wanted o (yielded ops a.tmps) = true then Oper.wp P o a w K Q else E := by
  subst hN hys
  have hw : Region.wanted o (yielded ops a.tmps) = true := by simp [Region.wanted, hgd]
  rw [if_pos hw]
  obtain ⟨ao, cap, w', hr, h2, h3, h4⟩ := run_append_any (P := P) w t o.type e i z size bytes ht hi hz hsize hby hzs v n xs hown u m news hsrc h63 hbytes
  unfold Oper.wp execOp
  simp only [ho, resolve, invoke, builtin, Sem.run_bind, Sem.run_pure, Result.andThen_ok, List.map_toArray, List.map_cons, List.map_nil, hs, hx, hr]
  exact h ao cap w' h2 h3 h4
end
end Go.Proofs.YtlmdjghcmofdlaaGreat
