/- Layer 11 (union) in memory: its readers. -/
import Derived.Test.YtcbgeahcnjamdacProg
import Derived.Test.YtcbgeahcnjamdacUnionPlain
import Derived.OpenShut
import Derived.Laws.Rows
import Derived.Laws.MakeOwn
import Derived.Deep.LoopGhost
import Derived.Deep.RegionHeld3
import Derived.Lib.MinMax
namespace Go.Proofs.Ytcbgeahcnjamdac
open Go.RowKit
set_option linter.unusedVariables false

/-- Whole numbers of a kind in a block. -/
def RowK (t : TypeId) (kd : IntKind) (W : World) (G n : Nat) (A : Nat → Int) : Prop := ∃ cs : Array Value, Blk W G t cs ∧ ∀ i, i < n → cs[i]? = some (.int kd (A i))
section
variable {t : TypeId} {kd : IntKind} {W W' : World} {G n : Nat} {A A' : Nat → Int}
theorem RowK.lt (h : RowK t kd W G n A) : G < W.heap.size := by obtain ⟨cs, h, _⟩ := h; exact h.lt
theorem RowK.at (h : RowK t kd W G n A) {i : Nat} (hi : i < n) : W.cell? ⟨G, i, none⟩ = some (.int kd (A i)) := by obtain ⟨cs, h, k⟩ := h; exact h.at (k i hi)
theorem RowK.frozen (h : RowK t kd W G n A) (o : Nat) : W.frozen? ⟨G, o, none⟩ = false := by obtain ⟨cs, h, k⟩ := h; exact h.frozen o
theorem RowK.kept (h : RowK t kd W G n A) (hb : W'.heap[G]? = W.heap[G]?) : RowK t kd W' G n A := by obtain ⟨cs, h, k⟩ := h; exact ⟨cs, hb.trans h, k⟩
theorem RowK.below (h : RowK t kd W G n A) (hb : Below W.heap.size W W') : RowK t kd W' G n A := h.kept (hb.block _ h.lt)
theorem RowK.other (h : RowK t kd W G n A) {B o : Nat} (u : Value) (hne : G ≠ B) : RowK t kd (W.setCell ⟨B, o, none⟩ u) G n A := h.kept (Below.heap_setCell W ⟨B, o, none⟩ u G hne)
theorem RowK.set (h : RowK t kd W G n A) (i : Nat) (v : Int) : RowK t kd (W.setCell ⟨G, i, none⟩ (.int kd v)) G n (updA A i v) := by
  obtain ⟨cs, h, k⟩ := h
  refine ⟨_, h.setAt i _, fun j hj => ?_⟩
  by_cases e : j = i
  · subst e
    have := (Array.getElem?_eq_some_iff.1 (k j hj)).1
    rw [updA_at, Array.getElem?_setIfInBounds_self_of_lt this]
  · rw [updA_ne _ _ e, Array.getElem?_setIfInBounds_ne (Ne.symm e)]; exact k j hj
theorem RowK.congr (h : RowK t kd W G n A) (e : ∀ i, i < n → A' i = A i) : RowK t kd W G n A' := by
  obtain ⟨cs, h, k⟩ := h
  exact ⟨cs, h, fun i hi => by rw [k i hi, e i hi]⟩
theorem RowK.made (W : World) (t : TypeId) (kd : IntKind) (n : Nat) (z : Int) : RowK t kd (W.alloc (.cells (Array.replicate n (.int kd z)) t)) W.heap.size n (fun _ => z) :=
  ⟨_, Blk.new W t _, fun i hi => by simp [hi]⟩
end
abbrev Row32 (W : World) (G n : Nat) (A : Nat → Int) : Prop := RowK 21 .i32 W G n A

/-- A union's cells. -/
structure UnX (W : World) (B G H n : Nat) (A M : Nat → Int) (s : Int) : Prop where
  blk : Blk W B 39 #[.slice (some ⟨G, 0, none⟩) n n, .slice (some ⟨H, 0, none⟩) n n, .int .i64 s]
  ra : Row32 W G n A
  rm : Row32 W H n M
  ne : B ≠ G ∧ B ≠ H ∧ G ≠ H
/-- A union that New made, in the blocks B, G and H. -/
structure Un (W : World) (B G H : Nat) (L : List Int) : Prop where
  ex : ∃ A M, UnX W B G H L.length A M (setsN L) ∧ Ut L.length A M L
  len : L.length ≤ 4194304
theorem Un.lt {W : World} {B G H : Nat} {L : List Int} (h : Un W B G H L) : B < W.heap.size ∧ G < W.heap.size ∧ H < W.heap.size := by
  obtain ⟨A, M, h, _⟩ := h.ex
  exact ⟨h.blk.lt, h.ra.lt, h.rm.lt⟩
theorem Un.nm {W : World} {B G H : Nat} {L : List Int} (h : Un W B G H L) : Nm L := by
  obtain ⟨A, M, _, h⟩ := h.ex
  exact h.nm
theorem Un.kept {W W' : World} {B G H : Nat} {L : List Int} (h : Un W B G H L) (hb : ∀ k, k = B ∨ k = G ∨ k = H → W'.heap[k]? = W.heap[k]?) : Un W' B G H L := by
  obtain ⟨A, M, h1, h2⟩ := h.ex
  exact ⟨⟨A, M, ⟨(hb B (.inl rfl)).trans h1.blk, h1.ra.kept (hb G (.inr (.inl rfl))), h1.rm.kept (hb H (.inr (.inr rfl))), h1.ne⟩, h2⟩, h.len⟩
theorem Un.below {W W' : World} {B G H : Nat} {L : List Int} (h : Un W B G H L) (hb : Below W.heap.size W W') : Un W' B G H L := by
  obtain ⟨a, b, c⟩ := h.lt
  exact h.kept (fun k hk => hb.block k (by omega))
/-- What a pointer to a union leads to: none, one that New did not make, one that it made. -/
def UV (W : World) (p : Value) (L : List Int) : Prop := (L = [] ∧ (p = .pointer none ∨ ∃ B, p = .pointer (some ⟨B, 0, none⟩) ∧ Blk W B 39 #[.slice none 0 0, .slice none 0 0, .int .i64 0])) ∨ ∃ B G H, p = .pointer (some ⟨B, 0, none⟩) ∧ Un W B G H L
theorem UV.below {W W' : World} {p : Value} {L : List Int} (h : UV W p L) (hb : Below W.heap.size W W') : UV W' p L :=
  h.imp (fun h => ⟨h.1, h.2.imp id fun ⟨B, e, k⟩ => ⟨B, e, k.below hb⟩⟩) (fun ⟨B, G, H, e, k⟩ => ⟨B, G, H, e, k.below hb⟩)
theorem UV.len {W : World} {p : Value} {L : List Int} (h : UV W p L) : L.length ≤ 4194304 := by
  rcases h with ⟨rfl, _⟩ | ⟨B, G, H, _, h⟩
  · simp
  · exact h.len
theorem Un.uv {W : World} {B G H : Nat} {L : List Int} (h : Un W B G H L) : UV W (.pointer (some ⟨B, 0, none⟩)) L := .inr ⟨B, G, H, rfl, h⟩

set_option maxHeartbeats 400000 in
theorem ulen_any {w : World} {p : Value} {L : List Int} (h : UV w p L) : Calls Try.prog 13 #[p] w fun e w' => e = .returned (.int .i64 L.length) ∧ w' = w := by
  rcases h with ⟨rfl, rfl | ⟨B, rfl, h⟩⟩ | ⟨B, G, H, rfl, h⟩
  · go_enter Try.func13, Try.ntmps13
    go_wp2
    go_ret
    exact ⟨rfl, rfl⟩
  · have c0 := h.at (j := 0) rfl
    clear h
    go_enter Try.func13, Try.ntmps13
    go_wp2
    go_ret
    exact ⟨rfl, rfl⟩
  · obtain ⟨A, M, h1, _⟩ := h.ex
    have c0 := h1.blk.at (j := 0) rfl
    clear h h1
    go_enter Try.func13, Try.ntmps13
    go_wp2
    go_ret
    exact ⟨rfl, rfl⟩
set_option maxHeartbeats 400000 in
theorem usets_any {w : World} {p : Value} {L : List Int} (h : UV w p L) : Calls Try.prog 12 #[p] w fun e w' => e = .returned (.int .i64 (setsN L)) ∧ w' = w := by
  rcases h with ⟨rfl, rfl | ⟨B, rfl, h⟩⟩ | ⟨B, G, H, rfl, h⟩
  · rw [setsN_nil]
    go_enter Try.func12, Try.ntmps12
    go_wp2
    go_ret
    exact ⟨rfl, rfl⟩
  · have c0 := h.at (j := 2) rfl
    rw [setsN_nil]
    clear h
    go_enter Try.func12, Try.ntmps12
    go_wp2
    go_ret
    exact ⟨rfl, rfl⟩
  · obtain ⟨A, M, h1, _⟩ := h.ex
    have c0 := h1.blk.at (j := 2) rfl
    clear h h1
    generalize setsN L = s at *
    go_enter Try.func12, Try.ntmps12
    go_wp2
    go_ret
    exact ⟨rfl, rfl⟩
set_option maxHeartbeats 400000 in
theorem umember_any {w : World} {p : Value} {L : List Int} (h : UV w p L) (a : Int) : Calls Try.prog 14 #[p, .int .i64 a] w fun e w' => e = .returned (.bool (memN L a)) ∧ w' = w := by
  have H : Hid (UV w p L) := h
  clear h
  by_cases c1 : 0 ≤ a
  · go_enter Try.func14, Try.ntmps14
    go_wp2_with fail
    refine (ulen_any H.out).mono ?_
    rintro e w1 ⟨rfl, rfl⟩
    go_wp2
    go_ret
    exact ⟨ret_of (congrArg Value.bool (by simp [memN, c1])), rfl⟩
  · have hd : decide (0 ≤ a) = false := by simpa using c1
    go_enter Try.func14, Try.ntmps14
    go_wp2
    go_ret
    exact ⟨ret_of (congrArg Value.bool (show _ = memN L a from by unfold memN; rw [hd]; rfl)), rfl⟩

theorem i32_id {z : Int} (h0 : -2147483648 ≤ z) (h1 : z ≤ 2147483647) : IntKind.i32.wrap z = z := by
  simp [IntKind.wrap, IntKind.bits, IntKind.signed]; omega
set_option maxHeartbeats 800000 in
theorem utop_fix {w : World} {B G H n : Nat} {A M : Nat → Int} {s : Int} (h : UnX w B G H n A M s) (hbd : ∀ i, i < n → -(n : Int) ≤ A i ∧ A i < n) (hl : n ≤ 4194304) {t0 k0 r : Nat} (hup : Up n A k0 t0 r) :
    Calls Try.prog 15 #[.pointer (some ⟨B, 0, none⟩), .int .i64 t0] w fun e w' => e = .returned (.int .i32 r) ∧ w' = w := by
  have c0 := h.blk.at (j := 0) rfl
  have HR : Hid (Row32 w G n A) := h.ra
  have HB : Hid (∀ i, i < n → -(n : Int) ≤ A i ∧ A i < n) := hbd
  have HU : Hid (Up n A k0 t0 r) := hup
  have ht0 : t0 < n := hup.lt
  clear h hbd hup
  go_enter Try.func15, Try.ntmps15
  go_wp2
  go_loopg [5] k0 (fun q vt wr => ∃ t : Nat, vt = .int .i32 t ∧ Hid (Up n A q t r) ∧ wr = w)
  case atStart => exact ⟨t0, by simp, HU, rfl⟩
  case round =>
    obtain ⟨t, rfl, HP, rfl⟩ := hrel
    have htl := HP.out.lt
    have c1 := HR.out.at htl
    have hbd := HB.out t htl
    rcases HP.out.inv with ⟨_, hrt, hneg⟩ | ⟨q, hq, hpos, hup⟩
    · have A1 : Aside (r = t) := hrt
      clear HP hrt
      generalize A t = x at *
      go_wp2
      go_ret
      exact ⟨ret_of (congrArg (fun z : Nat => Value.int IntKind.i32 (z : Int)) A1.out.symm), rfl⟩
    · have HP' := hid_mk hup
      obtain ⟨t', ht'⟩ : ∃ t' : Nat, A t = (t' : Int) := ⟨(A t).toNat, by omega⟩
      rw [ht'] at c1 HP' hbd
      have A1 : Aside (gk = q + 1) := hq
      clear HP hup hpos hq ht'
      go_wp2
      go_roundg q
      case rel => exact ⟨t', rfl, by simpa using HP', rfl⟩
      case measure => have := A1.out; omega
end Go.Proofs.Ytcbgeahcnjamdac
