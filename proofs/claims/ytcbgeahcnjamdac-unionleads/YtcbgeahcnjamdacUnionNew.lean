/- Layer 11 (union): New. -/
import Derived.Test.YtcbgeahcnjamdacUnionJoin
import Derived.Sort.CutIn
import Derived.Deep.CutBlock
namespace Go.Proofs.Ytcbgeahcnjamdac
open Go.RowKit
set_option linter.unusedVariables false

theorem RowK.made' (W : World) (t : TypeId) (kd : IntKind) (n : Nat) (z : Int) {k : Nat} (hk : W.heap.size = k) : RowK t kd (W.alloc (.cells (Array.replicate n (.int kd z)) t)) k n (fun _ => z) := hk ▸ RowK.made W t kd n z
theorem Try.infoI32 : (Try.prog.info? 21).map (fun i => (i.zero, i.size, i.bytes)) = some (some (.int .i32 0), 1, 4) := by kernel_rfl
theorem made_one32 (z : Value) (n : Nat) : madeCells #[z] n = Array.replicate n z := by
  apply Array.ext
  · simp [madeCells]
  · intro i h1 h2
    simp [madeCells, Nat.mod_one]
/-- make([]int32, n). -/
theorem make_i32 (m : Nat) (hm : m ≤ 4194304) (w : World) : (Instr.makeSlice 37 (.int .i64 m) (.int .i64 m)).run Try.prog w = .ok (.slice (some ⟨w.heap.size, 0, none⟩) m m) (w.alloc (.cells (Array.replicate m (.int .i32 0)) 21)) := by
  obtain ⟨i0, hi, hz0, hz1, hz2⟩ := info_parts Try.infoI32
  have h := run_make (P := Try.prog) w 37 21 i0 (.int .i32 0) Try.underlying37 hi hz0 .i64 .i64 m m (by omega) (by omega) (by rw [hz2]; omega) (by omega)
  rw [h, hz1]
  simp only [Int.toNat_natCast, Nat.mul_one]
  rw [← made_one32]
  rfl

set_option maxHeartbeats 400000 in
theorem unew_no (n : Int) (w : World) (h : n < 0 ∨ 4194304 < n) (hb : -9223372036854775808 ≤ n ∧ n ≤ 9223372036854775807) : Calls Try.prog 6 #[.int .i64 n] w fun e w' => e = .returned (.tuple #[.pointer none, .int .i64 1]) ∧ w' = w := by
  by_cases h0 : n < 0
  · go_enter Try.func6, Try.ntmps6
    go_wp2
    go_ret2
    exact ⟨rfl, rfl⟩
  · have h1 : 4194304 < n := by omega
    go_enter Try.func6, Try.ntmps6
    go_wp2
    go_ret2
    exact ⟨rfl, rfl⟩

/-- The first k have been told. -/
def tellA (k : Nat) : Nat → Int := fun i => if i < k then -1 else 0
def tellM (k : Nat) : Nat → Int := fun i => if i < k then i else 0
theorem tellA_succ (k : Nat) : tellA (k + 1) = updA (tellA k) k (-1) := by
  funext j; unfold tellA updA
  by_cases e : j = k
  · subst e; simp
  · rw [if_neg e]; show _ = if j < k then _ else _; by_cases h : j < k
    · rw [if_pos h, if_pos (by omega)]
    · rw [if_neg h, if_neg (by omega)]
theorem tellM_succ (k : Nat) : tellM (k + 1) = updA (tellM k) k k := by
  funext j; unfold tellM updA
  by_cases e : j = k
  · subst e; simp
  · rw [if_neg e]; show _ = if j < k then _ else _; by_cases h : j < k
    · rw [if_pos h, if_pos (by omega)]
    · rw [if_neg h, if_neg (by omega)]
def newW (W : World) (n : Nat) (G H : Nat) : World := ((W.alloc (.cells (Array.replicate n (.int .i32 0)) 21)).alloc (.cells (Array.replicate n (.int .i32 0)) 21)).alloc (.cells #[.slice (some ⟨G, 0, none⟩) n n, .slice (some ⟨H, 0, none⟩) n n, .int .i64 n] 39)
theorem newW_below (W : World) (n G H : Nat) : Below W.heap.size W (newW W n G H) := ((Below.refl _ _).alloc (Nat.le_refl _) _ |>.alloc (by simp) _).alloc (by simp; omega) _
theorem newW_a (W : World) (n : Nat) : UnX (newW W n W.heap.size (W.heap.size + 1)) (W.heap.size + 1 + 1) W.heap.size (W.heap.size + 1) n (tellA 0) (tellM 0) n := by
  refine ⟨?_, ?_, ?_, by omega⟩
  · have h := Blk.new ((W.alloc (.cells (Array.replicate n (.int .i32 0)) 21)).alloc (.cells (Array.replicate n (.int .i32 0)) 21)) 39 #[.slice (some ⟨W.heap.size, 0, none⟩) n n, .slice (some ⟨W.heap.size + 1, 0, none⟩) n n, .int .i64 n]
    simpa [newW] using h
  · exact ((RowK.made W 21 .i32 n 0).below ((Below.refl _ _).alloc (Nat.le_refl _) _)).below ((Below.refl _ _).alloc (Nat.le_refl _) _)
  · exact (RowK.made' (W.alloc (.cells (Array.replicate n (.int .i32 0)) 21)) 21 .i32 n 0 (by simp)).below ((Below.refl _ _).alloc (Nat.le_refl _) _)
theorem newW_b (W : World) (n : Nat) : UnX (newW W n (W.heap.size + 1) W.heap.size) (W.heap.size + 1 + 1) (W.heap.size + 1) W.heap.size n (tellA 0) (tellM 0) n := by
  refine ⟨?_, ?_, ?_, by omega⟩
  · have h := Blk.new ((W.alloc (.cells (Array.replicate n (.int .i32 0)) 21)).alloc (.cells (Array.replicate n (.int .i32 0)) 21)) 39 #[.slice (some ⟨W.heap.size + 1, 0, none⟩) n n, .slice (some ⟨W.heap.size, 0, none⟩) n n, .int .i64 n]
    simpa [newW] using h
  · exact (RowK.made' (W.alloc (.cells (Array.replicate n (.int .i32 0)) 21)) 21 .i32 n 0 (by simp)).below ((Below.refl _ _).alloc (Nat.le_refl _) _)
  · exact ((RowK.made W 21 .i32 n 0).below ((Below.refl _ _).alloc (Nat.le_refl _) _)).below ((Below.refl _ _).alloc (Nat.le_refl _) _)
theorem UnX.tell {W : World} {B G H n k : Nat} {s : Int} (h : UnX W B G H n (tellA k) (tellM k) s) : UnX ((W.setCell ⟨G, k, none⟩ (.int .i32 (-1))).setCell ⟨H, k, none⟩ (.int .i32 k)) B G H n (tellA (k + 1)) (tellM (k + 1)) s := by
  rw [tellA_succ, tellM_succ]
  exact (h.setA k (-1)).setM k k
theorem UnX.tell2 {W : World} {B G H n k : Nat} {s : Int} (h : UnX W B G H n (tellA k) (tellM k) s) : UnX ((W.setCell ⟨H, k, none⟩ (.int .i32 k)).setCell ⟨G, k, none⟩ (.int .i32 (-1))) B G H n (tellA (k + 1)) (tellM (k + 1)) s := by
  rw [tellA_succ, tellM_succ]
  exact (h.setM k k).setA k (-1)
set_option maxRecDepth 100000 in
set_option maxHeartbeats 3200000 in
theorem unew_yes (n : Nat) (w : World) (hn : n ≤ 4194304) : Calls Try.prog 6 #[.int .i64 n] w fun e w' => ∃ B G H, e = .returned (.tuple #[.pointer (some ⟨B, 0, none⟩), .int .i64 0]) ∧ Un w' B G H (idN n) ∧ Below w.heap.size w w' ∧ w.heap.size ≤ B ∧ w.heap.size ≤ G ∧ w.heap.size ≤ H := by
  have hmk := make_i32 n hn
  have hdz : w.drew.heap.size = w.heap.size := rfl
  have HN : Hid (∀ wr B G H, UnX wr B G H n (tellA n) (tellM n) n → Un wr B G H (idN n)) := fun wr B G H h => ⟨⟨tellA n, tellM n, by rw [idN_len, setsN_id]; exact h, by rw [idN_len]; exact Ut.new n _ _ (fun i hi => if_pos hi) (fun i hi => if_pos hi)⟩, by rw [idN_len]; exact hn⟩
  go_enter Try.func6, Try.ntmps6
  go_upto_region 3 with fail
  go_cut [4] from 12 to 18 (fun s wc => ∃ B G H, s = .pointer (some ⟨B, 0, none⟩) ∧ Hid (UnX wc B G H n (tellA 0) (tellM 0) n) ∧ Hid (Below w.heap.size w wc ∧ w.heap.size ≤ B ∧ w.heap.size ≤ G ∧ w.heap.size ≤ H))
  case first =>
    go_region_held3 (fun w' => True) (first | go_keep | trivial) (fail)
    · go_wp2_with fail
      go_meet
      exact ⟨_, _, _, rfl, hid_mk (newW_a w.drew n), hid_mk ⟨(Below.refl _ w).drew.trans (newW_below w.drew n _ _), by omega, by omega, by omega⟩⟩
    · go_wp2_with fail
      go_meet
      exact ⟨_, _, _, rfl, hid_mk (newW_b w.drew n), hid_mk ⟨(Below.refl _ w).drew.trans (newW_below w.drew n _ _), by omega, by omega, by omega⟩⟩
  case rest =>
    obtain ⟨B, G, H, rfl, HX, HB⟩ := hcut
    have c0 := HX.out.blk.at (j := 0) rfl
    simp only [List.getElem_toArray, List.getElem_cons_zero] at c0
    go_wp2
    go_loopw [24, 5] (fun v a wr => ∃ k : Nat, k ≤ n ∧ v = .int .i64 k ∧ Hid (UnX wr B G H n (tellA k) (tellM k) n) ∧ Hid (Below w.heap.size w wr)) (fun v _ _ => n - (intOf v).toNat)
    case atStart => exact ⟨0, by omega, rfl, HX, HB.out.1⟩
    case round =>
      clear HX c0
      obtain ⟨k, hk, rfl, HX, HW⟩ := hrel
      by_cases hlt : k < n
      · have hX := HX.out
        have c0 := hX.blk.at (j := 0) rfl
        have c1 := hX.blk.at (j := 1) rfl
        simp only [List.getElem_toArray, List.getElem_cons_zero, List.getElem_cons_succ] at c0 c1
        have kG := hX.ra.at hlt
        have fG := hX.ra.frozen k
        have kH := hX.rm.at hlt
        have fH := hX.rm.frozen k
        have hO : ∀ (W : World) (b o : Nat) (v : Value), b = G ∨ b = H → ∀ j, (W.setCell ⟨b, o, none⟩ v).cell? ⟨B, j, none⟩ = W.cell? ⟨B, j, none⟩ := fun W b o v hb j => cell_other (by have := hX.ne; omega)
        have kH2 : (wr.setCell ⟨G, k, none⟩ (.int .i32 (-1))).drew.cell? ⟨H, k, none⟩ = some (.int .i32 (tellM k k)) := (hX.setA k (-1)).rm.at hlt
        have fH2 : (wr.setCell ⟨G, k, none⟩ (.int .i32 (-1))).drew.frozen? ⟨H, k, none⟩ = false := (hX.setA k (-1)).rm.frozen k
        have HX2 : Hid (UnX ((wr.setCell ⟨G, k, none⟩ (.int .i32 (-1))).setCell ⟨H, k, none⟩ (.int .i32 k)).drew B G H n (tellA (k + 1)) (tellM (k + 1)) n) := (hX.tell.below (Below.refl _ _).drew)
        clear hX
        go_wp2
        go_region_held3 (fun w' => w'.cell? ⟨B, 0, none⟩ = some (.slice (some ⟨G, 0, none⟩) n n) ∧ w'.cell? ⟨B, 1, none⟩ = some (.slice (some ⟨H, 0, none⟩) n n)) (first | go_keep | (go_split_ands; refine ⟨?_, ?_⟩ <;> (first | exact (hO _ _ _ _ (.inl rfl) _).trans (by assumption) | exact (hO _ _ _ _ (.inr rfl) _).trans (by assumption)))) (fail)
        clear kG fG kH fH kH2 fH2 hO c0 c1
        have HB2 : Hid (Below w.heap.size w ((wr.setCell ⟨G, k, none⟩ (.int .i32 (-1))).setCell ⟨H, k, none⟩ (.int .i32 k)).drew) :=
          Thru.start (B := B) HW.out (Nat.le_refl _) (((Thru.set wr _ (.inr (.inl rfl))).trans (Thru.set _ _ (.inr (.inr rfl)))).trans (Thru.of (Below.refl _ _).drew)) HB.out.2
        go_wp2
        go_roundw
        case rel => exact ⟨k + 1, by omega, by go_num, HX2, HB2⟩
        case measure => simp [intOf]; omega
      · obtain rfl : k = n := by omega
        have HU := hid_mk (HN.out _ _ _ _ HX.out)
        clear HX HN
        go_wp2
        go_ret2
        exact ⟨_, _, _, rfl, HU.out, HW.out, HB.out.2⟩
end Go.Proofs.Ytcbgeahcnjamdac
