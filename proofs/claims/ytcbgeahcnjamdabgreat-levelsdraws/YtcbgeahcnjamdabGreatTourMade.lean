/- Layer 7 (tour): New; the statements' Made; what stays within bounds whatever is done. -/
import Derived.Test.YtcbgeahcnjamdabGreatTourIter
namespace Go.Proofs.YtcbgeahcnjamdabGreat
open Go.RowKit
set_option linter.unusedVariables false
set_option maxHeartbeats 800000 in
theorem fnew_any (d : Option Addr) (w : World) : Calls Tryz.prog 43 #[.pointer d] w fun e w' => ∃ B, e = .returned (.pointer (some ⟨B, 0, none⟩)) ∧ w.heap.size ≤ B ∧ Blk w' B 95 #[.slice none 0 0, .slice none 0 0, .pointer d, .slice none 0 0, .slice none 0 0, .slice none 0 0, .slice none 0 0, .map none] ∧ Below w.heap.size w w' := by
  have hK := Blk.new w 86 #[.slice none 0 0, .slice none 0 0, .pointer d]
  have hb := (Below.refl w.heap.size w).alloc (Nat.le_refl _) (.cells #[.slice none 0 0, .slice none 0 0, .pointer d] 86)
  have c0 := hK.at (j := 0) rfl
  have c1 := hK.at (j := 1) rfl
  have c2 := hK.at (j := 2) rfl
  have HB := hid_mk hb
  clear hK hb
  go_enter Tryz.func43, Tryz.ntmps43
  go_wp2_with fail
  refine (tnew_any _ _).mono ?_
  rintro e w1 ⟨rfl, rfl⟩
  go_wp2
  go_ret
  refine ⟨_, rfl, Nat.le_succ _, ?_, HB.out.alloc HB.out.size _⟩
  have := Blk.new (w.alloc (.cells #[.slice none 0 0, .slice none 0 0, .pointer d] 86)) 95 #[.slice none 0 0, .slice none 0 0, .pointer d, .slice none 0 0, .slice none 0 0, .slice none 0 0, .slice none 0 0, .map none]
  rwa [World.size_alloc] at this
end Go.Proofs.YtcbgeahcnjamdabGreat

namespace Go.Proofs.YtcbgeahcnjamdabGreat
open Go.RowKit
set_option linter.unusedVariables false
/-- Numbers that a map tells. -/
def Pb (p : Int → Part) (m : Nat) : Prop := ∀ i, 0 ≤ (p i).1 ∧ (p i).1 ≤ m ∧ 0 ≤ (p i).2 ∧ (p i).2 ≤ m
theorem Pb.upd {p : Int → Part} {m : Nat} (h : Pb p m) (i : Int) {q : Part} (hq : 0 ≤ q.1 ∧ q.1 ≤ m ∧ 0 ≤ q.2 ∧ q.2 ≤ m) : Pb (updP p i q) m := fun j => by
  unfold updP; split
  · exact hq
  · exact h j
theorem Pb.mono {p : Int → Part} {m m' : Nat} (h : Pb p m) (hm : m ≤ m') : Pb p m' := fun i => by obtain ⟨h1, h2, h3, h4⟩ := h i; exact ⟨h1, by omega, h3, by omega⟩
theorem Sq.free_K (s : Sq) (i : Int) : (s.free i).K.length = s.K.length ∧ (s.free i).n = s.n := by
  unfold Sq.free; split
  · exact ⟨by simp, rfl⟩
  · exact ⟨rfl, rfl⟩
/-- All but the sequences. -/
def Sq.alike (s s' : Sq) : Prop := s'.K = s.K ∧ s'.n = s.n ∧ s'.V = s.V ∧ s'.fr = s.fr
theorem Sq.alike.trans {a b c : Sq} (h : a.alike b) (k : b.alike c) : a.alike c := ⟨k.1.trans h.1, k.2.1.trans h.2.1, k.2.2.1.trans h.2.2.1, k.2.2.2.trans h.2.2.2⟩
theorem Sq.join_r (s : Sq) (i j : Int) : s.alike (s.join i j) := by obtain ⟨a, b, c, d, e⟩ := s; exact ⟨rfl, rfl, rfl, rfl⟩
theorem Sq.cut_r (s : Sq) (i : Int) : s.alike (s.cut i) := by obtain ⟨a, b, c, d, e⟩ := s; exact ⟨rfl, rfl, rfl, rfl⟩
theorem Sq.turn_r (s : Sq) (i : Int) : s.alike (s.turn i) := (Sq.cut_r _ _).trans (Sq.join_r _ _ _)
theorem Sq.splice_K (s : Sq) (i j x y : Int) : s.alike (s.splice i j x y) := ((((Sq.turn_r _ _).trans (Sq.turn_r _ _)).trans (Sq.join_r _ _ _)).trans (Sq.join_r _ _ _)).trans (Sq.join_r _ _ _)
theorem Sq.unsplice_K (s : Sq) (x y : Int) : s.alike (s.unsplice x y) := (((Sq.turn_r _ _).trans (Sq.cut_r _ _)).trans (Sq.cut_r _ _)).trans (Sq.cut_r _ _)
/-- All within k: what was done at most k times. -/
structure To.Wf (t : To) (k : Nat) : Prop where
  le : t.le k
  pb : Pb t.p k
  fv : ∀ f ∈ t.fv, 1 ≤ f ∧ f ≤ t.v.length
  fe : ∀ f ∈ t.fe, 1 ≤ f ∧ f ≤ t.e.length
  mv : ∀ v, isA t.v v = true → t.m ≠ 0
theorem To.Wf.mono {t : To} {k k' : Nat} (h : t.Wf k) (hk : k ≤ k') : t.Wf k' := ⟨h.le.mono hk, h.pb.mono hk, h.fv, h.fe, h.mv⟩
theorem to0_wf : to0.Wf 0 := ⟨⟨⟨Nat.le_refl _, Nat.le_refl _⟩, Nat.le_refl _, Nat.le_refl _, Nat.le_refl _, Nat.le_refl _, Nat.le_refl _⟩, fun i => ⟨Int.le_refl _, Int.le_refl _, Int.le_refl _, Int.le_refl _⟩, fun f hf => (by cases hf), fun f hf => (by cases hf), fun v hv => (by simp [isA, to0] at hv)⟩
theorem tkL_len' {α : Type} {L : List (α × Bool)} {fr : List Int} (x : α) : L.length ≤ (tkL L fr x).length := by
  rcases List.eq_nil_or_concat fr with rfl | ⟨fr', f, rfl⟩
  · rw [tkL_nil]; simp
  · rw [List.concat_eq_append, tkL_snoc]; simp
theorem mem_dropLast {fr : List Int} {f : Int} (h : f ∈ fr.dropLast) : f ∈ fr := List.dropLast_subset fr h
theorem To.Wf.addV {t : To} {k : Nat} (h : t.Wf k) (a b : Int) : (t.addV a b).Wf (k + 1) := by
  have hb := tkI_bd h.fv
  have hs := Sq.le_make h.le.s ⟨1, a, b, 0⟩
  refine ⟨⟨Sq.le_mono hs (by omega), Nat.le_trans (tkL_len _ _ _) (Nat.succ_le_succ h.le.v), ?_, Nat.le_trans h.le.e (Nat.le_succ _), Nat.le_trans h.le.fe (Nat.le_succ _), ?_⟩, ?_, fun f hf => ?_, h.fe, fun v _ => Nat.succ_ne_zero _⟩
  · show t.fv.dropLast.length ≤ k + 1
    have := h.le.fv
    rw [List.length_dropLast]; omega
  · show t.m + 1 + 1 ≤ 3 * (k + 1)
    have := h.le.m; omega
  · have hl := h.le.v
    refine (h.pb.mono (Nat.le_succ k)).upd _ ⟨?_, ?_, Int.le_refl _, ?_⟩
    · show 0 ≤ tkI t.v t.fv; omega
    · show tkI t.v t.fv ≤ _; omega
    · show (0 : Int) ≤ ((k + 1 : Nat) : Int); omega
  · have h1 := h.fv f (mem_dropLast hf)
    have h2 := tkL_len' (L := t.v) (fr := t.fv) (newI t.s.K t.s.fr)
    show 1 ≤ f ∧ f ≤ ((tkL t.v t.fv (newI t.s.K t.s.fr)).length : Int)
    omega
theorem To.Wf.dropV {t : To} {k : Nat} (h : t.Wf k) {v : Int} (hv : isA t.v v = true) : (t.dropV v).Wf (k + 1) := by
  have hvb := isA_bd hv
  have hK := Sq.free_K t.s (t.item v)
  have hle := h.le
  refine ⟨⟨⟨?_, ?_⟩, ?_, ?_, Nat.le_trans hle.e (Nat.le_succ _), Nat.le_trans hle.fe (Nat.le_succ _), Nat.le_trans hle.m (by omega)⟩, ?_, fun f hf => ?_, h.fe, fun u hu => ?_⟩
  · show (t.s.free (t.item v)).K.length ≤ _; rw [hK.1]; have := hle.s.1; omega
  · show (t.s.free (t.item v)).n ≤ _; rw [hK.2]; have := hle.s.2; omega
  · show (frL 0 t.v v).length ≤ _; rw [frL_len]; have := hle.v; omega
  · show (t.fv ++ [v]).length ≤ _; rw [List.length_append]; have := hle.fv; simp; omega
  · exact (h.pb.mono (Nat.le_succ k)).upd _ ⟨Int.le_refl _, by show (0 : Int) ≤ ((k + 1 : Nat) : Int); omega, Int.le_refl _, by show (0 : Int) ≤ ((k + 1 : Nat) : Int); omega⟩
  · show 1 ≤ f ∧ f ≤ ((frL 0 t.v v).length : Int)
    rw [frL_len]
    rcases List.mem_append.1 hf with h1 | h1
    · exact h.fv f h1
    · simp at h1; omega
  · have hu' : isA (frL 0 t.v v) u = true := hu
    rw [isA_frL 0 hv] at hu'
    split at hu'
    · cases hu'
    · exact h.mv u hu'
theorem To.Wf.drop {t : To} {k : Nat} (h : t.Wf k) (v : Int) : (t.drop v).Wf (k + 1) := by
  unfold To.drop
  split
  · split
    · rename_i hv _; exact h.dropV hv
    · exact h.mono (Nat.le_succ _)
  · exact h.mono (Nat.le_succ _)
theorem To.Wf.link {t : To} {k : Nat} (h : t.Wf k) {a b : Int} (ha : isA t.v a = true) : (t.link a b).Wf (k + 1) := by
  have hle := h.le
  have hs1 := Sq.le_make hle.s noneV
  have hs2 := Sq.le_make hs1 noneV
  have hb := tkI_bd h.fe
  have hle' := hle.e
  refine ⟨⟨⟨?_, ?_⟩, Nat.le_trans hle.v (Nat.le_succ _), Nat.le_trans hle.fv (Nat.le_succ _), Nat.le_trans (tkL_len _ _ _) (Nat.succ_le_succ hle.e), ?_, ?_⟩, ?_, h.fv, fun f hf => ?_, fun u hu => Nat.succ_ne_zero _⟩
  · show (((t.s.make noneV).make noneV).splice _ _ _ _).K.length ≤ _; rw [(Sq.splice_K _ _ _ _ _).1]; have := hs2.1; omega
  · show (((t.s.make noneV).make noneV).splice _ _ _ _).n ≤ _; rw [(Sq.splice_K _ _ _ _ _).2.1]; have := hs2.2; omega
  · show t.fe.dropLast.length ≤ k + 1; rw [List.length_dropLast]; have := hle.fe; omega
  · show t.m + 1 + 1 ≤ 3 * (k + 1); have := hle.m; omega
  · have hq : 0 ≤ ((0, t.newE) : Part).1 ∧ ((0, t.newE) : Part).1 ≤ ((k + 1 : Nat) : Int) ∧ 0 ≤ ((0, t.newE) : Part).2 ∧ ((0, t.newE) : Part).2 ≤ ((k + 1 : Nat) : Int) := by
      refine ⟨Int.le_refl _, by show (0 : Int) ≤ _; omega, ?_, ?_⟩
      · show 0 ≤ tkI t.e t.fe; omega
      · show tkI t.e t.fe ≤ _; omega
    exact ((h.pb.mono (Nat.le_succ k)).upd _ hq).upd _ hq
  · have h1 := h.fe f (mem_dropLast hf)
    have h2 := tkL_len' (L := t.e) (fr := t.fe) (⟨a, b, t.newX, t.newY⟩ : Edg)
    show 1 ≤ f ∧ f ≤ ((tkL t.e t.fe (⟨a, b, t.newX, t.newY⟩ : Edg)).length : Int)
    omega
theorem To.linkR_zero {t : To} {a b : Int} (h : t.linkR a b = 0) : isA t.v a = true ∧ isA t.v b = true ∧ t.same a b = false := by
  unfold To.linkR at h
  split at h
  · rename_i h1
    split at h
    · omega
    · rename_i h2; exact ⟨h1.1, h1.2, by simpa using h2⟩
  · omega
theorem To.Wf.linked {t : To} {k : Nat} (h : t.Wf k) (a b : Int) : (t.linked a b).Wf (k + 1) := by
  unfold To.linked
  split
  · rename_i h1; exact h.link (To.linkR_zero h1).1
  · exact h.mono (Nat.le_succ _)
theorem To.cutE_eq (t : To) (n : Int) : t.cutE n = ⟨((t.s.unsplice (t.edge n).x (t.edge n).y).free (t.edge n).x).free (t.edge n).y, t.v, t.fv, frL zeE t.e n, t.fe ++ [n], updP (updP t.p (t.edge n).x (0, 0)) (t.edge n).y (0, 0), t.m⟩ := by
  unfold To.cutE
  generalize t.s.unsplice (t.edge n).x (t.edge n).y = s1
  generalize (t.edge n).x = x
  generalize (t.edge n).y = y
  obtain ⟨a, b, c, d, e, f, g⟩ := t
  rfl
theorem To.Wf.cutE {t : To} {k : Nat} (h : t.Wf k) {n : Int} (hn : isA t.e n = true) : (t.cutE n).Wf (k + 1) := by
  have hle := h.le
  have hnb := isA_bd hn
  rw [To.cutE_eq]
  have hU := Sq.unsplice_K t.s (t.edge n).x (t.edge n).y
  generalize t.s.unsplice (t.edge n).x (t.edge n).y = s1 at *
  generalize (t.edge n).x = x at *
  generalize (t.edge n).y = y at *
  have hK1 := Sq.free_K s1 x
  have hK2 := Sq.free_K (s1.free x) y
  have e1 : s1.K.length = t.s.K.length ∧ s1.n = t.s.n := by rw [hU.1, hU.2.1]; exact ⟨rfl, rfl⟩
  refine ⟨⟨⟨?_, ?_⟩, Nat.le_trans hle.v (Nat.le_succ _), Nat.le_trans hle.fv (Nat.le_succ _), ?_, ?_, Nat.le_trans hle.m (by omega)⟩, ?_, h.fv, fun f hf => ?_, h.mv⟩
  · show ((s1.free x).free y).K.length ≤ _; rw [hK2.1, hK1.1, e1.1]; have := hle.s.1; omega
  · show ((s1.free x).free y).n ≤ _; rw [hK2.2, hK1.2, e1.2]; have := hle.s.2; omega
  · show (frL zeE t.e n).length ≤ _; rw [frL_len]; have := hle.e; omega
  · show (t.fe ++ [n]).length ≤ _; rw [List.length_append]; have := hle.fe; simp; omega
  · have hq : 0 ≤ ((0, 0) : Part).1 ∧ ((0, 0) : Part).1 ≤ ((k + 1 : Nat) : Int) ∧ 0 ≤ ((0, 0) : Part).2 ∧ ((0, 0) : Part).2 ≤ ((k + 1 : Nat) : Int) := ⟨Int.le_refl _, by show (0 : Int) ≤ _; omega, Int.le_refl _, by show (0 : Int) ≤ _; omega⟩
    exact ((h.pb.mono (Nat.le_succ k)).upd _ hq).upd _ hq
  · show 1 ≤ f ∧ f ≤ ((frL zeE t.e n).length : Int)
    rw [frL_len]
    rcases List.mem_append.1 hf with h1 | h1
    · exact h.fe f h1
    · simp at h1; omega
theorem To.Wf.cut {t : To} {k : Nat} (h : t.Wf k) (n : Int) : (t.cut n).Wf (k + 1) := by
  unfold To.cut
  split
  · rename_i hn; exact h.cutE hn
  · exact h.mono (Nat.le_succ _)
theorem To.Wf.ws {t : To} {k : Nat} (h : t.Wf k) {s : Sq} (hK : s.K = t.s.K) (hn : s.n = t.s.n) : (t.ws s).Wf k := ⟨⟨⟨by show s.K.length ≤ _; rw [hK]; exact h.le.s.1, by show s.n ≤ _; rw [hn]; exact h.le.s.2⟩, h.le.v, h.le.fv, h.le.e, h.le.fe, h.le.m⟩, h.pb, h.fv, h.fe, h.mv⟩
theorem To.Wf.set {t : To} {k : Nat} (h : t.Wf k) (v a b : Int) : (t.set v a b).Wf k := by
  unfold To.set; split
  · exact h.ws rfl rfl
  · exact h
theorem To.Wf.mark {t : To} {k : Nat} (h : t.Wf k) (v b : Int) : (t.mark v b).Wf k := by
  unfold To.mark; split
  · exact h
  · split
    · exact h.ws rfl rfl
    · exact h
theorem To.Wf.emark {t : To} {k : Nat} (h : t.Wf k) (v b : Int) : (t.emark v b).Wf k := by
  unfold To.emark; split
  · exact h
  · split
    · exact h.ws rfl rfl
    · exact h
theorem To.Wf.find {t : To} {k : Nat} (h : t.Wf k) (hk : k ≤ 30000) (v m : Int) : (0 ≤ (t.find v m).1 ∧ (t.find v m).1 ≤ 2147483647) ∧ (0 ≤ (t.find v m).2 ∧ (t.find v m).2 ≤ 2147483647) := by
  unfold To.find; split
  · exact ⟨⟨by decide, by decide⟩, by decide, by decide⟩
  · obtain ⟨h1, h2, h3, h4⟩ := h.pb (fdS t.s.V (t.s.S (t.item v)) m)
    exact ⟨⟨h1, by omega⟩, h3, by omega⟩
theorem vmk_bd (b : Int) : 0 ≤ vmk b ∧ vmk b ≤ 255 := by
  have := bounds_u8 (wf_bits BinOp.and IntKind.u8 b 15)
  unfold vmk; omega
theorem emk_bd (b : Int) : 0 ≤ emk b ∧ emk b ≤ 255 := by unfold emk; omega
end Go.Proofs.YtcbgeahcnjamdabGreat
