/- Layer 8 (forest): what its calls make of a state (plain). -/
import Derived.Test.YtcbgeahcnjamdabGreatForestBase
namespace Go.Proofs.YtcbgeahcnjamdabGreat
open Go.RowKit
set_option linter.unusedVariables false

/-- Sums and ranks that may be. -/
def okSL (sum least : Int) : Bool := decide (0 ≤ sum ∧ sum ≤ 1099511627776 ∧ 0 ≤ least ∧ least ≤ 1099511627776)
def Fo.addR (f : Fo) (v sum least : Int) : Int := if f.vi v ≠ 0 then 5 else if okSL sum least = true then 0 else 1
def Fo.newV (f : Fo) : Int := tkI f.t.v f.t.fv
def Fo.add (f : Fo) (v sum least : Int) : Fo := if f.addR v sum least = 0 then (f.wt (f.t.addV sum least)).wv (updI f.vi v f.newV) (updI f.vo f.newV v) (f.nv + 1) else f
def Fo.dropR (f : Fo) (v : Int) : Int := f.t.dropR (f.vi v)
def Fo.drop (f : Fo) (v : Int) : Fo := if f.dropR v = 0 then (f.wt (f.t.drop (f.vi v))).wv (updI f.vi v 0) (updI f.vo (f.vi v) 0) f.nv else f
def Fo.setR (f : Fo) (v sum least : Int) : Int := if f.vi v ≠ 0 then (if okSL sum least = true then f.t.setR (f.vi v) else 1) else 4
def Fo.set (f : Fo) (v sum least : Int) : Fo := if f.vi v ≠ 0 ∧ okSL sum least = true then f.wt (f.t.set (f.vi v) sum least) else f
def Fo.linkR (f : Fo) (e a b : Int) : Int := if e < 1 then 1 else if f.ei e ≠ 0 then 5 else if f.vi a ≠ 0 ∧ f.vi b ≠ 0 then (if f.t.same (f.vi a) (f.vi b) = true then 13 else 0) else 4
def Fo.link (f : Fo) (e a b : Int) : Fo := if f.linkR e a b = 0 then (f.wt (f.t.linked (f.vi a) (f.vi b))).we (updI f.ei e (f.t.linkN (f.vi a) (f.vi b))) (updI f.eo (f.t.linkN (f.vi a) (f.vi b)) e) (f.ne + 1) else f
def Fo.cutR (f : Fo) (e : Int) : Int := f.t.cutR (f.ei e)
def Fo.cut (f : Fo) (e : Int) : Fo := if f.cutR e = 0 then (f.wt (f.t.cut (f.ei e))).we (updI f.ei e 0) (updI f.eo (f.ei e) 0) f.ne else f
def Fo.markR (f : Fo) (v b : Int) : Int := f.t.markR (f.vi v) b
def Fo.mark (f : Fo) (v b : Int) : Fo := f.wt (f.t.mark (f.vi v) b)
def Fo.emarkR (f : Fo) (n b : Int) : Int := f.t.emarkR (f.ei n) b
def Fo.emark (f : Fo) (n b : Int) : Fo := f.wt (f.t.emark (f.ei n) b)
def Fo.same (f : Fo) (a b : Int) : Bool := f.t.same (f.vi a) (f.vi b)
def Fo.total (f : Fo) (v : Int) : Vl := f.t.total (f.vi v)
def Fo.least (f : Fo) (v : Int) : Int := if f.vi v ≠ 0 then (f.total v).l else -1
def Fo.findV (f : Fo) (v b : Int) : Int := (f.t.find (f.vi v) (vmk b)).1
def Fo.findE (f : Fo) (v b : Int) : Int := (f.t.find (f.vi v) (emk b)).2

/-- What is there is not much. -/
structure Fo.Wf (f : Fo) (k : Nat) : Prop where
  t : f.t.Wf k
  nv : f.nv ≤ k
  ne : f.ne ≤ k
  vb : ∀ v, 0 ≤ f.vi v ∧ f.vi v ≤ 2147483647
  eb : ∀ e, 0 ≤ f.ei e ∧ f.ei e ≤ 2147483647
theorem Fo.Wf.mono {f : Fo} {k k' : Nat} (h : f.Wf k) (hk : k ≤ k') : f.Wf k' := ⟨h.t.mono hk, Nat.le_trans h.nv hk, Nat.le_trans h.ne hk, h.vb, h.eb⟩
theorem fo0_wf : fo0.Wf 0 := ⟨to0_wf, Nat.le_refl _, Nat.le_refl _, fun v => ⟨Int.le_refl _, by simp [fo0, n0]⟩, fun v => ⟨Int.le_refl _, by simp [fo0, n0]⟩⟩
theorem updI_bd {p : Int → Int} (h : ∀ v, 0 ≤ p v ∧ p v ≤ 2147483647) {i q : Int} (hq : 0 ≤ q ∧ q ≤ 2147483647) : ∀ v, 0 ≤ updI p i q v ∧ updI p i q v ≤ 2147483647 := fun v => by
  unfold updI; split
  · exact hq
  · exact h v
theorem Fo.Wf.v64 {f : Fo} {k : Nat} (h : f.Wf k) (v : Int) : B64 (f.vi v) := by have := h.vb v; unfold B64; omega
theorem Fo.Wf.e64 {f : Fo} {k : Nat} (h : f.Wf k) (v : Int) : B64 (f.ei v) := by have := h.eb v; unfold B64; omega
theorem Fo.Wf.newV {f : Fo} {k : Nat} (h : f.Wf k) (hk : k ≤ 30000) : 1 ≤ f.newV ∧ f.newV ≤ 2147483647 := by
  have := tkI_bd h.t.fv
  have := h.t.le.v
  unfold Fo.newV; omega
theorem Fo.Wf.newE {f : Fo} {k : Nat} (h : f.Wf k) (hk : k ≤ 30000) (a b : Int) : 0 ≤ f.t.linkN a b ∧ f.t.linkN a b ≤ 2147483647 := by
  have := tkI_bd h.t.fe
  have := h.t.le.e
  unfold To.linkN To.newE; split <;> omega
theorem Fo.Wf.add {f : Fo} {k : Nat} (h : f.Wf k) (hk : k ≤ 30000) (v s l : Int) : (f.add v s l).Wf (k + 1) := by
  unfold Fo.add
  split
  · have hn := h.newV hk
    exact ⟨h.t.addV s l, Nat.succ_le_succ h.nv, Nat.le_succ_of_le h.ne, updI_bd h.vb (by omega), h.eb⟩
  · exact h.mono (Nat.le_succ k)
theorem Fo.Wf.drop {f : Fo} {k : Nat} (h : f.Wf k) (v : Int) : (f.drop v).Wf (k + 1) := by
  unfold Fo.drop
  split
  · exact ⟨h.t.drop _, Nat.le_succ_of_le h.nv, Nat.le_succ_of_le h.ne, updI_bd h.vb (by omega), h.eb⟩
  · exact h.mono (Nat.le_succ k)
theorem Fo.Wf.set {f : Fo} {k : Nat} (h : f.Wf k) (v s l : Int) : (f.set v s l).Wf k := by
  unfold Fo.set
  split
  · exact ⟨h.t.set _ s l, h.nv, h.ne, h.vb, h.eb⟩
  · exact h
theorem Fo.Wf.link {f : Fo} {k : Nat} (h : f.Wf k) (hk : k ≤ 30000) (e a b : Int) : (f.link e a b).Wf (k + 1) := by
  unfold Fo.link
  split
  · exact ⟨h.t.linked _ _, Nat.le_succ_of_le h.nv, Nat.succ_le_succ h.ne, h.vb, updI_bd h.eb (h.newE hk _ _)⟩
  · exact h.mono (Nat.le_succ k)
theorem Fo.Wf.cut {f : Fo} {k : Nat} (h : f.Wf k) (e : Int) : (f.cut e).Wf (k + 1) := by
  unfold Fo.cut
  split
  · exact ⟨h.t.cut _, Nat.le_succ_of_le h.nv, Nat.le_succ_of_le h.ne, h.vb, updI_bd h.eb (by omega)⟩
  · exact h.mono (Nat.le_succ k)
theorem Fo.Wf.mark {f : Fo} {k : Nat} (h : f.Wf k) (v b : Int) : (f.mark v b).Wf k := ⟨h.t.mark _ b, h.nv, h.ne, h.vb, h.eb⟩
theorem Fo.Wf.emark {f : Fo} {k : Nat} (h : f.Wf k) (v b : Int) : (f.emark v b).Wf k := ⟨h.t.emark _ b, h.nv, h.ne, h.vb, h.eb⟩
theorem Fo.Wf.findV {f : Fo} {k : Nat} (h : f.Wf k) (hk : k ≤ 30000) (v b : Int) : 0 ≤ f.findV v b ∧ f.findV v b ≤ 2147483647 := (h.t.find hk _ _).1
theorem Fo.Wf.findE {f : Fo} {k : Nat} (h : f.Wf k) (hk : k ≤ 30000) (v b : Int) : 0 ≤ f.findE v b ∧ f.findE v b ≤ 2147483647 := (h.t.find hk _ _).2
/-- What an act does: 0 Add, 1 Drop, 2 Set, 3 Link, 4 Cut, 5 Mark, else MarkEdge. -/
def Fo.actR (f : Fo) (d e a b x y m : Int) : Int := if d = 0 then f.addR a x y else if d = 1 then f.dropR a else if d = 2 then f.setR a x y else if d = 3 then f.linkR e a b else if d = 4 then f.cutR e else if d = 5 then f.markR a m else f.emarkR e m
def Fo.act (f : Fo) (d e a b x y m : Int) : Fo := if d = 0 then f.add a x y else if d = 1 then f.drop a else if d = 2 then f.set a x y else if d = 3 then f.link e a b else if d = 4 then f.cut e else if d = 5 then f.mark a m else f.emark e m
theorem Fo.Wf.act {f : Fo} {k : Nat} (h : f.Wf k) (hk : k ≤ 30000) (d e a b x y m : Int) : (f.act d e a b x y m).Wf (k + 1) := by
  unfold Fo.act
  split
  · exact h.add hk _ _ _
  split
  · exact h.drop _
  split
  · exact (h.set _ _ _).mono (Nat.le_succ k)
  split
  · exact h.link hk _ _ _
  split
  · exact h.cut _
  split
  · exact (h.mark _ _).mono (Nat.le_succ k)
  · exact (h.emark _ _).mono (Nat.le_succ k)
end Go.Proofs.YtcbgeahcnjamdabGreat
