/- Layer 9's statements: EdgesKnown, EdgesNobody. -/
import Derived.Test.YthdmmjboaoonbaaEdgesActs
namespace Go.Proofs.Ythdmmjboaoonbaa
open Go.RowKit
set_option linter.unusedVariables false

def kn0 : Bg := putB bg0 1 0 5
def kn1 : Bg := putB kn0 1 0 6
def kn2 : Bg := putB kn1 1 0 7
def kn3 : Bg := putB kn2 1 0 5
def kn4 : Bg := takeB kn3 1 0 5
def kn5 : Bg := takeB kn4 1 0 5
def kn6 : Bg := putB kn5 1 64 5
def kn7 : Bg := putB kn6 1 (-1) 5
def kn8 : Bg := putB kn7 1 0 0
def kn9 : Bg := putB kn8 1 1 7
def kn10 : Bg := putB kn9 (-9) 63 1
set_option maxRecDepth 100000 in
set_option maxHeartbeats 1600000 in
theorem edgesNobody (v l e : Int) (w : World) : Calls Try.prog 5 #[.int .i64 v, .int .i64 l, .int .i64 e] w fun e w' => e = .returned (.bool true) ∧ Below w.heap.size w w' := by
  go_enter Try.func5, Try.ntmps5
  go_wp2_with fail
  refine (bput_nil v l e _).mono ?_
  rintro x w1 ⟨rfl, rfl⟩
  go_wp2_with fail
  refine (btake_nil v l e _).mono ?_
  rintro x w2 ⟨rfl, rfl⟩
  go_wp2_with fail
  refine (bhas_nil v l e _).mono ?_
  rintro x w3 ⟨rfl, rfl⟩
  go_wp2_with fail
  refine (bmany_nil v l _).mono ?_
  rintro x w4 ⟨rfl, rfl⟩
  go_wp2_with fail
  refine (blen_nil _).mono ?_
  rintro x w5 ⟨rfl, rfl⟩
  go_wp2_with fail
  refine (of_nilbag v l 9 _).mono ?_
  rintro x w6 ⟨ao, cap, rfl, h6⟩
  have H6 := hid_mk h6
  clear h6
  go_wp2_with fail
  refine (wakes9_any _).mono ?_
  rintro x w7 ⟨rfl, h7⟩
  have H7 := hid_mk (H6.out.trans (h7.mono H6.out.size))
  clear h7 H6
  go_wp2
  go_ret
  exact ⟨rfl, H7.out⟩
end Go.Proofs.Ythdmmjboaoonbaa
