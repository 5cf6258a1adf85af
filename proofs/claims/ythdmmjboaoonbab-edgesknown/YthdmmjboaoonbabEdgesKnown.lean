/- Layer 9's statements: EdgesKnown, EdgesNobody. -/
import Derived.Test.YthdmmjboaoonbabEdgesActs
namespace Go.Proofs.Ythdmmjboaoonbab
open Go.RowKit
set_option linter.unusedVariables false

def kn0 : Bg := putB bg0 1 0 5
def kn1 : Bg := putB kn0 1 0 6
def kn2 : Bg := putB kn1 1 0 7
def kn3 : Bg := putB kn2 1 0 5
def kn4 : Bg := takeB kn3 1 0 5
def kn5 : Bg := takeB kn4 1 0 5
def kn6 : Bg := putB kn5 1 64 5
def kn7 : Bg := putB kn6 1 (-1) 5
def kn8 : Bg := putB kn7 1 0 0
def kn9 : Bg := putB kn8 1 1 7
def kn10 : Bg := putB kn9 (-9) 63 1
set_option maxRecDepth 100000 in
set_option maxHeartbeats 3200000 in
theorem edgesKnown (w : World) : Calls Try.prog 4 #[] w fun e w' => e = .returned (.bool true) ∧ Below w.heap.size w w' := by
  go_enter Try.func4, Try.ntmps4
  go_wp2_with fail
  refine (snew_any (Below.refl _ _)).mono ?_
  rintro x w1 ⟨B, rfl, h1⟩
  have S1 := hid_mk h1
  clear h1
  go_wp2_with fail
  refine (sput_to S1.out (by omega) ⟨by decide, by decide, by decide⟩ 0 kn0 (by decide +kernel) rfl).mono ?_
  rintro x w2 ⟨rfl, h2⟩
  have S2 := hid_mk h2
  clear h2 S1
  go_wp2_with fail
  refine (sput_to S2.out (by omega) ⟨by decide, by decide, by decide⟩ 0 kn1 (by decide +kernel) rfl).mono ?_
  rintro x w3 ⟨rfl, h2⟩
  have S3 := hid_mk h2
  clear h2 S2
  go_wp2_with fail
  refine (sput_to S3.out (by omega) ⟨by decide, by decide, by decide⟩ 0 kn2 (by decide +kernel) rfl).mono ?_
  rintro x w4 ⟨rfl, h2⟩
  have S4 := hid_mk h2
  clear h2 S3
  go_wp2_with fail
  refine (sput_to S4.out (by omega) ⟨by decide, by decide, by decide⟩ 5 kn3 (by decide +kernel) rfl).mono ?_
  rintro x w5 ⟨rfl, h2⟩
  have S5 := hid_mk h2
  clear h2 S4
  go_wp2_with fail
  refine (stake_to S5.out (by omega) ⟨by decide, by decide, by decide⟩ true kn4 (by decide +kernel) rfl).mono ?_
  rintro x w6 ⟨rfl, h2⟩
  have S6 := hid_mk h2
  clear h2 S5
  go_wp2_with fail
  refine (stake_to S6.out (by omega) ⟨by decide, by decide, by decide⟩ false kn5 (by decide +kernel) rfl).mono ?_
  rintro x w7 ⟨rfl, h2⟩
  have S7 := hid_mk h2
  clear h2 S6
  go_wp2_with fail
  refine (sof_to S7.out (by omega) ⟨by decide, by decide⟩ (by decide) [7, 6] 2 (by decide +kernel) rfl).mono ?_
  rintro x w8 ⟨ao, cap, rfl, hn, h2⟩
  have HN := hid_mk hn
  have S8 := hid_mk h2
  clear h2 hn S7
  go_wp2_with fail
  have hbn : Below w8.heap.size w8 (w8.alloc (.cells #[.int .i64 7, .int .i64 6] 3)) := (Below.refl _ _).alloc (Nat.le_refl _) _
  refine (same9_to [7, 6] [7, 6] (HN.out.below hbn) (nat_new w8 [7, 6]) rfl rfl (by decide) (by decide) true (by decide)).mono ?_
  rintro x w9 ⟨rfl, h8⟩
  have S9 := hid_mk ((S8.out.below hbn).below h8)
  clear hbn h8 HN S8
  go_wp2_with fail
  refine (sof_to S9.out (by omega) ⟨by decide, by decide⟩ (by decide) [7] 1 (by decide +kernel) rfl).mono ?_
  rintro x w10 ⟨ao, cap, rfl, hn, h2⟩
  have HN := hid_mk hn
  have S10 := hid_mk h2
  clear h2 hn S9
  go_wp2_with fail
  have hbn : Below w10.heap.size w10 (w10.alloc (.cells #[.int .i64 7] 3)) := (Below.refl _ _).alloc (Nat.le_refl _) _
  refine (same9_to [7] [7] (HN.out.below hbn) (nat_new w10 [7]) rfl rfl (by decide) (by decide) true (by decide)).mono ?_
  rintro x w11 ⟨rfl, h8⟩
  have S11 := hid_mk ((S10.out.below hbn).below h8)
  clear hbn h8 HN S10
  go_wp2_with fail
  refine (sput_to S11.out (by omega) ⟨by decide, by decide, by decide⟩ 1 kn6 (by decide +kernel) rfl).mono ?_
  rintro x w12 ⟨rfl, h2⟩
  have S12 := hid_mk h2
  clear h2 S11
  go_wp2_with fail
  refine (sput_to S12.out (by omega) ⟨by decide, by decide, by decide⟩ 1 kn7 (by decide +kernel) rfl).mono ?_
  rintro x w13 ⟨rfl, h2⟩
  have S13 := hid_mk h2
  clear h2 S12
  go_wp2_with fail
  refine (sput_to S13.out (by omega) ⟨by decide, by decide, by decide⟩ 1 kn8 (by decide +kernel) rfl).mono ?_
  rintro x w14 ⟨rfl, h2⟩
  have S14 := hid_mk h2
  clear h2 S13
  go_wp2_with fail
  refine (sput_to S14.out (by omega) ⟨by decide, by decide, by decide⟩ 0 kn9 (by decide +kernel) rfl).mono ?_
  rintro x w15 ⟨rfl, h2⟩
  have S15 := hid_mk h2
  clear h2 S14
  go_wp2_with fail
  refine (sput_to S15.out (by omega) ⟨by decide, by decide, by decide⟩ 0 kn10 (by decide +kernel) rfl).mono ?_
  rintro x w16 ⟨rfl, h2⟩
  have S16 := hid_mk h2
  clear h2 S15
  go_wp2_with fail
  refine (smany_to S16.out ⟨by decide, by decide⟩ 2 (by decide +kernel)).mono ?_
  rintro x wz ⟨rfl, rfl⟩
  go_wp2_with fail
  refine (slen_to S16.out 4 (by decide +kernel)).mono ?_
  rintro x wz ⟨rfl, rfl⟩
  go_wp2_with fail
  refine (shas_to S16.out ⟨by decide, by decide, by decide⟩ true (by decide +kernel)).mono ?_
  rintro x wz ⟨rfl, rfl⟩
  go_wp2_with fail
  refine (shas_to S16.out ⟨by decide, by decide, by decide⟩ false (by decide +kernel)).mono ?_
  rintro x wz ⟨rfl, rfl⟩
  go_wp2_with fail
  refine (sof_to S16.out (by omega) ⟨by decide, by decide⟩ (by decide) [] 0 (by decide +kernel) rfl).mono ?_
  rintro x w17 ⟨ao, cap, rfl, hn, h2⟩
  have HN := hid_mk hn
  have S17 := hid_mk h2
  clear h2 hn S16
  clear HN
  go_wp2_with fail
  refine (wakes9_any _).mono ?_
  rintro x wz ⟨rfl, hz⟩
  have SZ := hid_mk (S17.out.below hz)
  clear hz S17
  go_wp2
  go_ret
  exact ⟨rfl, SZ.out.bl⟩
end Go.Proofs.Ythdmmjboaoonbab
