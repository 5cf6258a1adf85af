/- The walk of ArenaTwo. -/
import Derived.Test.YtklkbjfdejpdpaaArenaGreat
namespace Go.Proofs.Ytklkbjfdejpdpaa
open Go.RowKit
set_option linter.unusedVariables false

def ownS : Slt := ([.string ⟨#[111, 119, 110]⟩], true)
abbrev TwoS (w wr : World) (Fa : Nat → Prop) (Ba Ga : Nat) (La : List Slt) (fa : List Int) (Fb : Nat → Prop) (Bb Gb : Nat) (Lb : List Slt) (fb : List Int) : Prop :=
  Two 69 71 1 69 71 1 w wr Fa Ba Ga La fa Fb Bb Gb Lb fb
theorem own_snoc (j : Nat) : List.replicate j ownS ++ [([.string ⟨#[111, 119, 110]⟩], true)] = List.replicate (j + 1) ownS := (List.replicate_succ' (n := j) (a := ownS)).symm
theorem own_is {n j : Nat} (h : j < n) : (List.replicate n ownS)[j]? = some ownS := by simp [h]

set_option maxRecDepth 100000 in
set_option maxHeartbeats 4000000 in
theorem atwo_walk (ao : Option Addr) (cap : Nat) (qs : List A5.Ac) (many : Int) (w : World) (hk : A5.AcAt w ao qs) (hl : qs.length ≤ 9223372036854775807) (hm : 0 ≤ many ∧ many ≤ 255) :
    Calls Try.prog 7 #[.slice ao qs.length cap, .int .u8 many] w fun e w' => e = .returned (.bool true) ∧ Below w.heap.size w w' := by
  have HK : Hid (A5.AcAt w ao qs) := hk
  clear hk
  obtain ⟨n, hn⟩ : ∃ n, n = qs.length := ⟨_, rfl⟩
  have HN : Hid (qs.length = n) := hn.symm
  rw [← hn] at hl ⊢
  clear hn
  go_enter Try.func7, Try.ntmps7
  go_wp2_with fail
  refine (aawake_any _).mono ?_
  rintro e w1 ⟨rfl, hb1⟩
  have hs1 := hb1.size
  go_wp2_with fail
  refine (agreat_any ao cap n qs w1 HN.out hl (HK.out.below hb1)).mono ?_
  rintro e w2 ⟨g, rfl, hg, rfl⟩
  cases g with
  | true =>
    go_wp2
    go_ret
    exact ⟨rfl, hb1⟩
  | false =>
  have hn3 := hg rfl
  clear hg
  go_wp2_with fail
  refine (AS.new_any w2).mono ?_
  rintro e w3 ⟨rfl, hA, hb3⟩
  have hb4 := below_step hb1 hb3 (Nat.le_refl _)
  obtain ⟨Ba, hBa⟩ : ∃ B, B = w2.heap.size := ⟨_, rfl⟩
  rw [← hBa] at hA ⊢
  have HBa : Hid (Ba = w2.heap.size) := hBa
  clear hBa
  go_wp2_with fail
  refine (AS.new_any w3).mono ?_
  rintro e w4 ⟨rfl, hB, hb5⟩
  obtain ⟨Bb, hBb⟩ : ∃ B, B = w3.heap.size := ⟨_, rfl⟩
  rw [← hBb] at hB ⊢
  have hlt := hA.blt
  have hBa := HBa.out
  have T0 : Hid (TwoS w w4 (fun k => k = Ba) Ba 0 [] [] (fun k => k = Bb) Bb 0 (List.replicate 0 ownS) []) := ⟨hA.below hb5, hB, fun k h1 h2 => by omega, fun k h1 => by omega, fun k h1 => by have := hb3.size; omega, below_step hb4 hb5 (Nat.le_refl _)⟩
  clear hA hB hb5 hb4 hb3 hBa HBa hBb hlt hs1 hb1
  go_wp2
  go_loopw [8] (fun i wr => ∃ (j : Nat) (Fb : Nat → Prop) (Gb : Nat), i = .int .i64 ((j : Int) + 1) ∧ (j : Int) ≤ 1 + many % 20 ∧ Hid (TwoS w wr (fun k => k = Ba) Ba 0 [] [] Fb Bb Gb (List.replicate j ownS) [])) (fun i _ => 30 - (intOf i).toNat)
  case atStart => exact ⟨0, _, _, rfl, by omega, T0⟩
  case round =>
    clear T0
    obtain ⟨j, Fb, Gb, rfl, hj, HT⟩ := hrel
    by_cases hlt : (j : Int) < 1 + many % 20
    · go_wp2_with fail
      refine (AS.take_new ⟨#[111, 119, 110]⟩ HT.out.b (by simp; omega)).mono ?_
      rintro e w5 ⟨F5, G5, rfl, hB, hS⟩
      rw [own_snoc] at hB
      have T5 : Hid (TwoS w w5 (fun k => k = Ba) Ba 0 [] [] F5 Bb G5 (List.replicate (j + 1) ownS) []) := HT.out.stepB hB hS
      clear hB hS HT
      rw [List.length_replicate]
      go_wp2
      go_roundw
      case rel => exact ⟨j + 1, _, _, by go_num, by omega, T5⟩
      case measure => simp [intOf]; omega
    · have hje : (j : Int) = 1 + many % 20 := by omega
      have HJ : Hid ((j : Int) = 1 + many % 20) := hje
      have hj2 : j ≤ 20 := by omega
      rw [← hje]
      clear hje hlt hj
      go_wp2
      generalize wr = wo at *
      go_loopw [9, 10] (fun t i wr => ∃ (k : Nat) (Fa : Nat → Prop) (Ga : Nat) (La : List Slt) (fa : List Int), i = .int .i64 k ∧ k ≤ n ∧ La.length ≤ k ∧ fa.length ≤ k ∧ t = .int .i64 ((La.length : Int) - fa.length) ∧ Hid (TwoS w wr Fa Ba Ga La fa Fb Bb Gb (List.replicate j ownS) [])) (fun _ i _ => n - (intOf i).toNat)
      case atStart => exact ⟨0, _, _, [], [], rfl, Nat.zero_le _, Nat.le_refl _, Nat.le_refl _, rfl, HT⟩
      case round =>
        clear HT
        obtain ⟨k, Fa, Ga, La, fa, rfl, hkn, hLa, hfa, rfl, HT⟩ := hrel
        by_cases hlt : k < n
        · rcases HK.out with h | ⟨b, off, rfl, hbl, hc⟩
          · have := HN.out; rw [h] at this; simp at this; omega
          have hq := (hc k (by rw [HN.out]; exact hlt)).1.below HT.out.below hbl
          have hok := (hc k (by rw [HN.out]; exact hlt)).2
          clear hc
          generalize A5.aAt qs k = q at *
          obtain ⟨d, nn, s⟩ := q
          obtain ⟨c0, c1, c2⟩ := hq
          simp only at c0 c1 c2
          have hnn : -2147483648 ≤ nn ∧ nn ≤ 2147483647 := hok.2.1
          clear hok
          by_cases hd0 : d = 0
          · subst hd0
            obtain ⟨m, hm1, hm2⟩ : ∃ m : Int, m = (La.length : Int) - fa.length ∧ -301 ≤ m ∧ m ≤ 301 := ⟨_, rfl, by omega, by omega⟩
            have HM : Hid (m = (La.length : Int) - fa.length) := hm1
            rw [← hm1]
            clear hm1
            go_wp2_with fail
            refine (AS.take_any s HT.out.a (by omega) (by omega)).mono ?_
            rintro e w5 ⟨F5, G5, rfl, hA, hS⟩
            have T5 : Hid (TwoS w w5 F5 Ba G5 (takeL La fa ([.string s], true)) fa.dropLast Fb Bb Gb (List.replicate j ownS) []) := HT.out.stepA hA hS
            have hlen := takeL_len La fa ([.string s], true)
            have hle := takeL_le La fa ([.string s], true)
            clear hA hS HT
            go_wp2
            go_roundw
            case rel => exact ⟨k + 1, _, _, _, _, by go_num, by omega, by omega, by omega, by congr 1; have := HM.out; omega, T5⟩
            case measure => simp [intOf]; omega
          · by_cases hd1 : d = 1
            · subst hd1
              obtain ⟨m, hm1, hm2⟩ : ∃ m : Int, m = (La.length : Int) - fa.length ∧ -301 ≤ m ∧ m ≤ 301 := ⟨_, rfl, by omega, by omega⟩
              have HM : Hid (m = (La.length : Int) - fa.length) := hm1
              rw [← hm1]
              clear hm1
              cases hT : isT La nn with
              | true =>
                go_wp2_with fail
                refine (AS.free_at HT.out.a nn hT (by omega) (by omega)).mono ?_
                rintro e w5 ⟨F5, rfl, hA, hS⟩
                have T5 : Hid (TwoS w w5 F5 Ba Ga (La.set (nn - 1).toNat ([.string ⟨#[]⟩], false)) (fa ++ [nn]) Fb Bb Gb (List.replicate j ownS) []) := HT.out.stepA hA hS
                clear hA hS HT hT
                go_wp2
                go_roundw
                case rel => exact ⟨k + 1, _, _, _, _, by go_num, by omega, by simp; omega, by simp; omega, by congr 1; have := HM.out; simp; omega, T5⟩
                case measure => simp [intOf]; omega
              | false =>
                go_wp2_with fail
                refine (AS.free_no HT.out.a hnn hT (by omega)).mono ?_
                rintro e w5 ⟨rfl, rfl⟩
                clear hT
                go_wp2
                go_roundw
                case rel => exact ⟨k + 1, _, _, _, _, by go_num, by omega, by omega, by omega, by rw [← HM.out], HT⟩
                case measure => simp [intOf]; omega
            · have d0 : (d == 0) = false := by simpa using hd0
              have d1 : (d == 1) = false := by simpa using hd1
              obtain ⟨m, hm1, hm2⟩ : ∃ m : Int, m = (La.length : Int) - fa.length ∧ -301 ≤ m ∧ m ≤ 301 := ⟨_, rfl, by omega, by omega⟩
              have HM : Hid (m = (La.length : Int) - fa.length) := hm1
              rw [← hm1]
              clear hm1
              go_wp2
              go_roundw
              case rel => exact ⟨k + 1, _, _, _, _, by go_num, by omega, by omega, by omega, by rw [← HM.out], HT⟩
              case measure => simp [intOf]; omega
        · obtain rfl : k = n := by omega
          obtain ⟨m, hm1, hm2⟩ : ∃ m : Int, m = (La.length : Int) - fa.length ∧ -301 ≤ m ∧ m ≤ 301 := ⟨_, rfl, by omega, by omega⟩
          have HM : Hid (m = (La.length : Int) - fa.length) := hm1
          rw [← hm1]
          clear hm1 hlt
          go_wp2
          generalize wr = wp at *
          go_loopw [11] (fun i wr => ∃ (l : Nat), i = .int .i64 ((l : Int) + 1) ∧ l ≤ j ∧ wr = wp) (fun i _ => 30 - (intOf i).toNat)
          case atStart => exact ⟨0, rfl, Nat.zero_le _, rfl⟩
          case round =>
            obtain ⟨l, rfl, hlj, rfl⟩ := hrel
            by_cases hlt : l < j
            · have hs := own_is hlt
              have hT : isT (List.replicate j ownS) ((l : Int) + 1) = true := isT_at hs
              have c0 : wr.cell? ⟨Gb, l * 2, none⟩ = some (.string ⟨#[111, 119, 110]⟩) := by simpa using (HT.out.b.slot hs).2.2.1 0 _ rfl
              have HT' : Hid (isT (List.replicate j ownS) ((l : Int) + 1) = true) := hT
              clear hT hs
              go_wp2_with fail
              refine (AS.at_yes HT.out.b HT'.out (by simp; omega) (by simp; omega)).mono ?_
              rintro e w5 ⟨rfl, rfl⟩
              go_wp2
              go_roundw
              case rel => exact ⟨l + 1, by go_num, by omega, by first | rfl | trivial⟩
              case measure => simp [intOf]; omega
            · go_wp2_with fail
              refine (AS.len_any HT.out.b (by simp; omega) (by simp)).mono ?_
              rintro e w5 ⟨rfl, nq, rfl⟩
              have T5 := HT.out.drewN nq
              have HT5 : Hid (TwoS w (wr.drewN nq) Fa Ba Ga La fa Fb Bb Gb (List.replicate j ownS) []) := T5
              clear T5
              rw [List.length_replicate, List.length_nil]
              go_wp2_with fail
              refine (AS.slots_any HT5.out.b).mono ?_
              rintro e w5 ⟨rfl, rfl⟩
              rw [List.length_replicate]
              go_wp2_with fail
              refine (AS.len_any HT5.out.a (by omega) (by omega)).mono ?_
              rintro e w5 ⟨rfl, nq2, rfl⟩
              rw [← HM.out]
              have hb := below_drewN HT.out.below (nq + nq2)
              go_wp2
              go_ret
              exact ⟨rfl, hb⟩
end Go.Proofs.Ytklkbjfdejpdpaa
