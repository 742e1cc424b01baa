/-
  The model's CarriesOf and DigitsOf: for every argument what they hand back.
-/
import Derived.Test.YtammmcffbfkgjaaSpec2b
namespace Go.Proofs.Ytammmcffbfkgjaa
open Go.RowKit

set_option maxHeartbeats 800000 in
theorem specCarries (x y b : Int) (w : World) : Calls Try.prog 23 #[.int .i64 x, .int .i64 y, .int .i64 b] w fun e w' => e = .returned (.int .i64 (carriesV x y b)) ∧ Below w.heap.size w w' := by
  by_cases hbad : bad2 x y b
  · rw [carriesV_bad hbad]
    unfold bad2 at hbad
    by_cases h1 : x < 0 ∨ 499999999 < x
    case' neg => by_cases h2 : y < 0 ∨ 499999999 < y
    all_goals
      go_enter Try.func23, Try.ntmps23
      go_wp2_with (first | (go_at_call 40; refine (l1In_t _ _ _ _ (by omega) (by omega)).mono ?_; rintro e w' ⟨rfl, rfl⟩) | (go_at_call 40; refine (l1In_f _ _ _ _ (by omega)).mono ?_; rintro e w' ⟨rfl, rfl⟩))
      go_ret
      exact ⟨rfl, Below.refl _ _⟩
  · unfold bad2 at hbad
    obtain ⟨X, rfl⟩ : ∃ N : Nat, x = N := ⟨x.toNat, by omega⟩
    obtain ⟨Y, rfl⟩ : ∃ N : Nat, y = N := ⟨y.toNat, by omega⟩
    obtain ⟨B, rfl⟩ : ∃ B : Nat, b = B := ⟨b.toNat, by omega⟩
    have hX : X ≤ 499999999 := by omega
    have hY : Y ≤ 499999999 := by omega
    have hB : 2 ≤ B := by omega
    have hB2 : B ≤ 16 := by omega
    rw [carriesV_nat hX hY hB hB2]
    clear hbad
    have hsl : carL B 0 (pairs B X Y) ≤ X + Y := Nat.le_trans (carL_le 0 _ (by omega) (pairs_lt hB X Y)) (pairs_len hB X Y)
    obtain ⟨S, hS⟩ : ∃ S, carL B 0 (pairs B X Y) = S := ⟨_, rfl⟩
    rw [hS] at hsl ⊢
    have hS' := hide (show 0 + carL B 0 (pairs B X Y) = S by omega)
    clear hS
    go_enter Try.func23, Try.ntmps23
    go_wp2_with (go_at_call 40; refine (l1In_t _ _ _ _ (by omega) (by omega)).mono ?_; rintro e w' ⟨rfl, rfl⟩)
    go_loopw [0, 1, 7, 8, 9] (fun p q s c d wr => ∃ m k t h : Nat, p = .int .i64 m ∧ q = .int .i64 k ∧ s = .int .i64 t ∧ c = .int .i64 h ∧ d = d ∧ m ≤ X ∧ k ≤ Y ∧ h ≤ 1 ∧ t + carL B h (pairs B m k) = S ∧ Below w.heap.size w wr) (fun p q _ c _ _ => (intOf p).toNat + (intOf q).toNat + (intOf c).toNat)
    case atStart => exact ⟨X, Y, 0, 0, rfl, rfl, rfl, rfl, rfl, Nat.le_refl _, Nat.le_refl _, by omega, hS'.out, Below.refl _ _⟩
    case round =>
      clear hS'
      obtain ⟨m, k, t, h, rfl, rfl, rfl, rfl, _, hm, hk, hh, hs, hBl⟩ := hrel
      have hb0 : ((B : Int) == 0) = false := by simp; omega
      by_cases hlt : 0 < m + k
      · rw [pairs_pos hB hlt] at hs
        simp only [carL] at hs
        have hq1 := tmod_nat' m B
        have hq2 := tdiv_nat' m B
        have hq3 := tmod_nat' k B
        have hq4 := tdiv_nat' k B
        have hr1 := Nat.mod_lt m (show 0 < B by omega)
        have hr2 := Nat.mod_lt k (show 0 < B by omega)
        have hd1 := Nat.div_le_self m B
        have hd2 := Nat.div_le_self k B
        have hone := one_carry hr1 hr2 hh
        have hst := div_mod B (m % B + k % B + h)
        have hst1 := div_mod B m
        have hst2 := div_mod B k
        have hdm := two_mul_le (q := m / B) hB
        have hdk := two_mul_le (q := k / B) hB
        generalize B * (m / B) = Bm at *
        generalize B * (k / B) = Bk at *
        generalize m % B = r1 at *
        generalize m / B = q1 at *
        generalize k % B = r2 at *
        generalize k / B = q2 at *
        have hw1 : IntKind.i64.wrap (r1 : Int) = r1 := IntWalk.i64_in _ (by omega)
        have hw2 : IntKind.i64.wrap (q1 : Int) = q1 := IntWalk.i64_in _ (by omega)
        have hw3 : IntKind.i64.wrap (r2 : Int) = r2 := IntWalk.i64_in _ (by omega)
        have hw4 : IntKind.i64.wrap (q2 : Int) = q2 := IntWalk.i64_in _ (by omega)
        have hw5 : IntKind.i64.wrap ((r1 : Int) + r2) = (r1 : Int) + r2 := IntWalk.i64_in _ (by omega)
        have hw6 : IntKind.i64.wrap ((r1 : Int) + r2 + h) = (r1 : Int) + r2 + h := IntWalk.i64_in _ (by omega)
        have hmod := Nat.mod_lt (r1 + r2 + h) (show 0 < B by omega)
        generalize (r1 + r2 + h) % B = e at *
        generalize (r1 + r2 + h) / B = g at *
        rcases (show g = 0 ∨ g = 1 by omega) with rfl | rfl
        · rw [Nat.mul_zero] at hst
          have hlow : (r1 : Int) + r2 + h < B := by omega
          have hs' := hide (show t + carL B 0 (pairs B q1 q2) = S by omega)
          have hmeas : q1 + q2 + 0 < m + k + h := by omega
          clear hs hst hone
          by_cases hm0 : 0 < m
          all_goals
            have hk0 : 0 < m ∨ 0 < k := by omega
            go_wp2
            go_quiet (fail)
            go_wp2
            go_roundw
            case rel => exact ⟨q1, q2, t, 0, rfl, rfl, rfl, rfl, trivial, by omega, by omega, by omega, hs'.out, ⟨hBl.os, hBl.tape, hBl.output, hBl.size, hBl.block⟩⟩
            case measure => simp [intOf]; omega
        · rw [Nat.mul_one] at hst
          have hlow : (B : Int) ≤ (r1 : Int) + r2 + h := by omega
          have hs' := hide (show t + 1 + carL B 1 (pairs B q1 q2) = S by omega)
          have hts : t + 1 ≤ S := by omega
          have hmeas : q1 + q2 + 1 < m + k + h := by omega
          clear hs hst hone
          by_cases hm0 : 0 < m
          all_goals
            have hk0 : 0 < m ∨ 0 < k := by omega
            go_wp2
            go_quiet (fail)
            go_wp2
            go_roundw
            case rel => exact ⟨q1, q2, t + 1, 1, rfl, rfl, by go_num, rfl, trivial, by omega, by omega, by omega, hs'.out, ⟨hBl.os, hBl.tape, hBl.output, hBl.size, hBl.block⟩⟩
            case measure => simp [intOf]; omega
      · obtain ⟨rfl, rfl⟩ : m = 0 ∧ k = 0 := by omega
        rw [pairs_zero] at hs
        simp only [carL] at hs
        obtain rfl : t = S := by omega
        clear hs
        have hz1 : Int.tmod 0 (B : Int) = 0 := by simp
        have hz2 : Int.tdiv 0 (B : Int) = 0 := by simp
        have h1B : (1 : Int) < B := by omega
        rcases (show h = 0 ∨ h = 1 by omega) with rfl | rfl
        · go_wp2
          go_ret
          exact ⟨rfl, hBl⟩
        · go_wp2
          go_quiet (fail)
          go_wp2
          go_roundw
          case rel => exact ⟨0, 0, t, 0, rfl, rfl, rfl, rfl, trivial, by omega, by omega, by omega, by rw [pairs_zero]; rfl, ⟨hBl.os, hBl.tape, hBl.output, hBl.size, hBl.block⟩⟩
          case measure => simp [intOf]
end Go.Proofs.Ytammmcffbfkgjaa
