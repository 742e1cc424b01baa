/-
  The model's DigitsOf, SumOfDigits, CarriesOf, UnderOk and CountUnder: for every argument what they hand back.
-/
import Derived.Test.YtammmcffbfkgjaaBase
import Derived.Test.YtammmcffbfkgjaaVals2
import Derived.Test.YtammmcffbfkgjaaRowAt
import Derived.BigQuiet
namespace Go.Proofs.Ytammmcffbfkgjaa
open Go.RowKit

theorem tmod_nat' (n b : Nat) : Int.tmod (n : Int) (b : Int) = ((n % b : Nat) : Int) := by rw [Int.tmod_eq_emod_of_nonneg (by omega)]; rfl
theorem tdiv_nat' (n b : Nat) : Int.tdiv (n : Int) (b : Int) = ((n / b : Nat) : Int) := by rw [Int.tdiv_eq_ediv_of_nonneg (by omega)]; rfl

/-- l1In at any number. -/
theorem l1In_d (n lo hi : Int) (w : World) : Calls Try.prog 40 #[.int .i64 n, .int .i64 lo, .int .i64 hi] w fun e w' => e = .returned (.bool (decide (lo ≤ n ∧ n ≤ hi))) ∧ w = w' := by
  by_cases h : lo ≤ n ∧ n ≤ hi
  · rw [show decide (lo ≤ n ∧ n ≤ hi) = true by simpa using h]; exact l1In_t n lo hi w h.1 h.2
  · rw [show decide (lo ≤ n ∧ n ≤ hi) = false by simpa using h]; exact l1In_f n lo hi w (by omega)

set_option maxHeartbeats 400000 in
theorem specSum (n b : Int) (w : World) : Calls Try.prog 20 #[.int .i64 n, .int .i64 b] w fun e w' => e = .returned (.int .i64 (sumV n b)) ∧ w = w' := by
  by_cases hbad : bad1 n b
  · rw [sumV_bad hbad]
    unfold bad1 at hbad
    by_cases h1 : n < 0 ∨ 999999999 < n
    all_goals
      go_enter Try.func20, Try.ntmps20
      go_wp2_with (first | (go_at_call 40; refine (l1In_t _ _ _ _ (by omega) (by omega)).mono ?_; rintro e w' ⟨rfl, rfl⟩) | (go_at_call 40; refine (l1In_f _ _ _ _ (by omega)).mono ?_; rintro e w' ⟨rfl, rfl⟩))
      go_ret
      exact ⟨rfl, rfl⟩
  · unfold bad1 at hbad
    obtain ⟨N, rfl⟩ : ∃ N : Nat, n = N := ⟨n.toNat, by omega⟩
    obtain ⟨B, rfl⟩ : ∃ B : Nat, b = B := ⟨b.toNat, by omega⟩
    have hN : N ≤ 999999999 := by omega
    have hB : 2 ≤ B := by omega
    have hB2 : B ≤ 16 := by omega
    rw [sumV_nat hN hB hB2]
    clear hbad
    have hsl := sum_le hB N
    obtain ⟨S, hS⟩ : ∃ S, sumL (digs B N) = S := ⟨_, rfl⟩
    rw [hS] at hsl ⊢
    have hS0 : 0 + sumL (digs B N) = S := by omega
    clear hS
    go_enter Try.func20, Try.ntmps20
    go_wp2_with (go_at_call 40; refine (l1In_t _ _ _ _ (by omega) (by omega)).mono ?_; rintro e w' ⟨rfl, rfl⟩)
    go_loop [0, 5] (fun n s => ∃ m t : Nat, n = .int .i64 m ∧ s = .int .i64 t ∧ m ≤ N ∧ t + sumL (digs B m) = S) (fun n _ => (intOf n).toNat)
    case atStart => exact ⟨N, 0, rfl, rfl, Nat.le_refl _, hS0⟩
    case round =>
      clear hS0
      obtain ⟨m, t, rfl, rfl, hm, hs⟩ := hrel
      by_cases hlt : 0 < m
      · rw [digs_pos hB hlt] at hs
        simp only [sumL] at hs
        have hq1 := tmod_nat' m B
        have hq2 := tdiv_nat' m B
        have hr := Nat.mod_lt m (show 0 < B by omega)
        have hdl := Nat.div_lt_self hlt hB
        generalize m % B = r at *
        generalize m / B = q at *
        have hs' := hide hs
        have hts : t + r ≤ 999999999 := by omega
        clear hs
        have hb0 : ((B : Int) == 0) = false := by simp; omega
        have hw1 : IntKind.i64.wrap (r : Int) = r := IntWalk.i64_in _ (by omega)
        have hw2 : IntKind.i64.wrap (q : Int) = q := IntWalk.i64_in _ (by omega)
        go_wp2
        go_round
        case rel => exact ⟨q, t + r, rfl, by go_num, by omega, by have := hs'.out; omega⟩
        case measure => simp [intOf]; omega
      · obtain rfl : m = 0 := by omega
        rw [digs_zero] at hs
        simp only [sumL] at hs
        obtain rfl : t = S := by omega
        clear hs
        go_wp2
        go_ret
        exact ⟨rfl, rfl⟩
end Go.Proofs.Ytammmcffbfkgjaa
