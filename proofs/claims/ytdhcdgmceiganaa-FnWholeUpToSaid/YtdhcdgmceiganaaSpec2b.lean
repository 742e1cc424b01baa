/-
  The model's CountUnder, UnderOk, CarriesOf and DigitsOf: for every argument what they hand back.
-/
import Derived.Test.YtdhcdgmceiganaaSpec2
namespace Go.Proofs.Ytdhcdgmceiganaa
open Go.RowKit

set_option maxHeartbeats 400000 in
theorem specCount (n b : Int) (w : World) : Calls Try.prog 39 #[.int .i64 n, .int .i64 b] w fun e w' => e = .returned (.int .i64 (countV n b)) ∧ w = w' := by
  by_cases hbad : bad1 n b
  · rw [countV_bad hbad]
    unfold bad1 at hbad
    by_cases h1 : n < 0 ∨ 999999999 < n
    all_goals
      go_enter Try.func39, Try.ntmps39
      go_wp2_with (first | (go_at_call 38; refine (l1In_t _ _ _ _ (by omega) (by omega)).mono ?_; rintro e w' ⟨rfl, rfl⟩) | (go_at_call 38; refine (l1In_f _ _ _ _ (by omega)).mono ?_; rintro e w' ⟨rfl, rfl⟩))
      go_ret
      exact ⟨rfl, rfl⟩
  · unfold bad1 at hbad
    obtain ⟨N, rfl⟩ : ∃ N : Nat, n = N := ⟨n.toNat, by omega⟩
    obtain ⟨B, rfl⟩ : ∃ B : Nat, b = B := ⟨b.toNat, by omega⟩
    have hN : N ≤ 999999999 := by omega
    have hB : 2 ≤ B := by omega
    have hB2 : B ≤ 16 := by omega
    rw [countV_nat hN hB hB2]
    clear hbad
    have hsl := mul_le hB N
    obtain ⟨S, hS⟩ : ∃ S, mulL (digs B N) = S := ⟨_, rfl⟩
    rw [hS] at hsl ⊢
    have hS0 : 1 * mulL (digs B N) = S := by omega
    clear hS
    go_enter Try.func39, Try.ntmps39
    go_wp2_with (go_at_call 38; refine (l1In_t _ _ _ _ (by omega) (by omega)).mono ?_; rintro e w' ⟨rfl, rfl⟩)
    go_loop [0, 5] (fun n s => ∃ m t : Nat, n = .int .i64 m ∧ s = .int .i64 t ∧ m ≤ N ∧ t * mulL (digs B m) = S) (fun n _ => (intOf n).toNat)
    case atStart => exact ⟨N, 1, rfl, rfl, Nat.le_refl _, hS0⟩
    case round =>
      clear hS0
      obtain ⟨m, t, rfl, rfl, hm, hs⟩ := hrel
      by_cases hlt : 0 < m
      · rw [digs_pos hB hlt] at hs
        simp only [mulL] at hs
        have hq1 := tmod_nat' m B
        have hq2 := tdiv_nat' m B
        have hr := Nat.mod_lt m (show 0 < B by omega)
        have hdl := Nat.div_lt_self hlt hB
        generalize m % B = r at *
        generalize m / B = q at *
        rw [← Nat.mul_assoc] at hs
        have hts : t * (r + 1) ≤ S := by rw [← hs]; exact Nat.le_mul_of_pos_right _ (mulL_pos _)
        have hs' := hide hs
        have hb0 : ((B : Int) == 0) = false := by simp; omega
        have hw1 : IntKind.i64.wrap (r : Int) = r := IntWalk.i64_in _ (by omega)
        have hw2 : IntKind.i64.wrap (q : Int) = q := IntWalk.i64_in _ (by omega)
        have hw4 : (t : Int) * ((r : Int) + 1) = ((t * (r + 1) : Nat) : Int) := by simp
        have hw3 : IntKind.i64.wrap ((t : Int) * ((r : Int) + 1)) = ((t * (r + 1) : Nat) : Int) := by rw [hw4]; exact IntWalk.i64_in _ (by omega)
        clear hs hw4
        go_wp2
        go_round
        case rel => exact ⟨q, t * (r + 1), rfl, rfl, by omega, hs'.out⟩
        case measure => simp [intOf]; omega
      · obtain rfl : m = 0 := by omega
        rw [digs_zero] at hs
        simp only [mulL, Nat.mul_one] at hs
        obtain rfl : t = S := by omega
        clear hs
        go_wp2
        go_ret
        exact ⟨rfl, rfl⟩

end Go.Proofs.Ytdhcdgmceiganaa
