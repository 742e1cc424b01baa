/-
  The model's LeftOf and RowLeft: for every argument what they hand back.
-/
import Derived.Test.YtjghhmgnbcabdaaSpec3
import Derived.Test.YtjghhmgnbcabdaaVals4
import Derived.BigQuiet
namespace Go.Proofs.Ytjghhmgnbcabdaa
open Go.RowKit

set_option maxHeartbeats 400000 in
/-- A small cell. -/
theorem specSmall (a b p : Nat) (ha : a < p) (hb : b < p) (hp : 2 ≤ p) (hp2 : p ≤ 13) (w : World) : Calls Try.prog 52 #[.int .i64 a, .int .i64 b, .int .i64 p] w fun e w' => e = .returned (.int .i64 ((bin a b % p : Nat) : Int)) ∧ w = w' := by
  by_cases hab : a < b
  · have hv := hide (bin_over a b hab)
    go_enter Try.func52, Try.ntmps52
    go_wp2
    go_ret
    exact ⟨by rw [hv.out, Nat.zero_mod]; rfl, rfl⟩
  · have hba : b ≤ a := by omega
    have hp0 : ((p : Int) == 0) = false := by simp; omega
    go_enter Try.func52, Try.ntmps52
    go_wp2
    go_loop [7, 8] (fun t k => ∃ j : Nat, k = .int .i64 j ∧ t = .int .i64 (bin a j) ∧ j ≤ b) (fun _ k => b - (intOf k).toNat)
    case atStart => exact ⟨0, rfl, by rw [bin_zero]; rfl, by omega⟩
    case round =>
      obtain ⟨j, rfl, rfl, hj⟩ := hrel
      have hbs := bin_le a j
      have hpw : (2 : Nat) ^ a ≤ 4096 := Nat.pow_le_pow_right (by omega) (by omega : a ≤ 12)
      by_cases hlt : j < b
      · obtain ⟨r, hr⟩ : ∃ r, a - j = r := ⟨_, rfl⟩
        have hri : (a : Int) - (j : Int) = (r : Int) := by omega
        have hd := bin_div a j
        rw [hr] at hd
        have hbs2 := bin_le a (j + 1)
        obtain ⟨D, hD⟩ : ∃ D, bin a j * r = D := ⟨_, rfl⟩
        have hDl : D ≤ 4096 * 12 := by rw [← hD]; exact Nat.mul_le_mul (by omega) (by omega)
        have hDi : ((bin a j : Nat) : Int) * (r : Int) = (D : Int) := by rw [← hD]; simp
        rw [hD] at hd
        have hq := tdiv_n D (j + 1)
        rw [hd] at hq
        have hq' : Int.tdiv (D : Int) ((j : Int) + 1) = ((bin a (j + 1) : Nat) : Int) := hq
        clear hD hd hq hr
        have hj0 : ((j : Int) + 1 == 0) = false := by simp; omega
        generalize bin a j = S at *
        obtain ⟨S2, hS2⟩ : ∃ S2, bin a (j + 1) = S2 := ⟨_, rfl⟩
        rw [hS2] at hq' hbs2
        have hS2' := hide hS2
        clear hS2
        have hw1 : IntKind.i64.wrap (D : Int) = D := IntWalk.i64_in _ (by omega)
        have hw2 : IntKind.i64.wrap (S2 : Int) = S2 := IntWalk.i64_in _ (by omega)
        have hw3 : IntKind.i64.wrap (r : Int) = r := IntWalk.i64_in _ (by omega)
        go_wp2
        go_round
        case rel => exact ⟨j + 1, by go_num, by rw [hS2'.out], by omega⟩
        case measure => simp [intOf]; omega
      · obtain rfl : j = b := by omega
        have hq := tmod_n (bin a j) p
        have hml := Nat.mod_lt (bin a j) (show 0 < p by omega)
        obtain ⟨C, hC⟩ : ∃ C, bin a j % p = C := ⟨_, rfl⟩
        rw [hC] at hq hml
        have hC' := hide hC
        clear hC
        have hw1 : IntKind.i64.wrap (C : Int) = C := IntWalk.i64_in _ (by omega)
        go_wp2
        go_ret
        exact ⟨ret_int (by rw [← hC'.out]; rfl), rfl⟩

set_option maxHeartbeats 1000000 in
theorem specLeft (row place p : Int) (w : World) : Calls Try.prog 34 #[.int .i64 row, .int .i64 place, .int .i64 p] w fun e w' => e = .returned (.int .i64 (leftV row place p)) ∧ Below w.heap.size w w' := by
  cases hpr : prmI p with
  | false =>
    rw [leftV_bad (.inr (.inr (.inr (.inr hpr))))]
    have hP := fun w => specPrime_is hpr w
    clear hpr
    go_enter Try.func34, Try.ntmps34
    go_wp2_with (go_at_call 23; refine (hP _).mono ?_; rintro e w' ⟨rfl, rfl⟩)
    go_ret
    exact ⟨rfl, Below.refl _ _⟩
  | true =>
    have hP := fun w => specPrime_is hpr w
    by_cases hbad : row < 0 ∨ 999999999 < row ∨ place < 0 ∨ 999999999 < place
    · rw [leftV_bad (by unfold badL; omega)]
      clear hpr
      by_cases h1 : row < 0 ∨ 999999999 < row
      all_goals
        go_enter Try.func34, Try.ntmps34
        go_wp2_with (first | (go_at_call 23; refine (hP _).mono ?_; rintro e w' ⟨rfl, rfl⟩) | (go_at_call 33; refine (l1In_t _ _ _ _ (by omega) (by omega)).mono ?_; rintro e w' ⟨rfl, rfl⟩) | (go_at_call 33; refine (l1In_f _ _ _ _ (by omega)).mono ?_; rintro e w' ⟨rfl, rfl⟩))
        go_ret
        exact ⟨rfl, Below.refl _ _⟩
    · obtain ⟨B, rfl, hB⟩ := prmI_t hpr
      obtain ⟨N, rfl⟩ : ∃ N : Nat, row = N := ⟨row.toNat, by omega⟩
      obtain ⟨K, rfl⟩ : ∃ K : Nat, place = K := ⟨place.toNat, by omega⟩
      have hN : N ≤ 999999999 := by omega
      have hK : K ≤ 999999999 := by omega
      rw [leftV_nat hN hK hB]
      have hB2 := (prm_two hB).1
      have hB13 := (prm_two hB).2
      obtain ⟨T, hT⟩ : ∃ T, bin N K % B = T := ⟨_, rfl⟩
      rw [hT]
      have hTl : T < B := by rw [← hT]; exact Nat.mod_lt _ (by omega)
      have hT' := hide (show 1 * bin N K % B = T by rw [Nat.one_mul]; exact hT)
      clear hT hbad hpr
      have hB0 : ((B : Int) == 0) = false := by simp; omega
      have hB00 : (B = 0) = False := by simp; omega
      go_enter Try.func34, Try.ntmps34
      go_wp2_with (first | (go_at_call 23; refine (hP _).mono ?_; rintro e w' ⟨rfl, rfl⟩) | (go_at_call 33; refine (l1In_t _ _ _ _ (by omega) (by omega)).mono ?_; rintro e w' ⟨rfl, rfl⟩))
      clear hP
      go_loopw [0, 1, 7] (fun r c t wr => ∃ m k A : Nat, r = .int .i64 m ∧ c = .int .i64 k ∧ t = .int .i64 A ∧ m ≤ N ∧ k ≤ K ∧ A < B ∧ A * bin m k % B = T ∧ Below w.heap.size w wr) (fun r c _ _ => (intOf r).toNat + (intOf c).toNat)
      case atStart => exact ⟨N, K, 1, rfl, rfl, rfl, Nat.le_refl _, Nat.le_refl _, by omega, hT'.out, Below.refl _ _⟩
      case round =>
        clear hT'
        obtain ⟨m, k, A, rfl, rfl, rfl, hm, hk, hA, hs, hBl⟩ := hrel
        by_cases hlt : 0 < m + k
        · rw [Nat.mul_mod, lucas_div hB, ← Nat.mul_mod, Nat.mul_comm (bin (m / B) (k / B)), ← Nat.mul_assoc, Nat.mul_mod, ← Nat.mod_mod (A * bin (m % B) (k % B)) B] at hs
          rw [← Nat.mul_mod] at hs
          have hq1 := tmod_n m B
          have hq2 := tdiv_n m B
          have hq3 := tmod_n k B
          have hq4 := tdiv_n k B
          have hr1 := Nat.mod_lt m (show 0 < B by omega)
          have hr2 := Nat.mod_lt k (show 0 < B by omega)
          have hl1 := Nat.div_le_self m B
          have hl2 := Nat.div_le_self k B
          have hdl : m / B + k / B < m + k := by
            rcases Nat.eq_zero_or_pos m with h | h
            · have := Nat.div_lt_self (n := k) (k := B) (by omega) hB2; omega
            · have := Nat.div_lt_self (n := m) (k := B) h hB2; omega
          have hcall := fun w => specSmall (m % B) (k % B) B hr1 hr2 hB2 hB13 w
          have hCl : bin (m % B) (k % B) % B < B := Nat.mod_lt _ (by omega)
          have hmm : A * bin (m % B) (k % B) % B = A * (bin (m % B) (k % B) % B) % B := by rw [Nat.mul_mod, Nat.mod_eq_of_lt hA]
          rw [hmm] at hs
          clear hmm
          generalize m % B = r1 at *
          generalize m / B = q1 at *
          generalize k % B = r2 at *
          generalize k / B = q2 at *
          obtain ⟨C, hC⟩ : ∃ C, bin r1 r2 % B = C := ⟨_, rfl⟩
          simp only [hC] at hcall
          rw [hC] at hs hCl
          clear hC
          obtain ⟨D, hD⟩ : ∃ D, A * C = D := ⟨_, rfl⟩
          have hDl : D ≤ 13 * 13 := by rw [← hD]; exact Nat.mul_le_mul (by omega) (by omega)
          have hDi : (A : Int) * (C : Int) = (D : Int) := by rw [← hD]; simp
          rw [hD] at hs
          clear hD
          have hq5 := tmod_n D B
          have hEl := Nat.mod_lt D (show 0 < B by omega)
          generalize D % B = E at *
          have hs' := hide hs
          clear hs
          have hw1 : IntKind.i64.wrap (r1 : Int) = r1 := IntWalk.i64_in _ (by omega)
          have hw2 : IntKind.i64.wrap (q1 : Int) = q1 := IntWalk.i64_in _ (by omega)
          have hw3 : IntKind.i64.wrap (r2 : Int) = r2 := IntWalk.i64_in _ (by omega)
          have hw4 : IntKind.i64.wrap (q2 : Int) = q2 := IntWalk.i64_in _ (by omega)
          have hw5 : IntKind.i64.wrap (D : Int) = D := IntWalk.i64_in _ (by omega)
          have hw6 : IntKind.i64.wrap (E : Int) = E := IntWalk.i64_in _ (by omega)
          by_cases hm0 : 0 < m
          · go_wp2
            go_quiet ((go_at_call 52; refine Calls.quiet_of_same ((hcall _).mono fun e w' h => ⟨h.1, h.2.symm⟩)))
            go_wp2
            go_roundw
            case rel => exact ⟨q1, q2, E, rfl, rfl, rfl, by omega, by omega, hEl, hs'.out, ⟨hBl.os, hBl.tape, hBl.output, hBl.size, hBl.block⟩⟩
            case measure => simp [intOf]; omega
          · have hk0 : 0 < k := by omega
            go_wp2
            go_quiet ((go_at_call 52; refine Calls.quiet_of_same ((hcall _).mono fun e w' h => ⟨h.1, h.2.symm⟩)))
            go_wp2
            go_roundw
            case rel => exact ⟨q1, q2, E, rfl, rfl, rfl, by omega, by omega, hEl, hs'.out, ⟨hBl.os, hBl.tape, hBl.output, hBl.size, hBl.block⟩⟩
            case measure => simp [intOf]; omega
        · obtain ⟨rfl, rfl⟩ : m = 0 ∧ k = 0 := by omega
          rw [bin_zero, Nat.mul_one, Nat.mod_eq_of_lt hA] at hs
          subst hs
          go_wp2
          go_ret
          exact ⟨rfl, hBl⟩
end Go.Proofs.Ytjghhmgnbcabdaa
