/-
  The walks of the laws FnPrimeOk and FnTimesIn: each answers true at every code, and nothing that was there is written.
-/
import Derived.Test.YtmbmcignmofpoaaSpec3b
import Derived.Test.YtmbmcignmofpoaaImpl3
import Derived.Test.YtmbmcignmofpoaaDraw3
import Derived.Test.YtmbmcignmofpoaaAlive
namespace Go.Proofs.Ytmbmcignmofpoaa
open Go.RowKit

set_option maxHeartbeats 1000000 in
theorem lawPrime (a0 : Option Addr) (len0 cap0 : Nat) (z0 : List Int) (w : World) (w0 : IsRow .u8 w a0 len0 cap0 z0) :
    Calls Try.prog 3 #[.slice a0 len0 cap0] w fun e w' => e = .returned (.bool true) ∧ Below w.heap.size w w' := by
  by_cases hbig : 1048576 < len0
  · go_enter Try.func3, Try.ntmps3
    go_wp2
    go_ret
    exact ⟨rfl, Below.refl _ _⟩
  · go_enter Try.func3, Try.ntmps3
    go_wp2_with fail
    go_at_call 13
    refine (drawPrime w a0 len0 cap0 z0 w0).mono ?_
    rintro e w1 ⟨⟨p, hp, rfl⟩, hB1⟩
    have hJ := fun w => implPrime_is (p := 13) (by unfold Fits; omega) (show prmI 13 = true by decide) w
    cases hv : prmI p with
    | false =>
      have hI := fun w => implPrime_is hp hv w
      have hS := fun w => specPrime_is hv w
      unfold prmI at hv
      simp only [decide_eq_false_iff_not, not_or] at hv
      obtain ⟨n2, n3, n5, n7, n11, n13⟩ := hv
      have m2 : (p == 2) = false := by simpa using n2
      have m3 : (p == 3) = false := by simpa using n3
      have m5 : (p == 5) = false := by simpa using n5
      have m7 : (p == 7) = false := by simpa using n7
      have m11 : (p == 11) = false := by simpa using n11
      have m13 : (p == 13) = false := by simpa using n13
      clear n2 n3 n5 n7 n11 n13
      go_wp2_with (first | (go_at_call 14; (with_reducible refine (hI _).mono ?_); rintro e w' ⟨rfl, hB'⟩; replace hB1 := hB1.trans (hB'.mono hB1.size); clear hB') | (go_at_call 14; (with_reducible refine (hJ _).mono ?_); rintro e w' ⟨rfl, hB'⟩; replace hB1 := hB1.trans (hB'.mono hB1.size); clear hB') | (go_at_call 15; (with_reducible refine (hS _).mono ?_); rintro e w' ⟨rfl, rfl⟩))
      go_ret
      exact ⟨rfl, hB1⟩
    | true =>
      have hI := fun w => implPrime_is hp hv w
      have hS := fun w => specPrime_is hv w
      unfold prmI at hv
      simp only [decide_eq_true_eq] at hv
      rcases hv with rfl | rfl | rfl | rfl | rfl | rfl
      all_goals
        go_wp2_with (first | (go_at_call 14; (with_reducible refine (hI _).mono ?_); rintro e w' ⟨rfl, hB'⟩; replace hB1 := hB1.trans (hB'.mono hB1.size); clear hB') | (go_at_call 14; (with_reducible refine (hJ _).mono ?_); rintro e w' ⟨rfl, hB'⟩; replace hB1 := hB1.trans (hB'.mono hB1.size); clear hB') | (go_at_call 15; (with_reducible refine (hS _).mono ?_); rintro e w' ⟨rfl, rfl⟩))
        go_ret
        exact ⟨rfl, hB1⟩

set_option maxHeartbeats 1000000 in
theorem lawTimes (a0 : Option Addr) (len0 cap0 : Nat) (z0 : List Int) (w : World) (w0 : IsRow .u8 w a0 len0 cap0 z0) :
    Calls Try.prog 4 #[.slice a0 len0 cap0] w fun e w' => e = .returned (.bool true) ∧ Below w.heap.size w w' := by
  by_cases hbig : 1048576 < len0
  · go_enter Try.func4, Try.ntmps4
    go_wp2
    go_ret
    exact ⟨rfl, Below.refl _ _⟩
  · go_enter Try.func4, Try.ntmps4
    go_wp2_with fail
    go_at_call 16
    refine (drawTimes w a0 len0 cap0 z0 w0).mono ?_
    rintro e w1 ⟨⟨x, y, hx, hy, rfl⟩, hB1⟩
    by_cases hbad : x < 1 ∨ 1000000000000000000 < x ∨ prmI y = false
    · have hI : ∀ w, Calls Try.prog 17 #[.int .i64 x, .int .i64 y] w fun e w' => e = .returned (.int .i64 (-1)) ∧ Below w.heap.size w w' := fun w => by simpa [timesV_bad hbad] using implTimes x y hy w
      have hS : ∀ w, Calls Try.prog 18 #[.int .i64 x, .int .i64 y] w fun e w' => e = .returned (.int .i64 (-1)) ∧ w = w' := fun w => by simpa [timesV_bad hbad] using specTimes x y w
      clear hbad
      go_wp2_with (first | (go_at_call 17; (with_reducible refine (hI _).mono ?_); rintro e w' ⟨rfl, hB'⟩; replace hB1 := hB1.trans (hB'.mono hB1.size); clear hB') | (go_at_call 18; (with_reducible refine (hS _).mono ?_); rintro e w' ⟨rfl, rfl⟩) | (go_at_call 19; refine (alive_in _).mono ?_; rintro e w' ⟨rfl, hB'⟩; replace hB1 := hB1.trans (hB'.mono hB1.size); clear hB'))
      go_ret
      exact ⟨rfl, hB1⟩
    · obtain ⟨B, rfl, hB⟩ := prmI_t (p := y) (by cases h : prmI y; exact absurd (.inr (.inr h)) hbad; rfl)
      obtain ⟨N, rfl⟩ : ∃ r : Nat, x = r := ⟨x.toNat, by omega⟩
      have hN0 : 1 ≤ N := by omega
      have hN : N ≤ 1000000000000000000 := by omega
      have hBB := prm_two hB
      clear hbad hx
      obtain ⟨m, hm⟩ : ∃ m, val B N = m := ⟨_, rfl⟩
      have hI : ∀ w, Calls Try.prog 17 #[.int .i64 N, .int .i64 B] w fun e w' => e = .returned (.int .i64 m) ∧ Below w.heap.size w w' := fun w => by simpa [timesV_nat hN0 hN hB, hm] using implTimes N B hy w
      have hS : ∀ w, Calls Try.prog 18 #[.int .i64 N, .int .i64 B] w fun e w' => e = .returned (.int .i64 m) ∧ w = w' := fun w => by simpa [timesV_nat hN0 hN hB, hm] using specTimes N B w
      have hmN := val_lt hBB.1 (show 0 < N by omega)
      rw [hm] at hmN
      have hm0 : ¬ (m : Int) < 0 := by omega
      have hm' := hide hm
      clear hm
      go_wp2_with (first | (go_at_call 17; (with_reducible refine (hI _).mono ?_); rintro e w' ⟨rfl, hB'⟩; replace hB1 := hB1.trans (hB'.mono hB1.size); clear hB') | (go_at_call 18; (with_reducible refine (hS _).mono ?_); rintro e w' ⟨rfl, rfl⟩))
      clear hI hS
      go_loopw [6] (fun t wr => ∃ k : Nat, t = .int .i64 k ∧ 2 ≤ k ∧ k ≤ 10 ∧ Below w.heap.size w wr) (fun t _ => (10 - intOf t).toNat)
      case atStart => exact ⟨2, rfl, by omega, by omega, hB1⟩
      case round =>
        clear hB1
        obtain ⟨k, rfl, hk2, hk10, hBw⟩ := hrel
        by_cases hk : k ≤ 9
        · by_cases hNs : N ≤ 1000000000000000
          · obtain ⟨P, hP⟩ : ∃ P, k * N = P := ⟨_, rfl⟩
            have hPi : (k : Int) * (N : Int) = (P : Int) := by rw [← hP]; simp
            have hPb : P ≤ 9 * 1000000000000000 := by rw [← hP]; exact Nat.mul_le_mul hk hNs
            have hP0 : 1 ≤ P := by rw [← hP]; exact Nat.mul_pos (by omega) hN0
            obtain ⟨j, hj⟩ : ∃ j, val B k = j := ⟨_, rfl⟩
            have hjk := val_lt hBB.1 (show 0 < k by omega)
            rw [hj] at hjk
            have e1 : ∀ w, Calls Try.prog 17 #[.int .i64 P, .int .i64 B] w fun e w' => e = .returned (.int .i64 ((m : Int) + j)) ∧ Below w.heap.size w w' := fun w => by
              have h1 := implTimes P B hy w
              rw [timesV_nat hP0 (by omega) hB, ← hP, val_mul hB _ _ (by omega) hN0, hj, hm'.out, hP, show ((j + m : Nat) : Int) = (m : Int) + j by omega] at h1
              exact h1
            have e2 : ∀ w, Calls Try.prog 17 #[.int .i64 k, .int .i64 B] w fun e w' => e = .returned (.int .i64 j) ∧ Below w.heap.size w w' := fun w => by simpa [timesV_nat (show 1 ≤ k by omega) (by omega) hB, hj] using implTimes k B hy w
            have hw2 : IntKind.i64.wrap (P : Int) = P := IntWalk.i64_in _ (by omega)
            clear hP hj
            go_wp2_with (first | (go_at_call 17; (with_reducible refine (e1 _).mono ?_); rintro e w' ⟨rfl, hB'⟩; replace hBw := hBw.trans (hB'.mono hBw.size); clear hB') | (go_at_call 17; (with_reducible refine (e2 _).mono ?_); rintro e w' ⟨rfl, hB'⟩; replace hBw := hBw.trans (hB'.mono hBw.size); clear hB'))
            go_roundw
            case rel => exact ⟨k + 1, by go_num, by omega, by omega, hBw⟩
            case measure => simp [intOf]; omega
          · have hNs' : ¬ (N : Int) ≤ 1000000000000000 := by omega
            go_wp2
            go_roundw
            case rel => exact ⟨k + 1, by go_num, by omega, by omega, hBw⟩
            case measure => simp [intOf]; omega
        · have hk' : ¬ (k : Int) ≤ 9 := by omega
          by_cases hNs : N ≤ 1000000000000000
          · obtain ⟨P, hP⟩ : ∃ P, N * B = P := ⟨_, rfl⟩
            have hPi : (B : Int) * (N : Int) = (P : Int) := by rw [← hP, Int.mul_comm]; simp
            have hPb : P ≤ 1000000000000000 * 13 := by rw [← hP]; exact Nat.mul_le_mul hNs hBB.2
            have hP0 : 1 ≤ P := by rw [← hP]; exact Nat.mul_pos hN0 (by omega)
            have e1 : ∀ w, Calls Try.prog 17 #[.int .i64 P, .int .i64 B] w fun e w' => e = .returned (.int .i64 ((m : Int) + 1)) ∧ Below w.heap.size w w' := fun w => by
              have h1 := implTimes P B hy w
              rw [timesV_nat hP0 (by omega) hB, ← hP, val_times hBB.1 hN0, hm'.out, hP] at h1
              exact h1
            have hw2 : IntKind.i64.wrap (P : Int) = P := IntWalk.i64_in _ (by omega)
            clear hP
            go_wp2_with (first | (go_at_call 17; (with_reducible refine (e1 _).mono ?_); rintro e w' ⟨rfl, hB'⟩; replace hBw := hBw.trans (hB'.mono hBw.size); clear hB') | (go_at_call 19; refine (alive_in _).mono ?_; rintro e w' ⟨rfl, hB'⟩; replace hBw := hBw.trans (hB'.mono hBw.size); clear hB'))
            go_ret
            exact ⟨rfl, hBw⟩
          · have hNs' : 1000000000000000 < (N : Int) := by omega
            go_wp2_with (go_at_call 19; refine (alive_in _).mono ?_; rintro e w' ⟨rfl, hB'⟩; replace hBw := hBw.trans (hB'.mono hBw.size); clear hB')
            go_ret
            exact ⟨rfl, hBw⟩
end Go.Proofs.Ytmbmcignmofpoaa
