/-
  The program's TimesIn, TimesInAll, TimesInCell and MostIn: for every argument what they hand back, and nothing that was there is written.
-/
import Derived.Test.YtmbmcignmofpoaaExp3
import Derived.Test.YtmbmcignmofpoaaBase
import Derived.BigQuiet
namespace Go.Proofs.Ytmbmcignmofpoaa
open Go.RowKit Go.Maps

set_option maxHeartbeats 400000 in
theorem implTimes (n p : Int) (hp : Fits p) (w : World) : Calls Try.prog 17 #[.int .i64 n, .int .i64 p] w fun e w' => e = .returned (.int .i64 (timesV n p)) ∧ Below w.heap.size w w' := by
  by_cases hbad : n < 1 ∨ 1000000000000000000 < n
  · rw [timesV_bad (hbad.imp id .inl)]
    by_cases h1 : n < 1
    · clear hbad
      go_enter Try.func17, Try.ntmps17
      go_wp2
      go_ret
      exact ⟨rfl, Below.refl _ _⟩
    · have h2 : 1000000000000000000 < n := by omega
      clear hbad
      go_enter Try.func17, Try.ntmps17
      go_wp2
      go_ret
      exact ⟨rfl, Below.refl _ _⟩
  · have h1 : ¬ n < 1 := by omega
    have h2 : ¬ 1000000000000000000 < n := by omega
    cases hpr : prmI p with
    | false =>
      rw [timesV_bad (.inr (.inr hpr))]
      have hP := fun w => implPrime_is hp hpr w
      clear hpr hbad
      go_enter Try.func17, Try.ntmps17
      go_wp2_with (go_at_call 14; refine (hP _).mono ?_; rintro e w' ⟨rfl, hB⟩)
      go_ret
      exact ⟨rfl, hB⟩
    | true =>
      have hP := fun w => implPrime_is hp hpr w
      obtain ⟨B, rfl, hB⟩ := prmI_t hpr
      obtain ⟨N, rfl⟩ : ∃ N : Nat, n = N := ⟨n.toNat, by omega⟩
      have hN0 : 0 < N := by omega
      have hN : N ≤ 1000000000000000000 := by omega
      have hv := hide (timesV_nat hN0 hN hB)
      clear hpr hbad
      go_enter Try.func17, Try.ntmps17
      go_wp2_with (go_at_call 14; refine (hP _).mono ?_; rintro e w1 ⟨rfl, hB1⟩)
      go_at_call 38
      refine (expOf N hN0 hN _).mono ?_
      rintro e w2 ⟨b, c, D, rfl, hown, hD, hB2⟩
      obtain ⟨x, hl, hat⟩ := hown.look B (fits_wf hp)
      have hx : x = (val B N : Nat) := by
        obtain ⟨j, hj, rfl⟩ := tab6_all hB
        rw [hD.1 j hj, if_pos hj] at hat
        injection hat with h1
        injection h1 with _ h1
        exact h1.symm
      have hx' := hide hx
      clear hat hD hown hx
      go_wp2
      go_ret
      exact ⟨by rw [hv.out, hx'.out]; rfl, hB1.trans (hB2.mono hB1.size)⟩

theorem upTo (N B : Nat) (hN : N ≤ 999999999) (hB2 : 2 ≤ B) (hB13 : B ≤ 13) (w : World) : Calls Try.prog 41 #[.int .i64 N, .int .i64 B] w fun e w' => e = .returned (.int .i64 (tup B N)) ∧ w = w' := by
  have hlt := tup_le hB2 N
  obtain ⟨S, hS⟩ : ∃ S, tup B N = S := ⟨_, rfl⟩
  rw [hS] at hlt ⊢
  have hS0 : 0 + tup B N = S := by omega
  clear hS
  go_enter Try.func41, Try.ntmps41
  go_wp2
  go_loop [0, 5] (fun n s => ∃ m t : Nat, n = .int .i64 m ∧ s = .int .i64 t ∧ m ≤ N ∧ t + tup B m = S) (fun n _ => (intOf n).toNat)
  case atStart => exact ⟨N, 0, rfl, rfl, Nat.le_refl _, hS0⟩
  case round =>
    clear hS0
    obtain ⟨m, t, rfl, rfl, hm, hs⟩ := hrel
    by_cases hlt : 0 < m
    · rw [tup_pos hB2 hlt] at hs
      have hq2 := tdiv_n m B
      have hb0 : ((B : Int) == 0) = false := by simp; omega
      have hdl := Nat.div_lt_self hlt hB2
      generalize m / B = q at *
      have hs' := hide hs
      have hts : t + q ≤ S := by omega
      clear hs
      have hw2 : IntKind.i64.wrap (q : Int) = q := IntWalk.i64_in _ (by omega)
      go_wp2
      go_round
      case rel => exact ⟨q, t + q, rfl, by go_num, by omega, by have := hs'.out; omega⟩
      case measure => simp [intOf]; omega
    · obtain rfl : m = 0 := by omega
      rw [tup_zero] at hs
      obtain rfl : t = S := by omega
      clear hs
      go_wp2
      go_ret
      exact ⟨rfl, rfl⟩

set_option maxHeartbeats 400000 in
theorem implAll (n p : Int) (hp : Fits p) (w : World) : Calls Try.prog 21 #[.int .i64 n, .int .i64 p] w fun e w' => e = .returned (.int .i64 (allV n p)) ∧ Below w.heap.size w w' := by
  by_cases hbad : n < 0 ∨ 999999999 < n
  · rw [allV_bad (hbad.imp id .inl)]
    go_enter Try.func21, Try.ntmps21
    go_wp2_with (go_at_call 40; refine (within_f _ _ _ (by omega)).mono ?_; rintro e w' ⟨rfl, rfl⟩)
    go_ret
    exact ⟨rfl, Below.refl _ _⟩
  · cases hpr : prmI p with
    | false =>
      rw [allV_bad (.inr (.inr hpr))]
      have hP := fun w => implPrime_is hp hpr w
      clear hpr
      go_enter Try.func21, Try.ntmps21
      go_wp2_with (first | (go_at_call 40; refine (within_t _ _ _ (by omega) (by omega)).mono ?_; rintro e w' ⟨rfl, rfl⟩) | (go_at_call 14; refine (hP _).mono ?_; rintro e w' ⟨rfl, hB⟩))
      go_ret
      exact ⟨rfl, hB⟩
    | true =>
      have hP := fun w => implPrime_is hp hpr w
      obtain ⟨B, rfl, hB⟩ := prmI_t hpr
      obtain ⟨N, rfl⟩ : ∃ N : Nat, n = N := ⟨n.toNat, by omega⟩
      have hN : N ≤ 999999999 := by omega
      have hB2 := prm_two hB
      rw [allV_nat hN hB]
      have hU := fun w => upTo N B hN hB2.1 hB2.2 w
      generalize tup B N = T at *
      clear hpr
      go_enter Try.func21, Try.ntmps21
      go_wp2_with (first | (go_at_call 40; refine (within_t _ _ _ (by omega) (by omega)).mono ?_; rintro e w' ⟨rfl, rfl⟩) | (go_at_call 14; refine (hP _).mono ?_; rintro e w' ⟨rfl, hB⟩) | (go_at_call 41; refine (hU _).mono ?_; rintro e w' ⟨rfl, rfl⟩))
      go_ret
      exact ⟨rfl, hB⟩

set_option maxHeartbeats 400000 in
theorem timesAt_in (N K B : Nat) (hN : N ≤ 499999999) (hK : K ≤ N) (hB2 : 2 ≤ B) (hB13 : B ≤ 13) (w : World) : Calls Try.prog 45 #[.int .i64 N, .int .i64 K, .int .i64 B] w fun e w' => e = .returned (.int .i64 (cars B N K)) ∧ w = w' := by
  obtain ⟨R, hR⟩ : ∃ R, N - K = R := ⟨_, rfl⟩
  have hRi : (N : Int) - (K : Int) = (R : Int) := by omega
  have e1 := fun w => upTo N B (by omega) hB2 hB13 w
  have e2 := fun w => upTo K B (by omega) hB2 hB13 w
  have e3 := fun w => upTo R B (by omega) hB2 hB13 w
  have hc := tup_cars hB2 hK
  rw [hR] at hc
  have hl := tup_le hB2 N
  generalize tup B N = T1 at *
  generalize tup B K = T2 at *
  generalize tup B R = T3 at *
  generalize cars B N K = C at *
  have hv := hide (show (T1 : Int) - T2 - T3 = C by omega)
  have hl1 : (T1 : Int) ≤ 499999999 := by omega
  have hl2 : (T2 : Int) ≤ 499999999 := by omega
  have hl3 : (T3 : Int) ≤ 499999999 := by omega
  clear hc hR hl
  go_enter Try.func45, Try.ntmps45
  go_wp2_with (first | (go_at_call 41; (with_reducible refine (e1 _).mono ?_); rintro e w' ⟨rfl, rfl⟩) | (go_at_call 41; (with_reducible refine (e2 _).mono ?_); rintro e w' ⟨rfl, rfl⟩) | (go_at_call 41; (with_reducible refine (e3 _).mono ?_); rintro e w' ⟨rfl, rfl⟩))
  go_ret
  exact ⟨ret_int hv.out, rfl⟩

set_option maxHeartbeats 400000 in
theorem implCellT (row place p : Int) (hp : Fits p) (w : World) : Calls Try.prog 25 #[.int .i64 row, .int .i64 place, .int .i64 p] w fun e w' => e = .returned (.int .i64 (cellTV row place p)) ∧ Below w.heap.size w w' := by
  by_cases h1 : row < 0 ∨ 499999999 < row
  · rw [cellTV_bad (h1.imp id .inl)]
    go_enter Try.func25, Try.ntmps25
    go_wp2_with (go_at_call 40; refine (within_f _ _ _ (by omega)).mono ?_; rintro e w' ⟨rfl, rfl⟩)
    go_ret
    exact ⟨rfl, Below.refl _ _⟩
  · by_cases h2 : place < 0 ∨ row < place
    · rw [cellTV_bad (.inr (.inr (h2.imp id .inl)))]
      go_enter Try.func25, Try.ntmps25
      go_wp2_with (first | (go_at_call 40; refine (within_t _ _ _ (by omega) (by omega)).mono ?_; rintro e w' ⟨rfl, rfl⟩) | (go_at_call 40; refine (within_f _ _ _ (by omega)).mono ?_; rintro e w' ⟨rfl, rfl⟩))
      go_ret
      exact ⟨rfl, Below.refl _ _⟩
    · cases hpr : prmI p with
      | false =>
        rw [cellTV_bad (.inr (.inr (.inr (.inr hpr))))]
        have hP := fun w => implPrime_is hp hpr w
        clear hpr
        go_enter Try.func25, Try.ntmps25
        go_wp2_with (first | (go_at_call 40; refine (within_t _ _ _ (by omega) (by omega)).mono ?_; rintro e w' ⟨rfl, rfl⟩) | (go_at_call 14; refine (hP _).mono ?_; rintro e w' ⟨rfl, hB⟩))
        go_ret
        exact ⟨rfl, hB⟩
      | true =>
        have hP := fun w => implPrime_is hp hpr w
        obtain ⟨B, rfl, hB⟩ := prmI_t hpr
        obtain ⟨N, rfl⟩ : ∃ N : Nat, row = N := ⟨row.toNat, by omega⟩
        obtain ⟨K, rfl⟩ : ∃ K : Nat, place = K := ⟨place.toNat, by omega⟩
        have hN : N ≤ 499999999 := by omega
        have hK : K ≤ N := by omega
        have hB2 := prm_two hB
        rw [cellTV_nat hN hK hB]
        have hU := fun w => timesAt_in N K B hN hK hB2.1 hB2.2 w
        generalize cars B N K = T at *
        clear hpr
        go_enter Try.func25, Try.ntmps25
        go_wp2_with (first | (go_at_call 40; refine (within_t _ _ _ (by omega) (by omega)).mono ?_; rintro e w' ⟨rfl, rfl⟩) | (go_at_call 14; refine (hP _).mono ?_; rintro e w' ⟨rfl, hB⟩) | (go_at_call 45; refine (hU _).mono ?_; rintro e w' ⟨rfl, rfl⟩))
        go_ret
        exact ⟨rfl, hB⟩

set_option maxHeartbeats 400000 in
theorem implMost (row p : Int) (hp : Fits p) (w : World) : Calls Try.prog 31 #[.int .i64 row, .int .i64 p] w fun e w' => e = .returned (.int .i64 (mostV row p)) ∧ Below w.heap.size w w' := by
  by_cases hbad : row < 1 ∨ 300 < row
  · rw [mostV_bad (hbad.imp id .inl)]
    by_cases h1 : row < 1
    · clear hbad
      go_enter Try.func31, Try.ntmps31
      go_wp2
      go_ret
      exact ⟨rfl, Below.refl _ _⟩
    · have h2 : 300 < row := by omega
      clear hbad
      go_enter Try.func31, Try.ntmps31
      go_wp2
      go_ret
      exact ⟨rfl, Below.refl _ _⟩
  · have h1 : ¬ row < 1 := by omega
    have h2 : ¬ 300 < row := by omega
    cases hpr : prmI p with
    | false =>
      rw [mostV_bad (.inr (.inr hpr))]
      have hP := fun w => implPrime_is hp hpr w
      clear hpr hbad
      go_enter Try.func31, Try.ntmps31
      go_wp2_with (go_at_call 14; refine (hP _).mono ?_; rintro e w' ⟨rfl, hB⟩)
      go_ret
      exact ⟨rfl, hB⟩
    | true =>
      have hP := fun w => implPrime_is hp hpr w
      obtain ⟨B, rfl, hB⟩ := prmI_t hpr
      obtain ⟨N, rfl⟩ : ∃ N : Nat, row = N := ⟨row.toNat, by omega⟩
      have hN0 : 1 ≤ N := by omega
      have hN : N ≤ 300 := by omega
      have hB2 := prm_two hB
      rw [mostV_nat hN0 hN hB]
      clear hpr hbad
      go_enter Try.func31, Try.ntmps31
      go_wp2_with (go_at_call 14; refine (hP _).mono ?_; rintro e w1 ⟨rfl, hB1⟩)
      clear hP
      go_loop [5, 20] (fun s k => ∃ j : Nat, k = .int .i64 j ∧ s = .int .i64 (mostU B N j) ∧ j ≤ N + 1) (fun _ k => N + 1 - (intOf k).toNat)
      case atStart => exact ⟨0, rfl, rfl, by omega⟩
      case round =>
        obtain ⟨j, rfl, rfl, hj⟩ := hrel
        have hml := mostU_le hB2.1 N j hj
        by_cases hlt : j ≤ N
        · have hlt' : (j : Int) < (N : Int) + 1 := by omega
          have hc := fun w => timesAt_in N j B (by omega) hlt hB2.1 hB2.2 w
          have hcl := cars_lt hB2.1 hlt
          have hst := hide (show mostU B N (j + 1) = max (mostU B N j) (cars B N j) from rfl)
          generalize mostU B N j = M at *
          generalize cars B N j = C at *
          by_cases hmc : M ≤ C
          · have hst' := hide (show mostU B N (j + 1) = C by rw [hst.out]; omega)
            have hmci : (M : Int) ≤ C := by omega
            clear hst
            go_wp2_with (go_at_call 45; refine (hc _).mono ?_; rintro e w' ⟨rfl, rfl⟩)
            go_round
            case rel => exact ⟨j + 1, by go_num, by rw [hst'.out]; go_num, by omega⟩
            case measure => simp [intOf]; omega
          · have hst' := hide (show mostU B N (j + 1) = M by rw [hst.out]; omega)
            have hmci : (C : Int) < M := by omega
            clear hst
            go_wp2_with (go_at_call 45; refine (hc _).mono ?_; rintro e w' ⟨rfl, rfl⟩)
            go_round
            case rel => exact ⟨j + 1, by go_num, by rw [hst'.out]; go_num, by omega⟩
            case measure => simp [intOf]; omega
        · obtain rfl : j = N + 1 := by omega
          have hm := hide (show mostU B N (N + 1) = most B N from rfl)
          generalize mostU B N (N + 1) = M at *
          have hlt' : ¬ ((N + 1 : Nat) : Int) < (N : Int) + 1 := by omega
          go_wp2
          go_ret
          exact ⟨by rw [← hm.out]; rfl, hB1⟩
end Go.Proofs.Ytmbmcignmofpoaa
