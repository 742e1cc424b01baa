/-
  The model's TimesInCell and MostIn: for every argument what they hand back.
-/
import Derived.Test.YtmbmcignmofpoaaSpec3
namespace Go.Proofs.Ytmbmcignmofpoaa
open Go.RowKit

set_option maxHeartbeats 400000 in
theorem specCellT (row place p : Int) (w : World) : Calls Try.prog 26 #[.int .i64 row, .int .i64 place, .int .i64 p] w fun e w' => e = .returned (.int .i64 (cellTV row place p)) ∧ w = w' := by
  cases hpr : prmI p with
  | false =>
    rw [cellTV_bad (.inr (.inr (.inr (.inr hpr))))]
    have hP := fun w => specPrime_is hpr w
    clear hpr
    go_enter Try.func26, Try.ntmps26
    go_wp2_with (go_at_call 15; refine (hP _).mono ?_; rintro e w' ⟨rfl, rfl⟩)
    go_ret
    exact ⟨rfl, rfl⟩
  | true =>
    have hP := fun w => specPrime_is hpr w
    by_cases h1 : row < 0 ∨ 499999999 < row
    · rw [cellTV_bad (h1.imp id .inl)]
      clear hpr
      go_enter Try.func26, Try.ntmps26
      go_wp2_with (first | (go_at_call 15; refine (hP _).mono ?_; rintro e w' ⟨rfl, rfl⟩) | (go_at_call 36; refine (l1In_f _ _ _ _ (by omega)).mono ?_; rintro e w' ⟨rfl, rfl⟩))
      go_ret
      exact ⟨rfl, rfl⟩
    · by_cases h2 : place < 0 ∨ row < place
      · rw [cellTV_bad (.inr (.inr (h2.imp id .inl)))]
        clear hpr
        go_enter Try.func26, Try.ntmps26
        go_wp2_with (first | (go_at_call 15; refine (hP _).mono ?_; rintro e w' ⟨rfl, rfl⟩) | (go_at_call 36; refine (l1In_t _ _ _ _ (by omega) (by omega)).mono ?_; rintro e w' ⟨rfl, rfl⟩) | (go_at_call 36; refine (l1In_f _ _ _ _ (by omega)).mono ?_; rintro e w' ⟨rfl, rfl⟩))
        go_ret
        exact ⟨rfl, rfl⟩
      · obtain ⟨B, rfl, hB⟩ := prmI_t hpr
        obtain ⟨N, rfl⟩ : ∃ N : Nat, row = N := ⟨row.toNat, by omega⟩
        obtain ⟨K, rfl⟩ : ∃ K : Nat, place = K := ⟨place.toNat, by omega⟩
        have hN : N ≤ 499999999 := by omega
        have hK : K ≤ N := by omega
        have hB2 := (prm_two hB).1
        obtain ⟨R, hR⟩ : ∃ R, N - K = R := ⟨_, rfl⟩
        have hRi : (N : Int) - (K : Int) = (R : Int) := by omega
        have e1 : ∀ w, Calls Try.prog 22 #[.int .i64 N, .int .i64 B] w fun e w' => e = .returned (.int .i64 (tup B N)) ∧ w = w' := fun w => by simpa [allV_nat (show N ≤ 999999999 by omega) hB] using specAll N B w
        have e2 : ∀ w, Calls Try.prog 22 #[.int .i64 K, .int .i64 B] w fun e w' => e = .returned (.int .i64 (tup B K)) ∧ w = w' := fun w => by simpa [allV_nat (show K ≤ 999999999 by omega) hB] using specAll K B w
        have e3 : ∀ w, Calls Try.prog 22 #[.int .i64 R, .int .i64 B] w fun e w' => e = .returned (.int .i64 (tup B R)) ∧ w = w' := fun w => by simpa [allV_nat (show R ≤ 999999999 by omega) hB] using specAll R B w
        have hc := tup_cars hB2 hK
        rw [cellTV_nat hN hK hB]
        rw [hR] at hc
        have hl := tup_le hB2 N
        generalize tup B N = T1 at *
        generalize tup B K = T2 at *
        generalize tup B R = T3 at *
        generalize cars B N K = C at *
        have hv := hide (show (T1 : Int) - T2 - T3 = C by omega)
        have hl1 : (T1 : Int) ≤ 499999999 := by omega
        have hl2 : (T2 : Int) ≤ 499999999 := by omega
        have hl3 : (T3 : Int) ≤ 499999999 := by omega
        clear hc hR h1 h2 hpr hl
        go_enter Try.func26, Try.ntmps26
        go_wp2_with (first | (go_at_call 15; refine (hP _).mono ?_; rintro e w' ⟨rfl, rfl⟩) | (go_at_call 36; refine (l1In_t _ _ _ _ (by omega) (by omega)).mono ?_; rintro e w' ⟨rfl, rfl⟩) | (go_at_call 22; (with_reducible refine (e1 _).mono ?_); rintro e w' ⟨rfl, rfl⟩) | (go_at_call 22; (with_reducible refine (e2 _).mono ?_); rintro e w' ⟨rfl, rfl⟩) | (go_at_call 22; (with_reducible refine (e3 _).mono ?_); rintro e w' ⟨rfl, rfl⟩))
        go_ret
        exact ⟨ret_int hv.out, rfl⟩

set_option maxHeartbeats 400000 in
theorem specMost (row p : Int) (w : World) : Calls Try.prog 32 #[.int .i64 row, .int .i64 p] w fun e w' => e = .returned (.int .i64 (mostV row p)) ∧ w = w' := by
  cases hpr : prmI p with
  | false =>
    rw [mostV_bad (.inr (.inr hpr))]
    have hP := fun w => specPrime_is hpr w
    clear hpr
    go_enter Try.func32, Try.ntmps32
    go_wp2_with (go_at_call 15; refine (hP _).mono ?_; rintro e w' ⟨rfl, rfl⟩)
    go_ret
    exact ⟨rfl, rfl⟩
  | true =>
    have hP := fun w => specPrime_is hpr w
    by_cases hbad : row < 1 ∨ 300 < row
    · rw [mostV_bad (hbad.imp id .inl)]
      clear hpr
      go_enter Try.func32, Try.ntmps32
      go_wp2_with (first | (go_at_call 15; refine (hP _).mono ?_; rintro e w' ⟨rfl, rfl⟩) | (go_at_call 36; refine (l1In_f _ _ _ _ (by omega)).mono ?_; rintro e w' ⟨rfl, rfl⟩))
      go_ret
      exact ⟨rfl, rfl⟩
    · obtain ⟨B, rfl, hB⟩ := prmI_t hpr
      obtain ⟨N, rfl⟩ : ∃ N : Nat, row = N := ⟨row.toNat, by omega⟩
      have hN0 : 1 ≤ N := by omega
      have hN : N ≤ 300 := by omega
      rw [mostV_nat hN0 hN hB]
      have hB2 := (prm_two hB).1
      clear hbad hpr
      go_enter Try.func32, Try.ntmps32
      go_wp2_with (first | (go_at_call 15; refine (hP _).mono ?_; rintro e w' ⟨rfl, rfl⟩) | (go_at_call 36; refine (l1In_t _ _ _ _ (by omega) (by omega)).mono ?_; rintro e w' ⟨rfl, rfl⟩))
      clear hP
      go_loop [5, 6] (fun s k => ∃ j : Nat, k = .int .i64 j ∧ s = .int .i64 (mostU B N j) ∧ j ≤ N + 1) (fun _ k => N + 1 - (intOf k).toNat)
      case atStart => exact ⟨0, rfl, rfl, by omega⟩
      case round =>
        obtain ⟨j, rfl, rfl, hj⟩ := hrel
        have hml := mostU_le hB2 N j hj
        by_cases hlt : j ≤ N
        · have hc : ∀ w, Calls Try.prog 26 #[.int .i64 N, .int .i64 j, .int .i64 B] w fun e w' => e = .returned (.int .i64 (cars B N j)) ∧ w = w' := fun w => by simpa [cellTV_nat (show N ≤ 499999999 by omega) hlt hB] using specCellT N j B w
          have hcl := cars_lt hB2 hlt
          have hst := hide (show mostU B N (j + 1) = max (mostU B N j) (cars B N j) from rfl)
          generalize mostU B N j = M at *
          generalize cars B N j = C at *
          by_cases hmc : M ≤ C
          · have hst' := hide (show mostU B N (j + 1) = C by rw [hst.out]; omega)
            have hmci : (M : Int) ≤ C := by omega
            clear hst
            go_wp2_with (go_at_call 26; refine (hc _).mono ?_; rintro e w' ⟨rfl, rfl⟩)
            go_round
            case rel => exact ⟨j + 1, by go_num, by rw [hst'.out]; go_num, by omega⟩
            case measure => simp [intOf]; omega
          · have hst' := hide (show mostU B N (j + 1) = M by rw [hst.out]; omega)
            have hmci : (C : Int) < M := by omega
            clear hst
            go_wp2_with (go_at_call 26; refine (hc _).mono ?_; rintro e w' ⟨rfl, rfl⟩)
            go_round
            case rel => exact ⟨j + 1, by go_num, by rw [hst'.out]; go_num, by omega⟩
            case measure => simp [intOf]; omega
        · obtain rfl : j = N + 1 := by omega
          have hm := hide (show mostU B N (N + 1) = most B N from rfl)
          generalize mostU B N (N + 1) = M at *
          go_wp2
          go_ret
          exact ⟨by rw [← hm.out]; rfl, rfl⟩
end Go.Proofs.Ytmbmcignmofpoaa
