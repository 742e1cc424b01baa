/-
  The model's LeftIn and WholeOk: for every argument what they hand back.
-/
import Derived.Test.YtdhcdgmceiganaaSpec2b
import Derived.Test.YtdhcdgmceiganaaSpec3
import Derived.Test.YtdhcdgmceiganaaVals5
namespace Go.Proofs.Ytdhcdgmceiganaa
open Go.RowKit

set_option maxHeartbeats 400000 in
theorem specLeftIn (row p : Int) (w : World) : Calls Try.prog 13 #[.int .i64 row, .int .i64 p] w fun e w' => e = .returned (.int .i64 (keepV row p)) ∧ w = w' := by
  by_cases hbad : badK row p
  · rw [keepV_bad hbad]
    unfold badK at hbad
    cases hpr : prmI p with
    | false =>
      have hP := fun w => specPrime_is hpr w
      clear hpr hbad
      go_enter Try.func13, Try.ntmps13
      go_wp2_with (go_at_call 37; refine (hP _).mono ?_; rintro e w' ⟨rfl, rfl⟩)
      go_ret
      exact ⟨rfl, rfl⟩
    | true =>
      have hP := fun w => specPrime_is hpr w
      have hr : row < 0 ∨ 999999999 < row := by
        rcases hbad with h | h | h
        · exact .inl h
        · exact .inr h
        · rw [hpr] at h; cases h
      clear hpr hbad
      go_enter Try.func13, Try.ntmps13
      go_wp2_with (first | (go_at_call 37; refine (hP _).mono ?_; rintro e w' ⟨rfl, rfl⟩) | (go_at_call 38; refine (l1In_f _ _ _ _ (by omega)).mono ?_; rintro e w' ⟨rfl, rfl⟩))
      go_ret
      exact ⟨rfl, rfl⟩
  · obtain ⟨N, P, rfl, rfl, hN, hp⟩ := badK_nat hbad
    rw [← keepV_count hN hp]
    have hP := fun w => specPrime_is (prmI_ok hp) w
    have hC := fun w => specCount N P w
    obtain ⟨c, hc⟩ : ∃ c, countV N P = c := ⟨_, rfl⟩
    rw [hc] at hC ⊢
    clear hbad hc
    go_enter Try.func13, Try.ntmps13
    go_wp2_with (first | (go_at_call 37; refine (hP _).mono ?_; rintro e w' ⟨rfl, rfl⟩) | (go_at_call 38; refine (l1In_t _ _ _ _ (by omega) (by omega)).mono ?_; rintro e w' ⟨rfl, rfl⟩) | (go_at_call 39; refine (hC _).mono ?_; rintro e w' ⟨rfl, rfl⟩))
    go_ret
    exact ⟨rfl, rfl⟩

set_option maxHeartbeats 400000 in
theorem specWhole (row p : Int) (w : World) : Calls Try.prog 22 #[.int .i64 row, .int .i64 p] w fun e w' => e = .returned (.bool (wholeV row p)) ∧ w = w' := by
  by_cases hbad : badK row p
  · rw [wholeV_bad hbad]
    unfold badK at hbad
    cases hpr : prmI p with
    | false =>
      have hP := fun w => specPrime_is hpr w
      clear hpr hbad
      go_enter Try.func22, Try.ntmps22
      go_wp2_with (go_at_call 37; refine (hP _).mono ?_; rintro e w' ⟨rfl, rfl⟩)
      go_ret
      exact ⟨rfl, rfl⟩
    | true =>
      have hP := fun w => specPrime_is hpr w
      have hr : row < 0 ∨ 999999999 < row := by
        rcases hbad with h | h | h
        · exact .inl h
        · exact .inr h
        · rw [hpr] at h; cases h
      clear hpr hbad
      go_enter Try.func22, Try.ntmps22
      go_wp2_with (first | (go_at_call 37; refine (hP _).mono ?_; rintro e w' ⟨rfl, rfl⟩) | (go_at_call 38; refine (l1In_f _ _ _ _ (by omega)).mono ?_; rintro e w' ⟨rfl, rfl⟩))
      go_ret
      exact ⟨rfl, rfl⟩
  · obtain ⟨N, P, rfl, rfl, hN, hp⟩ := badK_nat hbad
    rw [wholeV_nat hN hp]
    have hP := fun w => specPrime_is (prmI_ok hp) w
    have hp2 := (prm_two hp).1
    have hp13 := (prm_two hp).2
    obtain ⟨S, hS⟩ : ∃ S, whole P N = S := ⟨_, rfl⟩
    rw [hS]
    clear hbad
    go_enter Try.func22, Try.ntmps22
    go_wp2_with (first | (go_at_call 37; refine (hP _).mono ?_; rintro e w' ⟨rfl, rfl⟩) | (go_at_call 38; refine (l1In_t _ _ _ _ (by omega) (by omega)).mono ?_; rintro e w' ⟨rfl, rfl⟩))
    clear hP
    go_loop [0] (fun n => ∃ m : Nat, n = .int .i64 m ∧ m ≤ N ∧ Hid (whole P m = S)) (fun n => (intOf n).toNat)
    case atStart => exact ⟨N, rfl, Nat.le_refl _, hide hS⟩
    case round =>
      clear hS
      obtain ⟨m, rfl, hm, hs⟩ := hrel
      by_cases hle : P ≤ m
      · have hs' := hs.out
        rw [whole_high hp2 hle] at hs'
        have hq1 := tmod_n m P
        have hq2 := tdiv_n m P
        have hr := Nat.mod_lt m (show 0 < P by omega)
        have hdl := Nat.div_lt_self (show 0 < m by omega) hp2
        generalize m % P = r at *
        generalize m / P = q at *
        have hs2 := hide hs'
        have hb0 : ((P : Int) == 0) = false := by simp; omega
        have hlei : (P : Int) ≤ (m : Int) := by omega
        have hw1 : IntKind.i64.wrap (r : Int) = r := IntWalk.i64_in _ (by omega)
        have hw2 : IntKind.i64.wrap (q : Int) = q := IntWalk.i64_in _ (by omega)
        clear hs hs'
        by_cases e : r = P - 1
        · have e1 : (r : Int) = (P : Int) - 1 := by omega
          have hs3 : Hid (whole P q = S) := hide (by have := hs2.out; rw [e] at this; simpa using this)
          clear hs2 e
          go_wp2
          go_round
          case rel => exact ⟨q, by go_num, by omega, hs3⟩
          case measure => simp [intOf]; omega
        · have e1 : ¬ ((r : Int) = (P : Int) - 1) := by omega
          have e2 : ((r : Int) == (P : Int) - 1) = false := by simpa using e1
          obtain rfl : S = false := by have := hs2.out; rw [show (r == P - 1) = false by simpa using e, Bool.false_and] at this; exact this.symm
          clear hs2
          go_wp2
          go_ret
          exact ⟨rfl, rfl⟩
      · obtain rfl : S = true := by have := hs.out; rw [whole_low (by omega)] at this; exact this.symm
        have hlei : ¬ (P : Int) ≤ (m : Int) := by omega
        clear hs
        go_wp2
        go_ret
        exact ⟨rfl, rfl⟩
end Go.Proofs.Ytdhcdgmceiganaa
