/-
  The walks of the laws FnLeftIn and FnWholeOk: each answers true at every code, and nothing that was there is written.
-/
import Derived.Test.YtdhcdgmceiganaaSpec5
import Derived.Test.YtdhcdgmceiganaaSpec4b
import Derived.Test.YtdhcdgmceiganaaImpl5
import Derived.Test.YtdhcdgmceiganaaDraw5
import Derived.Test.YtdhcdgmceiganaaAlive
namespace Go.Proofs.Ytdhcdgmceiganaa
open Go.RowKit

/-- The model's row of what is left, cell by cell. -/
theorem specRowLeft_all (r q : Nat) (hr : r ≤ 300) (hq : 2 ≤ q) (hq2 : q ≤ 1000) (w : World) : Calls Try.prog 15 #[.int .i64 r, .int .i64 q] w fun e w' =>
    ∃ g cap, e = .returned (.slice (some ⟨g, 0, none⟩) (r + 1) cap) ∧ g < w'.heap.size ∧ (∀ k, k ≤ r → w'.cell? ⟨g, k, none⟩ = some (.int .i64 (leftN q r k))) ∧ Below w.heap.size w w' := by
  refine (specRowLeft_in r q hr hq hq2 w).mono fun e w' ⟨v, he, hown, hB⟩ => ?_
  rw [rowLN_len] at hown
  obtain ⟨g, cap, rfl, _, hg, _, hc⟩ := owns_open hown (by omega)
  exact ⟨g, cap, he, hg, fun k hk => hc k _ (by unfold rowLN; rw [List.getElem?_map, rowLP_get q r (r + 1) k (by omega)]; rfl), hB⟩

set_option maxHeartbeats 4000000 in
theorem lawLeftIn (a0 : Option Addr) (len0 cap0 : Nat) (z0 : List Int) (w : World) (w0 : IsRow .u8 w a0 len0 cap0 z0) :
    Calls Try.prog 3 #[.slice a0 len0 cap0] w fun e w' => e = .returned (.bool true) ∧ Below w.heap.size w w' := by
  by_cases hbig : 1048576 < len0
  · go_enter Try.func3, Try.ntmps3
    go_wp2
    go_ret
    exact ⟨rfl, Below.refl _ _⟩
  · go_enter Try.func3, Try.ntmps3
    go_wp2_with fail
    go_at_call 11
    refine (drawLeftIn w a0 len0 cap0 z0 w0).mono ?_
    rintro e w1 ⟨⟨x, y, hx, hy, rfl⟩, hB1⟩
    by_cases hbad : badK x y
    · have hI : ∀ w, Calls Try.prog 12 #[.int .i64 x, .int .i64 y] w fun e w' => e = .returned (.int .i64 (-1)) ∧ Below w.heap.size w w' := fun w => by simpa [keepV_bad hbad] using implLeftIn x y hy w
      have hS : ∀ w, Calls Try.prog 13 #[.int .i64 x, .int .i64 y] w fun e w' => e = .returned (.int .i64 (-1)) ∧ w = w' := fun w => by simpa [keepV_bad hbad] using specLeftIn x y w
      clear hbad
      go_wp2_with (first | (go_at_call 12; (with_reducible refine (hI _).mono ?_); rintro e w' ⟨rfl, hB'⟩; replace hB1 := hB1.trans (hB'.mono hB1.size); clear hB') | (go_at_call 13; (with_reducible refine (hS _).mono ?_); rintro e w' ⟨rfl, rfl⟩) | (go_at_call 14; refine (alive_in _).mono ?_; rintro e w' ⟨rfl, hB'⟩; replace hB1 := hB1.trans (hB'.mono hB1.size); clear hB'))
      go_ret
      exact ⟨rfl, hB1⟩
    · obtain ⟨N, P, rfl, rfl, hN, hp⟩ := badK_nat hbad
      have hPP := prm_two hp
      clear hbad hx
      obtain ⟨m, hm⟩ : ∃ m, keep P N = m := ⟨_, rfl⟩
      have hI : ∀ w, Calls Try.prog 12 #[.int .i64 N, .int .i64 P] w fun e w' => e = .returned (.int .i64 m) ∧ Below w.heap.size w w' := fun w => by simpa only [keepV_nat hN hp, hm] using implLeftIn N P hy w
      have hS : ∀ w, Calls Try.prog 13 #[.int .i64 N, .int .i64 P] w fun e w' => e = .returned (.int .i64 m) ∧ w = w' := fun w => by simpa only [keepV_nat hN hp, hm] using specLeftIn N P w
      have hml : m ≤ N + 1 := by rw [← hm]; exact keep_le hPP.1 N
      have hm0 : ¬ (m : Int) < 0 := by omega
      -- the row times the prime
      obtain ⟨P1, hP1⟩ : ∃ K, N * P = K := ⟨_, rfl⟩
      have hP1i : (N : Int) * (P : Int) = (P1 : Int) := by rw [← hP1]; simp
      have hP1b : P1 ≤ 999999999 * 13 := by rw [← hP1]; exact Nat.mul_le_mul hN hPP.2
      have hP1n : N ≤ 300 → P1 ≤ 3900 := fun h => by rw [← hP1]; exact Nat.le_trans (Nat.mul_le_mul h hPP.2) (by decide)
      have hT : P1 ≤ 999999999 → ∀ w, Calls Try.prog 12 #[.int .i64 P1, .int .i64 P] w fun e w' => e = .returned (.int .i64 m) ∧ Below w.heap.size w w' := fun h1 w => by
        have h3 := implLeftIn P1 P hy w
        rw [keepV_nat h1 hp, ← hP1, keep_times hPP.1, hm, hP1] at h3
        exact h3
      have hw1 : IntKind.i64.wrap (P1 : Int) = P1 := IntWalk.i64_in _ (by omega)
      -- for 2
      obtain ⟨s, hs⟩ : ∃ s, sumL (digs 2 N) = s := ⟨_, rfl⟩
      obtain ⟨T, hTT⟩ : ∃ T, keep 2 N = T := ⟨_, rfl⟩
      have hTb : T ≤ N + 1 := by rw [← hTT]; exact keep_le (by omega) N
      have hTs : T = 2 ^ s := by rw [← hTT, ← hs]; exact keep_bits N
      have hsT : (2 : Int) ^ s = (T : Int) := by rw [hTs]; simp
      have h2 : ∀ w, Calls Try.prog 12 #[.int .i64 N, .int .i64 2] w fun e w' => e = .returned (.int .i64 T) ∧ Below w.heap.size w w' := fun w => by
        have h3 := implLeftIn N (2 : Nat) (by unfold Fits; omega) w
        rw [keepV_nat hN (.inl rfl), hTT] at h3
        exact h3
      have hU : ∀ w, Calls Try.prog 16 #[.int .i64 N, .int .i64 2] w fun e w' => e = .returned (.int .i64 s) ∧ Below w.heap.size w w' := fun w => by
        have h3 := implSum N (2 : Nat) w
        rw [sumV_nat hN (by omega) (by omega), hs] at h3
        exact h3
      have hs31 : s < 31 := by
        by_cases h : s < 31
        · exact h
        · exfalso
          have := Nat.pow_le_pow_right (show 0 < 2 by omega) (show 31 ≤ s by omega)
          omega
      have hw2 : IntKind.i64.wrap (T : Int) = T := IntWalk.i64_in _ (by omega)
      have hs0 : (0 : Int) ≤ (s : Int) := by omega
      have hcnt : cntL P N (N + 1) = m := by rw [cntL_all hp N, hm]
      have hcnt' := hide hcnt
      clear hP1 hs hTT hm hTs hcnt
      rcases (show N ≤ 300 ∨ (300 < N ∧ P1 ≤ 999999999) ∨ (300 < N ∧ 999999999 < P1) by omega) with c | ⟨c, c2⟩ | ⟨c, c2⟩
      · have hR := fun w => specRowLeft_all N P c hPP.1 (by omega) w
        have hP1c := hP1n c
        have hT2 := hT (by omega)
        have c1 : (N : Int) ≤ 300 := by omega
        have c3 : ¬ (999999999 : Int) < (P1 : Int) := by omega
        clear hT
        go_wp2_with (first | (go_at_call 12; (with_reducible refine (hI _).mono ?_); rintro e w' ⟨rfl, hB'⟩; replace hB1 := hB1.trans (hB'.mono hB1.size); clear hB') | (go_at_call 13; (with_reducible refine (hS _).mono ?_); rintro e w' ⟨rfl, rfl⟩) | (go_at_call 15; (with_reducible refine (hR _).mono ?_); rintro e w' ⟨g, cap, rfl, hg, hc, hB'⟩; replace hB1 := hB1.trans (hB'.mono hB1.size); clear hB'))
        go_loop [6, 8] (fun s i => ∃ k : Nat, k ≤ N + 1 ∧ i = .int .i64 k ∧ s = .int .i64 (cntL P N k)) (fun _ i => N + 1 - (intOf i).toNat)
        case atStart => exact ⟨0, by omega, rfl, rfl⟩
        case round =>
          obtain ⟨k, hk, rfl, rfl⟩ := hrel
          by_cases hlt : k < N + 1
          · have hck := hc k (by omega)
            have hle := cntL_le P N k
            have hst : cntL P N (k + 1) = cntL P N k + (if leftN P N k = 0 then 0 else 1) := rfl
            have hki : (k : Int) < (N : Int) + 1 := by omega
            clear hc hI hS hR hT2 h2 hU
            by_cases hz : leftN P N k = 0
            · rw [hz] at hck
              rw [if_pos hz] at hst
              have hst' := hide hst
              clear hst hz
              go_wp2
              go_round
              case rel => exact ⟨k + 1, by omega, by go_num, by rw [hst'.out]; rfl⟩
              case measure => simp [intOf]; omega
            · rw [if_neg hz] at hst
              have hst' := hide hst
              have hzi : ((leftN P N k : Int) == 0) = false := by simpa using hz
              clear hst
              generalize leftN P N k = z at *
              go_wp2
              go_round
              case rel => exact ⟨k + 1, by omega, by go_num, by rw [hst'.out]; go_num⟩
              case measure => simp [intOf]; omega
          · obtain rfl : k = N + 1 := by omega
            rw [hcnt'.out]
            clear hc hI hS hR hlt
            go_wp2_with (first | (go_at_call 12; (with_reducible refine (hT2 _).mono ?_); rintro e w' ⟨rfl, hB'⟩; replace hB1 := hB1.trans (hB'.mono hB1.size); clear hB') | (go_at_call 12; (with_reducible refine (h2 _).mono ?_); rintro e w' ⟨rfl, hB'⟩; replace hB1 := hB1.trans (hB'.mono hB1.size); clear hB') | (go_at_call 16; (with_reducible refine (hU _).mono ?_); rintro e w' ⟨rfl, hB'⟩; replace hB1 := hB1.trans (hB'.mono hB1.size); clear hB'))
            go_ret
            exact ⟨rfl, hB1⟩
      · have hT2 := hT c2
        have c1 : ¬ (N : Int) ≤ 300 := by omega
        have c3 : ¬ (999999999 : Int) < (P1 : Int) := by omega
        clear hT hcnt'
        go_wp2_with (first | (go_at_call 12; (with_reducible refine (hI _).mono ?_); rintro e w' ⟨rfl, hB'⟩; replace hB1 := hB1.trans (hB'.mono hB1.size); clear hB') | (go_at_call 13; (with_reducible refine (hS _).mono ?_); rintro e w' ⟨rfl, rfl⟩) | (go_at_call 12; (with_reducible refine (hT2 _).mono ?_); rintro e w' ⟨rfl, hB'⟩; replace hB1 := hB1.trans (hB'.mono hB1.size); clear hB') | (go_at_call 12; (with_reducible refine (h2 _).mono ?_); rintro e w' ⟨rfl, hB'⟩; replace hB1 := hB1.trans (hB'.mono hB1.size); clear hB') | (go_at_call 16; (with_reducible refine (hU _).mono ?_); rintro e w' ⟨rfl, hB'⟩; replace hB1 := hB1.trans (hB'.mono hB1.size); clear hB'))
        go_ret
        exact ⟨rfl, hB1⟩
      · have c1 : ¬ (N : Int) ≤ 300 := by omega
        have c3 : (999999999 : Int) < (P1 : Int) := by omega
        clear hT hcnt'
        go_wp2_with (first | (go_at_call 12; (with_reducible refine (hI _).mono ?_); rintro e w' ⟨rfl, hB'⟩; replace hB1 := hB1.trans (hB'.mono hB1.size); clear hB') | (go_at_call 13; (with_reducible refine (hS _).mono ?_); rintro e w' ⟨rfl, rfl⟩) | (go_at_call 12; (with_reducible refine (h2 _).mono ?_); rintro e w' ⟨rfl, hB'⟩; replace hB1 := hB1.trans (hB'.mono hB1.size); clear hB') | (go_at_call 16; (with_reducible refine (hU _).mono ?_); rintro e w' ⟨rfl, hB'⟩; replace hB1 := hB1.trans (hB'.mono hB1.size); clear hB'))
        go_ret
        exact ⟨rfl, hB1⟩

set_option maxHeartbeats 4000000 in
theorem lawWhole (a0 : Option Addr) (len0 cap0 : Nat) (z0 : List Int) (w : World) (w0 : IsRow .u8 w a0 len0 cap0 z0) :
    Calls Try.prog 5 #[.slice a0 len0 cap0] w fun e w' => e = .returned (.bool true) ∧ Below w.heap.size w w' := by
  by_cases hbig : 1048576 < len0
  · go_enter Try.func5, Try.ntmps5
    go_wp2
    go_ret
    exact ⟨rfl, Below.refl _ _⟩
  · go_enter Try.func5, Try.ntmps5
    go_wp2_with fail
    go_at_call 20
    refine (drawWhole w a0 len0 cap0 z0 w0).mono ?_
    rintro e w1 ⟨⟨x, y, hx, hy, rfl⟩, hB1⟩
    by_cases hbad : badK x y
    · have hI : ∀ w, Calls Try.prog 21 #[.int .i64 x, .int .i64 y] w fun e w' => e = .returned (.bool false) ∧ Below w.heap.size w w' := fun w => by simpa [wholeV_bad hbad] using implWhole x y hy w
      have hS : ∀ w, Calls Try.prog 22 #[.int .i64 x, .int .i64 y] w fun e w' => e = .returned (.bool false) ∧ w = w' := fun w => by simpa [wholeV_bad hbad] using specWhole x y w
      have hL : ∀ w, Calls Try.prog 13 #[.int .i64 x, .int .i64 y] w fun e w' => e = .returned (.int .i64 (-1)) ∧ w = w' := fun w => by simpa [keepV_bad hbad] using specLeftIn x y w
      clear hbad
      go_wp2_with (first | (go_at_call 21; (with_reducible refine (hI _).mono ?_); rintro e w' ⟨rfl, hB'⟩; replace hB1 := hB1.trans (hB'.mono hB1.size); clear hB') | (go_at_call 22; (with_reducible refine (hS _).mono ?_); rintro e w' ⟨rfl, rfl⟩) | (go_at_call 13; (with_reducible refine (hL _).mono ?_); rintro e w' ⟨rfl, rfl⟩) | (go_at_call 14; (with_reducible refine (alive_in _).mono ?_); rintro e w' ⟨rfl, hB'⟩; replace hB1 := hB1.trans (hB'.mono hB1.size); clear hB'))
      go_ret
      exact ⟨rfl, hB1⟩
    · obtain ⟨N, P, rfl, rfl, hN, hp⟩ := badK_nat hbad
      have hPP := prm_two hp
      clear hbad hx
      obtain ⟨m, hm⟩ : ∃ m, keep P N = m := ⟨_, rfl⟩
      obtain ⟨v, hv⟩ : ∃ v, whole P N = v := ⟨_, rfl⟩
      have hI : ∀ w, Calls Try.prog 21 #[.int .i64 N, .int .i64 P] w fun e w' => e = .returned (.bool v) ∧ Below w.heap.size w w' := fun w => by simpa only [wholeV_nat hN hp, hv] using implWhole N P hy w
      have hS : ∀ w, Calls Try.prog 22 #[.int .i64 N, .int .i64 P] w fun e w' => e = .returned (.bool v) ∧ w = w' := fun w => by simpa only [wholeV_nat hN hp, hv] using specWhole N P w
      have hL : ∀ w, Calls Try.prog 13 #[.int .i64 N, .int .i64 P] w fun e w' => e = .returned (.int .i64 m) ∧ w = w' := fun w => by simpa only [keepV_nat hN hp, hm] using specLeftIn N P w
      have hJ : ∀ w, Calls Try.prog 12 #[.int .i64 N, .int .i64 P] w fun e w' => e = .returned (.int .i64 m) ∧ Below w.heap.size w w' := fun w => by simpa only [keepV_nat hN hp, hm] using implLeftIn N P hy w
      have hml : m ≤ N + 1 := by rw [← hm]; exact keep_le hPP.1 N
      have hm0 : ¬ (m : Int) < 0 := by omega
      have hiff := whole_keep hPP.1 N
      rw [hv, hm] at hiff
      obtain ⟨Q, hQ⟩ : ∃ Q, P * P * P = Q := ⟨_, rfl⟩
      have hQ3 : Q - 1 + 1 = P ^ 3 := by
        have : 0 < P * P * P := Nat.mul_pos (Nat.mul_pos (by omega) (by omega)) (by omega)
        rw [Nat.sub_add_cancel (by omega), ← hQ, Nat.pow_succ, Nat.pow_succ, Nat.pow_one]
      obtain ⟨D, hD⟩ : ∃ D, P * P = D := ⟨_, rfl⟩
      have hDb : D ≤ 13 * 13 := by rw [← hD]; exact Nat.mul_le_mul hPP.2 hPP.2
      rw [hD] at hQ
      have hQb : Q ≤ 169 * 13 := by rw [← hQ]; exact Nat.mul_le_mul hDb hPP.2
      have hDi : (P : Int) * (P : Int) = (D : Int) := by rw [← hD]; simp
      have hQi : (D : Int) * (P : Int) = (Q : Int) := by rw [← hQ]; simp
      have hQ0 : 1 ≤ Q := by
        have : 1 ≤ P * P := Nat.mul_pos (by omega) (by omega)
        rw [← hQ, ← hD]; exact Nat.mul_pos (by omega) (by omega)
      have hK : ∀ w, Calls Try.prog 21 #[.int .i64 ((Q : Int) - 1), .int .i64 P] w fun e w' => e = .returned (.bool true) ∧ Below w.heap.size w w' := fun w => by
        have h3 := implWhole (Q - 1 : Nat) P hy w
        rw [wholeV_nat (by omega) hp, whole_power hPP.1 3 (Q - 1) hQ3, show ((Q - 1 : Nat) : Int) = (Q : Int) - 1 by omega] at h3
        exact h3
      have hZ : ∀ w, Calls Try.prog 21 #[.int .i64 0, .int .i64 P] w fun e w' => e = .returned (.bool true) ∧ Below w.heap.size w w' := fun w => by
        have h3 := implWhole (0 : Nat) P hy w
        rw [wholeV_nat (by omega) hp, whole_low (by omega)] at h3
        exact h3
      clear hm hv hQ hD hQ3
      cases v
      case' false => have hc : ((m : Int) == (N : Int) + 1) = false := by rw [beq_eq_false_iff_ne]; simp at hiff; omega
      case' true => have hc : m = N + 1 := by simp at hiff; exact hiff
      case' true => subst hc
      all_goals
        clear hiff
        go_wp2_with (first | (go_at_call 21; (with_reducible refine (hI _).mono ?_); rintro e w' ⟨rfl, hB'⟩; replace hB1 := hB1.trans (hB'.mono hB1.size); clear hB') | (go_at_call 21; (with_reducible refine (hK _).mono ?_); rintro e w' ⟨rfl, hB'⟩; replace hB1 := hB1.trans (hB'.mono hB1.size); clear hB') | (go_at_call 21; (with_reducible refine (hZ _).mono ?_); rintro e w' ⟨rfl, hB'⟩; replace hB1 := hB1.trans (hB'.mono hB1.size); clear hB') | (go_at_call 22; (with_reducible refine (hS _).mono ?_); rintro e w' ⟨rfl, rfl⟩) | (go_at_call 13; (with_reducible refine (hL _).mono ?_); rintro e w' ⟨rfl, rfl⟩) | (go_at_call 12; (with_reducible refine (hJ _).mono ?_); rintro e w' ⟨rfl, hB'⟩; replace hB1 := hB1.trans (hB'.mono hB1.size); clear hB'))
        go_ret
        exact ⟨rfl, hB1⟩
end Go.Proofs.Ytdhcdgmceiganaa
