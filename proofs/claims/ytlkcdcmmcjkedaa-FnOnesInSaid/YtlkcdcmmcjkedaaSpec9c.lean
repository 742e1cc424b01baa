/-
  The model's CountBalanced: for every number what it hands back.
-/
import Derived.Test.YtlkcdcmmcjkedaaMathZ
import Derived.Test.YtlkcdcmmcjkedaaBase
import Derived.Test.YtlkcdcmmcjkedaaDraw
namespace Go.Proofs.Ytlkcdcmmcjkedaa
open Go.RowKit

theorem and_i64 (a b : Nat) (ha : a < 4294967296) (hb : b < 4294967296) : bits .and .i64 (a : Int) (b : Int) = ((a &&& b : Nat) : Int) := by
  have hx : a &&& b < 2 ^ 32 := Nat.and_lt_two_pow a (by omega)
  have h1 : (BitVec.ofInt 64 (a : Int)).toNat = a := by
    rw [BitVec.ofInt_natCast, BitVec.toNat_ofNat]; exact Nat.mod_eq_of_lt (by omega)
  have h2 : (BitVec.ofInt 64 (b : Int)).toNat = b := by
    rw [BitVec.ofInt_natCast, BitVec.toNat_ofNat]; exact Nat.mod_eq_of_lt (by omega)
  show IntKind.i64.wrap ((BitVec.ofInt 64 (a : Int) &&& BitVec.ofInt 64 (b : Int)).toNat : Int) = _
  rw [BitVec.toNat_and, h1, h2]
  exact IntWalk.i64_in _ (by omega)
theorem pop_le (N : Nat) : ∀ k, pop N k ≤ k
  | 0 => Nat.le_refl _
  | k + 1 => by have := pop_le N k; simp only [pop]; omega

set_option maxHeartbeats 2000000 in
theorem specBal (c : Int) (w : World) : Calls Try.prog 44 #[.int .i64 c] w fun e w' => e = .returned (.int .i64 (balV c)) ∧ w = w' := by
  by_cases hbad : c < 1 ∨ 12 < c
  · rw [balV_bad hbad]
    go_enter Try.func44, Try.ntmps44
    go_wp2_with (go_at_call 61; refine (l1In_f _ _ _ _ (by omega)).mono ?_; rintro e w' ⟨rfl, rfl⟩)
    go_ret
    exact ⟨rfl, rfl⟩
  · obtain ⟨C, rfl⟩ : ∃ C : Nat, c = C := ⟨c.toNat, by omega⟩
    have hC1 : 1 ≤ C := by omega
    have hC : C ≤ 12 := by omega
    rw [balV_nat hC1 hC]
    obtain ⟨T, hT⟩ : ∃ T, 2 ^ C = T := ⟨_, rfl⟩
    have hTl : T ≤ 4096 := by rw [← hT]; exact Nat.le_trans (Nat.pow_le_pow_right (by omega) hC) (by decide)
    have hTi : (2 : Int) ^ C = (T : Int) := by rw [← hT]; simp
    have hbal : balanced C = balU C T := by unfold balanced; rw [hT]
    rw [hbal]
    obtain ⟨S, hS⟩ : ∃ S, balU C T = S := ⟨_, rfl⟩
    rw [hS]
    have hS' := hide hS
    have hC0 : (0 : Int) ≤ (C : Int) := by omega
    clear hbad hbal hS
    go_enter Try.func44, Try.ntmps44
    go_wp2_with (go_at_call 61; refine (l1In_t _ _ _ _ (by omega) (by omega)).mono ?_; rintro e w' ⟨rfl, rfl⟩)
    go_loop [3, 4] (fun o i => ∃ n : Nat, n ≤ T ∧ i = .int .i64 n ∧ o = .int .i64 (balU C n : Nat)) (fun _ i => T - (intOf i).toNat)
    case atStart => exact ⟨0, by omega, rfl, rfl⟩
    case round =>
      obtain ⟨n, hn, rfl, rfl⟩ := hrel
      by_cases hlt : n < T
      · have hni : (n : Int) < (T : Int) := by omega
        have hbl : balU C n ≤ n := cntB_le _ n
        obtain ⟨V, hV⟩ : ∃ V, onesN C n = V := ⟨_, rfl⟩
        have hst : balU C (n + 1) = balU C n + (if 4 * V == C * (C + 1) then 1 else 0) := by rw [← hV]; rfl
        have hst' := hide hst
        have hV' := hide (show 0 + onesN C n = V by omega)
        have hnT : n < 2 ^ C := by omega
        clear hst hV hS' hT
        generalize balU C n = m at *
        go_wp2
        go_loop [5, 6, 7] (fun s t u => ∃ l N o : Nat, l ≤ C ∧ s = .int .i64 N ∧ t = .int .i64 o ∧ u = .int .i64 l ∧ N < 2 ^ l ∧ o ≤ (C - l) * 12 ∧ Hid (o + onesN l N = V)) (fun _ _ u => (intOf u).toNat)
        case atStart => exact ⟨C, n, 0, Nat.le_refl _, rfl, rfl, rfl, hnT, by omega, hV'⟩
        case round =>
          clear hV'
          obtain ⟨l, N, o, hlC, rfl, rfl, rfl, hNl, hol, hsum⟩ := hrel
          by_cases hl0 : 0 < l
          · obtain ⟨p, rfl⟩ : ∃ p, l = p + 1 := ⟨l - 1, by omega⟩
            have hl0i : (0 : Int) < (p : Int) + 1 := by omega
            have hN4 : N < 4096 := Nat.lt_of_lt_of_le hNl (Nat.le_trans (Nat.pow_le_pow_right (by omega) (by omega : p + 1 ≤ 12)) (by decide))
            go_wp2
            go_loop [6, 8] (fun t i => ∃ k : Nat, k ≤ p + 1 ∧ i = .int .i64 k ∧ t = .int .i64 ((o : Int) + (pop N k : Nat))) (fun _ i => p + 1 - (intOf i).toNat)
            case atStart => exact ⟨0, by omega, rfl, by simp [pop]⟩
            case round =>
              obtain ⟨k, hk, rfl, rfl⟩ := hrel
              by_cases hkl : k < p + 1
              · have hki : (k : Int) < (p : Int) + 1 := by omega
                have hk0 : (0 : Int) ≤ (k : Int) := by omega
                have hpop : pop N (k + 1) = pop N k + (N >>> k) % 2 := rfl
                have hdiv : (N : Int) / 2 ^ k = ((N >>> k : Nat) : Int) := by rw [Nat.shiftRight_eq_div_pow]; simp
                have hmod := tmod_n (N >>> k) 2
                have hqN : N >>> k ≤ N := by rw [Nat.shiftRight_eq_div_pow]; exact Nat.div_le_self _ _
                have hml : (N >>> k) % 2 ≤ 1 := by omega
                have hpl := pop_le N k
                generalize N >>> k = q at *
                generalize q % 2 = r at *
                have hmod' : Int.tmod (q : Int) 2 = (r : Int) := hmod
                have hpop' := hide hpop
                have hw1 : IntKind.i64.wrap (q : Int) = q := IntWalk.i64_in _ (by omega)
                have hw2 : IntKind.i64.wrap (r : Int) = r := IntWalk.i64_in _ (by omega)
                clear hpop hmod hsum
                generalize pop N k = s at *
                go_wp2
                go_round
                case rel => exact ⟨k + 1, by omega, by go_num, by rw [hpop'.out]; go_num⟩
                case measure => simp [intOf]; omega
              · obtain rfl : k = p + 1 := by omega
                have hki : ¬ (p : Int) + 1 < (p : Int) + 1 := by omega
                have hpl := pop_le N (p + 1)
                have hsum' : Hid (o + pop N (p + 1) + onesN p (downN p N) = V) := hide (by have := hsum.out; simp only [onesN] at this; omega)
                obtain ⟨Q, hQ⟩ : ∃ Q, 2 ^ p = Q := ⟨_, rfl⟩
                have hQl : Q ≤ 4096 := by rw [← hQ]; exact Nat.le_trans (Nat.pow_le_pow_right (by omega) (by omega : p ≤ 12)) (by decide)
                have hQ1 : 1 ≤ Q := by rw [← hQ]; exact Nat.pow_pos (by omega)
                have hQi : (2 : Int) ^ p = (Q : Int) := by rw [← hQ]; simp
                have hdn : downN p N < 2 ^ p := Nat.mod_lt _ (Nat.pow_pos (by omega))
                have hde : downN p N = (N ^^^ (N >>> 1)) &&& (Q - 1) := by rw [← hQ, Nat.and_two_pow_sub_one_eq_mod]; rfl
                have hh : N >>> 1 ≤ N := by rw [Nat.shiftRight_eq_div_pow]; exact Nat.div_le_self _ _
                have hhi : (N : Int) / (2 : Int) = ((N >>> 1 : Nat) : Int) := by rw [Nat.shiftRight_eq_div_pow]; omega
                have hxo := xor_i64 N (N >>> 1) (by omega) (by omega)
                have hxl : N ^^^ (N >>> 1) < 2 ^ 13 := Nat.xor_lt_two_pow (by omega) (by omega)
                have han := and_i64 (N ^^^ (N >>> 1)) (Q - 1) (by omega) (by omega)
                rw [← hde, show ((Q - 1 : Nat) : Int) = (Q : Int) - 1 by omega] at han
                generalize N ^^^ (N >>> 1) = X at *
                generalize N >>> 1 = H at *
                generalize downN p N = D at *
                have hw1 : IntKind.i64.wrap (Q : Int) = Q := IntWalk.i64_in _ (by omega)
                have hw2 : IntKind.i64.wrap (p : Int) = p := IntWalk.i64_in _ (by omega)
                have hp0 : (0 : Int) ≤ (p : Int) := by omega
                clear hsum hQ hde
                generalize pop N (p + 1) = s at *
                go_wp2
                go_round
                case rel => exact ⟨p, D, o + s, by omega, by first | rfl | rw [hhi, hxo, han], by go_num, by go_num, hdn, by omega, hsum'⟩
                case measure => simp [intOf]
          · obtain rfl : l = 0 := by omega
            have hv := hsum.out
            simp only [onesN] at hv
            have hCC : (C : Int) * ((C : Int) + 1) = ((C * (C + 1) : Nat) : Int) := by simp
            have hCl : C * (C + 1) ≤ 12 * 13 := Nat.mul_le_mul hC (by omega)
            have hov : o = V := by omega
            subst hov
            generalize C * (C + 1) = W at *
            clear hsum hv
            by_cases hb : 4 * o = W
            · rw [show (4 * o == W) = true by simpa using hb, if_pos rfl] at hst'
              have hbi : (4 : Int) * (o : Int) = (W : Int) := by omega
              clear hb
              go_wp2
              go_round
              case rel => exact ⟨n + 1, by omega, by go_num, by rw [hst'.out]; go_num⟩
              case measure => simp [intOf]; omega
            · rw [show (4 * o == W) = false by simpa using hb, if_neg (by simp)] at hst'
              have hbi : ((4 : Int) * (o : Int) == (W : Int)) = false := by rw [beq_eq_false_iff_ne]; omega
              go_wp2
              go_round
              case rel => exact ⟨n + 1, by omega, by go_num, by rw [hst'.out]; rfl⟩
              case measure => simp [intOf]; omega
      · obtain rfl : n = T := by omega
        have hSS := hS'.out
        subst hSS
        clear hS'
        go_wp2
        go_ret
        exact ⟨rfl, rfl⟩
end Go.Proofs.Ytlkcdcmmcjkedaa
