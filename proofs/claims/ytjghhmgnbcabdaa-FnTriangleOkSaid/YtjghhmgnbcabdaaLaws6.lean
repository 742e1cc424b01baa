/-
  The walks of the laws of chapter 6: each answers true at every code, and nothing that was there is written.
-/
import Derived.Test.YtjghhmgnbcabdaaSpec6
import Derived.Test.YtjghhmgnbcabdaaSpec6b
import Derived.Test.YtjghhmgnbcabdaaImpl6c
import Derived.Test.YtjghhmgnbcabdaaImpl6d
import Derived.Test.YtjghhmgnbcabdaaImpl2c
import Derived.Test.YtjghhmgnbcabdaaDraw6
import Derived.Test.YtjghhmgnbcabdaaAlive
namespace Go.Proofs.Ytjghhmgnbcabdaa
open Go.RowKit

theorem u8_eq {a b : Nat} (ha : a < 256) (hb : b < 256) : (UInt8.ofNat a == UInt8.ofNat b) = (a == b) := by
  rw [Bool.eq_iff_iff, beq_iff_eq, beq_iff_eq]
  constructor
  · intro h
    have := congrArg UInt8.toNat h
    rwa [UInt8.toNat_ofNat_of_lt' ha, UInt8.toNat_ofNat_of_lt' hb] at this
  · rintro rfl; rfl

set_option maxHeartbeats 4000000 in
theorem lawMark (a0 : Option Addr) (len0 cap0 : Nat) (z0 : List Int) (w : World) (w0 : IsRow .u8 w a0 len0 cap0 z0) :
    Calls Try.prog 3 #[.slice a0 len0 cap0] w fun e w' => e = .returned (.bool true) ∧ Below w.heap.size w w' := by
  by_cases hbig : 1048576 < len0
  · go_enter Try.func3, Try.ntmps3
    go_wp2
    go_ret
    exact ⟨rfl, Below.refl _ _⟩
  · go_enter Try.func3, Try.ntmps3
    go_wp2_with fail
    go_at_call 11
    refine (drawMark w a0 len0 cap0 z0 w0).mono ?_
    rintro e w1 ⟨⟨x, y, z, hx, hy, hz, rfl⟩, hB1⟩
    by_cases hbad : badM x y z
    · have hI : ∀ w, Calls Try.prog 12 #[.int .i64 x, .int .i64 y, .int .i64 z] w fun e w' => e = .returned (.string { data := #[] }) ∧ Below w.heap.size w w' := fun w => by simpa [markL_bad hbad, str_nil] using implMark x y z hz w
      have hS : ∀ w, Calls Try.prog 13 #[.int .i64 x, .int .i64 y, .int .i64 z] w fun e w' => e = .returned (.string { data := #[] }) ∧ Below w.heap.size w w' := fun w => by simpa [markL_bad hbad, str_nil] using specMark x y z w
      clear hbad
      go_wp2_with (first | (go_at_call 12; (with_reducible refine (hI _).mono ?_); rintro e w' ⟨rfl, hB'⟩; replace hB1 := hB1.trans (hB'.mono hB1.size); clear hB') | (go_at_call 13; (with_reducible refine (hS _).mono ?_); rintro e w' ⟨rfl, hB'⟩; replace hB1 := hB1.trans (hB'.mono hB1.size); clear hB') | (go_at_call 14; refine (alive_in _).mono ?_; rintro e w' ⟨rfl, hB'⟩; replace hB1 := hB1.trans (hB'.mono hB1.size); clear hB'))
      go_ret
      exact ⟨rfl, hB1⟩
    · obtain ⟨N, K, P, rfl, rfl, rfl, hN, hK, hp⟩ := badM_nat hbad
      have hPP := prm_two hp
      clear hbad hx hy
      obtain ⟨l, hl⟩ : ∃ l, leftN P N K = l := ⟨_, rfl⟩
      have hl13 : l < 13 := by have := leftN_prime hp N K; omega
      have hmk := markB_ne hl13
      obtain ⟨s, hs⟩ : ∃ s, str [markB l] = s := ⟨_, rfl⟩
      have hI : ∀ w, Calls Try.prog 12 #[.int .i64 N, .int .i64 K, .int .i64 P] w fun e w' => e = .returned (.string s) ∧ Below w.heap.size w w' := fun w => by simpa only [markL_nat hN hK hp, hl, hs] using implMark N K P hz w
      have hS : ∀ w, Calls Try.prog 13 #[.int .i64 N, .int .i64 K, .int .i64 P] w fun e w' => e = .returned (.string s) ∧ Below w.heap.size w w' := fun w => by simpa only [markL_nat hN hK hp, hl, hs] using specMark N K P w
      have hJ : ∀ w, Calls Try.prog 12 #[.int .i64 N, .int .i64 ((N : Int) - K), .int .i64 P] w fun e w' => e = .returned (.string s) ∧ Below w.heap.size w w' := fun w => by
        have h3 := implMark N (N - K : Nat) P hz w
        rw [markL_nat hN (by omega) hp, leftN_mirror P N K hK, hl, hs, show ((N - K : Nat) : Int) = (N : Int) - K by omega] at h3
        exact h3
      obtain ⟨v, hv⟩ : ∃ v, und P K N = v := ⟨_, rfl⟩
      have hU : ∀ w, Calls Try.prog 15 #[.int .i64 K, .int .i64 N, .int .i64 P] w fun e w' => e = .returned (.bool v) ∧ Below w.heap.size w w' := fun w => by
        simpa [underV_nat (show K ≤ 999999999 by omega) hN hPP.1 (by omega), hv] using implUnder K N P w
      have hz0 := leftN_und hp N K
      rw [hl, hv] at hz0
      have hsz : s.size = 1 := by rw [← hs, str_size]; rfl
      have hst : s.toList = [UInt8.ofNat (markB l)] := by rw [← hs, str_toList]; rfl
      have hs1 : (s.toList == [46]) = !v := by
        rw [hst, show ([UInt8.ofNat (markB l)] == [46]) = (UInt8.ofNat (markB l) == UInt8.ofNat 46) by simp, u8_eq (by omega) (by omega)]
        cases v
        · simp at hz0; simp [hmk.2.1.2 hz0]
        · simp at hz0; simp; exact fun h => hz0 (hmk.2.1.1 h)
      have hs2 : (s.toList == []) = false := by rw [hst]; rfl
      have hs3 : s.toList.isEmpty = false := by rw [hst]; rfl
      have hs4 : (s.toList = []) = False := by rw [hst]; simp
      have hw1 : IntKind.i64.wrap ((N : Int) - K) = (N : Int) - K := IntWalk.i64_in _ (by omega)
      clear hs hst hv hl hmk hz0
      cases v
      all_goals
        simp only [Bool.not_true, Bool.not_false] at hs1
        go_wp2_with (first | (go_at_call 12; (with_reducible refine (hI _).mono ?_); rintro e w' ⟨rfl, hB'⟩; replace hB1 := hB1.trans (hB'.mono hB1.size); clear hB') | (go_at_call 12; (with_reducible refine (hJ _).mono ?_); rintro e w' ⟨rfl, hB'⟩; replace hB1 := hB1.trans (hB'.mono hB1.size); clear hB') | (go_at_call 13; (with_reducible refine (hS _).mono ?_); rintro e w' ⟨rfl, hB'⟩; replace hB1 := hB1.trans (hB'.mono hB1.size); clear hB') | (go_at_call 15; (with_reducible refine (hU _).mono ?_); rintro e w' ⟨rfl, hB'⟩; replace hB1 := hB1.trans (hB'.mono hB1.size); clear hB') | (go_at_call 14; refine (alive_in _).mono ?_; rintro e w' ⟨rfl, hB'⟩; replace hB1 := hB1.trans (hB'.mono hB1.size); clear hB'))
        go_ret
        exact ⟨rfl, hB1⟩

set_option maxHeartbeats 4000000 in
theorem lawTriangle (a0 : Option Addr) (len0 cap0 : Nat) (z0 : List Int) (w : World) (w0 : IsRow .u8 w a0 len0 cap0 z0) :
    Calls Try.prog 5 #[.slice a0 len0 cap0] w fun e w' => e = .returned (.bool true) ∧ Below w.heap.size w w' := by
  by_cases hbig : 1048576 < len0
  · go_enter Try.func5, Try.ntmps5
    go_wp2
    go_ret
    exact ⟨rfl, Below.refl _ _⟩
  · go_enter Try.func5, Try.ntmps5
    go_wp2_with fail
    go_at_call 20
    refine (drawTriangle w a0 len0 cap0 z0 w0).mono ?_
    rintro e w1 ⟨⟨x, y, z, t, u, hx, hy, hz, ht, hu, rfl⟩, hB1⟩
    obtain ⟨v, hv⟩ : ∃ v, triV x y z t u = v := ⟨_, rfl⟩
    have hI : ∀ w, Calls Try.prog 21 #[.int .i64 x, .int .i64 y, .int .i64 z, .int .i64 t, .int .i64 u] w fun e w' => e = .returned (.bool v) ∧ Below w.heap.size w w' := fun w => by simpa only [hv] using implTriangle x y z t u hu w
    have hS : ∀ w, Calls Try.prog 22 #[.int .i64 x, .int .i64 y, .int .i64 z, .int .i64 t, .int .i64 u] w fun e w' => e = .returned (.bool v) ∧ Below w.heap.size w w' := fun w => by simpa only [hv] using specTriangle x y z t u w
    cases hpr : prmI u with
    | false =>
      have hP := fun w => specPrime_is hpr w
      obtain rfl : v = false := by rw [← hv]; exact triV_bad (.inl hpr)
      clear hv hpr
      go_wp2_with (first | (go_at_call 21; (with_reducible refine (hI _).mono ?_); rintro e w' ⟨rfl, hB'⟩; replace hB1 := hB1.trans (hB'.mono hB1.size); clear hB') | (go_at_call 22; (with_reducible refine (hS _).mono ?_); rintro e w' ⟨rfl, hB'⟩; replace hB1 := hB1.trans (hB'.mono hB1.size); clear hB') | (go_at_call 23; (with_reducible refine (hP _).mono ?_); rintro e w' ⟨rfl, rfl⟩) | (go_at_call 14; (with_reducible refine (alive_in _).mono ?_); rintro e w' ⟨rfl, hB'⟩; replace hB1 := hB1.trans (hB'.mono hB1.size); clear hB'))
      go_ret
      exact ⟨rfl, hB1⟩
    | true =>
      have hP := fun w => specPrime_is hpr w
      obtain ⟨P, rfl, hp⟩ := prmI_t hpr
      have hPP := prm_two hp
      have hT : ∀ (a b : Nat), a ≤ 5 → b ≤ a → ∀ w, Calls Try.prog 21 #[.int .i64 ((a : Int) * P), .int .i64 ((b : Int) * P), .int .i64 P, .int .i64 (leftN P a b), .int .i64 P] w fun e w' => e = .returned (.bool true) ∧ Below w.heap.size w w' := fun a b ha hb w => by
        have h3 := implTriangle (a * P : Nat) (b * P : Nat) P (leftN P a b) P hu w
        have h4 : a * P ≤ 5 * 13 := Nat.mul_le_mul ha hPP.2
        rw [triV_nat (by omega) (Nat.mul_le_mul_right P hb) (by omega) (by omega) (leftN_prime hp a b) hp, triOk_block hp] at h3
        simpa using h3
      have hL : ∀ (a b : Nat), a ≤ 5 → b ≤ a → ∀ w, Calls Try.prog 24 #[.int .i64 a, .int .i64 b, .int .i64 P] w fun e w' => e = .returned (.int .i64 (leftN P a b)) ∧ Below w.heap.size w w' := fun a b ha hb w => by
        have h3 := implLeft a b P hu w
        rw [leftV_nat (by omega) (by omega) hp] at h3
        exact h3
      clear hv hpr hx hy hz ht
      cases v
      all_goals
        go_wp2_with (first | (go_at_call 21; (with_reducible refine (hI _).mono ?_); rintro e w' ⟨rfl, hB'⟩; replace hB1 := hB1.trans (hB'.mono hB1.size); clear hB') | (go_at_call 22; (with_reducible refine (hS _).mono ?_); rintro e w' ⟨rfl, hB'⟩; replace hB1 := hB1.trans (hB'.mono hB1.size); clear hB') | (go_at_call 23; (with_reducible refine (hP _).mono ?_); rintro e w' ⟨rfl, rfl⟩))
        clear hI hS hP
        go_loopw [9] (fun i wr => ∃ a : Nat, a ≤ 6 ∧ i = .int .i64 a ∧ Below w.heap.size w wr) (fun i _ => 6 - (intOf i).toNat)
        case atStart => exact ⟨0, by omega, rfl, hB1⟩
        case round =>
          clear hB1
          obtain ⟨a, ha, rfl, hB⟩ := hrel
          by_cases hlt : a < 6
          · have hai : (a : Int) ≤ 5 := by omega
            go_wp2
            go_loopw [10] (fun i wi => ∃ b : Nat, b ≤ a + 1 ∧ i = .int .i64 b ∧ Below w.heap.size w wi) (fun i _ => a + 1 - (intOf i).toNat)
            case atStart => exact ⟨0, by omega, rfl, hB⟩
            case round =>
              clear hB
              obtain ⟨b, hb, rfl, hB⟩ := hrel
              by_cases hlb : b < a + 1
              · have hbi : (b : Int) ≤ (a : Int) := by omega
                have hT1 := hT a b (by omega) (by omega)
                have hL1 := hL a b (by omega) (by omega)
                have hlp := leftN_prime hp a b
                obtain ⟨A, hA⟩ : ∃ A, a * P = A := ⟨_, rfl⟩
                obtain ⟨B, hBB⟩ : ∃ B, b * P = B := ⟨_, rfl⟩
                have hAi : (a : Int) * (P : Int) = (A : Int) := by rw [← hA]; simp
                have hBi : (b : Int) * (P : Int) = (B : Int) := by rw [← hBB]; simp
                have hAl : A ≤ 6 * 13 := by rw [← hA]; exact Nat.mul_le_mul (by omega) hPP.2
                have hBl : B ≤ 6 * 13 := by rw [← hBB]; exact Nat.mul_le_mul (by omega) hPP.2
                rw [hAi, hBi] at hT1
                generalize leftN P a b = l at *
                have hw1 : IntKind.i64.wrap (A : Int) = A := IntWalk.i64_in _ (by omega)
                have hw2 : IntKind.i64.wrap (B : Int) = B := IntWalk.i64_in _ (by omega)
                clear hT hL hA hBB
                go_wp2_with (first | (go_at_call 21; (with_reducible refine (hT1 _).mono ?_); rintro e w' ⟨rfl, hB'⟩; replace hB := hB.trans (hB'.mono hB.size); clear hB') | (go_at_call 24; (with_reducible refine (hL1 _).mono ?_); rintro e w' ⟨rfl, hB'⟩; replace hB := hB.trans (hB'.mono hB.size); clear hB'))
                go_roundw
                case rel => exact ⟨b + 1, by omega, by go_num, hB⟩
                case measure => simp [intOf]; omega
              · obtain rfl : b = a + 1 := by omega
                have hbi : ¬ (a : Int) + 1 ≤ (a : Int) := by omega
                go_wp2
                go_roundw
                case rel => exact ⟨a + 1, by omega, by go_num, hB⟩
                case measure => simp [intOf]; omega
          · obtain rfl : a = 6 := by omega
            go_wp2
            go_ret
            exact ⟨rfl, hB⟩

set_option maxHeartbeats 4000000 in
theorem lawGap (a0 : Option Addr) (len0 cap0 : Nat) (z0 : List Int) (w : World) (w0 : IsRow .u8 w a0 len0 cap0 z0) :
    Calls Try.prog 6 #[.slice a0 len0 cap0] w fun e w' => e = .returned (.bool true) ∧ Below w.heap.size w w' := by
  by_cases hbig : 1048576 < len0
  · go_enter Try.func6, Try.ntmps6
    go_wp2
    go_ret
    exact ⟨rfl, Below.refl _ _⟩
  · go_enter Try.func6, Try.ntmps6
    go_wp2_with fail
    go_at_call 25
    refine (drawGap w a0 len0 cap0 z0 w0).mono ?_
    rintro e w1 ⟨⟨x, y, z, u, hx, hy, hz, hu, rfl⟩, hB1⟩
    obtain ⟨v, hv⟩ : ∃ v, gapV x y z u = v := ⟨_, rfl⟩
    have hI : ∀ w, Calls Try.prog 26 #[.int .i64 x, .int .i64 y, .int .i64 z, .int .i64 u] w fun e w' => e = .returned (.bool v) ∧ Below w.heap.size w w' := fun w => by simpa only [hv] using implGap x y z u hu w
    have hS : ∀ w, Calls Try.prog 27 #[.int .i64 x, .int .i64 y, .int .i64 z, .int .i64 u] w fun e w' => e = .returned (.bool v) ∧ Below w.heap.size w w' := fun w => by simpa only [hv] using specGap x y z u w
    cases hpr : prmI u with
    | false =>
      have hP := fun w => specPrime_is hpr w
      obtain rfl : v = false := by rw [← hv]; exact gapV_bad (.inl hpr)
      clear hv hpr
      go_wp2_with (first | (go_at_call 26; (with_reducible refine (hI _).mono ?_); rintro e w' ⟨rfl, hB'⟩; replace hB1 := hB1.trans (hB'.mono hB1.size); clear hB') | (go_at_call 27; (with_reducible refine (hS _).mono ?_); rintro e w' ⟨rfl, hB'⟩; replace hB1 := hB1.trans (hB'.mono hB1.size); clear hB') | (go_at_call 23; (with_reducible refine (hP _).mono ?_); rintro e w' ⟨rfl, rfl⟩) | (go_at_call 14; (with_reducible refine (alive_in _).mono ?_); rintro e w' ⟨rfl, hB'⟩; replace hB1 := hB1.trans (hB'.mono hB1.size); clear hB'))
      go_ret
      exact ⟨rfl, hB1⟩
    | true =>
      have hP := fun w => specPrime_is hpr w
      obtain ⟨P, rfl, hp⟩ := prmI_t hpr
      have hPP := prm_two hp
      have hT : ∀ (a b : Nat), a ≤ 5 → b < a → ∀ w, Calls Try.prog 26 #[.int .i64 ((a : Int) * P), .int .i64 ((b : Int) * P + 1), .int .i64 ((P : Int) - 1), .int .i64 P] w fun e w' => e = .returned (.bool true) ∧ Below w.heap.size w w' := fun a b ha hb w => by
        have h3 := implGap (a * P : Nat) (b * P + 1 : Nat) (P - 1 : Nat) P hu w
        have h4 : a * P ≤ 5 * 13 := Nat.mul_le_mul ha hPP.2
        have h5 : b * P + P ≤ a * P := by rw [← Nat.succ_mul]; exact Nat.mul_le_mul_right P hb
        rw [gapV_nat (by omega) (by omega) (by omega) (by omega) hp, gapOk_block hp, show ((P - 1 : Nat) : Int) = (P : Int) - 1 by omega] at h3
        simpa using h3
      clear hv hpr hx hy hz
      cases v
      all_goals
        go_wp2_with (first | (go_at_call 26; (with_reducible refine (hI _).mono ?_); rintro e w' ⟨rfl, hB'⟩; replace hB1 := hB1.trans (hB'.mono hB1.size); clear hB') | (go_at_call 27; (with_reducible refine (hS _).mono ?_); rintro e w' ⟨rfl, hB'⟩; replace hB1 := hB1.trans (hB'.mono hB1.size); clear hB') | (go_at_call 23; (with_reducible refine (hP _).mono ?_); rintro e w' ⟨rfl, rfl⟩))
        clear hI hS hP
        go_loopw [8] (fun i wr => ∃ a : Nat, 1 ≤ a ∧ a ≤ 6 ∧ i = .int .i64 a ∧ Below w.heap.size w wr) (fun i _ => 6 - (intOf i).toNat)
        case atStart => exact ⟨1, by omega, by omega, rfl, hB1⟩
        case round =>
          clear hB1
          obtain ⟨a, ha1, ha, rfl, hB⟩ := hrel
          by_cases hlt : a < 6
          · have hai : (a : Int) ≤ 5 := by omega
            go_wp2
            go_loopw [9] (fun i wi => ∃ b : Nat, b ≤ a ∧ i = .int .i64 b ∧ Below w.heap.size w wi) (fun i _ => a - (intOf i).toNat)
            case atStart => exact ⟨0, by omega, rfl, hB⟩
            case round =>
              clear hB
              obtain ⟨b, hb, rfl, hB⟩ := hrel
              by_cases hlb : b < a
              · have hbi : (b : Int) < (a : Int) := by omega
                have hT1 := hT a b (by omega) (by omega)
                obtain ⟨A, hA⟩ : ∃ A, a * P = A := ⟨_, rfl⟩
                obtain ⟨B, hBB⟩ : ∃ B, b * P = B := ⟨_, rfl⟩
                have hAi : (a : Int) * (P : Int) = (A : Int) := by rw [← hA]; simp
                have hBi : (b : Int) * (P : Int) = (B : Int) := by rw [← hBB]; simp
                have hAl : A ≤ 6 * 13 := by rw [← hA]; exact Nat.mul_le_mul (by omega) hPP.2
                have hBl : B ≤ 6 * 13 := by rw [← hBB]; exact Nat.mul_le_mul (by omega) hPP.2
                rw [hAi, hBi] at hT1
                have hw1 : IntKind.i64.wrap (A : Int) = A := IntWalk.i64_in _ (by omega)
                have hw2 : IntKind.i64.wrap (B : Int) = B := IntWalk.i64_in _ (by omega)
                have hw3 : IntKind.i64.wrap ((P : Int) - 1) = (P : Int) - 1 := IntWalk.i64_in _ (by omega)
                clear hT hA hBB
                go_wp2_with (go_at_call 26; (with_reducible refine (hT1 _).mono ?_); rintro e w' ⟨rfl, hB'⟩; replace hB := hB.trans (hB'.mono hB.size); clear hB')
                go_roundw
                case rel => exact ⟨b + 1, by omega, by go_num, hB⟩
                case measure => simp [intOf]; omega
              · obtain rfl : b = a := by omega
                go_wp2
                go_roundw
                case rel => exact ⟨b + 1, by omega, by omega, by go_num, hB⟩
                case measure => simp [intOf]; omega
          · obtain rfl : a = 6 := by omega
            go_wp2
            go_ret
            exact ⟨rfl, hB⟩
end Go.Proofs.Ytjghhmgnbcabdaa
