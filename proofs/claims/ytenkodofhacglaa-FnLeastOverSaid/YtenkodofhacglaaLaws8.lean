/-
  The walks of the laws of chapter 8: each answers true at every code, and nothing that was there is written.
-/
import Derived.Test.YtenkodofhacglaaSpec8
import Derived.Test.YtenkodofhacglaaSpec8b
import Derived.Test.YtenkodofhacglaaSpec8c
import Derived.Test.YtenkodofhacglaaImpl8
import Derived.Test.YtenkodofhacglaaDraw8
import Derived.Test.YtenkodofhacglaaLawKit
namespace Go.Proofs.Ytenkodofhacglaa
open Go.RowKit

set_option maxHeartbeats 2000000 in
theorem lawShared (a0 : Option Addr) (len0 cap0 : Nat) (z0 : List Int) (w : World) (w0 : IsRow .u8 w a0 len0 cap0 z0) :
    Calls Try.prog 3 #[.slice a0 len0 cap0] w fun e w' => e = .returned (.bool true) ∧ Below w.heap.size w w' := by
  by_cases hbig : 1048576 < len0
  · go_enter Try.func3, Try.ntmps3
    go_wp2
    go_ret
    exact ⟨rfl, Below.refl _ _⟩
  · go_enter Try.func3, Try.ntmps3
    go_wp2_with fail
    go_at_call 13
    refine (drawShared w a0 len0 cap0 z0 w0).mono ?_
    rintro e w1 ⟨⟨x, hx, rfl⟩, hB1⟩
    by_cases hbad : x < 2 ∨ 60 < x
    · have hI : ∀ w, Calls Try.prog 14 #[.int .i64 x] w fun e w' => e = .returned (.int .i64 (-1)) ∧ Below w.heap.size w w' := fun w => by simpa [sharedV_bad hbad] using implShared x w
      have hS : ∀ w, Calls Try.prog 15 #[.int .i64 x] w fun e w' => e = .returned (.int .i64 (-1)) ∧ Below w.heap.size w w' := fun w => by simpa [sharedV_bad hbad] using specShared x w
      clear hbad
      go_wp2_with (first | (go_at_call 14; (with_reducible refine (hI _).mono ?_); rintro e w' ⟨rfl, hB'⟩; replace hB1 := hB1.trans (hB'.mono hB1.size); clear hB') | (go_at_call 15; (with_reducible refine (hS _).mono ?_); rintro e w' ⟨rfl, hB'⟩; replace hB1 := hB1.trans (hB'.mono hB1.size); clear hB') | (go_at_call 16; (with_reducible refine (alive_in _).mono ?_); rintro e w' ⟨rfl, hB'⟩; replace hB1 := hB1.trans (hB'.mono hB1.size); clear hB'))
      go_ret
      exact ⟨rfl, hB1⟩
    · obtain ⟨N, rfl⟩ : ∃ N : Nat, x = N := ⟨x.toNat, by omega⟩
      have hN2 : 2 ≤ N := by omega
      have hN : N ≤ 60 := by omega
      obtain ⟨d, hd2, hdN, hdl, hcase⟩ := shared_is hN2 hN
      have hsl := shared_le hN2 hN
      have hdle : d ≤ N := Nat.le_of_dvd (by omega) (Nat.dvd_of_mod_eq_zero hdN)
      obtain ⟨m, hm⟩ : ∃ m, shared N = m := ⟨_, rfl⟩
      have hI : ∀ w, Calls Try.prog 14 #[.int .i64 N] w fun e w' => e = .returned (.int .i64 m) ∧ Below w.heap.size w w' := fun w => by simpa only [sharedV_nat hN2 hN, hm] using implShared N w
      have hS : ∀ w, Calls Try.prog 15 #[.int .i64 N] w fun e w' => e = .returned (.int .i64 m) ∧ Below w.heap.size w w' := fun w => by simpa only [sharedV_nat hN2 hN, hm] using specShared N w
      rw [hm] at hcase hsl
      have hm0 : ¬ (m : Int) < 0 := by omega
      clear hbad hx hm
      go_wp2_with (first | (go_at_call 14; (with_reducible refine (hI _).mono ?_); rintro e w' ⟨rfl, hB'⟩; replace hB1 := hB1.trans (hB'.mono hB1.size); clear hB') | (go_at_call 15; (with_reducible refine (hS _).mono ?_); rintro e w' ⟨rfl, hB'⟩; replace hB1 := hB1.trans (hB'.mono hB1.size); clear hB'))
      clear hI hS
      go_loop [5] (fun t => ∃ k : Nat, 2 ≤ k ∧ k ≤ d ∧ t = .int .i64 k) (fun t => d - (intOf t).toNat)
      case atStart => exact ⟨2, Nat.le_refl _, hd2, rfl⟩
      case round =>
        obtain ⟨k, hk2, hkd, rfl⟩ := hrel
        have hq := tmod_n N k
        have hk0 : ((k : Int) == 0) = false := by simp; omega
        by_cases hlt : k < d
        · have hnz := hdl k hk2 hlt
          have hr := Nat.mod_lt N (show 0 < k by omega)
          generalize N % k = r at *
          have hw1 : IntKind.i64.wrap (r : Int) = r := IntWalk.i64_in _ (by omega)
          have hr0 : ((r : Int) == 0) = false := by simp; omega
          have hr1 : ¬ (r : Int) = 0 := by omega
          clear hcase hdl
          go_wp2
          go_round
          case rel => exact ⟨k + 1, by omega, by omega, by go_num⟩
          case measure => simp [intOf]; omega
        · obtain rfl : k = d := by omega
          rw [hdN] at hq
          have hT := hide (show strip k N = strip k N from rfl)
          clear hdl hlt hkd
          go_wp2
          go_loop [6] (fun t => ∃ l : Nat, 0 < l ∧ l ≤ N ∧ t = .int .i64 l ∧ Hid (strip k l = strip k N)) (fun t => (intOf t).toNat)
          case atStart => exact ⟨N, by omega, Nat.le_refl _, rfl, hide rfl⟩
          case round =>
            clear hq hT hdN
            obtain ⟨l, hl0, hlN, rfl, hs⟩ := hrel
            have hq1 := tmod_n l k
            have hq2 := tdiv_n l k
            by_cases hz : l % k = 0
            · rw [hz] at hq1
              have hs' : Hid (strip k (l / k) = strip k N) := hide (by rw [← strip_yes hk2 hl0 hz]; exact hs.out)
              have hp := div_pos_of_mod hl0 hz
              have hdl := Nat.div_lt_self hl0 hk2
              clear hs hz hcase
              generalize l / k = q at *
              have hw1 : IntKind.i64.wrap (q : Int) = q := IntWalk.i64_in _ (by omega)
              go_wp2
              go_round
              case rel => exact ⟨q, hp, by omega, rfl, hs'⟩
              case measure => simp [intOf]; omega
            · have hr := Nat.mod_lt l (show 0 < k by omega)
              have hst : strip k N = l := by rw [← hs.out, strip_no hz]
              rw [hst] at hcase
              generalize l % k = r at *
              have hw1 : IntKind.i64.wrap (r : Int) = r := IntWalk.i64_in _ (by omega)
              have hr0 : ((r : Int) == 0) = false := by simp; omega
              have hr1 : ¬ (r : Int) = 0 := by omega
              clear hs hst hz
              rcases hcase with ⟨h1, rfl⟩ | ⟨h1, rfl⟩
              · subst h1
                have h5 : (1 : Int) % (m : Int) = 1 := Int.emod_eq_of_lt (by omega) (by omega)
                have h6 : Int.tmod (1 : Int) (m : Int) = 1 := by rw [Int.tmod_eq_emod_of_nonneg (by omega)]; exact h5
                clear hr0 hr1 hq1 hw1
                go_wp2
                go_ret
                exact ⟨rfl, hB1⟩
              · have h2 : ((l : Int) == 1) = false := by simp; omega
                have h3 : (1 : Int) < (l : Int) := by omega
                go_wp2
                go_ret
                exact ⟨rfl, hB1⟩

set_option maxHeartbeats 2000000 in
theorem lawOver (a0 : Option Addr) (len0 cap0 : Nat) (z0 : List Int) (w : World) (w0 : IsRow .u8 w a0 len0 cap0 z0) :
    Calls Try.prog 4 #[.slice a0 len0 cap0] w fun e w' => e = .returned (.bool true) ∧ Below w.heap.size w w' := by
  by_cases hbig : 1048576 < len0
  · go_enter Try.func4, Try.ntmps4
    go_wp2
    go_ret
    exact ⟨rfl, Below.refl _ _⟩
  · go_enter Try.func4, Try.ntmps4
    go_wp2_with fail
    go_at_call 17
    refine (drawOver w a0 len0 cap0 z0 w0).mono ?_
    rintro e w1 ⟨⟨x, hx, rfl⟩, hB1⟩
    by_cases hbad : x < 0 ∨ 36 < x
    · have hI : ∀ w, Calls Try.prog 18 #[.int .i64 x] w fun e w' => e = .returned (.int .i64 (-1)) ∧ Below w.heap.size w w' := fun w => by simpa [overV_bad hbad] using implOver x w
      have hS : ∀ w, Calls Try.prog 19 #[.int .i64 x] w fun e w' => e = .returned (.int .i64 (-1)) ∧ Below w.heap.size w w' := fun w => by simpa [overV_bad hbad] using specOver x w
      clear hbad
      go_wp2_with (first | (go_at_call 18; (with_reducible refine (hI _).mono ?_); rintro e w' ⟨rfl, hB'⟩; replace hB1 := hB1.trans (hB'.mono hB1.size); clear hB') | (go_at_call 19; (with_reducible refine (hS _).mono ?_); rintro e w' ⟨rfl, hB'⟩; replace hB1 := hB1.trans (hB'.mono hB1.size); clear hB') | (go_at_call 16; (with_reducible refine (alive_in _).mono ?_); rintro e w' ⟨rfl, hB'⟩; replace hB1 := hB1.trans (hB'.mono hB1.size); clear hB'))
      go_ret
      exact ⟨rfl, hB1⟩
    · obtain ⟨N, rfl⟩ : ∃ N : Nat, x = N := ⟨x.toNat, by omega⟩
      have hN : N ≤ 36 := by omega
      have hov := over_times hN
      have hol := over_le hN
      have hal := ofAll_le (n := N + 1) (by omega)
      obtain ⟨m, hm⟩ : ∃ m, over N = m := ⟨_, rfl⟩
      have hI : ∀ w, Calls Try.prog 18 #[.int .i64 N] w fun e w' => e = .returned (.int .i64 m) ∧ Below w.heap.size w w' := fun w => by simpa only [overV_nat hN, hm] using implOver N w
      have hS : ∀ w, Calls Try.prog 19 #[.int .i64 N] w fun e w' => e = .returned (.int .i64 m) ∧ Below w.heap.size w w' := fun w => by simpa only [overV_nat hN, hm] using specOver N w
      have hA : ∀ w, Calls Try.prog 21 #[.int .i64 ((N : Int) + 1)] w fun e w' => e = .returned (.int .i64 (ofAll (N + 1) : Nat)) ∧ Below w.heap.size w w' := fun w => by have h3 := implOfAll (N + 1 : Nat) w; rw [ofAllV_nat (by omega) (by omega)] at h3; exact h3
      have hmod : ∀ k, k ≤ N → m % bin N k = 0 := fun k hk => by rw [← hm]; exact over_mod hN hk
      rw [hm] at hov hol
      have hovi : (m : Int) * ((N : Int) + 1) = (ofAll (N + 1) : Nat) := by rw [← hov]; simp
      generalize ofAll (N + 1) = A at *
      have hwA : IntKind.i64.wrap (A : Int) = A := IntWalk.i64_in _ (by omega)
      have hm0 : ¬ (m : Int) < 0 := by omega
      have hR : ∀ w, Calls Try.prog 20 #[.int .i64 N] w fun e w' => ∃ g cap, e = .returned (.slice (some ⟨g, 0, none⟩) (N + 1) cap) ∧ (∀ k, k < N + 1 → w'.cell? ⟨g, k, none⟩ = some (.int .i64 (bin N k : Nat))) ∧ Below w.heap.size w w' := fun w => (specRow_in N (by omega) w).mono fun e w' ⟨v, he, hown, hB⟩ => by
        rw [rowN_len] at hown
        obtain ⟨g, cap, rfl, _, _, _, hc⟩ := owns_open hown (by omega)
        exact ⟨g, cap, he, fun k hk => hc k _ (by rw [List.getElem?_map]; unfold rowN; rw [List.getElem?_map, List.getElem?_range (by omega)]; rfl), hB⟩
      clear hbad hx hm hov
      go_wp2_with (first | (go_at_call 18; (with_reducible refine (hI _).mono ?_); rintro e w' ⟨rfl, hB'⟩; replace hB1 := hB1.trans (hB'.mono hB1.size); clear hB') | (go_at_call 19; (with_reducible refine (hS _).mono ?_); rintro e w' ⟨rfl, hB'⟩; replace hB1 := hB1.trans (hB'.mono hB1.size); clear hB') | (go_at_call 20; (with_reducible refine (hR _).mono ?_); rintro e w' ⟨g, cap, rfl, hc, hB'⟩; replace hB1 := hB1.trans (hB'.mono hB1.size); clear hB'))
      clear hI hS hR
      go_loop [6] (fun t => ∃ k : Nat, k ≤ N + 1 ∧ t = .int .i64 k) (fun t => N + 1 - (intOf t).toNat)
      case atStart => exact ⟨0, by omega, rfl⟩
      case round =>
        obtain ⟨k, hk, rfl⟩ := hrel
        by_cases hlt : k < N + 1
        · have hck := hc k hlt
          have hmk := hmod k (by omega)
          have hq := tmod_n m (bin N k)
          have hb0 : 0 < bin N k := bin_pos _ _ (by omega)
          have hbl := bin_60 (show N ≤ 60 by omega) k
          rw [hmk] at hq
          clear hc hmod hmk
          generalize bin N k = c at *
          have hc0 : ((c : Int) == 0) = false := by simp; omega
          have hki : (k : Int) < (N : Int) + 1 := by omega
          go_wp2
          go_round
          case rel => exact ⟨k + 1, by omega, by go_num⟩
          case measure => simp [intOf]; omega
        · obtain rfl : k = N + 1 := by omega
          clear hc hmod
          go_wp2_with (go_at_call 21; (with_reducible refine (hA _).mono ?_); rintro e w' ⟨rfl, hB'⟩; replace hB1 := hB1.trans (hB'.mono hB1.size); clear hB')
          go_ret
          exact ⟨rfl, hB1⟩

set_option maxHeartbeats 2000000 in
theorem lawOfAll (a0 : Option Addr) (len0 cap0 : Nat) (z0 : List Int) (w : World) (w0 : IsRow .u8 w a0 len0 cap0 z0) :
    Calls Try.prog 5 #[.slice a0 len0 cap0] w fun e w' => e = .returned (.bool true) ∧ Below w.heap.size w w' := by
  by_cases hbig : 1048576 < len0
  · go_enter Try.func5, Try.ntmps5
    go_wp2
    go_ret
    exact ⟨rfl, Below.refl _ _⟩
  · go_enter Try.func5, Try.ntmps5
    go_wp2_with fail
    go_at_call 22
    refine (drawOfAll w a0 len0 cap0 z0 w0).mono ?_
    rintro e w1 ⟨⟨x, hx, rfl⟩, hB1⟩
    by_cases hbad : x < 1 ∨ 37 < x
    · have hI : ∀ w, Calls Try.prog 21 #[.int .i64 x] w fun e w' => e = .returned (.int .i64 (-1)) ∧ Below w.heap.size w w' := fun w => by simpa [ofAllV_bad hbad] using implOfAll x w
      have hS : ∀ w, Calls Try.prog 23 #[.int .i64 x] w fun e w' => e = .returned (.int .i64 (-1)) ∧ w = w' := fun w => by simpa [ofAllV_bad hbad] using specOfAll x w
      clear hbad
      go_wp2_with (first | (go_at_call 21; (with_reducible refine (hI _).mono ?_); rintro e w' ⟨rfl, hB'⟩; replace hB1 := hB1.trans (hB'.mono hB1.size); clear hB') | (go_at_call 23; (with_reducible refine (hS _).mono ?_); rintro e w' ⟨rfl, rfl⟩) | (go_at_call 16; (with_reducible refine (alive_in _).mono ?_); rintro e w' ⟨rfl, hB'⟩; replace hB1 := hB1.trans (hB'.mono hB1.size); clear hB'))
      go_ret
      exact ⟨rfl, hB1⟩
    · obtain ⟨N, rfl⟩ : ∃ N : Nat, x = N := ⟨x.toNat, by omega⟩
      have hN1 : 1 ≤ N := by omega
      have hN : N ≤ 37 := by omega
      have hal := ofAll_le (n := N) hN
      obtain ⟨m, hm⟩ : ∃ m, ofAll N = m := ⟨_, rfl⟩
      have hI : ∀ w, Calls Try.prog 21 #[.int .i64 N] w fun e w' => e = .returned (.int .i64 m) ∧ Below w.heap.size w w' := fun w => by simpa only [ofAllV_nat hN1 hN, hm] using implOfAll N w
      have hS : ∀ w, Calls Try.prog 23 #[.int .i64 N] w fun e w' => e = .returned (.int .i64 m) ∧ w = w' := fun w => by simpa only [ofAllV_nat hN1 hN, hm] using specOfAll N w
      have hmod : ∀ k, 1 ≤ k → k ≤ N → m % k = 0 := fun k h1 hk => by rw [← hm]; exact ofAll_mod hN h1 hk
      have hone : N = 1 → m = 1 := fun h => by rw [← hm, h]; rfl
      have hJ : 2 ≤ N → ∀ w, Calls Try.prog 21 #[.int .i64 ((N : Int) - 1)] w fun e w' => e = .returned (.int .i64 (ofAll (N - 1) : Nat)) ∧ Below w.heap.size w w' := fun h2 w => by
        have h3 := implOfAll (N - 1 : Nat) w
        rw [ofAllV_nat (by omega) (by omega), show ((N - 1 : Nat) : Int) = (N : Int) - 1 by omega] at h3
        exact h3
      have hK : 2 ≤ N → ∀ w, Calls Try.prog 14 #[.int .i64 N] w fun e w' => e = .returned (.int .i64 (shared N : Nat)) ∧ Below w.heap.size w w' := fun h2 w => by
        have h3 := implShared N w
        rw [sharedV_nat h2 (by omega)] at h3
        exact h3
      have hnext : 2 ≤ N → ((ofAll (N - 1) : Nat) : Int) * (shared N : Nat) = (m : Int) := fun h2 => by rw [← hm, ofAll_next h2 hN]; simp
      rw [hm] at hal
      have hm0 : ¬ (m : Int) < 0 := by omega
      have hwm : IntKind.i64.wrap (m : Int) = m := IntWalk.i64_in _ (by omega)
      clear hbad hx hm
      go_wp2_with (first | (go_at_call 21; (with_reducible refine (hI _).mono ?_); rintro e w' ⟨rfl, hB'⟩; replace hB1 := hB1.trans (hB'.mono hB1.size); clear hB') | (go_at_call 23; (with_reducible refine (hS _).mono ?_); rintro e w' ⟨rfl, rfl⟩))
      clear hI hS
      go_loop [5] (fun t => ∃ k : Nat, 1 ≤ k ∧ k ≤ N + 1 ∧ t = .int .i64 k) (fun t => N + 1 - (intOf t).toNat)
      case atStart => exact ⟨1, by omega, by omega, rfl⟩
      case round =>
        obtain ⟨k, hk1, hk, rfl⟩ := hrel
        by_cases hlt : k < N + 1
        · have hmk := hmod k hk1 (by omega)
          have hq := tmod_n m k
          rw [hmk] at hq
          have hc0 : ((k : Int) == 0) = false := by simp; omega
          have hki : (k : Int) ≤ (N : Int) := by omega
          clear hmod hmk hJ hK hnext hone
          go_wp2
          go_round
          case rel => exact ⟨k + 1, by omega, by omega, by go_num⟩
          case measure => simp [intOf]; omega
        · obtain rfl : k = N + 1 := by omega
          have hki : ¬ (N : Int) + 1 ≤ (N : Int) := by omega
          clear hmod hlt
          by_cases h1 : N = 1
          · obtain rfl := hone h1
            subst h1
            clear hJ hK hnext hone
            go_wp2
            go_ret
            exact ⟨rfl, hB1⟩
          · have h2 : 2 ≤ N := by omega
            have hJ2 := hJ h2
            have hK2 := hK h2
            have hn2 := hnext h2
            have hN1i : ((N : Int) == 1) = false := by simp; omega
            have hN1j : (1 : Int) < (N : Int) := by omega
            clear hJ hK hnext hone
            generalize ofAll (N - 1) = u at *
            generalize shared N = v at *
            go_wp2_with (first | (go_at_call 21; (with_reducible refine (hJ2 _).mono ?_); rintro e w' ⟨rfl, hB'⟩; replace hB1 := hB1.trans (hB'.mono hB1.size); clear hB') | (go_at_call 14; (with_reducible refine (hK2 _).mono ?_); rintro e w' ⟨rfl, hB'⟩; replace hB1 := hB1.trans (hB'.mono hB1.size); clear hB'))
            go_ret
            exact ⟨rfl, hB1⟩
end Go.Proofs.Ytenkodofhacglaa
