/-
  The walks of the laws FnTimesInAll and FnTimesInCell: each answers true at every code, and nothing that was there is written.
-/
import Derived.Test.YtmbmcignmofpoaaSpec3b
import Derived.Test.YtmbmcignmofpoaaImpl3
import Derived.Test.YtmbmcignmofpoaaImpl2c
import Derived.Test.YtmbmcignmofpoaaDraw3
import Derived.Test.YtmbmcignmofpoaaAlive
namespace Go.Proofs.Ytmbmcignmofpoaa
open Go.RowKit

set_option maxHeartbeats 1000000 in
theorem lawAll (a0 : Option Addr) (len0 cap0 : Nat) (z0 : List Int) (w : World) (w0 : IsRow .u8 w a0 len0 cap0 z0) :
    Calls Try.prog 5 #[.slice a0 len0 cap0] w fun e w' => e = .returned (.bool true) ∧ Below w.heap.size w w' := by
  by_cases hbig : 1048576 < len0
  · go_enter Try.func5, Try.ntmps5
    go_wp2
    go_ret
    exact ⟨rfl, Below.refl _ _⟩
  · go_enter Try.func5, Try.ntmps5
    go_wp2_with fail
    go_at_call 20
    refine (drawAll w a0 len0 cap0 z0 w0).mono ?_
    rintro e w1 ⟨⟨x, y, hx, hy, rfl⟩, hB1⟩
    by_cases hbad : x < 0 ∨ 999999999 < x ∨ prmI y = false
    · have hI : ∀ w, Calls Try.prog 21 #[.int .i64 x, .int .i64 y] w fun e w' => e = .returned (.int .i64 (-1)) ∧ Below w.heap.size w w' := fun w => by simpa [allV_bad hbad] using implAll x y hy w
      have hS : ∀ w, Calls Try.prog 22 #[.int .i64 x, .int .i64 y] w fun e w' => e = .returned (.int .i64 (-1)) ∧ w = w' := fun w => by simpa [allV_bad hbad] using specAll x y w
      clear hbad
      go_wp2_with (first | (go_at_call 21; (with_reducible refine (hI _).mono ?_); rintro e w' ⟨rfl, hB'⟩; replace hB1 := hB1.trans (hB'.mono hB1.size); clear hB') | (go_at_call 22; (with_reducible refine (hS _).mono ?_); rintro e w' ⟨rfl, rfl⟩) | (go_at_call 19; refine (alive_in _).mono ?_; rintro e w' ⟨rfl, hB'⟩; replace hB1 := hB1.trans (hB'.mono hB1.size); clear hB'))
      go_ret
      exact ⟨rfl, hB1⟩
    · obtain ⟨B, rfl, hB⟩ := prmI_t (p := y) (by cases h : prmI y; exact absurd (.inr (.inr h)) hbad; rfl)
      obtain ⟨N, rfl⟩ : ∃ r : Nat, x = r := ⟨x.toNat, by omega⟩
      have hN : N ≤ 999999999 := by omega
      have hBB := prm_two hB
      clear hbad hx
      obtain ⟨m, hm⟩ : ∃ m, tup B N = m := ⟨_, rfl⟩
      obtain ⟨s, hs⟩ : ∃ s, sumL (digs B N) = s := ⟨_, rfl⟩
      have hI : ∀ w, Calls Try.prog 21 #[.int .i64 N, .int .i64 B] w fun e w' => e = .returned (.int .i64 m) ∧ Below w.heap.size w w' := fun w => by simpa [allV_nat hN hB, hm] using implAll N B hy w
      have hS : ∀ w, Calls Try.prog 22 #[.int .i64 N, .int .i64 B] w fun e w' => e = .returned (.int .i64 m) ∧ w = w' := fun w => by simpa [allV_nat hN hB, hm] using specAll N B w
      have hD : ∀ w, Calls Try.prog 23 #[.int .i64 N, .int .i64 B] w fun e w' => e = .returned (.int .i64 s) ∧ Below w.heap.size w w' := fun w => by simpa [sumV_nat hN hBB.1 (by omega), hs] using implSum N B w
      have hleg := legendre hBB.1 N
      rw [hm, hs] at hleg
      have hmN := tup_le hBB.1 N
      rw [hm] at hmN
      obtain ⟨C, hC⟩ : ∃ C, B - 1 = C := ⟨_, rfl⟩
      rw [hC] at hleg
      have hCi : (B : Int) - 1 = (C : Int) := by omega
      obtain ⟨P, hP⟩ : ∃ P, C * m = P := ⟨_, rfl⟩
      rw [hP] at hleg
      have hPi : (m : Int) * (C : Int) = (P : Int) := by rw [← hP, Int.mul_comm]; simp
      have hPs : (N : Int) - (s : Int) = (P : Int) := by omega
      have hw1 : IntKind.i64.wrap (C : Int) = C := IntWalk.i64_in _ (by omega)
      have hw2 : IntKind.i64.wrap (P : Int) = P := IntWalk.i64_in _ (by omega)
      have hm0 : ¬ (m : Int) < 0 := by omega
      have hm' := hide hm
      clear hm hs hP hC hleg
      by_cases hlast : N = 999999999
      · have hl1 : ((N : Int) == 999999999) = true := by simp; omega
        have hl2 : ((N : Int) = 999999999) = True := by simp; omega
        clear hlast
        go_wp2_with (first | (go_at_call 21; (with_reducible refine (hI _).mono ?_); rintro e w' ⟨rfl, hB'⟩; replace hB1 := hB1.trans (hB'.mono hB1.size); clear hB') | (go_at_call 22; (with_reducible refine (hS _).mono ?_); rintro e w' ⟨rfl, rfl⟩) | (go_at_call 23; (with_reducible refine (hD _).mono ?_); rintro e w' ⟨rfl, hB'⟩; replace hB1 := hB1.trans (hB'.mono hB1.size); clear hB') | (go_at_call 19; refine (alive_in _).mono ?_; rintro e w' ⟨rfl, hB'⟩; replace hB1 := hB1.trans (hB'.mono hB1.size); clear hB'))
        go_ret
        exact ⟨rfl, hB1⟩
      · have hl1 : ((N : Int) == 999999999) = false := by simp; omega
        obtain ⟨v, hv⟩ : ∃ v, val B (N + 1) = v := ⟨_, rfl⟩
        have hvN := val_lt hBB.1 (show 0 < N + 1 by omega)
        have e1 : ∀ w, Calls Try.prog 21 #[.int .i64 ((N : Int) + 1), .int .i64 B] w fun e w' => e = .returned (.int .i64 ((m : Int) + v)) ∧ Below w.heap.size w w' := fun w => by
          have h1 := implAll ((N + 1 : Nat) : Int) B hy w
          rw [allV_nat (show N + 1 ≤ 999999999 by omega) hB, tup_succ hBB.1, hm'.out, hv, show ((m + v : Nat) : Int) = (m : Int) + v by omega] at h1
          exact h1
        have e2 : ∀ w, Calls Try.prog 17 #[.int .i64 ((N : Int) + 1), .int .i64 B] w fun e w' => e = .returned (.int .i64 v) ∧ Below w.heap.size w w' := fun w => by
          have h1 := implTimes ((N + 1 : Nat) : Int) B hy w
          rw [timesV_nat (show 1 ≤ N + 1 by omega) (by omega) hB, hv] at h1
          exact h1
        rw [hv] at hvN
        clear hv hlast
        go_wp2_with (first | (go_at_call 21; (with_reducible refine (hI _).mono ?_); rintro e w' ⟨rfl, hB'⟩; replace hB1 := hB1.trans (hB'.mono hB1.size); clear hB') | (go_at_call 21; (with_reducible refine (e1 _).mono ?_); rintro e w' ⟨rfl, hB'⟩; replace hB1 := hB1.trans (hB'.mono hB1.size); clear hB') | (go_at_call 17; (with_reducible refine (e2 _).mono ?_); rintro e w' ⟨rfl, hB'⟩; replace hB1 := hB1.trans (hB'.mono hB1.size); clear hB') | (go_at_call 22; (with_reducible refine (hS _).mono ?_); rintro e w' ⟨rfl, rfl⟩) | (go_at_call 23; (with_reducible refine (hD _).mono ?_); rintro e w' ⟨rfl, hB'⟩; replace hB1 := hB1.trans (hB'.mono hB1.size); clear hB') | (go_at_call 19; refine (alive_in _).mono ?_; rintro e w' ⟨rfl, hB'⟩; replace hB1 := hB1.trans (hB'.mono hB1.size); clear hB'))
        go_ret
        exact ⟨rfl, hB1⟩

set_option maxHeartbeats 1000000 in
theorem lawCellT (a0 : Option Addr) (len0 cap0 : Nat) (z0 : List Int) (w : World) (w0 : IsRow .u8 w a0 len0 cap0 z0) :
    Calls Try.prog 6 #[.slice a0 len0 cap0] w fun e w' => e = .returned (.bool true) ∧ Below w.heap.size w w' := by
  by_cases hbig : 1048576 < len0
  · go_enter Try.func6, Try.ntmps6
    go_wp2
    go_ret
    exact ⟨rfl, Below.refl _ _⟩
  · go_enter Try.func6, Try.ntmps6
    go_wp2_with fail
    go_at_call 24
    refine (drawCellT w a0 len0 cap0 z0 w0).mono ?_
    rintro e w1 ⟨⟨x, y, z, hx, hy, hz, rfl⟩, hB1⟩
    by_cases hbad : x < 0 ∨ 499999999 < x ∨ y < 0 ∨ x < y ∨ prmI z = false
    · have hI : ∀ w, Calls Try.prog 25 #[.int .i64 x, .int .i64 y, .int .i64 z] w fun e w' => e = .returned (.int .i64 (-1)) ∧ Below w.heap.size w w' := fun w => by simpa [cellTV_bad hbad] using implCellT x y z hz w
      have hS : ∀ w, Calls Try.prog 26 #[.int .i64 x, .int .i64 y, .int .i64 z] w fun e w' => e = .returned (.int .i64 (-1)) ∧ w = w' := fun w => by simpa [cellTV_bad hbad] using specCellT x y z w
      clear hbad
      go_wp2_with (first | (go_at_call 25; (with_reducible refine (hI _).mono ?_); rintro e w' ⟨rfl, hB'⟩; replace hB1 := hB1.trans (hB'.mono hB1.size); clear hB') | (go_at_call 26; (with_reducible refine (hS _).mono ?_); rintro e w' ⟨rfl, rfl⟩) | (go_at_call 19; refine (alive_in _).mono ?_; rintro e w' ⟨rfl, hB'⟩; replace hB1 := hB1.trans (hB'.mono hB1.size); clear hB'))
      go_ret
      exact ⟨rfl, hB1⟩
    · obtain ⟨B, rfl, hB⟩ := prmI_t (p := z) (by cases h : prmI z; exact absurd (.inr (.inr (.inr (.inr h)))) hbad; rfl)
      obtain ⟨N, rfl⟩ : ∃ r : Nat, x = r := ⟨x.toNat, by omega⟩
      obtain ⟨K, rfl⟩ : ∃ r : Nat, y = r := ⟨y.toNat, by omega⟩
      have hN : N ≤ 499999999 := by omega
      have hK : K ≤ N := by omega
      have hBB := prm_two hB
      clear hbad hx hy
      obtain ⟨m, hm⟩ : ∃ m, cars B N K = m := ⟨_, rfl⟩
      obtain ⟨R, hR⟩ : ∃ R, N - K = R := ⟨_, rfl⟩
      have hRi : (N : Int) - (K : Int) = (R : Int) := by omega
      have hI : ∀ w, Calls Try.prog 25 #[.int .i64 N, .int .i64 K, .int .i64 B] w fun e w' => e = .returned (.int .i64 m) ∧ Below w.heap.size w w' := fun w => by simpa [cellTV_nat hN hK hB, hm] using implCellT N K B hz w
      have hS : ∀ w, Calls Try.prog 26 #[.int .i64 N, .int .i64 K, .int .i64 B] w fun e w' => e = .returned (.int .i64 m) ∧ w = w' := fun w => by simpa [cellTV_nat hN hK hB, hm] using specCellT N K B w
      have hC : ∀ w, Calls Try.prog 27 #[.int .i64 K, .int .i64 R, .int .i64 B] w fun e w' => e = .returned (.int .i64 m) ∧ Below w.heap.size w w' := fun w => by
        have h1 := implCarries K R B w
        rw [carriesV_nat (by omega) (by omega) hBB.1 (by omega), ← hR] at h1
        rw [← hm, ← hR]
        exact h1
      have hmN := cars_lt hBB.1 hK
      have hcz := cars_zero hBB.1 hK
      rw [hm] at hmN hcz
      have hm0 : ¬ (m : Int) < 0 := by omega
      have hw1 : IntKind.i64.wrap (R : Int) = R := IntWalk.i64_in _ (by omega)
      obtain ⟨v, hv⟩ : ∃ v, und B K N = v := ⟨_, rfl⟩
      have hU : ∀ w, Calls Try.prog 28 #[.int .i64 K, .int .i64 N, .int .i64 B] w fun e w' => e = .returned (.bool v) ∧ Below w.heap.size w w' := fun w => by
        simpa [underV_nat (show K ≤ 999999999 by omega) (show N ≤ 999999999 by omega) hBB.1 (by omega), hv] using implUnder K N B w
      have hvm : ((m : Int) == 0) = v := by
        rw [hv] at hcz
        cases v
        · simp at hcz ⊢; omega
        · simp at hcz ⊢; omega
      have hm' := hide hm
      clear hm hR hv hcz
      by_cases h60 : 60 < N
      · have h60i : (60 : Int) < (N : Int) := by omega
        cases v
        all_goals
          go_wp2_with (first | (go_at_call 25; (with_reducible refine (hI _).mono ?_); rintro e w' ⟨rfl, hB'⟩; replace hB1 := hB1.trans (hB'.mono hB1.size); clear hB') | (go_at_call 26; (with_reducible refine (hS _).mono ?_); rintro e w' ⟨rfl, rfl⟩) | (go_at_call 27; (with_reducible refine (hC _).mono ?_); rintro e w' ⟨rfl, hB'⟩; replace hB1 := hB1.trans (hB'.mono hB1.size); clear hB') | (go_at_call 28; (with_reducible refine (hU _).mono ?_); rintro e w' ⟨rfl, hB'⟩; replace hB1 := hB1.trans (hB'.mono hB1.size); clear hB') | (go_at_call 19; refine (alive_in _).mono ?_; rintro e w' ⟨rfl, hB'⟩; replace hB1 := hB1.trans (hB'.mono hB1.size); clear hB'))
          go_ret
          exact ⟨rfl, hB1⟩
      · have h60i : ¬ (60 : Int) < (N : Int) := by omega
        obtain ⟨b, hb⟩ : ∃ b, bin N K = b := ⟨_, rfl⟩
        have hbm := bin_max (n := N) K (by omega)
        have hbp := bin_pos N K hK
        have hbv := cars_bin hB hK
        rw [hb] at hbm hbp hbv
        have e1 : ∀ w, Calls Try.prog 29 #[.int .i64 N, .int .i64 K] w fun e w' => e = .returned (.int .i64 b) ∧ Below w.heap.size w w' := fun w => by simpa [cellV_nat (show N ≤ 60 by omega), hb] using implCell N K w
        have e2 : ∀ w, Calls Try.prog 17 #[.int .i64 b, .int .i64 B] w fun e w' => e = .returned (.int .i64 m) ∧ Below w.heap.size w w' := fun w => by
          have h1 := implTimes b B hz w
          rw [timesV_nat hbp (by omega) hB, hbv, hm'.out] at h1
          exact h1
        clear hb hbv
        cases v
        all_goals
          go_wp2_with (first | (go_at_call 25; (with_reducible refine (hI _).mono ?_); rintro e w' ⟨rfl, hB'⟩; replace hB1 := hB1.trans (hB'.mono hB1.size); clear hB') | (go_at_call 26; (with_reducible refine (hS _).mono ?_); rintro e w' ⟨rfl, rfl⟩) | (go_at_call 27; (with_reducible refine (hC _).mono ?_); rintro e w' ⟨rfl, hB'⟩; replace hB1 := hB1.trans (hB'.mono hB1.size); clear hB') | (go_at_call 28; (with_reducible refine (hU _).mono ?_); rintro e w' ⟨rfl, hB'⟩; replace hB1 := hB1.trans (hB'.mono hB1.size); clear hB') | (go_at_call 29; (with_reducible refine (e1 _).mono ?_); rintro e w' ⟨rfl, hB'⟩; replace hB1 := hB1.trans (hB'.mono hB1.size); clear hB') | (go_at_call 17; (with_reducible refine (e2 _).mono ?_); rintro e w' ⟨rfl, hB'⟩; replace hB1 := hB1.trans (hB'.mono hB1.size); clear hB') | (go_at_call 19; refine (alive_in _).mono ?_; rintro e w' ⟨rfl, hB'⟩; replace hB1 := hB1.trans (hB'.mono hB1.size); clear hB'))
          go_ret
          exact ⟨rfl, hB1⟩
end Go.Proofs.Ytmbmcignmofpoaa
