/-
  The walk of the law FnSumOfDigits: it answers true at every code, and nothing that was there is written.
-/
import Derived.Test.YtammmcffbfkgjaaExact2
import Derived.Test.YtammmcffbfkgjaaDraw2
import Derived.Test.YtammmcffbfkgjaaQuietBelow
namespace Go.Proofs.Ytammmcffbfkgjaa
open Go.RowKit Go.BigFrame

set_option maxRecDepth 100000 in
set_option maxHeartbeats 4000000 in
theorem lawSum (a0 : Option Addr) (len0 cap0 : Nat) (z0 : List Int) (w : World) (w0 : IsRow .u8 w a0 len0 cap0 z0) :
    Calls Try.prog 4 #[.slice a0 len0 cap0] w fun e w' => e = .returned (.bool true) ∧ Below w.heap.size w w' := by
  by_cases hbig : 1048576 < len0
  · go_enter Try.func4, Try.ntmps4
    go_wp2
    go_ret
    exact ⟨rfl, Below.refl _ _⟩
  · go_enter Try.func4, Try.ntmps4
    go_wp2_with fail
    go_at_call 18
    refine (drawSum w a0 len0 cap0 z0 w0).mono ?_
    rintro e w1 ⟨⟨x, y, hx, hy, rfl⟩, hB1⟩
    unfold Fits at hx hy
    by_cases hbad : bad1 x y
    · have hI : ∀ w, Calls Try.prog 19 #[.int .i64 x, .int .i64 y] w fun e w' => e = .returned (.int .i64 (-1)) ∧ Below w.heap.size w w' := fun w => by simpa [sumV_bad hbad] using implSum x y w
      have hS : ∀ w, Calls Try.prog 20 #[.int .i64 x, .int .i64 y] w fun e w' => e = .returned (.int .i64 (-1)) ∧ w = w' := fun w => by simpa [sumV_bad hbad] using specSum x y w
      clear hbad
      go_wp2_with (first | (go_at_call 19; (with_reducible refine (hI _).mono ?_); rintro e w' ⟨rfl, hB'⟩; replace hB1 := hB1.trans (hB'.mono hB1.size); clear hB') | (go_at_call 20; (with_reducible refine (hS _).mono ?_); rintro e w' ⟨rfl, rfl⟩) | (go_at_call 17; refine (alive_in _).mono ?_; rintro e w' ⟨rfl, hB'⟩; replace hB1 := hB1.trans (hB'.mono hB1.size); clear hB'))
      go_ret
      exact ⟨rfl, hB1⟩
    · unfold bad1 at hbad
      obtain ⟨N, rfl⟩ : ∃ r : Nat, x = r := ⟨x.toNat, by omega⟩
      obtain ⟨B, rfl⟩ : ∃ r : Nat, y = r := ⟨y.toNat, by omega⟩
      have hN : N ≤ 999999999 := by omega
      have hB : 2 ≤ B := by omega
      have hB2 : B ≤ 16 := by omega
      clear hbad hx hy
      obtain ⟨s, hs⟩ : ∃ m, sumL (digs B N) = m := ⟨_, rfl⟩
      have hI : ∀ w, Calls Try.prog 19 #[.int .i64 N, .int .i64 B] w fun e w' => e = .returned (.int .i64 s) ∧ Below w.heap.size w w' := fun w => by simpa [sumV_nat hN hB hB2, hs] using implSum N B w
      have hS : ∀ w, Calls Try.prog 20 #[.int .i64 N, .int .i64 B] w fun e w' => e = .returned (.int .i64 s) ∧ w = w' := fun w => by simpa [sumV_nat hN hB hB2, hs] using specSum N B w
      obtain ⟨P, hP⟩ : ∃ P, N * B = P := ⟨_, rfl⟩
      have hPi : (N : Int) * (B : Int) = (P : Int) := by rw [← hP]; simp
      have hPb : P ≤ 999999999 * 16 := by rw [← hP]; exact Nat.mul_le_mul hN hB2
      have hJ : P ≤ 999999999 → ∀ w, Calls Try.prog 19 #[.int .i64 P, .int .i64 B] w fun e w' => e = .returned (.int .i64 s) ∧ Below w.heap.size w w' := fun h w => by have h1 := implSum P B w; rw [sumV_nat h hB hB2, ← hP, sum_times hB, hs, hP] at h1; exact h1
      have hsN : s ≤ N := by rw [← hs]; exact sum_le hB N
      obtain ⟨r, hr, hrB⟩ : ∃ r, s % (B - 1) = r ∧ r < B := ⟨_, rfl, Nat.lt_of_lt_of_le (Nat.mod_lt _ (by omega)) (by omega)⟩
      have hr2 : N % (B - 1) = r := by rw [← hr, ← hs]; exact (sum_mod_eq hB N).symm
      obtain ⟨C, rfl⟩ : ∃ C, B = C + 1 := ⟨B - 1, by omega⟩
      rw [Nat.add_sub_cancel] at hr hr2
      have hC : ((C + 1 : Nat) : Int) - 1 = (C : Int) := by omega
      have hC0 : ((C : Int) == 0) = false := by simp; omega
      have hCn : (C = 0) = False := by simp; omega
      have hC1 : ((((C + 1 : Nat) : Int) - 1) == 0) = false := by simp; omega
      have ht1 : Int.tmod (s : Int) (C : Int) = (r : Int) := by rw [← hr]; exact tmod_nat' s C
      have ht2 : Int.tmod (N : Int) (C : Int) = (r : Int) := by rw [← hr2]; exact tmod_nat' N C
      have hs0 : ¬ (s : Int) < 0 := by omega
      have hsNi : (s : Int) ≤ N := by omega
      have hw1 : IntKind.i64.wrap (r : Int) = r := IntWalk.i64_in _ (by omega)
      have hw2 : IntKind.i64.wrap (P : Int) = P := IntWalk.i64_in _ (by omega)
      have hw3 : IntKind.i64.wrap (C : Int) = C := IntWalk.i64_in _ (by omega)
      clear hs hP hr hr2
      obtain ⟨B, hBC⟩ : ∃ B : Nat, C + 1 = B := ⟨_, rfl⟩
      simp only [hBC] at *
      clear hBC
      by_cases hbigP : 999999999 < P
      · have hPd : decide ((999999999 : Int) < P) = true := by simp; omega
        clear hJ
        go_upto_region 9 with (first | (go_at_call 19; (with_reducible refine (hI _).mono ?_); rintro e w' ⟨rfl, hB'⟩; replace hB1 := hB1.trans (hB'.mono hB1.size); clear hB') | (go_at_call 20; (with_reducible refine (hS _).mono ?_); rintro e w' ⟨rfl, rfl⟩))
        clear hI hS
        refine wp_region_below w (by kernel_rfl) (by kernel_rfl) hB1 ?_
        repeat (go_big_quiet_step (first | (go_at_call 17; exact after_of (alive_in _))))
        refine wpQuiet_nil ?_
        rintro _ ⟨nq, rfl⟩
        go_wp2
        go_ret
        exact ⟨rfl, nq.ok⟩
      · have hPd : decide ((999999999 : Int) < P) = false := by simp; omega
        replace hJ := hJ (by omega)
        go_upto_region 9 with (first | (go_at_call 19; (with_reducible refine (hI _).mono ?_); rintro e w' ⟨rfl, hB'⟩; replace hB1 := hB1.trans (hB'.mono hB1.size); clear hB') | (go_at_call 20; (with_reducible refine (hS _).mono ?_); rintro e w' ⟨rfl, rfl⟩))
        clear hI hS
        refine wp_region_below w (by kernel_rfl) (by kernel_rfl) hB1 ?_
        repeat (go_big_quiet_step (first | (go_at_call 17; exact after_of (alive_in _)) | (go_at_call 19; exact after_of (hJ _))))
        refine wpQuiet_nil ?_
        rintro _ ⟨nq, rfl⟩
        go_wp2
        go_ret
        exact ⟨rfl, nq.ok⟩
end Go.Proofs.Ytammmcffbfkgjaa
