/-
  The model's CountUnder, UnderOk, CarriesOf and DigitsOf: for every argument what they hand back.
-/
import Derived.Test.YtlkcdcmmcjkedaaSpec2
namespace Go.Proofs.Ytlkcdcmmcjkedaa
open Go.RowKit

set_option maxHeartbeats 400000 in
theorem specUnder (x y b : Int) (w : World) : Calls Try.prog 74 #[.int .i64 x, .int .i64 y, .int .i64 b] w fun e w' => e = .returned (.bool (underV x y b)) ∧ Below w.heap.size w w' := by
  by_cases hbad : bad3 x y b
  · rw [underV_bad hbad]
    unfold bad3 at hbad
    by_cases h1 : x < 0 ∨ 999999999 < x
    case' neg => by_cases h2 : y < 0 ∨ 999999999 < y
    all_goals
      go_enter Try.func74, Try.ntmps74
      go_wp2_with (first | (go_at_call 61; refine (l1In_t _ _ _ _ (by omega) (by omega)).mono ?_; rintro e w' ⟨rfl, rfl⟩) | (go_at_call 61; refine (l1In_f _ _ _ _ (by omega)).mono ?_; rintro e w' ⟨rfl, rfl⟩))
      go_ret
      exact ⟨rfl, Below.refl _ _⟩
  · unfold bad3 at hbad
    obtain ⟨X, rfl⟩ : ∃ N : Nat, x = N := ⟨x.toNat, by omega⟩
    obtain ⟨Y, rfl⟩ : ∃ N : Nat, y = N := ⟨y.toNat, by omega⟩
    obtain ⟨B, rfl⟩ : ∃ B : Nat, b = B := ⟨b.toNat, by omega⟩
    have hX : X ≤ 999999999 := by omega
    have hY : Y ≤ 999999999 := by omega
    have hB : 2 ≤ B := by omega
    have hB2 : B ≤ 16 := by omega
    rw [underV_nat hX hY hB hB2]
    clear hbad
    obtain ⟨S, hS⟩ : ∃ S, und B X Y = S := ⟨_, rfl⟩
    rw [hS]
    have hS' := hide hS
    clear hS
    go_enter Try.func74, Try.ntmps74
    go_wp2_with (go_at_call 61; refine (l1In_t _ _ _ _ (by omega) (by omega)).mono ?_; rintro e w' ⟨rfl, rfl⟩)
    go_loopw [0, 1] (fun p q wr => ∃ m k : Nat, p = .int .i64 m ∧ q = .int .i64 k ∧ m ≤ X ∧ k ≤ Y ∧ und B m k = S ∧ Below w.heap.size w wr) (fun p _ _ => (intOf p).toNat)
    case atStart => exact ⟨X, Y, rfl, rfl, Nat.le_refl _, Nat.le_refl _, hS'.out, Below.refl _ _⟩
    case round =>
      clear hS'
      obtain ⟨m, k, rfl, rfl, hm, hk, hs, hBl⟩ := hrel
      by_cases hlt : 0 < m
      · rw [und_step hB] at hs
        have hq1 := tmod_nat' m B
        have hq2 := tdiv_nat' m B
        have hq3 := tmod_nat' k B
        have hq4 := tdiv_nat' k B
        have hr1 := Nat.mod_lt m (show 0 < B by omega)
        have hr2 := Nat.mod_lt k (show 0 < B by omega)
        have hdl := Nat.div_lt_self hlt hB
        have hdk := Nat.div_le_self k B
        generalize m % B = r1 at *
        generalize m / B = q1 at *
        generalize k % B = r2 at *
        generalize k / B = q2 at *
        have hb0 : ((B : Int) == 0) = false := by simp; omega
        have hw1 : IntKind.i64.wrap (r1 : Int) = r1 := IntWalk.i64_in _ (by omega)
        have hw2 : IntKind.i64.wrap (q1 : Int) = q1 := IntWalk.i64_in _ (by omega)
        have hw3 : IntKind.i64.wrap (r2 : Int) = r2 := IntWalk.i64_in _ (by omega)
        have hw4 : IntKind.i64.wrap (q2 : Int) = q2 := IntWalk.i64_in _ (by omega)
        by_cases hle : r1 ≤ r2
        · rw [show decide (r1 ≤ r2) = true by simpa using hle, Bool.true_and] at hs
          have hs' := hide hs
          clear hs
          go_wp2
          go_quiet (fail)
          go_wp2
          go_roundw
          case rel => exact ⟨q1, q2, rfl, rfl, by omega, by omega, hs'.out, ⟨hBl.os, hBl.tape, hBl.output, hBl.size, hBl.block⟩⟩
          case measure => simp [intOf]; omega
        · rw [show decide (r1 ≤ r2) = false by simpa using hle, Bool.false_and] at hs
          subst hs
          go_wp2
          go_quiet (fail)
          go_wp2
          go_ret
          exact ⟨rfl, ⟨hBl.os, hBl.tape, hBl.output, hBl.size, hBl.block⟩⟩
      · obtain rfl : m = 0 := by omega
        rw [und_none hB] at hs
        subst hs
        go_wp2
        go_ret
        exact ⟨rfl, hBl⟩
end Go.Proofs.Ytlkcdcmmcjkedaa
