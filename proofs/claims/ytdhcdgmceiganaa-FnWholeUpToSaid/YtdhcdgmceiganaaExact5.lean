/-
  The walks of the exact laws of chapter 5: LeftIn, WholeOk, WholeUpTo.
-/
import Derived.Test.YtdhcdgmceiganaaSpec5
import Derived.Test.YtdhcdgmceiganaaSpec5b
import Derived.Test.YtdhcdgmceiganaaImpl5
import Derived.Test.YtdhcdgmceiganaaLawKit
namespace Go.Proofs.Ytdhcdgmceiganaa
open Go.RowKit

theorem exactLeftIn (a0 a1 : Int) (w : World) (hf : Fits a1) : Calls Try.prog 7 #[.int .i64 a0, .int .i64 a1] w fun e w' => e = .returned (.bool true) ∧ Below w.heap.size w w' := by
  have hS := fun w => specLeftIn a0 a1 w
  have hI := fun w => implLeftIn a0 a1 hf w
  obtain ⟨v, hv⟩ : ∃ v, keepV a0 a1 = v := ⟨_, rfl⟩
  rw [hv] at hS hI
  clear hv
  go_enter Try.func7, Try.ntmps7
  go_wp2_with (first | (go_at_call 13; (with_reducible refine (hS _).mono ?_); rintro e w1 ⟨rfl, rfl⟩) | (go_at_call 12; (with_reducible refine (hI _).mono ?_); rintro e w1 ⟨rfl, hB1⟩))
  go_ret
  exact ⟨rfl, hB1⟩

theorem exactWhole (a0 a1 : Int) (w : World) (hf : Fits a1) : Calls Try.prog 9 #[.int .i64 a0, .int .i64 a1] w fun e w' => e = .returned (.bool true) ∧ Below w.heap.size w w' := by
  have hS := fun w => specWhole a0 a1 w
  have hI := fun w => implWhole a0 a1 hf w
  obtain ⟨v, hv⟩ : ∃ v, wholeV a0 a1 = v := ⟨_, rfl⟩
  rw [hv] at hS hI
  clear hv
  cases v
  all_goals
    go_enter Try.func9, Try.ntmps9
    go_wp2_with (first | (go_at_call 22; (with_reducible refine (hS _).mono ?_); rintro e w1 ⟨rfl, rfl⟩) | (go_at_call 21; (with_reducible refine (hI _).mono ?_); rintro e w1 ⟨rfl, hB1⟩))
    go_ret
    exact ⟨rfl, hB1⟩

/-- There are not many whole rows: a block of p - 1 of them for each power. -/
theorem wholeU_pow {p : Nat} (hp : 2 ≤ p) : ∀ j, (wholeU p (p ^ j)).length ≤ 1 + j * p
  | 0 => by rw [Nat.pow_zero, wholeU_one p hp]; simp
  | j + 1 => by
    have h : ∀ d, 1 ≤ d → d ≤ p → (wholeU p (d * p ^ j)).length ≤ 1 + j * p + (d - 1) := fun d => by
      induction d with
      | zero => intro h; omega
      | succ d ih =>
        intro _ h2
        by_cases h1 : d = 0
        · subst h1; rw [Nat.zero_add, Nat.one_mul]; exact Nat.le_trans (wholeU_pow hp j) (by omega)
        · rw [Nat.add_mul, Nat.one_mul, wholeU_block hp (by omega) (by omega), List.length_append]
          have := ih (by omega) (by omega)
          simp; omega
    have h1 := h p (by omega) (Nat.le_refl _)
    rw [Nat.pow_succ, Nat.mul_comm (p ^ j), Nat.add_mul, Nat.one_mul]; omega
theorem wholeU_mono (p : Nat) : ∀ a b, a ≤ b → (wholeU p a).length ≤ (wholeU p b).length
  | a, 0, h => by obtain rfl : a = 0 := by omega
                  exact Nat.le_refl _
  | a, b + 1, h => by
    by_cases e : a = b + 1
    · rw [e]; exact Nat.le_refl _
    · rw [wholeU_succ, List.length_append]
      have := wholeU_mono p a b (by omega)
      omega
theorem wholeUV_len' (row p : Int) : (wholeUV row p).length ≤ 400 := by
  unfold wholeUV
  split
  · simp
  · rename_i h
    obtain ⟨N, P, rfl, rfl, hN, hp⟩ := badK_nat h
    have hp2 := prm_two hp
    rw [wholeL_len]
    have h1 : N + 1 ≤ P ^ 30 := Nat.le_trans (show N + 1 ≤ 2 ^ 30 by omega) (Nat.pow_le_pow_left hp2.1 30)
    have h2 := wholeU_mono P _ _ h1
    have h3 := wholeU_pow hp2.1 30
    simp only [Int.toNat_natCast]
    omega

/-- What the law asks of a result that is a list of numbers: made twice, marked once. -/
theorem exactWholeUp (a0 a1 : Int) (w : World) (hf : Fits a1) : Calls Try.prog 10 #[.int .i64 a0, .int .i64 a1] w fun e w' => e = .returned (.bool true) ∧ Below w.heap.size w w' := by
  obtain ⟨xs, hxs⟩ : ∃ xs, xs = wholeUV a0 a1 := ⟨_, rfl⟩
  have hlen : xs.length ≤ 400 := by rw [hxs]; exact wholeUV_len' a0 a1
  have hS : ∀ w : World, Calls Try.prog 26 #[.int .i64 a0, .int .i64 a1] w fun e w' => ∃ v, e = .returned v ∧ w'.ownsRow w.heap.size 3 1 v xs.length (xs.map (Value.int .i64)) ∧ Below w.heap.size w w' := by rw [hxs]; exact specWholeUp a0 a1
  have hI : ∀ w : World, Calls Try.prog 24 #[.int .i64 a0, .int .i64 a1] w fun e w' => ∃ v, e = .returned v ∧ w'.ownsRow w.heap.size 3 1 v xs.length (xs.map (Value.int .i64)) ∧ Below w.heap.size w w' := by rw [hxs]; exact implWholeUp a0 a1 hf
  clear hxs
  by_cases h0 : 0 < xs.length
  · go_enter Try.func10, Try.ntmps10
    go_wp2_with fail
    go_at_call 26
    refine (hS _).mono ?_
    rintro e w1 ⟨v1, rfl, hown1, hB1⟩
    go_wp2_with fail
    go_at_call 24
    refine (hI _).mono ?_
    rintro e w2 ⟨v2, rfl, hown2, hB2⟩
    obtain ⟨g, cap, rfl, hg, hrow⟩ := RowAt.of_owns hown2 h0
    have hi1 := (Ints.of_owns hown1).below hB2
    have hi2 := Ints.of_owns hown2
    have hne : v1.ownBlock ≠ some g := fun e => by have := (hown1.lt g e).2; omega
    have hD2 := hB1.trans (hB2.mono hB1.size)
    clear hown1 hown2
    go_wp2_with fail
    go_at_call 28
    refine (eqIntS_in _ _ xs _ (by omega) hi2 hi1).mono ?_
    rintro e w3 ⟨rfl, hB3⟩
    have hrow3 := hrow.of_block (hB3.block g hrow.lt)
    have hi3 := hi1.below hB3
    have hD3 := hD2.trans (hB3.mono hD2.size)
    clear hrow hi1 hi2
    go_wp2_with fail
    go_at_call 29
    refine (mark_in g cap xs xs.length _ _ (by omega) (Nat.le_refl _) hrow3 1 (by omega)).mono ?_
    rintro e w4 ⟨rfl, hrow4, hgr⟩
    have hi4 := hi3.grown hgr hne
    have hD4 := hD3.grown hgr hD3.size (fun k e => by cases e; have := hB1.size; omega)
    clear hrow3 hi3
    go_wp2_with fail
    go_at_call 30
    refine (held_in g cap xs.length _ (by omega) 1 (by omega) (fun i hi => by have := hrow4.cell (i := i) hi; rw [if_pos hi] at this; exact this)).mono ?_
    rintro e w5 ⟨rfl, rfl⟩
    have hq : ¬ ((1 + xs.length : Nat) : Int) < 0 := by omega
    go_wp2_with fail
    go_at_call 24
    refine (hI _).mono ?_
    rintro e w5 ⟨v5, rfl, hown5, hB5⟩
    have hi5 := Ints.of_owns hown5
    have hi6 := hi4.below hB5
    have hrow5 := hrow4.of_block (hB5.block g hrow4.lt)
    have hD5 := hD4.trans (hB5.mono hD4.size)
    clear hown5 hi4 hrow4
    go_wp2_with fail
    go_at_call 28
    refine (eqIntS_in _ _ xs _ (by omega) hi5 hi6).mono ?_
    rintro e w6 ⟨rfl, hB6⟩
    have hrow6 := hrow5.of_block (hB6.block g hrow5.lt)
    have hD6 := hD5.trans (hB6.mono hD5.size)
    clear hi5 hi6 hrow5
    go_wp2_with fail
    go_at_call 30
    refine (held_in g cap xs.length _ (by omega) 1 (by omega) (fun i hi => by have := hrow6.cell (i := i) hi; rw [if_pos hi] at this; exact this)).mono ?_
    rintro e w7 ⟨rfl, rfl⟩
    go_wp2
    go_ret
    exact ⟨rfl, hD6⟩
  · obtain rfl : xs = [] := List.length_eq_zero_iff.1 (by omega)
    have hem : ∀ {w : World} {v : Value}, Ints w v [] → ∃ a c, v = .slice a 0 c := fun h => by
      rcases h with ⟨a, c, rfl, _⟩ | ⟨g, cap, rfl, _⟩
      · exact ⟨_, _, rfl⟩
      · exact ⟨_, _, rfl⟩
    have hm1 : ∀ (a : Option Addr) (c : Nat) (w : World), Calls Try.prog 29 #[.slice a 0 c, .int .i64 1] w fun e w' => e = .returned (.int .i64 1) ∧ w = w' := fun a c w => mark_none a c 1 w
    have hm2 : ∀ (a : Option Addr) (c : Nat) (w : World), Calls Try.prog 30 #[.slice a 0 c, .int .i64 1] w fun e w' => e = .returned (.int .i64 1) ∧ w = w' := fun a c w => held_none a c 1 w
    go_enter Try.func10, Try.ntmps10
    go_wp2_with fail
    go_at_call 26
    refine (hS _).mono ?_
    rintro e w1 ⟨v1, rfl, hown1, hB1⟩
    go_wp2_with fail
    go_at_call 24
    refine (hI _).mono ?_
    rintro e w2 ⟨v2, rfl, hown2, hB2⟩
    have hi1 := (Ints.of_owns hown1).below hB2
    have hi2 := Ints.of_owns hown2
    obtain ⟨a, c, rfl⟩ := hem hi2
    have hD2 := hB1.trans (hB2.mono hB1.size)
    clear hown1 hown2
    go_wp2_with fail
    go_at_call 28
    refine (eqIntS_in _ _ [] _ (by simp) hi2 hi1).mono ?_
    rintro e w3 ⟨rfl, hB3⟩
    have hi3 := hi1.below hB3
    have hD3 := hD2.trans (hB3.mono hD2.size)
    clear hi1 hi2
    go_wp2_with fail
    go_at_call 29
    refine (hm1 a c _).mono ?_
    rintro e w4 ⟨rfl, rfl⟩
    go_wp2_with fail
    go_at_call 30
    refine (hm2 a c _).mono ?_
    rintro e w4 ⟨rfl, rfl⟩
    go_wp2_with fail
    go_at_call 24
    refine (hI _).mono ?_
    rintro e w5 ⟨v5, rfl, hown5, hB5⟩
    have hi5 := Ints.of_owns hown5
    have hi6 := hi3.below hB5
    have hD5 := hD3.trans (hB5.mono hD3.size)
    clear hown5 hi3
    go_wp2_with fail
    go_at_call 28
    refine (eqIntS_in _ _ [] _ (by simp) hi5 hi6).mono ?_
    rintro e w6 ⟨rfl, hB6⟩
    have hD6 := hD5.trans (hB6.mono hD5.size)
    clear hi5 hi6
    go_wp2_with fail
    go_at_call 30
    refine (hm2 a c _).mono ?_
    rintro e w7 ⟨rfl, rfl⟩
    go_wp2
    go_ret
    exact ⟨rfl, hD6⟩
end Go.Proofs.Ytdhcdgmceiganaa
