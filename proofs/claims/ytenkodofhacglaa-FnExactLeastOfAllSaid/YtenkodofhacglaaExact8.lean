/-
  The walks of the exact laws of chapter 8.
-/
import Derived.Test.YtenkodofhacglaaSpec8
import Derived.Test.YtenkodofhacglaaSpec8b
import Derived.Test.YtenkodofhacglaaSpec8c
import Derived.Test.YtenkodofhacglaaImpl8
import Derived.Test.YtenkodofhacglaaLawKit
namespace Go.Proofs.Ytenkodofhacglaa
open Go.RowKit

theorem exactShared (a0 : Int) (w : World) : Calls Try.prog 8 #[.int .i64 a0] w fun e w' => e = .returned (.bool true) ∧ Below w.heap.size w w' := by
  have hS := fun w => specShared a0 w
  have hI := fun w => implShared a0 w
  obtain ⟨v, hv⟩ : ∃ v, sharedV a0 = v := ⟨_, rfl⟩
  rw [hv] at hS hI
  clear hv
  have hB1 := Below.refl w.heap.size w
  go_enter Try.func8, Try.ntmps8
  go_wp2_with (first | (go_at_call 15; (with_reducible refine (hS _).mono ?_); rintro e w' ⟨rfl, hB'⟩; replace hB1 := hB1.trans (hB'.mono hB1.size); clear hB') | (go_at_call 14; (with_reducible refine (hI _).mono ?_); rintro e w' ⟨rfl, hB'⟩; replace hB1 := hB1.trans (hB'.mono hB1.size); clear hB'))
  go_ret
  exact ⟨rfl, hB1⟩

theorem exactOver (a0 : Int) (w : World) : Calls Try.prog 9 #[.int .i64 a0] w fun e w' => e = .returned (.bool true) ∧ Below w.heap.size w w' := by
  have hS := fun w => specOver a0 w
  have hI := fun w => implOver a0 w
  obtain ⟨v, hv⟩ : ∃ v, overV a0 = v := ⟨_, rfl⟩
  rw [hv] at hS hI
  clear hv
  have hB1 := Below.refl w.heap.size w
  go_enter Try.func9, Try.ntmps9
  go_wp2_with (first | (go_at_call 19; (with_reducible refine (hS _).mono ?_); rintro e w' ⟨rfl, hB'⟩; replace hB1 := hB1.trans (hB'.mono hB1.size); clear hB') | (go_at_call 18; (with_reducible refine (hI _).mono ?_); rintro e w' ⟨rfl, hB'⟩; replace hB1 := hB1.trans (hB'.mono hB1.size); clear hB'))
  go_ret
  exact ⟨rfl, hB1⟩

theorem exactOfAll (a0 : Int) (w : World) : Calls Try.prog 10 #[.int .i64 a0] w fun e w' => e = .returned (.bool true) ∧ Below w.heap.size w w' := by
  have hS := fun w => specOfAll a0 w
  have hI := fun w => implOfAll a0 w
  obtain ⟨v, hv⟩ : ∃ v, ofAllV a0 = v := ⟨_, rfl⟩
  rw [hv] at hS hI
  clear hv
  have hB1 := Below.refl w.heap.size w
  go_enter Try.func10, Try.ntmps10
  go_wp2_with (first | (go_at_call 23; (with_reducible refine (hS _).mono ?_); rintro e w' ⟨rfl, rfl⟩) | (go_at_call 21; (with_reducible refine (hI _).mono ?_); rintro e w' ⟨rfl, hB'⟩; replace hB1 := hB1.trans (hB'.mono hB1.size); clear hB'))
  go_ret
  exact ⟨rfl, hB1⟩

theorem exactTriple (a0 a1 a2 : Int) (w : World) : Calls Try.prog 12 #[.int .i64 a0, .int .i64 a1, .int .i64 a2] w fun e w' => e = .returned (.bool true) ∧ Below w.heap.size w w' := by
  have hS := fun w => specTriple8 a0 a1 a2 w
  have hI := fun w => implTriple8 a0 a1 a2 w
  obtain ⟨v, hv⟩ : ∃ v, tripN a0 a1 a2 = v := ⟨_, rfl⟩
  obtain ⟨u, hu⟩ : ∃ v, tripD a0 a1 a2 = v := ⟨_, rfl⟩
  obtain ⟨b, hb⟩ : ∃ v, tripB a0 a1 a2 = v := ⟨_, rfl⟩
  rw [hv, hu, hb] at hS hI
  clear hv hu hb
  have hB1 := Below.refl w.heap.size w
  cases b
  all_goals
    go_enter Try.func12, Try.ntmps12
    go_wp2_with (first | (go_at_call 31; (with_reducible refine (hS _).mono ?_); rintro e w' ⟨rfl, hB'⟩; replace hB1 := hB1.trans (hB'.mono hB1.size); clear hB') | (go_at_call 30; (with_reducible refine (hI _).mono ?_); rintro e w' ⟨rfl, hB'⟩; replace hB1 := hB1.trans (hB'.mono hB1.size); clear hB'))
    go_ret
    exact ⟨rfl, hB1⟩

/-- What the law asks of a result that is a list of numbers: made twice, marked once. -/
theorem exactStar (a0 a1 : Int) (w : World) : Calls Try.prog 11 #[.int .i64 a0, .int .i64 a1] w fun e w' => e = .returned (.bool true) ∧ Below w.heap.size w w' := by
  obtain ⟨xs, hxs⟩ : ∃ xs, xs = starV a0 a1 := ⟨_, rfl⟩
  have hlen : xs.length ≤ 6 := by rw [hxs]; exact starV_len a0 a1
  have hS : ∀ w : World, Calls Try.prog 27 #[.int .i64 a0, .int .i64 a1] w fun e w' => ∃ v, e = .returned v ∧ w'.ownsRow w.heap.size 3 1 v xs.length (xs.map (Value.int .i64)) ∧ Below w.heap.size w w' := by rw [hxs]; exact specStar a0 a1
  have hI : ∀ w : World, Calls Try.prog 25 #[.int .i64 a0, .int .i64 a1] w fun e w' => ∃ v, e = .returned v ∧ w'.ownsRow w.heap.size 3 1 v xs.length (xs.map (Value.int .i64)) ∧ Below w.heap.size w w' := by rw [hxs]; exact implStar a0 a1
  clear hxs
  by_cases h0 : 0 < xs.length
  · go_enter Try.func11, Try.ntmps11
    go_wp2_with fail
    go_at_call 27
    refine (hS _).mono ?_
    rintro e w1 ⟨v1, rfl, hown1, hB1⟩
    go_wp2_with fail
    go_at_call 25
    refine (hI _).mono ?_
    rintro e w2 ⟨v2, rfl, hown2, hB2⟩
    obtain ⟨g, cap, rfl, hg, hrow⟩ := RowAt.of_owns hown2 h0
    have hi1 := (Ints.of_owns hown1).below hB2
    have hi2 := Ints.of_owns hown2
    have hne : v1.ownBlock ≠ some g := fun e => by have := (hown1.lt g e).2; omega
    have hD2 := hB1.trans (hB2.mono hB1.size)
    clear hown1 hown2
    go_wp2_with fail
    go_at_call 32
    refine (eqIntS_in _ _ xs _ (by omega) hi2 hi1).mono ?_
    rintro e w3 ⟨rfl, hB3⟩
    have hrow3 := hrow.of_block (hB3.block g hrow.lt)
    have hi3 := hi1.below hB3
    have hD3 := hD2.trans (hB3.mono hD2.size)
    clear hrow hi1 hi2
    go_wp2_with fail
    go_at_call 33
    refine (mark_in g cap xs xs.length _ _ (by omega) (Nat.le_refl _) hrow3 1 (by omega)).mono ?_
    rintro e w4 ⟨rfl, hrow4, hgr⟩
    have hi4 := hi3.grown hgr hne
    have hD4 := hD3.grown hgr hD3.size (fun k e => by cases e; have := hB1.size; omega)
    clear hrow3 hi3
    go_wp2_with fail
    go_at_call 34
    refine (held_in g cap xs.length _ (by omega) 1 (by omega) (fun i hi => by have := hrow4.cell (i := i) hi; rw [if_pos hi] at this; exact this)).mono ?_
    rintro e w5 ⟨rfl, rfl⟩
    have hq : ¬ ((1 + xs.length : Nat) : Int) < 0 := by omega
    go_wp2_with fail
    go_at_call 25
    refine (hI _).mono ?_
    rintro e w5 ⟨v5, rfl, hown5, hB5⟩
    have hi5 := Ints.of_owns hown5
    have hi6 := hi4.below hB5
    have hrow5 := hrow4.of_block (hB5.block g hrow4.lt)
    have hD5 := hD4.trans (hB5.mono hD4.size)
    clear hown5 hi4 hrow4
    go_wp2_with fail
    go_at_call 32
    refine (eqIntS_in _ _ xs _ (by omega) hi5 hi6).mono ?_
    rintro e w6 ⟨rfl, hB6⟩
    have hrow6 := hrow5.of_block (hB6.block g hrow5.lt)
    have hD6 := hD5.trans (hB6.mono hD5.size)
    clear hi5 hi6 hrow5
    go_wp2_with fail
    go_at_call 34
    refine (held_in g cap xs.length _ (by omega) 1 (by omega) (fun i hi => by have := hrow6.cell (i := i) hi; rw [if_pos hi] at this; exact this)).mono ?_
    rintro e w7 ⟨rfl, rfl⟩
    go_wp2
    go_ret
    exact ⟨rfl, hD6⟩
  · obtain rfl : xs = [] := List.length_eq_zero_iff.1 (by omega)
    have hem : ∀ {w : World} {v : Value}, Ints w v [] → ∃ a c, v = .slice a 0 c := fun h => by
      rcases h with ⟨a, c, rfl, _⟩ | ⟨g, cap, rfl, _⟩
      · exact ⟨_, _, rfl⟩
      · exact ⟨_, _, rfl⟩
    have hm1 : ∀ (a : Option Addr) (c : Nat) (w : World), Calls Try.prog 33 #[.slice a 0 c, .int .i64 1] w fun e w' => e = .returned (.int .i64 1) ∧ w = w' := fun a c w => mark_none a c 1 w
    have hm2 : ∀ (a : Option Addr) (c : Nat) (w : World), Calls Try.prog 34 #[.slice a 0 c, .int .i64 1] w fun e w' => e = .returned (.int .i64 1) ∧ w = w' := fun a c w => held_none a c 1 w
    go_enter Try.func11, Try.ntmps11
    go_wp2_with fail
    go_at_call 27
    refine (hS _).mono ?_
    rintro e w1 ⟨v1, rfl, hown1, hB1⟩
    go_wp2_with fail
    go_at_call 25
    refine (hI _).mono ?_
    rintro e w2 ⟨v2, rfl, hown2, hB2⟩
    have hi1 := (Ints.of_owns hown1).below hB2
    have hi2 := Ints.of_owns hown2
    obtain ⟨a, c, rfl⟩ := hem hi2
    have hD2 := hB1.trans (hB2.mono hB1.size)
    clear hown1 hown2
    go_wp2_with fail
    go_at_call 32
    refine (eqIntS_in _ _ [] _ (by simp) hi2 hi1).mono ?_
    rintro e w3 ⟨rfl, hB3⟩
    have hi3 := hi1.below hB3
    have hD3 := hD2.trans (hB3.mono hD2.size)
    clear hi1 hi2
    go_wp2_with fail
    go_at_call 33
    refine (hm1 a c _).mono ?_
    rintro e w4 ⟨rfl, rfl⟩
    go_wp2_with fail
    go_at_call 34
    refine (hm2 a c _).mono ?_
    rintro e w4 ⟨rfl, rfl⟩
    go_wp2_with fail
    go_at_call 25
    refine (hI _).mono ?_
    rintro e w5 ⟨v5, rfl, hown5, hB5⟩
    have hi5 := Ints.of_owns hown5
    have hi6 := hi3.below hB5
    have hD5 := hD3.trans (hB5.mono hD3.size)
    clear hown5 hi3
    go_wp2_with fail
    go_at_call 32
    refine (eqIntS_in _ _ [] _ (by simp) hi5 hi6).mono ?_
    rintro e w6 ⟨rfl, hB6⟩
    have hD6 := hD5.trans (hB6.mono hD5.size)
    clear hi5 hi6
    go_wp2_with fail
    go_at_call 34
    refine (hm2 a c _).mono ?_
    rintro e w7 ⟨rfl, rfl⟩
    go_wp2
    go_ret
    exact ⟨rfl, hD6⟩
end Go.Proofs.Ytenkodofhacglaa
