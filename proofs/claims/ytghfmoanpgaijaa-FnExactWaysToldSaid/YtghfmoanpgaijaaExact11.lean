/-
  The walks of the exact laws of chapter 11.
-/
import Derived.Test.YtghfmoanpgaijaaSpec11
import Derived.Test.YtghfmoanpgaijaaSpec11b
import Derived.Test.YtghfmoanpgaijaaSpec11c
import Derived.Test.YtghfmoanpgaijaaImpl11
import Derived.Test.YtghfmoanpgaijaaLawKit5
namespace Go.Proofs.Ytghfmoanpgaijaa
open Go.RowKit

theorem exactWaysOf (a0 : Int) (w : World) : Calls Try.prog 5 #[.int .i64 a0] w fun e w' => e = .returned (.bool true) ∧ Below w.heap.size w w' := by
  have hS := fun w => specWaysOf a0 w
  have hI := fun w => implWaysOf a0 w
  obtain ⟨v, hv⟩ : ∃ v, waysV a0 = v := ⟨_, rfl⟩
  rw [hv] at hS hI
  clear hv
  have hB1 := Below.refl w.heap.size w
  go_enter Try.func5, Try.ntmps5
  go_wp2_with (first | (go_at_call 10; (with_reducible refine (hS _).mono ?_); rintro e w' ⟨rfl, hB'⟩; replace hB1 := hB1.trans (hB'.mono hB1.size); clear hB') | (go_at_call 9; (with_reducible refine (hI _).mono ?_); rintro e w' ⟨rfl, hB'⟩; replace hB1 := hB1.trans (hB'.mono hB1.size); clear hB'))
  go_ret
  exact ⟨rfl, hB1⟩

theorem exactWaysTo (a0 a1 : Int) (w : World) : Calls Try.prog 6 #[.int .i64 a0, .int .i64 a1] w fun e w' => e = .returned (.bool true) ∧ Below w.heap.size w w' := by
  have hS := fun w => specWaysTo a0 a1 w
  have hI := fun w => implWaysTo a0 a1 w
  obtain ⟨v, hv⟩ : ∃ v, wayToV a0 a1 = v := ⟨_, rfl⟩
  rw [hv] at hS hI
  clear hv
  have hB1 := Below.refl w.heap.size w
  go_enter Try.func6, Try.ntmps6
  go_wp2_with (first | (go_at_call 14; (with_reducible refine (hS _).mono ?_); rintro e w' ⟨rfl, hB'⟩; replace hB1 := hB1.trans (hB'.mono hB1.size); clear hB') | (go_at_call 13; (with_reducible refine (hI _).mono ?_); rintro e w' ⟨rfl, hB'⟩; replace hB1 := hB1.trans (hB'.mono hB1.size); clear hB'))
  go_ret
  exact ⟨rfl, hB1⟩

theorem markTexts_none (a : Option Addr) (c : Nat) (m : Nat) (w : World) : Calls Try.prog 18 #[.slice a 0 c, .int .i64 m] w fun e w' => e = .returned (.int .i64 m) ∧ w = w' := by
  go_enter Try.func18, Try.ntmps18
  go_wp2
  refine wp_loop_rounds 1 ?_
  rw [rounds_succ]
  go_wp2
  go_ret
  exact ⟨rfl, rfl⟩
theorem heldTexts_none (a : Option Addr) (c : Nat) (m : Nat) (w : World) : Calls Try.prog 19 #[.slice a 0 c, .int .i64 m] w fun e w' => e = .returned (.int .i64 m) ∧ w = w' := by
  go_enter Try.func19, Try.ntmps19
  go_wp2
  refine wp_loop_rounds 1 ?_
  rw [rounds_succ]
  go_wp2
  go_ret
  exact ⟨rfl, rfl⟩
theorem toldV_len (up : Int) : (toldV up).length ≤ 1000 := by
  by_cases h : up < 0 ∨ 7 < up
  · rw [toldV_bad h]; exact Nat.zero_le _
  · obtain ⟨u, rfl⟩ : ∃ u : Nat, up = u := ⟨up.toNat, by omega⟩
    rw [toldV_nat (by omega)]
    exact (wl_facts (by omega) (Nat.le_refl _)).2.1

set_option maxHeartbeats 1000000 in
theorem exactTold (a0 : Int) (w : World) : Calls Try.prog 7 #[.int .i64 a0] w fun e w' => e = .returned (.bool true) ∧ Below w.heap.size w w' := by
  have hlen := toldV_len a0
  have hS := fun w => specTold a0 w
  have hI := fun w => implTold a0 w
  obtain ⟨L, hL⟩ : ∃ L, toldV a0 = L := ⟨_, rfl⟩
  rw [hL] at hlen
  simp only [hL] at hS hI
  clear hL
  by_cases h0 : 0 < L.length
  · go_enter Try.func7, Try.ntmps7
    go_wp2_with fail
    go_at_call 15
    refine (hS _).mono ?_
    rintro e w1 ⟨v1, rfl, hown1, hB1⟩
    go_wp2_with fail
    go_at_call 16
    refine (hI _).mono ?_
    rintro e w2 ⟨v2, rfl, hown2, hB2⟩
    obtain ⟨g, cap, rfl, hg, hrow⟩ := TextAt.of_owns hown2 h0
    have hi1 := (Texts.of_owns hown1).below hB2
    have hi2 := Texts.of_owns hown2
    have hne : v1.ownBlock ≠ some g := fun e => by have := (hown1.lt g e).2; omega
    have hD2 := hB1.trans (hB2.mono hB1.size)
    clear hown1 hown2
    go_wp2_with fail
    go_at_call 17
    refine (eqStringS_in _ _ L _ (by omega) hi2 hi1).mono ?_
    rintro e w3 ⟨rfl, hB3⟩
    have hrow3 := hrow.of_block (hB3.block g hrow.lt)
    have hi3 := hi1.below hB3
    have hD3 := hD2.trans (hB3.mono hD2.size)
    clear hrow hi1 hi2
    go_wp2_with fail
    go_at_call 18
    refine (markTexts_in g cap L.length _ _ (by omega) hrow3 1 (by omega) (by omega)).mono ?_
    rintro e w4 ⟨rfl, hrow4, hgr⟩
    have hi4 := hi3.grown hgr hne
    have hD4 := hD3.grown hgr hD3.size (fun k e => by cases e; have := hB1.size; omega)
    clear hrow3 hi3
    go_wp2_with fail
    go_at_call 19
    refine (heldTexts_in g cap L.length _ (by omega) 1 (by omega) (by omega) hrow4).mono ?_
    rintro e w5 ⟨rfl, hB5⟩
    have hrow5 := hrow4.of_block (hB5.block g hrow4.lt)
    have hi5 := hi4.below hB5
    have hD5 := hD4.trans (hB5.mono hD4.size)
    clear hi4 hrow4
    have hq : ¬ ((1 + L.length : Nat) : Int) < 0 := by omega
    go_wp2_with fail
    go_at_call 16
    refine (hI _).mono ?_
    rintro e w6 ⟨v6, rfl, hown6, hB6⟩
    have hi6 := Texts.of_owns hown6
    have hi7 := hi5.below hB6
    have hrow6 := hrow5.of_block (hB6.block g hrow5.lt)
    have hD6 := hD5.trans (hB6.mono hD5.size)
    clear hown6 hi5 hrow5
    go_wp2_with fail
    go_at_call 17
    refine (eqStringS_in _ _ L _ (by omega) hi6 hi7).mono ?_
    rintro e w7 ⟨rfl, hB7⟩
    have hrow7 := hrow6.of_block (hB7.block g hrow6.lt)
    have hD7 := hD6.trans (hB7.mono hD6.size)
    clear hi6 hi7 hrow6
    go_wp2_with fail
    go_at_call 19
    refine (heldTexts_in g cap L.length _ (by omega) 1 (by omega) (by omega) hrow7).mono ?_
    rintro e w8 ⟨rfl, hB8⟩
    go_wp2
    go_ret
    exact ⟨rfl, hD7.trans (hB8.mono hD7.size)⟩
  · obtain rfl : L = [] := List.length_eq_zero_iff.1 (by omega)
    have hem : ∀ {w : World} {v : Value}, Texts w v [] → ∃ a c, v = .slice a 0 c := fun h => by
      obtain ⟨a, cap, rfl, _⟩ := h
      exact ⟨_, _, rfl⟩
    have hm1 : ∀ (a : Option Addr) (c : Nat) (w : World), Calls Try.prog 18 #[.slice a 0 c, .int .i64 1] w fun e w' => e = .returned (.int .i64 1) ∧ w = w' := fun a c w => markTexts_none a c 1 w
    have hm2 : ∀ (a : Option Addr) (c : Nat) (w : World), Calls Try.prog 19 #[.slice a 0 c, .int .i64 1] w fun e w' => e = .returned (.int .i64 1) ∧ w = w' := fun a c w => heldTexts_none a c 1 w
    go_enter Try.func7, Try.ntmps7
    go_wp2_with fail
    go_at_call 15
    refine (hS _).mono ?_
    rintro e w1 ⟨v1, rfl, hown1, hB1⟩
    go_wp2_with fail
    go_at_call 16
    refine (hI _).mono ?_
    rintro e w2 ⟨v2, rfl, hown2, hB2⟩
    have hi1 := (Texts.of_owns hown1).below hB2
    have hi2 := Texts.of_owns hown2
    obtain ⟨a, c, rfl⟩ := hem hi2
    have hD2 := hB1.trans (hB2.mono hB1.size)
    clear hown1 hown2
    go_wp2_with fail
    go_at_call 17
    refine (eqStringS_in _ _ [] _ (by simp) hi2 hi1).mono ?_
    rintro e w3 ⟨rfl, hB3⟩
    have hi3 := hi1.below hB3
    have hD3 := hD2.trans (hB3.mono hD2.size)
    clear hi1 hi2
    go_wp2_with fail
    go_at_call 18
    refine (hm1 a c _).mono ?_
    rintro e w4 ⟨rfl, rfl⟩
    go_wp2_with fail
    go_at_call 19
    refine (hm2 a c _).mono ?_
    rintro e w4 ⟨rfl, rfl⟩
    go_wp2_with fail
    go_at_call 16
    refine (hI _).mono ?_
    rintro e w5 ⟨v5, rfl, hown5, hB5⟩
    have hi5 := Texts.of_owns hown5
    have hi6 := hi3.below hB5
    have hD5 := hD3.trans (hB5.mono hD3.size)
    clear hown5 hi3
    go_wp2_with fail
    go_at_call 17
    refine (eqStringS_in _ _ [] _ (by simp) hi5 hi6).mono ?_
    rintro e w6 ⟨rfl, hB6⟩
    have hD6 := hD5.trans (hB6.mono hD5.size)
    clear hi5 hi6
    go_wp2_with fail
    go_at_call 19
    refine (hm2 a c _).mono ?_
    rintro e w7 ⟨rfl, rfl⟩
    go_wp2
    go_ret
    exact ⟨rfl, hD6⟩
end Go.Proofs.Ytghfmoanpgaijaa
