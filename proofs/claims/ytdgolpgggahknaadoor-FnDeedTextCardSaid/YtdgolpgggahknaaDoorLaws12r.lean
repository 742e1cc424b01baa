/-
  The walk of the law on DeedText.
-/
import Derived.Test.YtdgolpgggahknaaDoorRead12c
import Derived.Test.YtdgolpgggahknaaDoorDraw12f
import Derived.Test.YtdgolpgggahknaaDoorL12Z
namespace Go.Proofs.YtdgolpgggahknaaDoor
open Go Go.RowKit

set_option maxRecDepth 100000 in
set_option maxHeartbeats 1000000 in
theorem lawDeedText (a0 : Option Addr) (len0 cap0 : Nat) (z0 : List Int) (w : World) (w0 : IsRow .u8 w a0 len0 cap0 z0) (hEnv : Env w) :
    Calls Tryd.prog 3 #[.slice a0 len0 cap0] w fun e w' => e = .returned (.bool true) ∧ Below w.heap.size w w' := by
  by_cases hbig : 1048576 < len0
  · go_enter Tryd.func3, Tryd.ntmps3
    go_wp2
    go_ret
    exact ⟨rfl, Below.refl _ _⟩
  · have hbi : ¬ (1048576 : Int) < (len0 : Int) := by omega
    go_enter Tryd.func3, Tryd.ntmps3
    go_wp2_with fail
    go_at_call 9
    refine (drawDeedText w a0 len0 cap0 z0 w0).mono ?_
    rintro e w1 ⟨k, n, hk, hn, rfl, hB1⟩
    have hI := fun V => implDeedText k n hk hn V
    have hS := fun V => specDeedText k n hk hn V
    have hR := fun V hV => implReadDeed (deedT k n) (fun x hx => (deed_byte k n x hx).1) (by have := deed_len k n; omega) V hV
    have hE1 := hEnv.below hB1
    have ka := World.alloc_heap_new w1 (.cells #[.int .i64 k, .int .i64 n] 24)
    have ba := (Below.refl _ w1).alloc (Nat.le_refl _) (.cells #[.int .i64 k, .int .i64 n] 24)
    obtain ⟨w2, hw2⟩ : ∃ w2, w1.alloc (.cells #[.int .i64 k, .int .i64 n] 24) = w2 := ⟨_, rfl⟩
    rw [hw2] at ba ka
    obtain ⟨c0, c1, _, _⟩ := row_atD ka
    have hE2 := hE1.below ba
    have hB2 := hB1.trans (ba.mono hB1.size)
    have la := (Array.getElem?_eq_some_iff.1 ka).1
    have hrd : deedT k n ≠ [] → rdV (deedT k n) = ((k, n), true) := fun h => by unfold rdV; rw [read_of_text h]
    have hemp : (str (deedT k n)).toList.isEmpty = decide (deedT k n = []) := by
      rw [str_toList]
      cases deedT k n with
      | nil => rfl
      | cons c r => rfl
    obtain ⟨S, hSS⟩ : ∃ S, str (deedT k n) = S := ⟨_, rfl⟩
    rw [hSS] at hI hS hR hemp
    unfold dV at *
    clear ba hB1 hE1 hEnv hSS
    go_wp2_with (first
      | (go_at_call 10; refine (hI _).mono ?_)
      | (go_at_call 11; refine (hS _).mono ?_))
    rintro e w3 ⟨rfl, b3⟩
    have k3 := (b3.block _ la).trans ka
    have l3 := (Array.getElem?_eq_some_iff.1 k3).1
    have hE3 := hE2.below b3
    have hB3 := hB2.trans (b3.mono hB2.size)
    obtain ⟨c0, c1, _, _⟩ := row_atD k3
    clear ka la hE2 hB2 b3
    go_wp2_with (go_at_call 11; refine (hS _).mono ?_)
    rintro e w4 ⟨rfl, b4⟩
    have k4 := (b4.block _ l3).trans k3
    have l4 := (Array.getElem?_eq_some_iff.1 k4).1
    have hE4 := hE3.below b4
    have hB4 := hB3.trans (b4.mono hB3.size)
    obtain ⟨c0, c1, _, _⟩ := row_atD k4
    clear k3 l3 hE3 hB3 b4
    by_cases hne : deedT k n = []
    · rw [decide_eq_true hne] at hemp
      clear hR hrd
      go_wp2_with (go_at_call 12; refine (alive_in _).mono ?_; rintro e w5 ⟨rfl, b5⟩)
      go_ret
      exact ⟨rfl, hB4.trans (b5.mono hB4.size)⟩
    · rw [decide_eq_false hne] at hemp
      rw [hrd hne] at hR
      simp only at hR
      have hR4 := hR w4 hE4
      clear hR hrd hI hS
      go_wp2_with (go_at_call 13; refine hR4.mono ?_)
      rintro e w5 ⟨rfl, b5⟩
      have k5 := (b5.block _ l4).trans k4
      have l5 := (Array.getElem?_eq_some_iff.1 k5).1
      have hB5 := hB4.trans (b5.mono hB4.size)
      obtain ⟨c0, c1, _, _⟩ := row_atD k5
      have kx := World.alloc_heap_new w5 (.cells #[.int .i64 k, .int .i64 n] 24)
      have bx := (Below.refl _ w5).alloc (Nat.le_refl _) (.cells #[.int .i64 k, .int .i64 n] 24)
      obtain ⟨w6, hw6⟩ : ∃ w6, w5.alloc (.cells #[.int .i64 k, .int .i64 n] 24) = w6 := ⟨_, rfl⟩
      rw [hw6] at bx kx
      obtain ⟨x0, x1, _, _⟩ := row_atD kx
      have k6 := (bx.block _ l5).trans k5
      obtain ⟨y0, y1, _, _⟩ := row_atD k6
      have hB6 := hB5.trans (bx.mono hB5.size)
      clear k4 l4 hE4 hB4 b5 k5 l5
      go_wp2
      go_ret
      exact ⟨rfl, hB6⟩
end Go.Proofs.YtdgolpgggahknaaDoor
