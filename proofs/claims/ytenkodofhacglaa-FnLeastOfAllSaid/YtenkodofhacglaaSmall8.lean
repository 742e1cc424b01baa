/-
  The program's small functions of chapter 8: divisors of two numbers, iterators over numbers, and folding what they hand out.
-/
import Derived.Test.YtenkodofhacglaaSpec8
import Derived.Test.YtenkodofhacglaaImplCell
namespace Go.Proofs.Ytenkodofhacglaa
open Go.RowKit Go.Shelf
attribute [local go_sem] Oper.semAt_some

set_option maxHeartbeats 1000000 in
theorem two_in (a b : Nat) (ha : a ≤ 4000000000000000000) (hb : b ≤ 4000000000000000000) (w : World) : Calls Try.prog 51 #[.int .i64 a, .int .i64 b] w fun e w' => e = .returned (.int .i64 (Nat.gcd a b : Nat)) ∧ Below w.heap.size w w' := by
  obtain ⟨G, hG⟩ : ∃ G, Nat.gcd a b = G := ⟨_, rfl⟩
  rw [hG]
  have hG' := hide hG
  clear hG
  go_enter Try.func51, Try.ntmps51
  go_wp2
  go_loopw [0, 1] (fun s t wr => ∃ x y : Nat, s = .int .i64 x ∧ t = .int .i64 y ∧ x ≤ 4000000000000000000 ∧ y ≤ 4000000000000000000 ∧ Hid (Nat.gcd x y = G) ∧ Below w.heap.size w wr) (fun _ t _ => (intOf t).toNat)
  case atStart => exact ⟨a, b, rfl, rfl, ha, hb, hG', Below.refl _ _⟩
  case round =>
    clear hG' ha hb
    obtain ⟨x, y, rfl, rfl, hx, hy, hg, hB⟩ := hrel
    by_cases h0 : 0 < y
    · have hq := tmod_n x y
      have hr := Nat.mod_lt x h0
      have hg' : Hid (Nat.gcd y (x % y) = G) := hide (by rw [← hg.out, Nat.gcd_comm x y, Nat.gcd_rec y x, Nat.gcd_comm])
      generalize x % y = r at *
      have hw1 : IntKind.i64.wrap (r : Int) = r := IntWalk.i64_in _ (by omega)
      have hy0 : ((y : Int) == 0) = false := by simp; omega
      clear hg
      go_wp2
      go_quiet (fail)
      go_wp2
      go_roundw
      case rel => exact ⟨y, r, rfl, rfl, hy, by omega, hg', ⟨hB.os, hB.tape, hB.output, hB.size, hB.block⟩⟩
      case measure => simp [intOf]; omega
    · obtain rfl : y = 0 := by omega
      have hg2 := hg.out
      rw [Nat.gcd_zero_right] at hg2
      subst hg2
      clear hg
      go_wp2
      go_ret
      exact ⟨rfl, hB⟩

theorem least_in (a b y : Nat) (ha1 : 0 < a) (ha : a ≤ 4000000000000000000) (hb0 : 0 < b) (hb : b ≤ 4000000000000000000) (hy : a / Nat.gcd a b * b = y) (hyl : y ≤ 4000000000000000000) (w : World) :
    Calls Try.prog 44 #[.int .i64 a, .int .i64 b] w fun e w' => e = .returned (.int .i64 (y : Nat)) ∧ Below w.heap.size w w' := by
  have hG := fun w => two_in a b ha hb w
  have hq := tdiv_n a (Nat.gcd a b)
  have hgp : 0 < Nat.gcd a b := Nat.gcd_pos_of_pos_right _ hb0
  have hdl := Nat.div_le_self a (Nat.gcd a b)
  generalize Nat.gcd a b = G at *
  generalize a / G = q at *
  have hmul : (q : Int) * (b : Int) = (y : Int) := by rw [← hy]; simp
  have hG0 : ((G : Int) == 0) = false := by simp; omega
  have hw1 : IntKind.i64.wrap (q : Int) = q := IntWalk.i64_in _ (by omega)
  have hw2 : IntKind.i64.wrap (y : Int) = y := IntWalk.i64_in _ (by omega)
  clear hy
  go_enter Try.func44, Try.ntmps44
  go_wp2_with (go_at_call 51; (with_reducible refine (hG _).mono ?_); rintro e w' ⟨rfl, hB'⟩)
  go_ret
  exact ⟨rfl, hB'⟩

theorem times_in (a b y : Nat) (hy : a * b = y) (hyl : y ≤ 4000000000000000000) (w : World) :
    Calls Try.prog 58 #[.int .i64 a, .int .i64 b] w fun e w' => e = .returned (.int .i64 (y : Nat)) ∧ Below w.heap.size w w' := by
  have hmul : (a : Int) * (b : Int) = (y : Int) := by rw [← hy]; simp
  have hw2 : IntKind.i64.wrap (y : Int) = y := IntWalk.i64_in _ (by omega)
  clear hy
  go_enter Try.func58, Try.ntmps58
  go_wp2
  go_ret
  exact ⟨rfl, Below.refl _ _⟩
end Go.Proofs.Ytenkodofhacglaa
