/-
  The walks of the laws of chapter 10: RingOk.
-/
import Derived.Test.YtmnmbelmcdfcjaaDraw10
import Derived.Test.YtmnmbelmcdfcjaaSpec10b
import Derived.Test.YtmnmbelmcdfcjaaImpl10
import Derived.Test.YtmnmbelmcdfcjaaAlive
import Derived.Test.YtmnmbelmcdfcjaaLawKit2
import Derived.Test.YtmnmbelmcdfcjaaQuietBelow
import Derived.RangeFuncBox
namespace Go.Proofs.Ytmnmbelmcdfcjaa
open Go.RowKit Go.BigFrame

theorem one_int (w : World) (z : Int) : Ints (w.alloc (.cells #[.int .i64 z] 3)) (.slice (some ⟨w.heap.size, 0, none⟩) 1 1) [z] :=
  .inr ⟨w.heap.size, 1, rfl, by simp, fun i hi => by
    obtain rfl : i = 0 := by simp at hi; omega
    exact (Boxed.new w 3 (.int .i64 z)).cell⟩
theorem ring_zero : ringB [0] = true := by decide
theorem ring_most : ringB [100] = true := by decide
theorem ring_none : ringB [] = false := by decide

set_option maxRecDepth 100000 in
set_option maxHeartbeats 2000000 in
theorem lawRing (a0 : Option Addr) (len0 cap0 : Nat) (z0 : List Int) (w : World) (w0 : IsRow .u8 w a0 len0 cap0 z0) :
    Calls Try.prog 3 #[.slice a0 len0 cap0] w fun e w' => e = .returned (.bool true) ∧ Below w.heap.size w w' := by
  by_cases hbig : 1048576 < len0
  · go_enter Try.func3, Try.ntmps3
    go_wp2
    go_ret
    exact ⟨rfl, Below.refl _ _⟩
  · go_enter Try.func3, Try.ntmps3
    go_wp2_with fail
    go_at_call 15
    refine (drawRing w a0 len0 cap0 z0 w0).mono ?_
    rintro e w1 ⟨⟨v, xs, rfl, hv, hlies, hxl⟩, hB1⟩
    have hI := implRing v xs w1 hv (by omega)
    have hS : ∀ W, Below w1.heap.size w1 W → Calls Try.prog 17 #[v] W fun e w' => e = .returned (.bool (ringB xs)) ∧ W = w' := fun W h => specRing v xs W (hv.below h) (by omega)
    have t0 := fun W => implRing (.slice (some ⟨W.heap.size, 0, none⟩) 1 1) [0] (W.alloc (.cells #[.int .i64 0] 3)) (one_int W 0) (by decide)
    have t1 := fun W => implRing (.slice (some ⟨W.heap.size, 0, none⟩) 1 1) [100] (W.alloc (.cells #[.int .i64 100] 3)) (one_int W 100) (by decide)
    have t3 := fun W a c => implRing (.slice a 0 c) [] W (.inl ⟨a, c, rfl, rfl⟩) (by decide)
    rw [ring_zero] at t0
    rw [ring_most] at t1
    rw [ring_none] at t3
    obtain ⟨b, hb⟩ : ∃ b, ringB xs = b := ⟨_, rfl⟩
    rw [hb] at hI hS
    clear hb hv hlies hxl
    cases b
    all_goals
      go_wp2_with fail
      go_at_call 16
      refine hI.mono ?_
      rintro e w2 ⟨rfl, b2⟩
      go_wp2_with fail
      go_at_call 17
      refine (hS _ b2).mono ?_
      rintro e w3 ⟨rfl, rfl⟩
      have hD2 := hB1.trans (b2.mono hB1.size)
      clear hI hS
      go_wp2_with fail
      go_at_call 16
      refine (t0 _).mono ?_
      rintro e w3 ⟨rfl, b3⟩
      have hD3 := (hD2.alloc hD2.size (.cells #[.int .i64 0] 3)).trans (b3.mono (by have := hD2.size; simp; omega))
      go_wp2_with fail
      go_at_call 16
      refine (t1 _).mono ?_
      rintro e w4 ⟨rfl, b4⟩
      have hD4 := (hD3.alloc hD3.size (.cells #[.int .i64 100] 3)).trans (b4.mono (by have := hD3.size; simp; omega))
      go_wp2_with fail
      go_at_call 16
      refine (t3 _ _ _).mono ?_
      rintro e w7 ⟨rfl, b7⟩
      have hD7 := (hD4.alloc hD4.size (.cells #[] 3)).trans (b7.mono (by have := hD4.size; simp; omega))
      go_wp2_with fail
      go_at_call 18
      refine (alive_in _).mono ?_
      rintro e w8 ⟨rfl, b8⟩
      have hD8 := hD7.trans (b8.mono hD7.size)
      go_wp2
      go_ret
      exact ⟨rfl, hD8⟩
end Go.Proofs.Ytmnmbelmcdfcjaa
