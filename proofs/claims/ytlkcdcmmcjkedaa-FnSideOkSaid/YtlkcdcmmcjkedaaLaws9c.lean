/-
  The walk of the law on SideOk.
-/
import Derived.Test.YtlkcdcmmcjkedaaLaws9
import Derived.Test.YtlkcdcmmcjkedaaKit4
namespace Go.Proofs.Ytlkcdcmmcjkedaa
open Go.RowKit Go.BigFrame

theorem side_zero : sideB [0] = true := by decide
theorem side_one : sideB [1] = true := by decide
theorem side_twelve : sideB (List.replicate 12 0) = true := by decide
theorem side_none : sideB [] = false := by decide

set_option maxRecDepth 100000 in
set_option maxHeartbeats 2000000 in
theorem lawSide (a0 : Option Addr) (len0 cap0 : Nat) (z0 : List Int) (w : World) (w0 : IsRow .u8 w a0 len0 cap0 z0) :
    Calls Try.prog 4 #[.slice a0 len0 cap0] w fun e w' => e = .returned (.bool true) ∧ Below w.heap.size w w' := by
  by_cases hbig : 1048576 < len0
  · go_enter Try.func4, Try.ntmps4
    go_wp2
    go_ret
    exact ⟨rfl, Below.refl _ _⟩
  · go_enter Try.func4, Try.ntmps4
    go_wp2_with fail
    go_at_call 23
    refine (drawSide w a0 len0 cap0 z0 w0).mono ?_
    rintro e w1 ⟨⟨v, xs, rfl, hv, hlies, hxl⟩, hB1⟩
    have hI := implSide v xs w1 hv (by omega)
    have hS : ∀ W, Below w1.heap.size w1 W → Calls Try.prog 25 #[v] W fun e w' => e = .returned (.bool (sideB xs)) ∧ W = w' := fun W h => specSide v xs W (hv.below h) (by omega)
    have t0 := fun W => implSide (.slice (some ⟨W.heap.size, 0, none⟩) 1 1) [0] (W.alloc (.cells #[.int .i64 0] 3)) (one_ints W 0) (by decide)
    have t1 := fun W => implSide (.slice (some ⟨W.heap.size, 0, none⟩) 1 1) [1] (W.alloc (.cells #[.int .i64 1] 3)) (one_ints W 1) (by decide)
    have t2 := fun W v (h : Ints W v (List.replicate 12 0)) => implSide v (List.replicate 12 0) W h (by decide)
    have t3 := fun W a c => implSide (.slice a 0 c) [] W (.inl ⟨a, c, rfl, rfl⟩) (by decide)
    rw [side_zero] at t0
    rw [side_one] at t1
    rw [side_twelve] at t2
    rw [side_none] at t3
    obtain ⟨b, hb⟩ : ∃ b, sideB xs = b := ⟨_, rfl⟩
    rw [hb] at hI hS
    clear hb hv hlies hxl
    cases b
    all_goals
      go_wp2_with fail
      go_at_call 24
      refine hI.mono ?_
      rintro e w2 ⟨rfl, b2⟩
      go_wp2_with fail
      go_at_call 25
      refine (hS _ b2).mono ?_
      rintro e w3 ⟨rfl, rfl⟩
      have hD2 := hB1.trans (b2.mono hB1.size)
      clear hI hS
      go_wp2_with fail
      go_at_call 24
      refine (t0 _).mono ?_
      rintro e w3 ⟨rfl, b3⟩
      have hD3 := (hD2.alloc hD2.size (.cells #[.int .i64 0] 3)).trans (b3.mono (by have := hD2.size; simp; omega))
      go_wp2_with fail
      go_at_call 24
      refine (t1 _).mono ?_
      rintro e w4 ⟨rfl, b4⟩
      have hD4 := (hD3.alloc hD3.size (.cells #[.int .i64 1] 3)).trans (b4.mono (by have := hD3.size; simp; omega))
      go_wp2_with fail
      obtain ⟨w5, hrun, r1, r2⟩ := make_run w4 12 (by omega)
      have hrun' : (Instr.makeSlice 23 (.int .i64 12) (.int .i64 12)).run Try.prog w4 = .ok (.slice (some ⟨w4.heap.size, 0, none⟩) 12 12) w5 := hrun
      rw [hrun']
      simp only [Result.andThen]
      rw [Oper.upon_value]
      have hD5 := hD4.grown r2 hD4.size (fun k e => by cases e)
      go_wp2_with fail
      go_at_call 24
      refine (t2 _ _ r1).mono ?_
      rintro e w6 ⟨rfl, b6⟩
      have hD6 := hD5.trans (b6.mono hD5.size)
      go_wp2_with fail
      go_at_call 24
      refine (t3 _ _ _).mono ?_
      rintro e w7 ⟨rfl, b7⟩
      have hD7 := (hD6.alloc hD6.size (.cells #[] 3)).trans (b7.mono (by have := hD6.size; simp; omega))
      go_wp2_with fail
      go_at_call 21
      refine (alive_in _).mono ?_
      rintro e w8 ⟨rfl, b8⟩
      have hD8 := hD7.trans (b8.mono hD7.size)
      go_wp2
      go_ret
      exact ⟨rfl, hD8⟩
end Go.Proofs.Ytlkcdcmmcjkedaa
