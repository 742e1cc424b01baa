/-
  The walks of the exact laws of chapter 3: each answers true at every argument, and nothing that was there is written.
-/
import Derived.Test.YtmbmcignmofpoaaSpec3b
import Derived.Test.YtmbmcignmofpoaaImpl3
namespace Go.Proofs.Ytmbmcignmofpoaa
open Go.RowKit

theorem exactPrime (a0 : Int) (w : World) (h0 : Fits a0) : Calls Try.prog 8 #[.int .i64 a0] w fun e w' => e = .returned (.bool true) ∧ Below w.heap.size w w' := by
  obtain ⟨v, hv⟩ : ∃ v, prmI a0 = v := ⟨_, rfl⟩
  have hS := fun w => specPrime_is hv w
  have hI := fun w => implPrime_is h0 hv w
  clear hv
  cases v
  all_goals
    go_enter Try.func8, Try.ntmps8
    go_wp2_with (first | (go_at_call 15; refine (hS _).mono ?_; rintro e w1 ⟨rfl, rfl⟩) | (go_at_call 14; refine (hI _).mono ?_; rintro e w2 ⟨rfl, hB2⟩))
    go_ret
    exact ⟨rfl, hB2⟩
theorem exactTimes (a0 a1 : Int) (w : World) (h1 : Fits a1) : Calls Try.prog 9 #[.int .i64 a0, .int .i64 a1] w fun e w' => e = .returned (.bool true) ∧ Below w.heap.size w w' := by
  go_enter Try.func9, Try.ntmps9
  go_wp2_with (first | (go_at_call 18; refine (specTimes _ _ _).mono ?_; rintro e w1 ⟨rfl, rfl⟩) | (go_at_call 17; refine (implTimes _ _ h1 _).mono ?_; rintro e w2 ⟨rfl, hB2⟩))
  go_ret
  exact ⟨rfl, hB2⟩
theorem exactAll (a0 a1 : Int) (w : World) (h1 : Fits a1) : Calls Try.prog 10 #[.int .i64 a0, .int .i64 a1] w fun e w' => e = .returned (.bool true) ∧ Below w.heap.size w w' := by
  go_enter Try.func10, Try.ntmps10
  go_wp2_with (first | (go_at_call 22; refine (specAll _ _ _).mono ?_; rintro e w1 ⟨rfl, rfl⟩) | (go_at_call 21; refine (implAll _ _ h1 _).mono ?_; rintro e w2 ⟨rfl, hB2⟩))
  go_ret
  exact ⟨rfl, hB2⟩
theorem exactCellT (a0 a1 a2 : Int) (w : World) (h2 : Fits a2) : Calls Try.prog 11 #[.int .i64 a0, .int .i64 a1, .int .i64 a2] w fun e w' => e = .returned (.bool true) ∧ Below w.heap.size w w' := by
  go_enter Try.func11, Try.ntmps11
  go_wp2_with (first | (go_at_call 26; refine (specCellT _ _ _ _).mono ?_; rintro e w1 ⟨rfl, rfl⟩) | (go_at_call 25; refine (implCellT _ _ _ h2 _).mono ?_; rintro e w2 ⟨rfl, hB2⟩))
  go_ret
  exact ⟨rfl, hB2⟩
theorem exactMost (a0 a1 : Int) (w : World) (h1 : Fits a1) : Calls Try.prog 12 #[.int .i64 a0, .int .i64 a1] w fun e w' => e = .returned (.bool true) ∧ Below w.heap.size w w' := by
  go_enter Try.func12, Try.ntmps12
  go_wp2_with (first | (go_at_call 32; refine (specMost _ _ _).mono ?_; rintro e w1 ⟨rfl, rfl⟩) | (go_at_call 31; refine (implMost _ _ h1 _).mono ?_; rintro e w2 ⟨rfl, hB2⟩))
  go_ret
  exact ⟨rfl, hB2⟩
end Go.Proofs.Ytmbmcignmofpoaa
