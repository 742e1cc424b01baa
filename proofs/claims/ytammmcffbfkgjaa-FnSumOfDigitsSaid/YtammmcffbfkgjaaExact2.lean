/-
  The walks of the laws FnExactSumOfDigits, FnExactCarriesOf, FnExactUnderOk and FnExactCountUnder: each answers true at every argument, and nothing that was there is written.
-/
import Derived.Test.YtammmcffbfkgjaaSpec2c
import Derived.Test.YtammmcffbfkgjaaImpl2c
import Derived.Test.YtammmcffbfkgjaaLawKit
namespace Go.Proofs.Ytammmcffbfkgjaa
open Go.RowKit

theorem exactSum (a0 a1 : Int) (w : World) : Calls Try.prog 9 #[.int .i64 a0, .int .i64 a1] w fun e w' => e = .returned (.bool true) ∧ Below w.heap.size w w' := by
  go_enter Try.func9, Try.ntmps9
  go_wp2_with (first | (go_at_call 20; refine (specSum _ _ _).mono ?_; rintro e w1 ⟨rfl, rfl⟩) | (go_at_call 19; refine (implSum _ _ _).mono ?_; rintro e w2 ⟨rfl, hB2⟩))
  go_ret
  exact ⟨rfl, hB2⟩
theorem exactCount (a0 a1 : Int) (w : World) : Calls Try.prog 12 #[.int .i64 a0, .int .i64 a1] w fun e w' => e = .returned (.bool true) ∧ Below w.heap.size w w' := by
  go_enter Try.func12, Try.ntmps12
  go_wp2_with (first | (go_at_call 29; refine (specCount _ _ _).mono ?_; rintro e w1 ⟨rfl, rfl⟩) | (go_at_call 28; refine (implCount _ _ _).mono ?_; rintro e w2 ⟨rfl, hB2⟩))
  go_ret
  exact ⟨rfl, hB2⟩
theorem exactCarries (a0 a1 a2 : Int) (w : World) : Calls Try.prog 10 #[.int .i64 a0, .int .i64 a1, .int .i64 a2] w fun e w' => e = .returned (.bool true) ∧ Below w.heap.size w w' := by
  go_enter Try.func10, Try.ntmps10
  go_wp2_with (first | (go_at_call 23; refine (specCarries _ _ _ _).mono ?_; rintro e w1 ⟨rfl, hB1⟩) | (go_at_call 22; refine (implCarries _ _ _ _).mono ?_; rintro e w2 ⟨rfl, hB2⟩))
  go_ret
  exact ⟨rfl, hB1.trans (hB2.mono hB1.size)⟩
theorem exactUnder (a0 a1 a2 : Int) (w : World) : Calls Try.prog 11 #[.int .i64 a0, .int .i64 a1, .int .i64 a2] w fun e w' => e = .returned (.bool true) ∧ Below w.heap.size w w' := by
  obtain ⟨v, hv⟩ : ∃ v, underV a0 a1 a2 = v := ⟨_, rfl⟩
  have hS := fun w => specUnder a0 a1 a2 w
  have hI := fun w => implUnder a0 a1 a2 w
  rw [hv] at hS hI
  clear hv
  cases v
  all_goals
    go_enter Try.func11, Try.ntmps11
    go_wp2_with (first | (go_at_call 26; refine (hS _).mono ?_; rintro e w1 ⟨rfl, hB1⟩) | (go_at_call 25; refine (hI _).mono ?_; rintro e w2 ⟨rfl, hB2⟩))
    go_ret
    exact ⟨rfl, hB1.trans (hB2.mono hB1.size)⟩
end Go.Proofs.Ytammmcffbfkgjaa
