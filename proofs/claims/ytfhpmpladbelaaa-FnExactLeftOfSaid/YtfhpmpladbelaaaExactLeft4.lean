/-
  The walk of the law FnExactLeftOf: it answers true at every argument, and nothing that was there is written.
-/
import Derived.Test.YtfhpmpladbelaaaSpec4
import Derived.Test.YtfhpmpladbelaaaLeft4
namespace Go.Proofs.Ytfhpmpladbelaaa
open Go.RowKit

theorem exactLeft (a0 a1 a2 : Int) (w : World) (h2 : Fits a2) : Calls Try.prog 6 #[.int .i64 a0, .int .i64 a1, .int .i64 a2] w fun e w' => e = .returned (.bool true) ∧ Below w.heap.size w w' := by
  go_enter Try.func6, Try.ntmps6
  go_wp2_with (first | (go_at_call 11; refine (specLeft _ _ _ _).mono ?_; rintro e w1 ⟨rfl, hB1⟩) | (go_at_call 10; refine (implLeft _ _ _ h2 _).mono ?_; rintro e w2 ⟨rfl, hB2⟩))
  go_ret
  exact ⟨rfl, hB1.trans (hB2.mono hB1.size)⟩
end Go.Proofs.Ytfhpmpladbelaaa
