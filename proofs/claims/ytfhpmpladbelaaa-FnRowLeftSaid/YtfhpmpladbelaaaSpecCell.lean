/-
  The model's CellOf and SlopeOf: for every argument what they hand back.
-/
import Derived.Test.YtfhpmpladbelaaaBase
import Derived.Test.YtfhpmpladbelaaaVals
import Derived.Test.YtfhpmpladbelaaaSpecRow
namespace Go.Proofs.Ytfhpmpladbelaaa
open Go.RowKit

set_option maxHeartbeats 400000 in
theorem specRow_out (row : Int) (h : row < 0 ∨ 60 < row) (w : World) : Calls Try.prog 18 #[.int .i64 row] w fun e w' =>
    ∃ v, e = .returned v ∧ w'.ownsRow w.heap.size 3 1 v 0 [] ∧ Below w.heap.size w w' := by
  by_cases h0 : 0 ≤ row
  · have h6 : ¬ row ≤ 60 := by omega
    clear h
    go_enter Try.func18, Try.ntmps18
    go_wp2
    refine wp_loop_rounds 1 ?_
    rw [rounds_succ]
    go_wp2
    go_ret
    exact ⟨_, rfl, World.ownsRow_made _ _ _ (Nat.le_refl _) (by decide) rfl, (Below.refl _ _).alloc (Nat.le_refl _) _⟩
  · clear h
    go_enter Try.func18, Try.ntmps18
    go_wp2
    refine wp_loop_rounds 1 ?_
    rw [rounds_succ]
    go_wp2
    go_ret
    exact ⟨_, rfl, World.ownsRow_made _ _ _ (Nat.le_refl _) (by decide) rfl, (Below.refl _ _).alloc (Nat.le_refl _) _⟩

end Go.Proofs.Ytfhpmpladbelaaa
