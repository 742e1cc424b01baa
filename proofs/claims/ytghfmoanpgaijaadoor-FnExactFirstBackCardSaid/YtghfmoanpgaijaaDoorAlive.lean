/-
  The contract of the laws' own helper alive.
-/
import Derived.Test.YtghfmoanpgaijaaDoorImplCell
namespace Go.Proofs.YtghfmoanpgaijaaDoor
open Go.RowKit

theorem alive_in (w : World) : Calls Tryd.prog 13 #[] w fun e w' => e = .returned (.bool true) ∧ Below w.heap.size w w' := by
  have h1 := hide (show cellV 4 2 = 6 by decide)
  have h2 := hide (show cellV (-1) 0 = -1 by decide)
  go_enter Tryd.func13, Tryd.ntmps13
  go_wp2_with (first | (go_at_call 29; (with_reducible refine (implCell 4 2 _).mono ?_); rw [h1.out]; rintro e w1 ⟨rfl, hB1⟩) | (go_at_call 29; (with_reducible refine (implCell (-1) 0 _).mono ?_); rw [h2.out]; rintro e w2 ⟨rfl, hB2⟩))
  go_ret
  exact ⟨rfl, hB1.trans (hB2.mono hB1.size)⟩
end Go.Proofs.YtghfmoanpgaijaaDoor
