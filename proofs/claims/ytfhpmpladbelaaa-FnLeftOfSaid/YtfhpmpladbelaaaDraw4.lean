/-
  The draw of the law on LeftOf: three numbers, and nothing that was there is written.
-/
import Derived.Test.YtfhpmpladbelaaaDraw3
namespace Go.Proofs.Ytfhpmpladbelaaa
open Go.RowKit

set_option maxHeartbeats 1000000 in
theorem drawLeft (w : World) (a : Option Addr) (len cap : Nat) (zs : List Int) (h : IsRow .u8 w a len cap zs) : Calls Try.prog 9 #[.slice a len cap] w fun e w' => Int3 e ∧ Below w.heap.size w w' := by
  go_enter Try.func9, Try.ntmps9
  go_wp2_with fail
  go_at_call 27
  refine (open_in w a len cap zs h).mono ?_
  rintro e w1 ⟨R, n, c, rfl, hb, hR⟩
  go_wp2_with fail
  go_at_call 28
  refine (l20Cell_in w R n c _ a _ hb hR (by omega)).mono ?_
  rintro e w2 ⟨⟨x, y, hx, hy, rfl⟩, q, hq, hR2⟩
  go_wp2_with fail
  go_at_call 29
  refine (l20Prime_in w R n c _ a _ hb hR2 (by omega)).mono ?_
  rintro e w3 ⟨⟨z, hz, rfl⟩, hR3, _⟩
  go_wp2
  go_ret3
  exact ⟨⟨_, _, _, hx, hy, hz, rfl⟩, hR3.1⟩
end Go.Proofs.Ytfhpmpladbelaaa
