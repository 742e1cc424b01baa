/-
  The draws of chapter 9: each hands back a row of at most thirteen numbers, and nothing that was there is written.
-/
import Derived.Test.YtmnmbelmcdfcjaaRows2
import Derived.Test.YtmnmbelmcdfcjaaOpen
import Derived.Test.YtmnmbelmcdfcjaaBlk
namespace Go.Proofs.Ytmnmbelmcdfcjaa
open Go.RowKit

theorem odd_any (W0 : World) (R len cap p : Nat) (a : Option Addr) (n : Int) (w : World) (hb : Bytes W0 a len) (h : Rd W0 R a len cap w p) (hp : p ≤ 900000) (hn : 0 < n) (hn2 : n ≤ 1000) :
    Calls Try.prog 51 #[.pointer (some ⟨R, 0, none⟩), .int .i64 n] w fun e w' => ∃ b, e = .returned (.bool b) ∧ Rd W0 R a len cap w' (p + 1) ∧ w.grownBy w' (some R) := by
  have hw1 : IntKind.i64.wrap (n - 1) = n - 1 := IntWalk.i64_in _ (by omega)
  go_enter Try.func51, Try.ntmps51
  go_wp2_with fail
  go_at_call 47
  refine (pick_in W0 R len cap _ a _ _ hb h (by omega)).mono ?_
  rintro e w2 ⟨k, rfl, _, _, _, hR2, hgr, _⟩
  go_wp2
  go_ret
  exact ⟨_, rfl, hR2, hgr⟩

/-- A row that was drawn. -/
def Side (w' : World) (e : Ending) : Prop := ∃ v xs, e = .returned v ∧ Ints w' v xs ∧ Lies v ∧ xs.length ≤ 13

end Go.Proofs.Ytmnmbelmcdfcjaa
