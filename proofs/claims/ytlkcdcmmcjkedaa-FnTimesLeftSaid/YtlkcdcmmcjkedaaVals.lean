/-
  The values of the functions of chapter 1 at every argument.
-/
import Derived.Test.YtlkcdcmmcjkedaaMath
namespace Go.Proofs.Ytlkcdcmmcjkedaa
open Go.RowKit

def cellV (row place : Int) : Int := if row < 0 ∨ 60 < row ∨ place < 0 then -1 else (bin row.toNat place.toNat : Int)
theorem cellV_bad {row place : Int} (h : row < 0 ∨ 60 < row ∨ place < 0) : cellV row place = -1 := by unfold cellV; rw [if_pos h]
theorem cellV_nat {r k : Nat} (h : r ≤ 60) : cellV r k = bin r k := by unfold cellV; rw [if_neg (by omega)]; simp

theorem ret_int {k : IntKind} {a b : Int} (h : a = b) : Ending.returned (.int k a) = .returned (.int k b) := by rw [h]
end Go.Proofs.Ytlkcdcmmcjkedaa
