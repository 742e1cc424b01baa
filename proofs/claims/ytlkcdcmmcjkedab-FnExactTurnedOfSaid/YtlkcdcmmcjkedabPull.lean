/-
  What is left of a number when its lower digits have been pulled: more and pull; baseOk.
-/
import Derived.Test.YtlkcdcmmcjkedabRowAt
import Derived.Test.YtlkcdcmmcjkedabMathZ
import Derived.Deep.QuietTactic
import Derived.BigQuiet
namespace Go.Proofs.Ytlkcdcmmcjkedab
open Go.RowKit

theorem tmod_nat (n b : Nat) : Int.tmod (n : Int) (b : Int) = ((n % b : Nat) : Int) := by rw [Int.tmod_eq_emod_of_nonneg (by omega)]; rfl
theorem tdiv_nat (n b : Nat) : Int.tdiv (n : Int) (b : Int) = ((n / b : Nat) : Int) := by rw [Int.tdiv_eq_ediv_of_nonneg (by omega)]; rfl

end Go.Proofs.Ytlkcdcmmcjkedab
