/-
  The model's DigitsOf, SumOfDigits, CarriesOf, UnderOk and CountUnder: for every argument what they hand back.
-/
import Derived.Test.YtmnmbelmcdfcjaaBase
import Derived.Test.YtmnmbelmcdfcjaaMathZ
import Derived.Test.YtmnmbelmcdfcjaaRowAt
import Derived.BigQuiet
namespace Go.Proofs.Ytmnmbelmcdfcjaa
open Go.RowKit

theorem tmod_nat' (n b : Nat) : Int.tmod (n : Int) (b : Int) = ((n % b : Nat) : Int) := by rw [Int.tmod_eq_emod_of_nonneg (by omega)]; rfl
theorem tdiv_nat' (n b : Nat) : Int.tdiv (n : Int) (b : Int) = ((n / b : Nat) : Int) := by rw [Int.tdiv_eq_ediv_of_nonneg (by omega)]; rfl

/-- l1In at any number. -/
theorem l1In_d (n lo hi : Int) (w : World) : Calls Try.prog 42 #[.int .i64 n, .int .i64 lo, .int .i64 hi] w fun e w' => e = .returned (.bool (decide (lo ≤ n ∧ n ≤ hi))) ∧ w = w' := by
  by_cases h : lo ≤ n ∧ n ≤ hi
  · rw [show decide (lo ≤ n ∧ n ≤ hi) = true by simpa using h]; exact l1In_t n lo hi w h.1 h.2
  · rw [show decide (lo ≤ n ∧ n ≤ hi) = false by simpa using h]; exact l1In_f n lo hi w (by omega)

end Go.Proofs.Ytmnmbelmcdfcjaa
