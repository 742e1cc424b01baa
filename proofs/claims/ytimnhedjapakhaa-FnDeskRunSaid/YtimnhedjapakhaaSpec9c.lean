/-
  The model's CountBalanced: for every number what it hands back.
-/
import Derived.Test.YtimnhedjapakhaaMathZ
import Derived.Test.YtimnhedjapakhaaBaseZ
import Derived.Test.YtimnhedjapakhaaSpecZ
namespace Go.Proofs.Ytimnhedjapakhaa
open Go.RowKit

theorem and_i64 (a b : Nat) (ha : a < 4294967296) (hb : b < 4294967296) : bits .and .i64 (a : Int) (b : Int) = ((a &&& b : Nat) : Int) := by
  have hx : a &&& b < 2 ^ 32 := Nat.and_lt_two_pow a (by omega)
  have h1 : (BitVec.ofInt 64 (a : Int)).toNat = a := by
    rw [BitVec.ofInt_natCast, BitVec.toNat_ofNat]; exact Nat.mod_eq_of_lt (by omega)
  have h2 : (BitVec.ofInt 64 (b : Int)).toNat = b := by
    rw [BitVec.ofInt_natCast, BitVec.toNat_ofNat]; exact Nat.mod_eq_of_lt (by omega)
  show IntKind.i64.wrap ((BitVec.ofInt 64 (a : Int) &&& BitVec.ofInt 64 (b : Int)).toNat : Int) = _
  rw [BitVec.toNat_and, h1, h2]
  exact IntWalk.i64_in _ (by omega)
theorem pop_le (N : Nat) : ∀ k, pop N k ≤ k
  | 0 => Nat.le_refl _
  | k + 1 => by have := pop_le N k; simp only [pop]; omega

end Go.Proofs.Ytimnhedjapakhaa
