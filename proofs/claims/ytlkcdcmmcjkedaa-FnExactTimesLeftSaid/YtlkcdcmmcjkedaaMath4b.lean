/-
  Plain mathematics of what is left: small cells multiplied digit by digit; rows of what is left; rows multiplied number by number. Nothing of the program.
-/
import Derived.Test.YtlkcdcmmcjkedaaMath4
namespace Go.Proofs.Ytlkcdcmmcjkedaa
open Go.RowKit

/-- The cells of all pairs of digits, multiplied. -/
def prodL : List (Nat × Nat) → Nat
  | [] => 1
  | x :: l => bin x.1 x.2 * prodL l
theorem prodL_snoc : ∀ (p : List (Nat × Nat)) (x : Nat × Nat), prodL (p ++ [x]) = prodL p * bin x.1 x.2
  | [], x => by simp [prodL]
  | y :: p, x => by simp only [List.cons_append, prodL]; rw [prodL_snoc p x, Nat.mul_assoc]
theorem prodL_left {p : Nat} (h : prm p) (n k : Nat) : prodL (pairs p n k) % p = bin n k % p := by
  have hp := (prm_two h).1
  refine div_ind2 hp (p := fun n k => prodL (pairs p n k) % p = bin n k % p) ?_ (fun n k hnk ih => ?_) n k
  · rw [pairs_zero]; rfl
  · rw [pairs_pos hp hnk, lucas_div h]
    simp only [prodL]
    rw [Nat.mul_comm, Nat.mul_mod, ih, ← Nat.mul_mod]
theorem prodL_step {p : Nat} (pre : List (Nat × Nat)) (x : Nat × Nat) : prodL pre % p * (bin x.1 x.2 % p) % p = prodL (pre ++ [x]) % p := by
  rw [prodL_snoc, ← Nat.mul_mod]

/-- What is left of a row's first cells, and of the whole row. -/
def leftN (q n k : Nat) : Nat := bin n k % q
def rowLP (q n k : Nat) : List Int := (List.range k).map fun i => (leftN q n i : Int)
def rowLN (q n : Nat) : List Int := rowLP q n (n + 1)
/-- The row before row j: nothing before row 0. -/
def outL (q : Nat) : Nat → List Int
  | 0 => []
  | j + 1 => rowLN q j
theorem leftN_lt {q : Nat} (hq : 2 ≤ q) (n k : Nat) : leftN q n k < q := Nat.mod_lt _ (by omega)
theorem leftN_zero {q : Nat} (hq : 2 ≤ q) (n : Nat) : leftN q n 0 = 1 := by unfold leftN; rw [bin_zero, Nat.mod_eq_of_lt (by omega)]
theorem leftN_self {q : Nat} (hq : 2 ≤ q) (n : Nat) : leftN q n n = 1 := by unfold leftN; rw [bin_self, Nat.mod_eq_of_lt (by omega)]
theorem leftN_over (q n k : Nat) (h : n < k) : leftN q n k = 0 := by unfold leftN; rw [bin_over n k h, Nat.zero_mod]
theorem leftN_sum (q j k : Nat) (hk : 0 < k) (hj : k < j) : (leftN q (j - 1) (k - 1) + leftN q (j - 1) k) % q = leftN q j k := by
  unfold leftN; rw [← Nat.add_mod, bin_sum j k hk hj]
theorem rowLP_len (q n k : Nat) : (rowLP q n k).length = k := by simp [rowLP]
theorem rowLN_len (q n : Nat) : (rowLN q n).length = n + 1 := rowLP_len _ _ _
theorem outL_len (q j : Nat) : (outL q j).length = j := by cases j <;> simp [outL, rowLN_len]
theorem rowLP_snoc (q n k : Nat) : rowLP q n (k + 1) = rowLP q n k ++ [(leftN q n k : Int)] := by simp [rowLP, List.range_succ]
theorem rowLP_one {q : Nat} (hq : 2 ≤ q) (n : Nat) : rowLP q n 1 = [1] := by simp [rowLP, leftN_zero hq]
theorem rowLP_last {q : Nat} (hq : 2 ≤ q) (n : Nat) : rowLP q n n ++ [1] = rowLN q n := by unfold rowLN; rw [rowLP_snoc, leftN_self hq]; rfl
theorem rowLP_get (q n k i : Nat) (h : i < k) : (rowLP q n k)[i]? = some (leftN q n i : Int) := by
  simp [rowLP, h]
theorem rowLP_getD (q n k i : Nat) (h : i < k) : (rowLP q n k).getD i 0 = (leftN q n i : Int) := by
  rw [List.getD, rowLP_get q n k i h]; rfl
theorem outL_get (q j k : Nat) (h : k < j) : (outL q j)[k]? = some (leftN q (j - 1) k : Int) := by
  cases j with
  | zero => omega
  | succ j => exact rowLP_get q j (j + 1) k h
/-- Adding to each cell of row j the one before it, of which what is left is kept: row j + 1; the last cell was 0. -/
theorem left_turn (q j i n : Nat) (hi : i < n) : (if 0 < i ∧ i < n then leftN q j i + leftN q j (i - 1) else leftN q j i) % q = leftN q (j + 1) i := by
  unfold leftN
  cases i with
  | zero => rw [if_neg (by omega), bin_zero, bin_zero, Nat.mod_mod]
  | succ i => rw [if_pos ⟨by omega, hi⟩, ← Nat.add_mod, bin_succ, show i + 1 - 1 = i by omega, Nat.add_comm]

/-- Rows of a power of a prime leave their ends. -/
theorem strip_ends {p : Nat} (h : prm p) : ∀ (n k : Nat), 0 < k → k < n → strip p n = 1 → bin n k % p = 0 := by
  have hp := (prm_two h).1
  intro n
  induction n using Nat.strongRecOn with
  | _ n ih =>
    intro k hk hkn hs
    by_cases hz : n % p = 0
    · rw [strip_yes hp (by omega) hz] at hs
      rw [lucas_div h, hz]
      by_cases hk0 : k % p = 0
      · have h1 := div_pos_of_mod hk hk0
        have h2 := div_mod p n
        have h3 := div_mod p k
        have h4 : k / p < n / p := by
          rw [hz] at h2
          rw [hk0] at h3
          exact Nat.lt_of_mul_lt_mul_left (a := p) (by omega)
        have := ih (n / p) (Nat.div_lt_self (by omega) hp) (k / p) h1 h4 hs
        rw [Nat.mul_mod, this, Nat.zero_mul, Nat.zero_mod]
      · rw [bin_over 0 (k % p) (by omega), Nat.mul_zero, Nat.zero_mod]
    · rw [strip_no hz] at hs; omega

/-- The sums when the first k numbers of x have been multiplied with all of y, and number k with the first j. -/
def convI (x y : Nat → Nat) (k j t : Nat) : Nat := convU x y t k + (if k ≤ t ∧ t < k + j then x k * y (t - k) else 0)
theorem convI_zero (x y : Nat → Nat) (k t : Nat) : convI x y k 0 t = convU x y t k := by unfold convI; rw [if_neg (by omega), Nat.add_zero]
theorem convI_at (x y : Nat → Nat) (k j : Nat) : convI x y k (j + 1) (k + j) = convI x y k j (k + j) + x k * y j := by
  unfold convI; rw [if_pos (by omega), if_neg (by omega), show k + j - k = j by omega]; rfl
theorem convI_other (x y : Nat → Nat) (k j t : Nat) (h : t ≠ k + j) : convI x y k (j + 1) t = convI x y k j t := by
  unfold convI
  by_cases e : k ≤ t ∧ t < k + j
  · rw [if_pos e, if_pos (by omega)]
  · rw [if_neg e, if_neg (by omega)]
theorem convI_full {x y : Nat → Nat} {m : Nat} (hy : ∀ i, m ≤ i → y i = 0) (k t : Nat) : convI x y k m t = convI x y (k + 1) 0 t := by
  rw [convI_zero]
  unfold convI
  show _ = convU x y t k + (if k ≤ t then x k * y (t - k) else 0)
  by_cases e : k ≤ t
  · rw [if_pos e]
    by_cases e2 : t < k + m
    · rw [if_pos ⟨e, e2⟩]
    · rw [if_neg (by omega), hy _ (by omega), Nat.mul_zero]
  · rw [if_neg (by omega), if_neg e]
theorem convI_le {x y : Nat → Nat} {q : Nat} (hx : ∀ i, x i ≤ q) (hy : ∀ i, y i ≤ q) (k j t : Nat) : convI x y k j t ≤ (k + 1) * (q * q) := by
  have h1 := convU_le hx hy t k
  have h2 := Nat.mul_le_mul (hx k) (hy (t - k))
  unfold convI
  rw [Nat.add_mul, Nat.one_mul]
  split <;> omega
theorem convI_start (x y : Nat → Nat) (t : Nat) : convI x y 0 0 t = 0 := by rw [convI_zero]; rfl
theorem convI_end {x y : Nat → Nat} {n : Nat} (hx : ∀ i, n ≤ i → x i = 0) (t : Nat) : convI x y n 0 t = conv x y t := by rw [convI_zero, conv_of x y t hx]
end Go.Proofs.Ytlkcdcmmcjkedaa
