/-
  Plain mathematics of the triangle: cells 'bin n k' by sums of the two above, rows, sums of slopes, heaps and turns. Nothing of the program.
-/
import Derived.WalkKit
namespace Go.Proofs.Ytlkcdcmmcjkedaa
open Go.RowKit

/-- A fact kept out of the walk's sight. -/
theorem hide {p : Prop} (h : p) : Hid p := h

/-- The cell of row n at place k: the sum of the two above. -/
def bin : Nat → Nat → Nat
  | _, 0 => 1
  | 0, _ + 1 => 0
  | n + 1, k + 1 => bin n k + bin n (k + 1)

theorem bin_zero (n : Nat) : bin n 0 = 1 := by cases n <;> rfl
theorem bin_succ (n k : Nat) : bin (n + 1) (k + 1) = bin n k + bin n (k + 1) := rfl
theorem bin_over : ∀ (n k : Nat), n < k → bin n k = 0
  | 0, k + 1, _ => rfl
  | n + 1, k + 1, h => by rw [bin_succ, bin_over n k (by omega), bin_over n (k + 1) (by omega)]
theorem bin_self : ∀ n : Nat, bin n n = 1
  | 0 => rfl
  | n + 1 => by rw [bin_succ, bin_self n, bin_over n (n + 1) (by omega)]
theorem bin_le : ∀ (n k : Nat), bin n k ≤ 2 ^ n
  | n, 0 => by rw [bin_zero]; exact Nat.one_le_two_pow
  | 0, k + 1 => by simp [bin]
  | n + 1, k + 1 => by rw [bin_succ]; have h1 := bin_le n k; have h2 := bin_le n (k + 1); rw [Nat.pow_succ]; omega
theorem bin_small (n k : Nat) (h : n ≤ 61) : bin n k ≤ 2305843009213693952 :=
  Nat.le_trans (bin_le n k) (Nat.le_trans (Nat.pow_le_pow_right (by omega) h) (by decide))

/-- The row n of the triangle. -/
def rowN (n : Nat) : List Int := (List.range (n + 1)).map fun k => (bin n k : Int)
/-- The first k cells of row n. -/
def rowP (n k : Nat) : List Int := (List.range k).map fun i => (bin n i : Int)
/-- What lies in the variable 'out' when j rows have been made. -/
def outSt : Nat → List Int
  | 0 => []
  | j + 1 => rowN j

theorem rowN_len (n : Nat) : (rowN n).length = n + 1 := by simp [rowN]
theorem rowP_len (n k : Nat) : (rowP n k).length = k := by simp [rowP]
theorem outSt_len (j : Nat) : (outSt j).length = j := by cases j <;> simp [outSt, rowN]
theorem rowP_snoc (n k : Nat) : rowP n (k + 1) = rowP n k ++ [(bin n k : Int)] := by simp [rowP, List.range_succ]
theorem rowP_full (n : Nat) : rowP n (n + 1) = rowN n := rfl
theorem rowP_one (n : Nat) : rowP n 1 = [1] := by simp [rowP, bin_zero]
theorem rowP_last (n : Nat) : rowP n n ++ [1] = rowN n := by rw [← rowP_full, rowP_snoc, bin_self]; rfl
theorem outSt_get (j k : Nat) (h : k < j) : (outSt j)[k]? = some (bin (j - 1) k : Int) := by
  cases j with
  | zero => omega
  | succ j => simp only [outSt, rowN]; rw [List.getElem?_map, List.getElem?_range (by omega)]; rfl
theorem bin_sum (j k : Nat) (hk : 0 < k) (hj : k < j) : bin (j - 1) (k - 1) + bin (j - 1) k = bin j k := by
  cases j with
  | zero => omega
  | succ j => cases k with
    | zero => omega
    | succ k => rw [bin_succ]; rfl

/-- One way for the rest: so many things of the first heap, the others of the second one. -/
def vterm (a b c k : Nat) : Nat := if k ≤ c then bin a k * bin b (c - k) else 0
/-- The first n of these, added. -/
def vs (a b c : Nat) : Nat → Nat
  | 0 => 0
  | n + 1 => vs a b c n + vterm a b c n
theorem vs_stable (a b c m : Nat) (h : ∀ k, m ≤ k → vterm a b c k = 0) : ∀ n, m ≤ n → vs a b c n = vs a b c m
  | 0, hn => by obtain rfl : m = 0 := by omega
                rfl
  | n + 1, hn => by
    by_cases e : m = n + 1
    · rw [e]
    · show vs a b c n + vterm a b c n = _
      rw [vs_stable a b c m h n (by omega), h n (by omega)]; rfl
theorem vterm_over (a b c k : Nat) (h : a < k ∨ c < k) : vterm a b c k = 0 := by
  unfold vterm
  split
  · rcases h with h | h
    · rw [bin_over a k h, Nat.zero_mul]
    · omega
  · rfl
theorem vs_same (a b c : Nat) : vs a b c (a + 1) = vs a b c (c + 1) := by
  rcases Nat.le_total a c with h | h
  · exact (vs_stable a b c (a + 1) (fun k hk => vterm_over _ _ _ _ (.inl (by omega))) (c + 1) (by omega)).symm
  · exact vs_stable a b c (c + 1) (fun k hk => vterm_over _ _ _ _ (.inr (by omega))) (a + 1) (by omega)
theorem vs_step (a b c : Nat) : ∀ n, vs (a + 1) b (c + 1) (n + 1) = vs a b (c + 1) (n + 1) + vs a b c n
  | 0 => by simp [vs, vterm, bin_zero]
  | n + 1 => by
    show vs (a + 1) b (c + 1) (n + 1) + vterm (a + 1) b (c + 1) (n + 1) = vs a b (c + 1) (n + 1) + vterm a b (c + 1) (n + 1) + (vs a b c n + vterm a b c n)
    rw [vs_step a b c n]
    have : vterm (a + 1) b (c + 1) (n + 1) = vterm a b (c + 1) (n + 1) + vterm a b c n := by
      unfold vterm
      by_cases h : n ≤ c
      · rw [if_pos (by omega), if_pos (by omega), if_pos h, bin_succ, show c + 1 - (n + 1) = c - n by omega, Nat.add_mul]; omega
      · rw [if_neg (by omega), if_neg (by omega), if_neg h]
    omega
/-- Two heaps are one. -/
theorem heaps : ∀ (a b c : Nat), vs a b c (c + 1) = bin (a + b) c
  | 0, b, c => by
    rw [vs_stable 0 b c 1 (fun k hk => vterm_over _ _ _ _ (.inl (by omega))) (c + 1) (by omega)]
    simp [vs, vterm, bin_zero]
  | a + 1, b, 0 => by simp [vs, vterm, bin_zero]
  | a + 1, b, c + 1 => by
    rw [vs_step, heaps a b (c + 1), heaps a b c, show a + 1 + b = (a + b) + 1 by omega, bin_succ]; omega
theorem vs_mono (a b c : Nat) : ∀ m n, m ≤ n → vs a b c m ≤ vs a b c n
  | m, 0, h => by obtain rfl : m = 0 := by omega
                  exact Nat.le_refl _
  | m, n + 1, h => by
    by_cases e : m = n + 1
    · rw [e]; exact Nat.le_refl _
    · exact Nat.le_trans (vs_mono a b c m n (by omega)) (Nat.le_add_right _ _)
theorem vs_le (a b c n : Nat) : vs a b c n ≤ bin (a + b) c := by
  rcases Nat.le_total n (c + 1) with h | h
  · rw [← heaps]; exact vs_mono _ _ _ _ _ h
  · rw [vs_stable a b c (c + 1) (fun k hk => vterm_over _ _ _ _ (.inr (by omega))) n h, heaps]; exact Nat.le_refl _
theorem vs_small (a b c n : Nat) (ha : a ≤ 30) (hb : b ≤ 30) : vs a b c n ≤ 2305843009213693952 := Nat.le_trans (vs_le a b c n) (bin_small _ _ (by omega))
theorem prod_small (a b k m : Nat) (ha : a ≤ 30) (hb : b ≤ 30) : bin a k * bin b m ≤ 1152921504606846976 := by
  have h1 : bin a k ≤ 2 ^ 30 := Nat.le_trans (bin_le a k) (Nat.pow_le_pow_right (by omega) ha)
  have h2 : bin b m ≤ 2 ^ 30 := Nat.le_trans (bin_le b m) (Nat.pow_le_pow_right (by omega) hb)
  exact Nat.le_trans (Nat.mul_le_mul h1 h2) (by decide)

/-- The sign of a place. -/
def sg (k : Nat) : Int := if k % 2 = 0 then 1 else -1
theorem sg_succ (k : Nat) : sg (k + 1) = - sg k := by unfold sg; split <;> split <;> omega
theorem sg_even {k : Nat} (h : k % 2 = 0) : sg k = 1 := if_pos h
theorem sg_odd {k : Nat} (h : ¬ k % 2 = 0) : sg k = -1 := if_neg h
/-- The first k cells of row r with signs that take turns, added. -/
def ts (r : Nat) : Nat → Int
  | 0 => 0
  | k + 1 => ts r k + sg k * bin r k
theorem ts_succ (r : Nat) : ∀ k, ts (r + 1) (k + 1) = sg k * bin r k
  | 0 => by simp [ts, bin_zero]
  | k + 1 => by
    show ts (r + 1) (k + 1) + sg (k + 1) * bin (r + 1) (k + 1) = _
    rw [ts_succ r k, bin_succ, sg_succ]
    rw [Int.natCast_add, Int.mul_add, Int.neg_mul, Int.neg_mul]; omega
theorem ts_zero : ∀ k, ts 0 (k + 1) = 1
  | 0 => by simp [ts, sg, bin_zero]
  | k + 1 => by
    show ts 0 (k + 1) + sg (k + 1) * bin 0 (k + 1) = _
    rw [ts_zero k, bin_over 0 (k + 1) (by omega)]; simp
theorem ts_small (r k : Nat) (h : r ≤ 60) : -2305843009213693952 ≤ ts r k ∧ ts r k ≤ 2305843009213693952 := by
  cases k with
  | zero => simp [ts]
  | succ k => cases r with
    | zero => rw [ts_zero]; omega
    | succ r =>
      rw [ts_succ]
      have := bin_small r k (by omega)
      unfold sg
      split <;> omega

/-- A cell times its place is the row times the cell before in the row before. -/
theorem absorb : ∀ (n k : Nat), bin (n + 1) (k + 1) * (k + 1) = (n + 1) * bin n k
  | 0, 0 => rfl
  | 0, k + 1 => by rw [bin_over (0 + 1) (k + 1 + 1) (by omega), bin_over 0 (k + 1) (by omega)]; simp
  | m + 1, 0 => by
    have h := absorb m 0
    rw [bin_zero] at *
    rw [bin_succ, bin_zero]; omega
  | m + 1, j + 1 => by
    have h1 := absorb m (j + 1)
    have h2 := absorb m j
    rw [bin_succ (m + 1) (j + 1), Nat.add_mul, h1]
    have h3 : bin (m + 1) (j + 1) * (j + 1 + 1) = bin (m + 1) (j + 1) * (j + 1) + bin (m + 1) (j + 1) := by rw [Nat.mul_add, Nat.mul_one]
    rw [h3, h2]
    have h4 : (m + 1 + 1) * bin (m + 1) (j + 1) = (m + 1) * bin (m + 1) (j + 1) + bin (m + 1) (j + 1) := by rw [Nat.add_mul, Nat.one_mul]
    have h5 : (m + 1) * bin (m + 1) (j + 1) = (m + 1) * bin m j + (m + 1) * bin m (j + 1) := by rw [bin_succ m j, Nat.mul_add]
    omega
/-- Rows look the same from both ends. -/
theorem bin_ends : ∀ (n a b : Nat), a + b = n → bin n a = bin n b
  | 0, a, b, h => by obtain rfl : a = 0 := by omega
                     obtain rfl : b = 0 := by omega
                     rfl
  | n + 1, 0, b, h => by obtain rfl : b = n + 1 := by omega
                         rw [bin_zero, bin_self]
  | n + 1, a + 1, 0, h => by obtain rfl : a = n := by omega
                             rw [bin_zero, bin_self]
  | n + 1, a + 1, b + 1, h => by
    rw [bin_succ, bin_succ, bin_ends n a (b + 1) (by omega), bin_ends n (a + 1) b (by omega)]; omega
/-- The first k cells of row n together. -/
def psum (n : Nat) : Nat → Nat
  | 0 => 0
  | k + 1 => psum n k + bin n k
theorem psum_step (n : Nat) : ∀ k, psum (n + 1) (k + 1) = psum n (k + 1) + psum n k
  | 0 => by simp [psum, bin_zero]
  | k + 1 => by
    show psum (n + 1) (k + 1) + bin (n + 1) (k + 1) = psum n (k + 1) + bin n (k + 1) + (psum n k + bin n k)
    rw [psum_step n k, bin_succ]; omega
theorem psum_row : ∀ n, psum n (n + 1) = 2 ^ n
  | 0 => rfl
  | n + 1 => by
    rw [psum_step, show psum n (n + 1 + 1) = psum n (n + 1) + bin n (n + 1) from rfl, bin_over n (n + 1) (by omega), psum_row n, Nat.pow_succ]; omega
theorem psum_mono (n : Nat) : ∀ j k, j ≤ k → psum n j ≤ psum n k
  | j, 0, h => by obtain rfl : j = 0 := by omega
                  exact Nat.le_refl _
  | j, k + 1, h => by
    by_cases e : j = k + 1
    · rw [e]; exact Nat.le_refl _
    · exact Nat.le_trans (psum_mono n j k (by omega)) (Nat.le_add_right _ _)
theorem psum_small (n k : Nat) (h : n ≤ 60) (hk : k ≤ n + 1) : psum n k ≤ 1152921504606846976 :=
  Nat.le_trans (psum_mono n k (n + 1) hk) (by rw [psum_row]; exact Nat.le_trans (Nat.pow_le_pow_right (by omega) h) (by decide))
end Go.Proofs.Ytlkcdcmmcjkedaa
