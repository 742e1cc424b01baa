/-
  Plain mathematics of the triangle: cells 'bin n k' by sums of the two above, rows, sums of slopes, heaps and turns. Nothing of the program.
-/
import Derived.WalkKit
namespace Go.Proofs.Ytmnmbelmcdfcjaa
open Go.RowKit

/-- A fact kept out of the walk's sight. -/
theorem hide {p : Prop} (h : p) : Hid p := h

/-- The cell of row n at place k: the sum of the two above. -/
def bin : Nat → Nat → Nat
  | _, 0 => 1
  | 0, _ + 1 => 0
  | n + 1, k + 1 => bin n k + bin n (k + 1)

theorem bin_zero (n : Nat) : bin n 0 = 1 := by cases n <;> rfl
theorem bin_succ (n k : Nat) : bin (n + 1) (k + 1) = bin n k + bin n (k + 1) := rfl
theorem bin_over : ∀ (n k : Nat), n < k → bin n k = 0
  | 0, k + 1, _ => rfl
  | n + 1, k + 1, h => by rw [bin_succ, bin_over n k (by omega), bin_over n (k + 1) (by omega)]
theorem bin_self : ∀ n : Nat, bin n n = 1
  | 0 => rfl
  | n + 1 => by rw [bin_succ, bin_self n, bin_over n (n + 1) (by omega)]
theorem bin_le : ∀ (n k : Nat), bin n k ≤ 2 ^ n
  | n, 0 => by rw [bin_zero]; exact Nat.one_le_two_pow
  | 0, k + 1 => by simp [bin]
  | n + 1, k + 1 => by rw [bin_succ]; have h1 := bin_le n k; have h2 := bin_le n (k + 1); rw [Nat.pow_succ]; omega
theorem bin_small (n k : Nat) (h : n ≤ 61) : bin n k ≤ 2305843009213693952 :=
  Nat.le_trans (bin_le n k) (Nat.le_trans (Nat.pow_le_pow_right (by omega) h) (by decide))

/-- The row n of the triangle. -/
def rowN (n : Nat) : List Int := (List.range (n + 1)).map fun k => (bin n k : Int)
/-- The first k cells of row n. -/
def rowP (n k : Nat) : List Int := (List.range k).map fun i => (bin n i : Int)
/-- What lies in the variable 'out' when j rows have been made. -/
def outSt : Nat → List Int
  | 0 => []
  | j + 1 => rowN j

theorem rowN_len (n : Nat) : (rowN n).length = n + 1 := by simp [rowN]
theorem rowP_len (n k : Nat) : (rowP n k).length = k := by simp [rowP]
theorem outSt_len (j : Nat) : (outSt j).length = j := by cases j <;> simp [outSt, rowN]
theorem rowP_snoc (n k : Nat) : rowP n (k + 1) = rowP n k ++ [(bin n k : Int)] := by simp [rowP, List.range_succ]
theorem rowP_full (n : Nat) : rowP n (n + 1) = rowN n := rfl
theorem rowP_one (n : Nat) : rowP n 1 = [1] := by simp [rowP, bin_zero]
theorem rowP_last (n : Nat) : rowP n n ++ [1] = rowN n := by rw [← rowP_full, rowP_snoc, bin_self]; rfl
theorem outSt_get (j k : Nat) (h : k < j) : (outSt j)[k]? = some (bin (j - 1) k : Int) := by
  cases j with
  | zero => omega
  | succ j => simp only [outSt, rowN]; rw [List.getElem?_map, List.getElem?_range (by omega)]; rfl
theorem bin_sum (j k : Nat) (hk : 0 < k) (hj : k < j) : bin (j - 1) (k - 1) + bin (j - 1) k = bin j k := by
  cases j with
  | zero => omega
  | succ j => cases k with
    | zero => omega
    | succ k => rw [bin_succ]; rfl

/-- One way for the rest: so many things of the first heap, the others of the second one. -/
def vterm (a b c k : Nat) : Nat := if k ≤ c then bin a k * bin b (c - k) else 0
/-- The first n of these, added. -/
def vs (a b c : Nat) : Nat → Nat
  | 0 => 0
  | n + 1 => vs a b c n + vterm a b c n
theorem vs_stable (a b c m : Nat) (h : ∀ k, m ≤ k → vterm a b c k = 0) : ∀ n, m ≤ n → vs a b c n = vs a b c m
  | 0, hn => by obtain rfl : m = 0 := by omega
                rfl
  | n + 1, hn => by
    by_cases e : m = n + 1
    · rw [e]
    · show vs a b c n + vterm a b c n = _
      rw [vs_stable a b c m h n (by omega), h n (by omega)]; rfl
theorem vterm_over (a b c k : Nat) (h : a < k ∨ c < k) : vterm a b c k = 0 := by
  unfold vterm
  split
  · rcases h with h | h
    · rw [bin_over a k h, Nat.zero_mul]
    · omega
  · rfl
theorem vs_same (a b c : Nat) : vs a b c (a + 1) = vs a b c (c + 1) := by
  rcases Nat.le_total a c with h | h
  · exact (vs_stable a b c (a + 1) (fun k hk => vterm_over _ _ _ _ (.inl (by omega))) (c + 1) (by omega)).symm
  · exact vs_stable a b c (c + 1) (fun k hk => vterm_over _ _ _ _ (.inr (by omega))) (a + 1) (by omega)
theorem vs_step (a b c : Nat) : ∀ n, vs (a + 1) b (c + 1) (n + 1) = vs a b (c + 1) (n + 1) + vs a b c n
  | 0 => by simp [vs, vterm, bin_zero]
  | n + 1 => by
    show vs (a + 1) b (c + 1) (n + 1) + vterm (a + 1) b (c + 1) (n + 1) = vs a b (c + 1) (n + 1) + vterm a b (c + 1) (n + 1) + (vs a b c n + vterm a b c n)
    rw [vs_step a b c n]
    have : vterm (a + 1) b (c + 1) (n + 1) = vterm a b (c + 1) (n + 1) + vterm a b c n := by
      unfold vterm
      by_cases h : n ≤ c
      · rw [if_pos (by omega), if_pos (by omega), if_pos h, bin_succ, show c + 1 - (n + 1) = c - n by omega, Nat.add_mul]; omega
      · rw [if_neg (by omega), if_neg (by omega), if_neg h]
    omega
/-- Two heaps are one. -/
theorem heaps : ∀ (a b c : Nat), vs a b c (c + 1) = bin (a + b) c
  | 0, b, c => by
    rw [vs_stable 0 b c 1 (fun k hk => vterm_over _ _ _ _ (.inl (by omega))) (c + 1) (by omega)]
    simp [vs, vterm, bin_zero]
  | a + 1, b, 0 => by simp [vs, vterm, bin_zero]
  | a + 1, b, c + 1 => by
    rw [vs_step, heaps a b (c + 1), heaps a b c, show a + 1 + b = (a + b) + 1 by omega, bin_succ]; omega
theorem vs_mono (a b c : Nat) : ∀ m n, m ≤ n → vs a b c m ≤ vs a b c n
  | m, 0, h => by obtain rfl : m = 0 := by omega
                  exact Nat.le_refl _
  | m, n + 1, h => by
    by_cases e : m = n + 1
    · rw [e]; exact Nat.le_refl _
    · exact Nat.le_trans (vs_mono a b c m n (by omega)) (Nat.le_add_right _ _)
theorem vs_le (a b c n : Nat) : vs a b c n ≤ bin (a + b) c := by
  rcases Nat.le_total n (c + 1) with h | h
  · rw [← heaps]; exact vs_mono _ _ _ _ _ h
  · rw [vs_stable a b c (c + 1) (fun k hk => vterm_over _ _ _ _ (.inr (by omega))) n h, heaps]; exact Nat.le_refl _
theorem vs_small (a b c n : Nat) (ha : a ≤ 30) (hb : b ≤ 30) : vs a b c n ≤ 2305843009213693952 := Nat.le_trans (vs_le a b c n) (bin_small _ _ (by omega))
theorem prod_small (a b k m : Nat) (ha : a ≤ 30) (hb : b ≤ 30) : bin a k * bin b m ≤ 1152921504606846976 := by
  have h1 : bin a k ≤ 2 ^ 30 := Nat.le_trans (bin_le a k) (Nat.pow_le_pow_right (by omega) ha)
  have h2 : bin b m ≤ 2 ^ 30 := Nat.le_trans (bin_le b m) (Nat.pow_le_pow_right (by omega) hb)
  exact Nat.le_trans (Nat.mul_le_mul h1 h2) (by decide)

/-- The sign of a place. -/
def sg (k : Nat) : Int := if k % 2 = 0 then 1 else -1
theorem sg_succ (k : Nat) : sg (k + 1) = - sg k := by unfold sg; split <;> split <;> omega
theorem sg_even {k : Nat} (h : k % 2 = 0) : sg k = 1 := if_pos h
theorem sg_odd {k : Nat} (h : ¬ k % 2 = 0) : sg k = -1 := if_neg h
/-- The first k cells of row r with signs that take turns, added. -/
def ts (r : Nat) : Nat → Int
  | 0 => 0
  | k + 1 => ts r k + sg k * bin r k
theorem ts_succ (r : Nat) : ∀ k, ts (r + 1) (k + 1) = sg k * bin r k
  | 0 => by simp [ts, bin_zero]
  | k + 1 => by
    show ts (r + 1) (k + 1) + sg (k + 1) * bin (r + 1) (k + 1) = _
    rw [ts_succ r k, bin_succ, sg_succ]
    rw [Int.natCast_add, Int.mul_add, Int.neg_mul, Int.neg_mul]; omega
theorem ts_zero : ∀ k, ts 0 (k + 1) = 1
  | 0 => by simp [ts, sg, bin_zero]
  | k + 1 => by
    show ts 0 (k + 1) + sg (k + 1) * bin 0 (k + 1) = _
    rw [ts_zero k, bin_over 0 (k + 1) (by omega)]; simp
theorem ts_small (r k : Nat) (h : r ≤ 60) : -2305843009213693952 ≤ ts r k ∧ ts r k ≤ 2305843009213693952 := by
  cases k with
  | zero => simp [ts]
  | succ k => cases r with
    | zero => rw [ts_zero]; omega
    | succ r =>
      rw [ts_succ]
      have := bin_small r k (by omega)
      unfold sg
      split <;> omega

/-- A cell times its place is the row times the cell before in the row before. -/
theorem absorb : ∀ (n k : Nat), bin (n + 1) (k + 1) * (k + 1) = (n + 1) * bin n k
  | 0, 0 => rfl
  | 0, k + 1 => by rw [bin_over (0 + 1) (k + 1 + 1) (by omega), bin_over 0 (k + 1) (by omega)]; simp
  | m + 1, 0 => by
    have h := absorb m 0
    rw [bin_zero] at *
    rw [bin_succ, bin_zero]; omega
  | m + 1, j + 1 => by
    have h1 := absorb m (j + 1)
    have h2 := absorb m j
    rw [bin_succ (m + 1) (j + 1), Nat.add_mul, h1]
    have h3 : bin (m + 1) (j + 1) * (j + 1 + 1) = bin (m + 1) (j + 1) * (j + 1) + bin (m + 1) (j + 1) := by rw [Nat.mul_add, Nat.mul_one]
    rw [h3, h2]
    have h4 : (m + 1 + 1) * bin (m + 1) (j + 1) = (m + 1) * bin (m + 1) (j + 1) + bin (m + 1) (j + 1) := by rw [Nat.add_mul, Nat.one_mul]
    have h5 : (m + 1) * bin (m + 1) (j + 1) = (m + 1) * bin m j + (m + 1) * bin m (j + 1) := by rw [bin_succ m j, Nat.mul_add]
    omega
/-- Rows look the same from both ends. -/
theorem bin_ends : ∀ (n a b : Nat), a + b = n → bin n a = bin n b
  | 0, a, b, h => by obtain rfl : a = 0 := by omega
                     obtain rfl : b = 0 := by omega
                     rfl
  | n + 1, 0, b, h => by obtain rfl : b = n + 1 := by omega
                         rw [bin_zero, bin_self]
  | n + 1, a + 1, 0, h => by obtain rfl : a = n := by omega
                             rw [bin_zero, bin_self]
  | n + 1, a + 1, b + 1, h => by
    rw [bin_succ, bin_succ, bin_ends n a (b + 1) (by omega), bin_ends n (a + 1) b (by omega)]; omega
/-- The first k cells of row n together. -/
def psum (n : Nat) : Nat → Nat
  | 0 => 0
  | k + 1 => psum n k + bin n k
theorem psum_step (n : Nat) : ∀ k, psum (n + 1) (k + 1) = psum n (k + 1) + psum n k
  | 0 => by simp [psum, bin_zero]
  | k + 1 => by
    show psum (n + 1) (k + 1) + bin (n + 1) (k + 1) = psum n (k + 1) + bin n (k + 1) + (psum n k + bin n k)
    rw [psum_step n k, bin_succ]; omega
theorem psum_row : ∀ n, psum n (n + 1) = 2 ^ n
  | 0 => rfl
  | n + 1 => by
    rw [psum_step, show psum n (n + 1 + 1) = psum n (n + 1) + bin n (n + 1) from rfl, bin_over n (n + 1) (by omega), psum_row n, Nat.pow_succ]; omega
theorem psum_mono (n : Nat) : ∀ j k, j ≤ k → psum n j ≤ psum n k
  | j, 0, h => by obtain rfl : j = 0 := by omega
                  exact Nat.le_refl _
  | j, k + 1, h => by
    by_cases e : j = k + 1
    · rw [e]; exact Nat.le_refl _
    · exact Nat.le_trans (psum_mono n j k (by omega)) (Nat.le_add_right _ _)
theorem psum_small (n k : Nat) (h : n ≤ 60) (hk : k ≤ n + 1) : psum n k ≤ 1152921504606846976 :=
  Nat.le_trans (psum_mono n k (n + 1) hk) (by rw [psum_row]; exact Nat.le_trans (Nat.pow_le_pow_right (by omega) h) (by decide))
end Go.Proofs.Ytmnmbelmcdfcjaa
/-
  The values of the functions of chapter 1 at every argument.
-/
namespace Go.Proofs.Ytmnmbelmcdfcjaa
open Go.RowKit

def cellV (row place : Int) : Int := if row < 0 ∨ 60 < row ∨ place < 0 then -1 else (bin row.toNat place.toNat : Int)
theorem cellV_bad {row place : Int} (h : row < 0 ∨ 60 < row ∨ place < 0) : cellV row place = -1 := by unfold cellV; rw [if_pos h]
theorem cellV_nat {r k : Nat} (h : r ≤ 60) : cellV r k = bin r k := by unfold cellV; rw [if_neg (by omega)]; simp

theorem ret_int {k : IntKind} {a b : Int} (h : a = b) : Ending.returned (.int k a) = .returned (.int k b) := by rw [h]
end Go.Proofs.Ytmnmbelmcdfcjaa
/-
  Plain mathematics of digits: the digits of a number from the lowest one on, their sum, their product one more each, carries, what is under a number and how many. Nothing of the program.
-/
namespace Go.Proofs.Ytmnmbelmcdfcjaa
open Go.RowKit

/-- The digits of n in base b, from the lowest one on. -/
def digs (b n : Nat) : List Nat := if _h : 2 ≤ b ∧ 0 < n then n % b :: digs b (n / b) else []
termination_by n
decreasing_by exact Nat.div_lt_self _h.2 _h.1
/-- The digits of x and y side by side. -/
def pairs (b x y : Nat) : List (Nat × Nat) := if _h : 2 ≤ b ∧ 0 < x + y then (x % b, y % b) :: pairs b (x / b) (y / b) else []
termination_by x + y
decreasing_by
  rcases Nat.eq_zero_or_pos x with hx | hx
  · subst hx; have := Nat.div_lt_self (n := y) (k := b) (by omega) _h.1; simp; omega
  · have h1 := Nat.div_lt_self (n := x) (k := b) hx _h.1; have h2 := Nat.div_le_self y b; omega

theorem digs_zero (b : Nat) : digs b 0 = [] := by rw [digs, dif_neg (by omega)]
theorem digs_pos {b n : Nat} (hb : 2 ≤ b) (hn : 0 < n) : digs b n = n % b :: digs b (n / b) := by rw [digs, dif_pos ⟨hb, hn⟩]
theorem pairs_zero (b : Nat) : pairs b 0 0 = [] := by rw [pairs, dif_neg (by omega)]
theorem pairs_pos {b x y : Nat} (hb : 2 ≤ b) (hn : 0 < x + y) : pairs b x y = (x % b, y % b) :: pairs b (x / b) (y / b) := by rw [pairs, dif_pos ⟨hb, hn⟩]

/-- Numbers added; numbers, one more each, multiplied. -/
def sumL : List Nat → Nat
  | [] => 0
  | x :: r => x + sumL r
def mulL : List Nat → Nat
  | [] => 1
  | x :: r => (x + 1) * mulL r
theorem sumL_app : ∀ (p q : List Nat), sumL (p ++ q) = sumL p + sumL q
  | [], q => by simp [sumL]
  | x :: p, q => by simp [sumL, sumL_app p q]; omega
theorem mulL_app : ∀ (p q : List Nat), mulL (p ++ q) = mulL p * mulL q
  | [], q => by simp [mulL]
  | x :: p, q => by simp [mulL, mulL_app p q, Nat.mul_assoc]
theorem sumL_snoc (p : List Nat) (x : Nat) : sumL (p ++ [x]) = sumL p + x := by rw [sumL_app]; simp [sumL]
theorem mulL_snoc (p : List Nat) (x : Nat) : mulL (p ++ [x]) = mulL p * (x + 1) := by rw [mulL_app]; simp [mulL]
theorem mulL_pos : ∀ p : List Nat, 1 ≤ mulL p
  | [] => Nat.le_refl _
  | x :: p => by have := mulL_pos p; simp only [mulL]; exact Nat.le_trans this (Nat.le_mul_of_pos_left _ (by omega))

/-- Strong induction on a number that is divided. -/
theorem div_ind {b : Nat} (hb : 2 ≤ b) {p : Nat → Prop} (h0 : p 0) (h1 : ∀ n, 0 < n → p (n / b) → p n) (n : Nat) : p n := by
  induction n using Nat.strongRecOn with
  | ind n ih =>
    rcases Nat.eq_zero_or_pos n with h | h
    · subst h; exact h0
    · exact h1 n h (ih _ (Nat.div_lt_self h hb))
theorem div_ind2 {b : Nat} (hb : 2 ≤ b) {p : Nat → Nat → Prop} (h0 : p 0 0) (h1 : ∀ x y, 0 < x + y → p (x / b) (y / b) → p x y) (x y : Nat) : p x y := by
  obtain ⟨s, hs⟩ : ∃ s, s = x + y := ⟨_, rfl⟩
  induction s using Nat.strongRecOn generalizing x y with
  | ind s ih =>
    rcases Nat.eq_zero_or_pos (x + y) with h | h
    · obtain ⟨rfl, rfl⟩ : x = 0 ∧ y = 0 := by omega
      exact h0
    · refine h1 x y h (ih (x / b + y / b) ?_ _ _ rfl)
      have e1 := Nat.div_le_self x b
      have e2 := Nat.div_le_self y b
      rcases Nat.eq_zero_or_pos x with hx | hx
      · have := Nat.div_lt_self (n := y) (k := b) (by omega) hb; omega
      · have := Nat.div_lt_self (n := x) (k := b) hx hb; omega

theorem div_mod (b n : Nat) : b * (n / b) + n % b = n := Nat.div_add_mod n b
theorem two_mul_le {b q : Nat} (hb : 2 ≤ b) : 2 * q ≤ b * q := Nat.mul_le_mul_right q hb

theorem digs_lt {b : Nat} (hb : 2 ≤ b) (n : Nat) : ∀ d ∈ digs b n, d < b := by
  refine div_ind hb (p := fun n => ∀ d ∈ digs b n, d < b) (by rw [digs_zero]; simp) (fun n hn ih => ?_) n
  rw [digs_pos hb hn]
  intro d hd
  rcases List.mem_cons.1 hd with rfl | h
  · exact Nat.mod_lt _ (by omega)
  · exact ih d h
theorem sum_le {b : Nat} (hb : 2 ≤ b) (n : Nat) : sumL (digs b n) ≤ n := by
  refine div_ind hb (p := fun n => sumL (digs b n) ≤ n) (by rw [digs_zero]; exact Nat.le_refl _) (fun n hn ih => ?_) n
  rw [digs_pos hb hn]
  have := div_mod b n
  have := two_mul_le (q := n / b) hb
  simp only [sumL]; omega
theorem mul_le {b : Nat} (hb : 2 ≤ b) (n : Nat) : mulL (digs b n) ≤ n + 1 := by
  refine div_ind hb (p := fun n => mulL (digs b n) ≤ n + 1) (by rw [digs_zero]; exact Nat.le_refl _) (fun n hn ih => ?_) n
  rw [digs_pos hb hn]
  have h1 := div_mod b n
  have h2 : n % b + 1 ≤ b := Nat.mod_lt _ (by omega)
  have h3 := Nat.mul_le_mul_left (n % b + 1) ih
  have h4 := Nat.mul_le_mul_right (n / b) h2
  simp only [mulL]
  rw [Nat.mul_add, Nat.mul_one] at h3
  omega
theorem mul_two {b n : Nat} (hb : 2 ≤ b) (hn : 0 < n) : 2 ≤ mulL (digs b n) := by
  refine div_ind hb (p := fun n => 0 < n → 2 ≤ mulL (digs b n)) (fun h => by omega) (fun n hn ih _ => ?_) n hn
  rw [digs_pos hb hn]
  simp only [mulL]
  have hp := mulL_pos (digs b (n / b))
  rcases Nat.eq_zero_or_pos (n / b) with h | h
  · have := div_mod b n
    rw [h] at this
    exact Nat.le_trans (show 2 ≤ n % b + 1 by omega) (Nat.le_mul_of_pos_right _ hp)
  · exact Nat.le_trans (ih h) (Nat.le_mul_of_pos_left _ (by omega))
theorem len_le {b : Nat} (hb : 2 ≤ b) (n : Nat) : (digs b n).length ≤ n := by
  refine div_ind hb (p := fun n => (digs b n).length ≤ n) (by rw [digs_zero]; exact Nat.le_refl _) (fun n hn ih => ?_) n
  rw [digs_pos hb hn]
  have := Nat.div_lt_self hn hb
  simp only [List.length_cons]; omega
theorem pairs_len {b : Nat} (hb : 2 ≤ b) (x y : Nat) : (pairs b x y).length ≤ x + y := by
  refine div_ind2 hb (p := fun x y => (pairs b x y).length ≤ x + y) (by rw [pairs_zero]; exact Nat.le_refl _) (fun x y hn ih => ?_) x y
  rw [pairs_pos hb hn]
  have e1 := Nat.div_le_self x b
  have e2 := Nat.div_le_self y b
  simp only [List.length_cons]
  rcases Nat.eq_zero_or_pos x with hx | hx
  · have := Nat.div_lt_self (n := y) (k := b) (by omega) hb; omega
  · have := Nat.div_lt_self (n := x) (k := b) hx hb; omega

/-- Digits leave what the number leaves, by the base less 1. -/
theorem sum_mod {b : Nat} (hb : 2 ≤ b) (n : Nat) : ∃ q, n = sumL (digs b n) + (b - 1) * q := by
  refine div_ind hb (p := fun n => ∃ q, n = sumL (digs b n) + (b - 1) * q) ⟨0, by rw [digs_zero]; rfl⟩ (fun n hn ih => ?_) n
  obtain ⟨q, hq⟩ := ih
  refine ⟨n / b + q, ?_⟩
  rw [digs_pos hb hn]
  simp only [sumL]
  have h1 := div_mod b n
  obtain ⟨c, rfl⟩ : ∃ c, b = c + 1 := ⟨b - 1, by omega⟩
  rw [Nat.add_sub_cancel] at *
  rw [Nat.mul_add]
  rw [Nat.add_mul, Nat.one_mul] at h1
  omega
theorem sum_mod_eq {b : Nat} (hb : 2 ≤ b) (n : Nat) : sumL (digs b n) % (b - 1) = n % (b - 1) := by
  obtain ⟨q, hq⟩ := sum_mod hb n
  conv => rhs; rw [hq]
  rw [Nat.add_mul_mod_self_left]
theorem sum_times {b : Nat} (hb : 2 ≤ b) (n : Nat) : sumL (digs b (n * b)) = sumL (digs b n) := by
  rcases Nat.eq_zero_or_pos n with h | h
  · subst h; rw [Nat.zero_mul]
  · rw [digs_pos hb (Nat.mul_pos h (by omega)), Nat.mul_mod_left, Nat.mul_div_cancel _ (by omega)]; simp [sumL]

/-- Carries: how many, and which one goes on. -/
def carL (b : Nat) : Nat → List (Nat × Nat) → Nat
  | _, [] => 0
  | c, p :: r => (p.1 + p.2 + c) / b + carL b ((p.1 + p.2 + c) / b) r
def goesOn (b : Nat) : Nat → List (Nat × Nat) → Nat
  | c, [] => c
  | c, p :: r => goesOn b ((p.1 + p.2 + c) / b) r
theorem goesOn_snoc (b : Nat) : ∀ (c : Nat) (p : List (Nat × Nat)) (x : Nat × Nat), goesOn b c (p ++ [x]) = (x.1 + x.2 + goesOn b c p) / b
  | c, [], x => rfl
  | c, y :: p, x => by simp only [List.cons_append, goesOn]; exact goesOn_snoc b _ p x
theorem carL_snoc (b : Nat) : ∀ (c : Nat) (p : List (Nat × Nat)) (x : Nat × Nat), carL b c (p ++ [x]) = carL b c p + (x.1 + x.2 + goesOn b c p) / b
  | c, [], x => by simp [carL, goesOn]
  | c, y :: p, x => by simp only [List.cons_append, carL, goesOn]; rw [carL_snoc b _ p x]; omega
theorem one_carry {b x y c : Nat} (hx : x < b) (hy : y < b) (hc : c ≤ 1) : (x + y + c) / b ≤ 1 := by
  have : (x + y + c) / b < 2 := Nat.div_lt_of_lt_mul (by omega)
  omega
theorem goesOn_le {b : Nat} : ∀ (c : Nat) (p : List (Nat × Nat)), c ≤ 1 → (∀ x ∈ p, x.1 < b ∧ x.2 < b) → goesOn b c p ≤ 1
  | c, [], hc, _ => hc
  | c, x :: p, hc, h => goesOn_le _ p (one_carry (h x (by simp)).1 (h x (by simp)).2 hc) (fun y hy => h y (by simp [hy]))
theorem carL_le {b : Nat} : ∀ (c : Nat) (p : List (Nat × Nat)), c ≤ 1 → (∀ x ∈ p, x.1 < b ∧ x.2 < b) → carL b c p ≤ p.length
  | c, [], _, _ => Nat.le_refl _
  | c, x :: p, hc, h => by
    have h1 := one_carry (h x (by simp)).1 (h x (by simp)).2 hc
    have h2 := carL_le _ p h1 (fun y hy => h y (by simp [hy]))
    simp only [carL, List.length_cons]; omega
theorem pairs_lt {b : Nat} (hb : 2 ≤ b) (x y : Nat) : ∀ p ∈ pairs b x y, p.1 < b ∧ p.2 < b := by
  refine div_ind2 hb (p := fun x y => ∀ p ∈ pairs b x y, p.1 < b ∧ p.2 < b) (by rw [pairs_zero]; simp) (fun x y hn ih => ?_) x y
  rw [pairs_pos hb hn]
  intro d hd
  rcases List.mem_cons.1 hd with rfl | h
  · exact ⟨Nat.mod_lt _ (by omega), Nat.mod_lt _ (by omega)⟩
  · exact ih d h

/-- What is added at one place. -/
theorem place {b x y c : Nat} (hb : 2 ≤ b) : (x + y + c) % b = (x % b + y % b + c) % b ∧ (x + y + c) / b = x / b + y / b + (x % b + y % b + c) / b := by
  have hx := div_mod b x
  have hy := div_mod b y
  have he : x + y + c = (x % b + y % b + c) + b * (x / b + y / b) := by rw [Nat.mul_add]; omega
  constructor
  · rw [he, Nat.add_mul_mod_self_left]
  · rw [he, Nat.add_mul_div_left _ _ (by omega)]; omega
/-- Carries are what digits lose. -/
theorem carries {b : Nat} (hb : 2 ≤ b) (x y : Nat) : ∀ c, c ≤ 1 → (b - 1) * carL b c (pairs b x y) + sumL (digs b (x + y + c)) = sumL (digs b x) + sumL (digs b y) + c := by
  refine div_ind2 hb (p := fun x y => ∀ c, c ≤ 1 → (b - 1) * carL b c (pairs b x y) + sumL (digs b (x + y + c)) = sumL (digs b x) + sumL (digs b y) + c) ?_ (fun x y hn ih c hc => ?_) x y
  · intro c hc
    rw [pairs_zero, digs_zero]
    rcases Nat.eq_zero_or_pos c with h | h
    · subst h; rw [digs_zero]; rfl
    · obtain rfl : c = 1 := by omega
      rw [digs_pos hb (by omega), show (0 + 0 + 1) / b = 0 by exact Nat.div_eq_of_lt (by omega), digs_zero, show (0 + 0 + 1) % b = 1 by exact Nat.mod_eq_of_lt (by omega)]; rfl
  · rw [pairs_pos hb hn]
    have hsx : ∀ n, sumL (digs b n) = n % b + sumL (digs b (n / b)) := fun n => by
      rcases Nat.eq_zero_or_pos n with h | h
      · subst h; simp [digs_zero, sumL]
      · rw [digs_pos hb h]; rfl
    rw [hsx (x + y + c), hsx x, hsx y, (place (x := x) (y := y) (c := c) hb).1, (place (x := x) (y := y) (c := c) hb).2]
    simp only [carL]
    have hx := Nat.mod_lt x (show 0 < b by omega)
    have hy := Nat.mod_lt y (show 0 < b by omega)
    have h1 := one_carry hx hy hc
    have h2 := ih _ h1
    have h3 := div_mod b (x % b + y % b + c)
    generalize (x % b + y % b + c) / b = d at *
    generalize (x % b + y % b + c) % b = e at *
    rw [Nat.mul_add]
    rcases (show d = 0 ∨ d = 1 by omega) with rfl | rfl
    · omega
    · rw [Nat.mul_one] at *; omega
theorem carL_swap (b : Nat) : ∀ (c : Nat) (p : List (Nat × Nat)), carL b c (p.map fun x => (x.2, x.1)) = carL b c p
  | c, [] => rfl
  | c, x :: p => by simp only [List.map_cons, carL]; rw [Nat.add_comm x.2 x.1, carL_swap b _ p]
theorem pairs_swap {b : Nat} (hb : 2 ≤ b) (x y : Nat) : pairs b y x = (pairs b x y).map fun x => (x.2, x.1) := by
  refine div_ind2 hb (p := fun x y => pairs b y x = (pairs b x y).map fun x => (x.2, x.1)) (by rw [pairs_zero]; rfl) (fun x y hn ih => ?_) x y
  rw [pairs_pos hb hn, pairs_pos hb (show 0 < y + x by omega), ih]; rfl

/-- Each digit at most the one above it. -/
def und (b x y : Nat) : Bool := (pairs b x y).all fun p => decide (p.1 ≤ p.2)
theorem und_zero (b : Nat) : und b 0 0 = true := by unfold und; rw [pairs_zero]; rfl
theorem und_step {b : Nat} (hb : 2 ≤ b) (x y : Nat) : und b x y = (decide (x % b ≤ y % b) && und b (x / b) (y / b)) := by
  rcases Nat.eq_zero_or_pos (x + y) with h | h
  · obtain ⟨rfl, rfl⟩ : x = 0 ∧ y = 0 := by omega
    simp [und_zero]
  · unfold und; rw [pairs_pos hb h]; rfl
theorem und_none {b : Nat} (hb : 2 ≤ b) (y : Nat) : und b 0 y = true := by
  refine div_ind hb (p := fun y => und b 0 y = true) (und_zero b) (fun y hn ih => ?_) y
  rw [und_step hb, Nat.zero_div, ih]; simp
theorem und_le {b : Nat} (hb : 2 ≤ b) (x y : Nat) : und b x y = true → x ≤ y := by
  refine div_ind2 hb (p := fun x y => und b x y = true → x ≤ y) (fun _ => Nat.le_refl _) (fun x y hn ih h => ?_) x y
  rw [und_step hb, Bool.and_eq_true, decide_eq_true_eq] at h
  have h1 := ih h.2
  have h2 := div_mod b x
  have h3 := div_mod b y
  have h4 := Nat.mul_le_mul_left b h1
  omega
theorem und_same {b : Nat} (hb : 2 ≤ b) (x : Nat) : und b x x = true := by
  refine div_ind hb (p := fun x => und b x x = true) (und_zero b) (fun x hn ih => ?_) x
  rw [und_step hb, ih]; simp
/-- Nothing is carried where what is under is added to the rest. -/
theorem und_carries {b : Nat} (hb : 2 ≤ b) (x z : Nat) : und b x (x + z) = true ↔ carL b 0 (pairs b x z) = 0 := by
  refine div_ind2 hb (p := fun x z => und b x (x + z) = true ↔ carL b 0 (pairs b x z) = 0) ?_ (fun x z hn ih => ?_) x z
  · rw [pairs_zero, und_zero]; simp [carL]
  · rw [pairs_pos hb hn, und_step hb]
    have hp := place (b := b) (x := x) (y := z) (c := 0) hb
    rw [Nat.add_zero, Nat.add_zero] at hp
    rw [hp.1, hp.2]
    simp only [carL, Nat.add_zero]
    have hx := Nat.mod_lt x (show 0 < b by omega)
    have hy := Nat.mod_lt z (show 0 < b by omega)
    by_cases hc : x % b + z % b < b
    · rw [Nat.div_eq_of_lt hc, Nat.mod_eq_of_lt hc, Nat.add_zero, Nat.zero_add, ← ih]
      simp
    · have h1 : (x % b + z % b) / b = 1 := by
        have h2 : (x % b + z % b) / b < 2 := Nat.div_lt_of_lt_mul (by omega)
        have h3 : 1 ≤ (x % b + z % b) / b := (Nat.le_div_iff_mul_le (by omega)).2 (by omega)
        omega
      have h2 := div_mod b (x % b + z % b)
      rw [h1] at h2
      constructor
      · intro h
        rw [Bool.and_eq_true, decide_eq_true_eq] at h
        omega
      · intro h; omega
theorem und_sums {b : Nat} (hb : 2 ≤ b) (x y : Nat) : und b x y = true ↔ x ≤ y ∧ sumL (digs b x) + sumL (digs b (y - x)) = sumL (digs b y) := by
  constructor
  · intro h
    have hle := und_le hb x y h
    refine ⟨hle, ?_⟩
    have hc := carries hb x (y - x) 0 (by omega)
    have he : x + (y - x) = y := by omega
    rw [(und_carries hb x (y - x)).1 (by rw [he]; exact h), Nat.add_zero, he] at hc
    omega
  · rintro ⟨hle, hs⟩
    have hc := carries hb x (y - x) 0 (by omega)
    have he : x + (y - x) = y := by omega
    rw [Nat.add_zero, he] at hc
    have h0 : (b - 1) * carL b 0 (pairs b x (y - x)) = 0 := by omega
    have h1 : carL b 0 (pairs b x (y - x)) = 0 := by
      rcases Nat.mul_eq_zero.1 h0 with h | h
      · omega
      · exact h
    have := (und_carries hb x (y - x)).2 h1
    rwa [he] at this

/-- How many of the first m numbers are under n. -/
def undUp (b n : Nat) : Nat → Nat
  | 0 => 0
  | m + 1 => undUp b n m + (if und b m n then 1 else 0)
theorem undUp_le (b n : Nat) : ∀ m, undUp b n m ≤ m
  | 0 => Nat.le_refl _
  | m + 1 => by have := undUp_le b n m; simp only [undUp]; split <;> omega
theorem undUp_stable {b : Nat} (hb : 2 ≤ b) (n : Nat) : ∀ j, undUp b n (n + 1 + j) = undUp b n (n + 1)
  | 0 => rfl
  | j + 1 => by
    show undUp b n (n + 1 + j) + _ = _
    rw [undUp_stable hb n j, if_neg]
    · rfl
    · intro h; exact absurd (und_le hb _ _ h) (by show ¬ (n + 1 + j ≤ n); omega)
theorem undUp_part {b : Nat} (hb : 2 ≤ b) (n m : Nat) : ∀ j, j ≤ b → undUp b n (b * m + j) = undUp b n (b * m) + (if und b m (n / b) then min j (n % b + 1) else 0)
  | 0, _ => by simp
  | j + 1, h => by
    show undUp b n (b * m + j) + (if und b (b * m + j) n then 1 else 0) = _
    have h1 : (b * m + j) % b = j := by rw [Nat.mul_add_mod]; exact Nat.mod_eq_of_lt (by omega)
    have h2 : (b * m + j) / b = m := by rw [Nat.mul_add_div (by omega), Nat.div_eq_of_lt (by omega)]; rfl
    rw [undUp_part hb n m j (by omega), und_step hb (b * m + j) n, h1, h2]
    cases hu : und b m (n / b)
    · simp
    · by_cases hj : j ≤ n % b
      · simp [hj]; omega
      · simp [hj]; omega
theorem undUp_times {b : Nat} (hb : 2 ≤ b) (n : Nat) : ∀ m, undUp b n (b * m) = (n % b + 1) * undUp b (n / b) m
  | 0 => by simp [undUp]
  | m + 1 => by
    rw [Nat.mul_succ, undUp_part hb n m b (Nat.le_refl _), undUp_times hb n m]
    have := Nat.mod_lt n (show 0 < b by omega)
    simp only [undUp]
    cases und b m (n / b)
    · simp
    · simp only [if_true]; rw [Nat.mul_add, Nat.mul_one, Nat.min_eq_right (by omega)]
/-- Numbers under a number are counted. -/
theorem undUp_all {b : Nat} (hb : 2 ≤ b) (n : Nat) : undUp b n (n + 1) = mulL (digs b n) := by
  refine div_ind hb (p := fun n => undUp b n (n + 1) = mulL (digs b n)) ?_ (fun n hn ih => ?_) n
  · rw [digs_zero]; simp [undUp, und_zero, mulL]
  · rw [digs_pos hb hn]
    have h1 := div_mod b n
    have h2 := Nat.mod_lt n (show 0 < b by omega)
    have h3 : b * (n / b + 1) = n + 1 + (b - 1 - n % b) := by rw [Nat.mul_add, Nat.mul_one]; omega
    rw [← undUp_stable hb n (b - 1 - n % b), ← h3, undUp_times hb, ih]; rfl

/-- What is made of the digits from place k on. -/
def fromP (b : Nat) : List Nat → Nat
  | [] => 0
  | x :: r => x + b * fromP b r
theorem fromP_digs {b : Nat} (hb : 2 ≤ b) (n : Nat) : fromP b (digs b n) = n := by
  refine div_ind hb (p := fun n => fromP b (digs b n) = n) (by rw [digs_zero]; rfl) (fun n hn ih => ?_) n
  rw [digs_pos hb hn]
  have := div_mod b n
  simp only [fromP]; rw [ih]; omega
theorem fromP_drop (b : Nat) : ∀ (l : List Nat) (k : Nat) (h : k < l.length), fromP b (l.drop k) = fromP b (l.drop (k + 1)) * b + l[k]
  | [], k, h => by simp at h
  | x :: l, 0, h => by simp [fromP, Nat.mul_comm]; omega
  | x :: l, k + 1, h => by simpa using fromP_drop b l k (by simpa using h)
theorem fromP_le {b : Nat} (hb : 1 ≤ b) : ∀ (l : List Nat) (k : Nat), fromP b (l.drop k) ≤ fromP b l
  | [], k => by simp
  | x :: l, 0 => by simp
  | x :: l, k + 1 => by
    have h := fromP_le hb l k
    simp only [List.drop_succ_cons, fromP]
    have := Nat.le_mul_of_pos_left (fromP b l) hb
    omega
theorem digs_last {b : Nat} (hb : 2 ≤ b) (n : Nat) (hn : 0 < n) : ∃ h : (digs b n).length - 1 < (digs b n).length, 0 < (digs b n)[(digs b n).length - 1] := by
  refine div_ind hb (p := fun n => 0 < n → ∃ h : (digs b n).length - 1 < (digs b n).length, 0 < (digs b n)[(digs b n).length - 1]) (fun h => by omega) (fun n hn ih _ => ?_) n hn
  have hd := digs_pos hb hn
  generalize digs b n = D at hd
  subst hd
  rcases Nat.eq_zero_or_pos (n / b) with h | h
  · have := div_mod b n
    rw [h] at this
    rw [h, digs_zero]
    exact ⟨by simp, by simp; omega⟩
  · obtain ⟨h1, h2⟩ := ih h
    refine ⟨by simp, ?_⟩
    simp only [List.length_cons, Nat.add_sub_cancel]
    rw [List.getElem_cons]
    rw [dif_neg (by omega)]
    exact h2
end Go.Proofs.Ytmnmbelmcdfcjaa
/-
  Plain mathematics of how often a prime divides: numbers, products of all numbers up to a number, cells of the triangle; by digits, by carries; and how much it may be. Nothing of the program.
-/
namespace Go.Proofs.Ytmnmbelmcdfcjaa
open Go.RowKit

/-- How often p divides n. -/
def val (p n : Nat) : Nat := if _h : (2 ≤ p ∧ 0 < n) ∧ n % p = 0 then val p (n / p) + 1 else 0
termination_by n
decreasing_by exact Nat.div_lt_self _h.1.2 _h.1.1
/-- What is left of n when p no longer divides it. -/
def strip (p n : Nat) : Nat := if _h : (2 ≤ p ∧ 0 < n) ∧ n % p = 0 then strip p (n / p) else n
termination_by n
decreasing_by exact Nat.div_lt_self _h.1.2 _h.1.1
/-- n by p, by its square, and so on, added. -/
def tup (p n : Nat) : Nat := if _h : 2 ≤ p ∧ 0 < n then n / p + tup p (n / p) else 0
termination_by n
decreasing_by exact Nat.div_lt_self _h.2 _h.1

theorem val_no {p n : Nat} (h : n % p ≠ 0) : val p n = 0 := by rw [val, dif_neg (fun e => h e.2)]
theorem val_yes {p n : Nat} (hp : 2 ≤ p) (hn : 0 < n) (h : n % p = 0) : val p n = val p (n / p) + 1 := by rw [val, dif_pos ⟨⟨hp, hn⟩, h⟩]
theorem strip_no {p n : Nat} (h : n % p ≠ 0) : strip p n = n := by rw [strip, dif_neg (fun e => h e.2)]
theorem strip_yes {p n : Nat} (hp : 2 ≤ p) (hn : 0 < n) (h : n % p = 0) : strip p n = strip p (n / p) := by rw [strip, dif_pos ⟨⟨hp, hn⟩, h⟩]
theorem tup_zero (p : Nat) : tup p 0 = 0 := by rw [tup, dif_neg (by omega)]
theorem tup_pos {p n : Nat} (hp : 2 ≤ p) (hn : 0 < n) : tup p n = n / p + tup p (n / p) := by rw [tup, dif_pos ⟨hp, hn⟩]
theorem tup_any {p : Nat} (hp : 2 ≤ p) (n : Nat) : tup p n = n / p + tup p (n / p) := by
  rcases Nat.eq_zero_or_pos n with h | h
  · subst h; simp [tup_zero]
  · exact tup_pos hp h
theorem div_pos_of_mod {p n : Nat} (hn : 0 < n) (h : n % p = 0) : 0 < n / p := by
  rcases Nat.eq_zero_or_pos (n / p) with e | e
  · have := div_mod p n; rw [e, h] at this; omega
  · exact e

theorem strip_val {p : Nat} (hp : 2 ≤ p) (n : Nat) : 0 < n → p ^ val p n * strip p n = n ∧ 0 < strip p n := by
  refine div_ind hp (p := fun n => 0 < n → p ^ val p n * strip p n = n ∧ 0 < strip p n) (fun h => by omega) (fun n hn ih _ => ?_) n
  by_cases h : n % p = 0
  · have h1 := ih (div_pos_of_mod hn h)
    rw [val_yes hp hn h, strip_yes hp hn h, Nat.pow_succ]
    refine ⟨?_, h1.2⟩
    have h2 := div_mod p n
    rw [h, Nat.add_zero] at h2
    calc p ^ val p (n / p) * p * strip p (n / p) = p * (p ^ val p (n / p) * strip p (n / p)) := by rw [Nat.mul_comm _ p, Nat.mul_assoc]
      _ = n := by rw [h1.1, h2]
  · rw [val_no h, strip_no h]; simp; exact hn
theorem strip_mod {p : Nat} (hp : 2 ≤ p) (n : Nat) : 0 < n → strip p n % p ≠ 0 := by
  refine div_ind hp (p := fun n => 0 < n → strip p n % p ≠ 0) (fun h => by omega) (fun n hn ih _ => ?_) n
  by_cases h : n % p = 0
  · rw [strip_yes hp hn h]; exact ih (div_pos_of_mod hn h)
  · rw [strip_no h]; exact h
theorem pow_gt {p : Nat} (hp : 2 ≤ p) : ∀ k, k + 1 ≤ p ^ k
  | 0 => by simp
  | k + 1 => by
    have h1 := pow_gt hp k
    have h2 := Nat.mul_le_mul_left (p ^ k) hp
    rw [Nat.pow_succ]; omega
theorem val_pow_le {p : Nat} (hp : 2 ≤ p) {n : Nat} (hn : 0 < n) : p ^ val p n ≤ n := by
  have h := strip_val hp n hn
  have h2 := Nat.le_mul_of_pos_right (p ^ val p n) h.2
  omega
theorem val_lt {p : Nat} (hp : 2 ≤ p) {n : Nat} (hn : 0 < n) : val p n < n := by
  have h1 := val_pow_le hp hn
  have h2 := pow_gt hp (val p n)
  omega

/-- Digits tell how often. -/
theorem legendre {p : Nat} (hp : 2 ≤ p) (n : Nat) : (p - 1) * tup p n + sumL (digs p n) = n := by
  refine div_ind hp (p := fun n => (p - 1) * tup p n + sumL (digs p n) = n) (by rw [tup_zero, digs_zero]; rfl) (fun n hn ih => ?_) n
  rw [tup_pos hp hn, digs_pos hp hn]
  simp only [sumL]
  have h1 := div_mod p n
  obtain ⟨c, rfl⟩ : ∃ c, p = c + 1 := ⟨p - 1, by omega⟩
  rw [Nat.add_sub_cancel] at *
  rw [Nat.mul_add]
  rw [Nat.add_mul, Nat.one_mul] at h1
  omega
theorem tup_le {p : Nat} (hp : 2 ≤ p) (n : Nat) : tup p n ≤ n := by
  have h1 := legendre hp n
  have h2 := Nat.le_mul_of_pos_left (tup p n) (show 0 < p - 1 by omega)
  omega
theorem succ_div_mod {p : Nat} (hp : 2 ≤ p) (n : Nat) : ((n + 1) % p = 0 ∧ (n + 1) / p = n / p + 1) ∨ ((n + 1) % p ≠ 0 ∧ (n + 1) / p = n / p) := by
  have h1 := div_mod p n
  have hm := Nat.mod_lt n (show 0 < p by omega)
  by_cases h : n % p + 1 = p
  · left
    have e : n + 1 = p * (n / p + 1) := by rw [Nat.mul_add]; omega
    constructor
    · rw [e, Nat.mul_mod_right]
    · conv => lhs; rw [e]
      rw [Nat.mul_div_cancel_left _ (by omega)]
  · right
    have e : n + 1 = p * (n / p) + (n % p + 1) := by omega
    constructor
    · rw [e, Nat.mul_add_mod, Nat.mod_eq_of_lt (show n % p + 1 < p by omega)]; omega
    · conv => lhs; rw [e]
      rw [Nat.mul_add_div (by omega), Nat.div_eq_of_lt (show n % p + 1 < p by omega), Nat.add_zero]
/-- With one number more it is as much more as p divides that. -/
theorem tup_succ {p : Nat} (hp : 2 ≤ p) (n : Nat) : tup p (n + 1) = tup p n + val p (n + 1) := by
  induction n using Nat.strongRecOn with
  | ind n ih =>
    rw [tup_any hp (n + 1), tup_any hp n]
    rcases succ_div_mod hp n with ⟨h1, h2⟩ | ⟨h1, h2⟩
    · rw [h2, val_yes hp (by omega) h1, h2]
      have hlt : n / p < n ∨ n = 0 := by
        rcases Nat.eq_zero_or_pos n with h | h
        · exact .inr h
        · exact .inl (Nat.div_lt_self h hp)
      rcases hlt with hlt | rfl
      · rw [ih _ hlt]; omega
      · rw [Nat.mod_eq_of_lt (by omega)] at h1; omega
    · rw [h2, val_no h1]; omega

/-- The six primes. -/
def prm (p : Nat) : Prop := p = 2 ∨ p = 3 ∨ p = 5 ∨ p = 7 ∨ p = 11 ∨ p = 13
instance (p : Nat) : Decidable (prm p) := by unfold prm; infer_instance
theorem prm_two {p : Nat} (h : prm p) : 2 ≤ p ∧ p ≤ 13 := by unfold prm at h; omega
def sixth : List Nat := [2, 3, 5, 7, 11, 13]
theorem prm_in {p : Nat} (h : prm p) : p ∈ sixth := by unfold prm at h; unfold sixth; simp; omega
theorem zeros_all : sixth.all (fun p => (List.range p).all fun x => (List.range p).all fun y => !(x * y % p == 0) || (x == 0 || y == 0)) = true := by decide
theorem no_zeros {p : Nat} (h : prm p) (x : Nat) (hx : x < p) (y : Nat) (hy : y < p) (hz : x * y % p = 0) : x = 0 ∨ y = 0 := by
  have h1 := List.all_eq_true.1 (List.all_eq_true.1 (List.all_eq_true.1 zeros_all p (prm_in h)) x (List.mem_range.2 hx)) y (List.mem_range.2 hy)
  simpa [hz] using h1
theorem euclid {p : Nat} (h : prm p) (x y : Nat) (hxy : x * y % p = 0) : x % p = 0 ∨ y % p = 0 := by
  have hp := prm_two h
  refine no_zeros h _ (Nat.mod_lt _ (by omega)) _ (Nat.mod_lt _ (by omega)) ?_
  rw [← Nat.mul_mod]; exact hxy
theorem val_times {p n : Nat} (hp : 2 ≤ p) (hn : 0 < n) : val p (n * p) = val p n + 1 := by
  rw [val_yes hp (Nat.mul_pos hn (by omega)) (Nat.mul_mod_left _ _), Nat.mul_div_cancel _ (by omega)]
/-- Of a product it is both together. -/
theorem val_mul {p : Nat} (h : prm p) (x y : Nat) : 0 < x → 0 < y → val p (x * y) = val p x + val p y := by
  have hp := (prm_two h).1
  revert y
  refine div_ind hp (p := fun x => ∀ y, 0 < x → 0 < y → val p (x * y) = val p x + val p y) (fun _ h => by omega) (fun x hx ihx y _ hy => ?_) x
  by_cases hxm : x % p = 0
  · have e := div_mod p x
    rw [hxm, Nat.add_zero] at e
    have h1 := ihx y (div_pos_of_mod hx hxm) hy
    rw [val_yes hp hx hxm]
    conv => lhs; rw [← e]
    rw [show p * (x / p) * y = x / p * y * p by rw [Nat.mul_comm p, Nat.mul_assoc, Nat.mul_comm p, ← Nat.mul_assoc], val_times hp (Nat.mul_pos (div_pos_of_mod hx hxm) hy), h1]
    omega
  · rw [val_no hxm]
    refine div_ind hp (p := fun y => 0 < y → val p (x * y) = 0 + val p y) (fun h => by omega) (fun y hy ih _ => ?_) y hy
    by_cases hym : y % p = 0
    · have e := div_mod p y
      rw [hym, Nat.add_zero] at e
      have h1 := ih (div_pos_of_mod hy hym)
      rw [val_yes hp hy hym]
      conv => lhs; rw [← e]
      rw [show x * (p * (y / p)) = x * (y / p) * p by rw [Nat.mul_comm p, Nat.mul_assoc], val_times hp (Nat.mul_pos hx (div_pos_of_mod hy hym)), h1]
      omega
    · rw [val_no hym, val_no (fun e => by rcases euclid h x y e with e | e; exact hxm e; exact hym e)]
theorem val_one {p : Nat} (hp : 2 ≤ p) : val p 1 = 0 := val_no (by rw [Nat.mod_eq_of_lt (by omega)]; omega)
theorem apart_all : sixth.all (fun p => sixth.all fun q => p == q || !(p % q == 0)) = true := by decide
theorem prm_apart {p q : Nat} (hp : prm p) (hq : prm q) (hne : p ≠ q) : p % q ≠ 0 := by
  have h1 := List.all_eq_true.1 (List.all_eq_true.1 apart_all p (prm_in hp)) q (prm_in hq)
  simpa [hne] using h1
/-- Divided by another prime it is as often. -/
theorem val_apart {p q n : Nat} (hp : prm p) (hq : prm q) (hne : p ≠ q) (hn : 0 < n) (h : n % p = 0) : val q (n / p) = val q n := by
  have e := div_mod p n
  rw [h, Nat.add_zero] at e
  conv => rhs; rw [← e]
  rw [val_mul hq _ _ (by have := prm_two hp; omega) (div_pos_of_mod hn h), val_no (prm_apart hp hq hne)]
  omega
theorem val_strip {p q : Nat} (hp : prm p) (hq : prm q) (hne : p ≠ q) (n : Nat) : 0 < n → val q (strip p n) = val q n := by
  have h2 := (prm_two hp).1
  refine div_ind h2 (p := fun n => 0 < n → val q (strip p n) = val q n) (fun h => by omega) (fun n hn ih _ => ?_) n
  by_cases h : n % p = 0
  · rw [strip_yes h2 hn h, ih (div_pos_of_mod hn h), val_apart hp hq hne hn h]
  · rw [strip_no h]

theorem bin_half (n k : Nat) : bin (n + 1) (k + 1) ≤ 2 ^ n := by
  rw [bin_succ, ← psum_row n]
  by_cases h : k + 2 ≤ n + 1
  · have h1 := psum_mono n (k + 2) (n + 1) h
    simp only [psum] at h1 ⊢
    omega
  · by_cases e : k = n
    · subst e
      rw [bin_over k (k + 1) (by omega)]
      simp only [psum]; omega
    · rw [bin_over n k (by omega), bin_over n (k + 1) (by omega)]; omega
theorem bin_max {n : Nat} (k : Nat) (h : n ≤ 60) : bin n k ≤ 576460752303423488 := by
  match n, k, h with
  | n, 0, _ => rw [bin_zero]; omega
  | 0, k + 1, _ => rw [bin_over 0 (k + 1) (by omega)]; omega
  | n + 1, k + 1, h => exact Nat.le_trans (bin_half n k) (Nat.le_trans (Nat.pow_le_pow_right (by omega) (show n ≤ 59 by omega)) (by decide))
theorem bin_pos : ∀ (n k : Nat), k ≤ n → 0 < bin n k
  | n, 0, _ => by rw [bin_zero]; omega
  | 0, k + 1, h => by omega
  | n + 1, k + 1, h => by rw [bin_succ]; have := bin_pos n k (by omega); omega
/-- How often a prime divides a cell. -/
theorem val_bin {p : Nat} (h : prm p) : ∀ (n k : Nat), k ≤ n → val p (bin n k) + tup p k + tup p (n - k) = tup p n
  | n, 0, _ => by rw [bin_zero, val_one (prm_two h).1, tup_zero]; simp
  | 0, k + 1, hk => by omega
  | n + 1, k + 1, hk => by
    have h1 := val_bin h n k (by omega)
    have h2 := congrArg (val p) (absorb n k)
    rw [val_mul h _ _ (bin_pos _ _ hk) (by omega), val_mul h _ _ (by omega) (bin_pos _ _ (by omega))] at h2
    rw [tup_succ (prm_two h).1 k, tup_succ (prm_two h).1 n, show n + 1 - (k + 1) = n - k by omega]
    omega

/-- Carries tell how often. -/
theorem tup_carries {p : Nat} (hp : 2 ≤ p) (x y : Nat) : tup p (x + y) = tup p x + tup p y + carL p 0 (pairs p x y) := by
  have h1 := carries hp x y 0 (by omega)
  rw [Nat.add_zero, Nat.add_zero] at h1
  have h2 := legendre hp (x + y)
  have h3 := legendre hp x
  have h4 := legendre hp y
  refine Nat.eq_of_mul_eq_mul_left (show 0 < p - 1 by omega) ?_
  rw [Nat.mul_add, Nat.mul_add]
  omega
def cars (p n k : Nat) : Nat := carL p 0 (pairs p k (n - k))
theorem tup_cars {p : Nat} (hp : 2 ≤ p) {n k : Nat} (hk : k ≤ n) : tup p n = tup p k + tup p (n - k) + cars p n k := by
  have := tup_carries hp k (n - k)
  rw [show k + (n - k) = n by omega] at this
  exact this
theorem cars_zero {p : Nat} (hp : 2 ≤ p) {n k : Nat} (hk : k ≤ n) : cars p n k = 0 ↔ und p k n = true := by
  have := und_carries hp k (n - k)
  rw [show k + (n - k) = n by omega] at this
  exact this.symm
theorem cars_bin {p : Nat} (h : prm p) {n k : Nat} (hk : k ≤ n) : val p (bin n k) = cars p n k := by
  have h1 := val_bin h n k hk
  have h2 := tup_cars (prm_two h).1 hk
  omega
/-- As many carries as the sum has room for. -/
theorem pow_car {p : Nat} (hp : 2 ≤ p) (x y : Nat) : ∀ c, c ≤ 1 → p ^ carL p c (pairs p x y) ≤ max 1 (x + y + c) := by
  refine div_ind2 hp (p := fun x y => ∀ c, c ≤ 1 → p ^ carL p c (pairs p x y) ≤ max 1 (x + y + c)) ?_ (fun x y hn ih c hc => ?_) x y
  · intro c hc; rw [pairs_zero]; simp only [carL, Nat.pow_zero]; omega
  · rw [pairs_pos hp hn]
    simp only [carL]
    have h1 := one_carry (Nat.mod_lt x (show 0 < p by omega)) (Nat.mod_lt y (show 0 < p by omega)) hc
    have h2 := ih _ h1
    have h3 := (place (x := x) (y := y) (c := c) hp).2
    have h4 := div_mod p (x + y + c)
    generalize (x % p + y % p + c) / p = d at *
    have h5 := two_mul_le (q := (x + y + c) / p) hp
    rcases (show d = 0 ∨ d = 1 by omega) with rfl | rfl
    · rw [Nat.zero_add]; omega
    · rw [Nat.add_comm 1, Nat.pow_succ]
      have h6 := Nat.mul_le_mul_right p h2
      rw [Nat.max_eq_right (Nat.le_add_left 1 _)] at h6
      rw [h3, Nat.mul_comm p] at h4
      omega
theorem pow_cars {p : Nat} (hp : 2 ≤ p) {n k : Nat} (hk : k ≤ n) (hn : 0 < n) : p ^ cars p n k ≤ n := by
  have h := pow_car hp k (n - k) 0 (by omega)
  have e : k + (n - k) + 0 = n := by omega
  rw [e, Nat.max_eq_right hn] at h
  exact h
theorem cars_lt {p : Nat} (hp : 2 ≤ p) {n k : Nat} (hk : k ≤ n) : cars p n k ≤ n := by
  have := tup_cars hp hk
  have := tup_le hp n
  omega

/-- The most often of the first m cells of row n. -/
def mostU (p n : Nat) : Nat → Nat
  | 0 => 0
  | m + 1 => max (mostU p n m) (cars p n m)
theorem mostU_ge (p n : Nat) : ∀ m k, k < m → cars p n k ≤ mostU p n m
  | 0, k, h => by omega
  | m + 1, k, h => by
    simp only [mostU]
    by_cases e : k = m
    · subst e; omega
    · have := mostU_ge p n m k (by omega); omega
theorem mostU_is (p n : Nat) : ∀ m, mostU p n m = 0 ∨ ∃ k, k < m ∧ mostU p n m = cars p n k
  | 0 => .inl rfl
  | m + 1 => by
    simp only [mostU]
    by_cases e : mostU p n m ≤ cars p n m
    · exact .inr ⟨m, by omega, by omega⟩
    · rcases mostU_is p n m with h | ⟨k, h1, h2⟩
      · omega
      · exact .inr ⟨k, by omega, by omega⟩
def most (p n : Nat) : Nat := mostU p n (n + 1)
theorem mostU_le {p : Nat} (hp : 2 ≤ p) (n m : Nat) (hm : m ≤ n + 1) : mostU p n m ≤ n := by
  rcases mostU_is p n m with h | ⟨k, h1, h2⟩
  · omega
  · rw [h2]; exact cars_lt hp (by omega)
theorem pow_most {p : Nat} (hp : 2 ≤ p) {n : Nat} (hn : 0 < n) : p ^ most p n ≤ n := by
  unfold most
  rcases mostU_is p n (n + 1) with h | ⟨k, h1, h2⟩
  · rw [h]; simp; omega
  · rw [h2]; exact pow_cars hp (by omega) hn
theorem val_most {p : Nat} (hp : 2 ≤ p) {n : Nat} (hn : 0 < n) : val p n ≤ most p n := by
  have h1 := mostU_ge p n (n + 1) 1 (by omega)
  obtain ⟨m, rfl⟩ : ∃ m, n = m + 1 := ⟨n - 1, by omega⟩
  have h2 := tup_cars hp (show 1 ≤ m + 1 by omega)
  have h3 := tup_succ hp m
  have h4 : tup p 1 = 0 := by rw [tup_pos hp (by omega), Nat.div_eq_of_lt (by omega), tup_zero]
  rw [show m + 1 - 1 = m by omega, h4] at h2
  unfold most
  omega
/-- For rows that are a power of the prime it is just that. -/
theorem most_power {p : Nat} (hp : 2 ≤ p) {n : Nat} (hn : 0 < n) (hs : strip p n ≤ 1) : p ^ most p n = n := by
  have h1 := strip_val hp n hn
  have h2 := pow_most hp hn
  have h3 := Nat.pow_le_pow_right (show 0 < p by omega) (val_most hp hn)
  have h4 : strip p n = 1 := by omega
  rw [h4, Nat.mul_one] at h1
  omega
theorem und_full {p : Nat} (hp : 2 ≤ p) : ∀ (j n k : Nat), n + 1 = p ^ j → k ≤ n → und p k n = true
  | 0, n, k, h, hk => by
    obtain ⟨rfl, rfl⟩ : n = 0 ∧ k = 0 := by simp at h; omega
    exact und_zero p
  | j + 1, n, k, h, hk => by
    have hpos : 0 < p ^ j := Nat.pow_pos (by omega)
    rw [Nat.pow_succ] at h
    have e : n = (p - 1) + p * (p ^ j - 1) := by
      rw [Nat.mul_comm p, Nat.sub_mul]
      have := Nat.le_mul_of_pos_left p hpos
      omega
    have h1 : n % p = p - 1 := by rw [e, Nat.add_mul_mod_self_left, Nat.mod_eq_of_lt (by omega)]
    have h2 : n / p = p ^ j - 1 := by rw [e, Nat.add_mul_div_left _ _ (by omega), Nat.div_eq_of_lt (by omega), Nat.zero_add]
    have h3 := Nat.mod_lt k (show 0 < p by omega)
    have h4 := Nat.div_le_div_right (c := p) hk
    rw [und_step hp, und_full hp j (n / p) (k / p) (by omega) h4, h1]
    simp; omega
/-- For rows that are one less than a power it is 0. -/
theorem most_none {p : Nat} (hp : 2 ≤ p) {n : Nat} (hs : strip p (n + 1) ≤ 1) : most p n = 0 := by
  have h1 := strip_val hp (n + 1) (by omega)
  have h4 : strip p (n + 1) = 1 := by omega
  rw [h4, Nat.mul_one] at h1
  unfold most
  rcases mostU_is p n (n + 1) with h | ⟨k, h2, h3⟩
  · exact h
  · rw [h3]; exact (cars_zero hp (by omega)).2 (und_full hp _ n k h1.1.symm (by omega))
end Go.Proofs.Ytmnmbelmcdfcjaa
/-
  Plain mathematics of what is left: Lucas by digits, small cells, rows that are multiplied into rows. Nothing of the program.
-/
namespace Go.Proofs.Ytmnmbelmcdfcjaa
open Go.RowKit

/-- Row p leaves its ends alone. -/
theorem row_prime_all : sixth.all (fun p => (List.range (p + 1)).all fun k => bin p k % p == (if k = 0 ∨ k = p then 1 else 0)) = true := by decide +kernel
theorem row_prime {p : Nat} (h : prm p) (k : Nat) : bin p k % p = if k = 0 ∨ k = p then 1 else 0 := by
  by_cases hk : k ≤ p
  · have h1 := List.all_eq_true.1 (List.all_eq_true.1 row_prime_all p (prm_in h)) k (List.mem_range.2 (by omega))
    simpa using h1
  · rw [bin_over p k (by omega), if_neg (by omega)]; exact Nat.zero_mod _
/-- p rows further down. -/
theorem bin_down {p : Nat} (h : prm p) : ∀ (m c : Nat), bin (m + p) c % p = (bin m c + if p ≤ c then bin m (c - p) else 0) % p
  | 0, c => by
    have hp := (prm_two h).1
    rw [Nat.zero_add, row_prime h c]
    by_cases h0 : c = 0
    · subst h0; rw [if_pos (.inl rfl), if_neg (by omega), bin_zero, Nat.mod_eq_of_lt (by omega)]
    · by_cases h1 : c = p
      · subst h1; rw [if_pos (.inr rfl), if_pos (Nat.le_refl _), Nat.sub_self, bin_zero, bin_over 0 c (by omega), Nat.mod_eq_of_lt (by omega)]
      · rw [if_neg (by omega), bin_over 0 c (by omega)]
        by_cases h2 : p ≤ c
        · rw [if_pos h2, bin_over 0 (c - p) (by omega)]; simp
        · rw [if_neg h2]; simp
  | m + 1, 0 => by
    have hp := (prm_two h).1
    rw [bin_zero, bin_zero, if_neg (by omega)]
  | m + 1, c + 1 => by
    have hp := (prm_two h).1
    rw [show m + 1 + p = (m + p) + 1 by omega, bin_succ, Nat.add_mod, bin_down h m c, bin_down h m (c + 1), ← Nat.add_mod, bin_succ m c]
    by_cases h1 : p ≤ c
    · rw [if_pos h1, if_pos (by omega), if_pos (by omega), show c + 1 - p = (c - p) + 1 by omega, bin_succ m (c - p)]
      congr 1 <;> omega
    · rw [if_neg h1]
      by_cases h2 : p = c + 1
      · rw [if_pos (by omega), if_pos (by omega), ← h2, Nat.sub_self, bin_zero, bin_zero]
        congr 1 <;> omega
      · rw [if_neg (by omega), if_neg (by omega)]
        congr 1 <;> omega
/-- Digits tell what is left. -/
theorem lucas {p : Nat} (h : prm p) {a b : Nat} (ha : a < p) (hb : b < p) : ∀ (n k : Nat), bin (p * n + a) (p * k + b) % p = (bin n k * bin a b) % p
  | 0, k => by
    rw [Nat.mul_zero, Nat.zero_add]
    match k with
    | 0 => rw [Nat.mul_zero, Nat.zero_add, bin_zero, Nat.one_mul]
    | k + 1 => rw [bin_over a _ (by rw [Nat.mul_succ]; omega), bin_over 0 (k + 1) (by omega), Nat.zero_mul]
  | n + 1, k => by
    rw [Nat.mul_succ, Nat.add_right_comm, bin_down h]
    match k with
    | 0 =>
      rw [Nat.mul_zero, Nat.zero_add, if_neg (by omega), Nat.add_zero]
      have := lucas h ha hb n 0
      rw [Nat.mul_zero, Nat.zero_add] at this
      rw [this, bin_zero, bin_zero]
    | k + 1 =>
      rw [if_pos (by rw [Nat.mul_succ]; omega), show p * (k + 1) + b - p = p * k + b by rw [Nat.mul_succ]; omega, Nat.add_mod, lucas h ha hb n (k + 1), lucas h ha hb n k, ← Nat.add_mod, bin_succ]
      congr 1
      rw [Nat.add_mul]; omega
theorem lucas_div {p : Nat} (h : prm p) (n k : Nat) : bin n k % p = (bin (n / p) (k / p) * bin (n % p) (k % p)) % p := by
  have hp := (prm_two h).1
  have := lucas h (Nat.mod_lt n (show 0 < p by omega)) (Nat.mod_lt k (show 0 < p by omega)) (n / p) (k / p)
  rwa [div_mod, div_mod] at this
theorem lucas_times {p : Nat} (h : prm p) (n k : Nat) : bin (n * p) (k * p) % p = bin n k % p := by
  have hp := (prm_two h).1
  have := lucas h (show 0 < p by omega) (show 0 < p by omega) n k
  rwa [Nat.add_zero, Nat.add_zero, bin_zero, Nat.mul_one, Nat.mul_comm p, Nat.mul_comm p] at this
/-- Small cells are not divided. -/
theorem small_all : sixth.all (fun p => (List.range p).all fun a => (List.range (a + 1)).all fun b => !(bin a b % p == 0)) = true := by decide +kernel
theorem small_not {p : Nat} (h : prm p) {a b : Nat} (ha : a < p) (hb : b ≤ a) : bin a b % p ≠ 0 := by
  have h1 := List.all_eq_true.1 (List.all_eq_true.1 (List.all_eq_true.1 small_all p (prm_in h)) a (List.mem_range.2 ha)) b (List.mem_range.2 (by omega))
  simpa using h1
/-- A cell is divided just if the place is not under the row. -/
theorem left_zero {p : Nat} (h : prm p) (n k : Nat) : bin n k % p = 0 ↔ und p k n = false := by
  have hp := (prm_two h).1
  refine div_ind2 hp (p := fun n k => bin n k % p = 0 ↔ und p k n = false) ?_ (fun n k _ ih => ?_) n k
  · rw [und_zero, bin_zero, Nat.mod_eq_of_lt (by omega)]; simp
  · rw [lucas_div h, und_step hp, Bool.and_eq_false_iff, decide_eq_false_iff_not, ← ih]
    have hm := Nat.mod_lt n (show 0 < p by omega)
    constructor
    · intro h0
      rcases euclid h _ _ h0 with h1 | h1
      · exact .inr h1
      · left
        intro hle
        exact small_not h hm hle h1
    · rintro (h1 | h1)
      · rw [bin_over (n % p) (k % p) (by omega), Nat.mul_zero, Nat.zero_mod]
      · rw [Nat.mul_mod, h1, Nat.zero_mul, Nat.zero_mod]

/-- A cell made of the one before it. -/
theorem bin_next (n k : Nat) : bin n (k + 1) * (k + 1) + bin n k * k = bin n k * n := by
  have h := absorb n k
  rw [bin_succ, Nat.add_mul, Nat.add_mul, Nat.one_mul, Nat.mul_add, Nat.mul_one, Nat.mul_comm n] at h
  omega
theorem bin_div (n k : Nat) : bin n k * (n - k) / (k + 1) = bin n (k + 1) := by
  have h := bin_next n k
  have h2 : bin n k * (n - k) = bin n (k + 1) * (k + 1) := by rw [Nat.mul_sub]; omega
  rw [h2, Nat.mul_div_cancel _ (by omega)]

/-- The numbers of x and y whose places are together t, multiplied, of the first m places of x. -/
def convU (x y : Nat → Nat) (t : Nat) : Nat → Nat
  | 0 => 0
  | m + 1 => convU x y t m + (if m ≤ t then x m * y (t - m) else 0)
def conv (x y : Nat → Nat) (t : Nat) : Nat := convU x y t (t + 1)
theorem convU_over (x y : Nat → Nat) (t : Nat) : ∀ j, convU x y t (t + 1 + j) = convU x y t (t + 1)
  | 0 => rfl
  | j + 1 => by
    show convU x y t (t + 1 + j) + (if t + 1 + j ≤ t then x (t + 1 + j) * y (t - (t + 1 + j)) else 0) = _
    rw [convU_over x y t j, if_neg (by omega), Nat.add_zero]
theorem convU_short (x y : Nat → Nat) (t : Nat) {n : Nat} (hx : ∀ i, n ≤ i → x i = 0) : ∀ j, convU x y t (n + j) = convU x y t n
  | 0 => rfl
  | j + 1 => by
    show convU x y t (n + j) + (if n + j ≤ t then x (n + j) * y (t - (n + j)) else 0) = _
    rw [convU_short x y t hx j, hx (n + j) (by omega)]; simp
theorem conv_of (x y : Nat → Nat) (t : Nat) {n : Nat} (hx : ∀ i, n ≤ i → x i = 0) : conv x y t = convU x y t n := by
  unfold conv
  by_cases h : t + 1 ≤ n
  · obtain ⟨j, rfl⟩ : ∃ j, n = t + 1 + j := ⟨n - (t + 1), by omega⟩
    rw [convU_over]
  · obtain ⟨j, hj⟩ : ∃ j, t + 1 = n + j := ⟨t + 1 - n, by omega⟩
    rw [hj, convU_short x y t hx]
/-- A sum from the other end. -/
def sumF (f : Nat → Nat) : Nat → Nat
  | 0 => 0
  | m + 1 => sumF f m + f m
theorem sumF_first (f : Nat → Nat) : ∀ m, sumF f (m + 1) = f 0 + sumF (fun i => f (i + 1)) m
  | 0 => by simp [sumF]
  | m + 1 => by
    show sumF f (m + 1) + f (m + 1) = _
    rw [sumF_first f m]
    simp only [sumF]; omega
theorem sumF_congr {f g : Nat → Nat} : ∀ m, (∀ i, i < m → f i = g i) → sumF f m = sumF g m
  | 0, _ => rfl
  | m + 1, h => by simp only [sumF]; rw [sumF_congr m (fun i hi => h i (by omega)), h m (by omega)]
theorem sumF_back : ∀ (m : Nat) (f : Nat → Nat), sumF (fun i => f (m - 1 - i)) m = sumF f m
  | 0, _ => rfl
  | m + 1, f => by
    rw [sumF_first]
    simp only [sumF]
    rw [show m + 1 - 1 - 0 = m by omega, ← sumF_back m f]
    rw [sumF_congr m (fun i hi => by rw [show m + 1 - 1 - (i + 1) = m - 1 - i by omega])]
    omega
theorem convU_sum (x y : Nat → Nat) (t : Nat) : ∀ m, m ≤ t + 1 → convU x y t m = sumF (fun i => x i * y (t - i)) m
  | 0, _ => rfl
  | m + 1, h => by simp only [convU, sumF]; rw [convU_sum x y t m (by omega), if_pos (by omega)]
theorem conv_swap (x y : Nat → Nat) (t : Nat) : conv x y t = conv y x t := by
  unfold conv
  rw [convU_sum x y t _ (Nat.le_refl _), convU_sum y x t _ (Nat.le_refl _), ← sumF_back (t + 1) (fun i => y i * x (t - i))]
  refine sumF_congr _ (fun i hi => ?_)
  show x i * y (t - i) = y (t + 1 - 1 - i) * x (t - (t + 1 - 1 - i))
  rw [show t + 1 - 1 - i = t - i by omega, show t - (t - i) = i by omega, Nat.mul_comm]
/-- Rows are multiplied into rows. -/
theorem convU_bin (a b t : Nat) : ∀ m, convU (bin a) (bin b) t m = vs a b t m
  | 0 => rfl
  | m + 1 => by
    show convU (bin a) (bin b) t m + _ = vs a b t m + vterm a b t m
    rw [convU_bin a b t m]; rfl
theorem conv_bin (a b t : Nat) : conv (bin a) (bin b) t = bin (a + b) t := by
  unfold conv
  rw [convU_bin, heaps]
theorem convU_mod (x y : Nat → Nat) (t q : Nat) : ∀ m, convU (fun i => x i % q) (fun i => y i % q) t m % q = convU x y t m % q
  | 0 => rfl
  | m + 1 => by
    simp only [convU]
    rw [Nat.add_mod, convU_mod x y t q m, Nat.add_mod (convU x y t m)]
    split
    · rw [← Nat.mul_mod]
    · rfl
theorem conv_mod (x y : Nat → Nat) (t q : Nat) : conv (fun i => x i % q) (fun i => y i % q) t % q = conv x y t % q := convU_mod x y t q _
theorem conv_one (x y : Nat → Nat) (h0 : y 0 = 1) (h : ∀ i, 0 < i → y i = 0) (t : Nat) : conv x y t = x t := by
  rw [conv_swap, conv_of y x t (n := 1) (fun i hi => h i (by omega))]
  simp [convU, h0]
theorem convU_le {x y : Nat → Nat} {q : Nat} (hx : ∀ i, x i ≤ q) (hy : ∀ i, y i ≤ q) (t : Nat) : ∀ m, convU x y t m ≤ m * (q * q)
  | 0 => by simp [convU]
  | m + 1 => by
    have h1 := convU_le hx hy t m
    have h2 := Nat.mul_le_mul (hx m) (hy (t - m))
    simp only [convU]
    rw [Nat.add_mul, Nat.one_mul]
    split <;> omega
end Go.Proofs.Ytmnmbelmcdfcjaa
/-
  Plain mathematics of what is left: small cells multiplied digit by digit; rows of what is left; rows multiplied number by number. Nothing of the program.
-/
namespace Go.Proofs.Ytmnmbelmcdfcjaa
open Go.RowKit

/-- The cells of all pairs of digits, multiplied. -/
def prodL : List (Nat × Nat) → Nat
  | [] => 1
  | x :: l => bin x.1 x.2 * prodL l
theorem prodL_snoc : ∀ (p : List (Nat × Nat)) (x : Nat × Nat), prodL (p ++ [x]) = prodL p * bin x.1 x.2
  | [], x => by simp [prodL]
  | y :: p, x => by simp only [List.cons_append, prodL]; rw [prodL_snoc p x, Nat.mul_assoc]
theorem prodL_left {p : Nat} (h : prm p) (n k : Nat) : prodL (pairs p n k) % p = bin n k % p := by
  have hp := (prm_two h).1
  refine div_ind2 hp (p := fun n k => prodL (pairs p n k) % p = bin n k % p) ?_ (fun n k hnk ih => ?_) n k
  · rw [pairs_zero]; rfl
  · rw [pairs_pos hp hnk, lucas_div h]
    simp only [prodL]
    rw [Nat.mul_comm, Nat.mul_mod, ih, ← Nat.mul_mod]
theorem prodL_step {p : Nat} (pre : List (Nat × Nat)) (x : Nat × Nat) : prodL pre % p * (bin x.1 x.2 % p) % p = prodL (pre ++ [x]) % p := by
  rw [prodL_snoc, ← Nat.mul_mod]

/-- What is left of a row's first cells, and of the whole row. -/
def leftN (q n k : Nat) : Nat := bin n k % q
def rowLP (q n k : Nat) : List Int := (List.range k).map fun i => (leftN q n i : Int)
def rowLN (q n : Nat) : List Int := rowLP q n (n + 1)
/-- The row before row j: nothing before row 0. -/
def outL (q : Nat) : Nat → List Int
  | 0 => []
  | j + 1 => rowLN q j
theorem leftN_lt {q : Nat} (hq : 2 ≤ q) (n k : Nat) : leftN q n k < q := Nat.mod_lt _ (by omega)
theorem leftN_zero {q : Nat} (hq : 2 ≤ q) (n : Nat) : leftN q n 0 = 1 := by unfold leftN; rw [bin_zero, Nat.mod_eq_of_lt (by omega)]
theorem leftN_self {q : Nat} (hq : 2 ≤ q) (n : Nat) : leftN q n n = 1 := by unfold leftN; rw [bin_self, Nat.mod_eq_of_lt (by omega)]
theorem leftN_over (q n k : Nat) (h : n < k) : leftN q n k = 0 := by unfold leftN; rw [bin_over n k h, Nat.zero_mod]
theorem leftN_sum (q j k : Nat) (hk : 0 < k) (hj : k < j) : (leftN q (j - 1) (k - 1) + leftN q (j - 1) k) % q = leftN q j k := by
  unfold leftN; rw [← Nat.add_mod, bin_sum j k hk hj]
theorem rowLP_len (q n k : Nat) : (rowLP q n k).length = k := by simp [rowLP]
theorem rowLN_len (q n : Nat) : (rowLN q n).length = n + 1 := rowLP_len _ _ _
theorem outL_len (q j : Nat) : (outL q j).length = j := by cases j <;> simp [outL, rowLN_len]
theorem rowLP_snoc (q n k : Nat) : rowLP q n (k + 1) = rowLP q n k ++ [(leftN q n k : Int)] := by simp [rowLP, List.range_succ]
theorem rowLP_one {q : Nat} (hq : 2 ≤ q) (n : Nat) : rowLP q n 1 = [1] := by simp [rowLP, leftN_zero hq]
theorem rowLP_last {q : Nat} (hq : 2 ≤ q) (n : Nat) : rowLP q n n ++ [1] = rowLN q n := by unfold rowLN; rw [rowLP_snoc, leftN_self hq]; rfl
theorem rowLP_get (q n k i : Nat) (h : i < k) : (rowLP q n k)[i]? = some (leftN q n i : Int) := by
  simp [rowLP, h]
theorem rowLP_getD (q n k i : Nat) (h : i < k) : (rowLP q n k).getD i 0 = (leftN q n i : Int) := by
  rw [List.getD, rowLP_get q n k i h]; rfl
theorem outL_get (q j k : Nat) (h : k < j) : (outL q j)[k]? = some (leftN q (j - 1) k : Int) := by
  cases j with
  | zero => omega
  | succ j => exact rowLP_get q j (j + 1) k h
/-- Adding to each cell of row j the one before it, of which what is left is kept: row j + 1; the last cell was 0. -/
theorem left_turn (q j i n : Nat) (hi : i < n) : (if 0 < i ∧ i < n then leftN q j i + leftN q j (i - 1) else leftN q j i) % q = leftN q (j + 1) i := by
  unfold leftN
  cases i with
  | zero => rw [if_neg (by omega), bin_zero, bin_zero, Nat.mod_mod]
  | succ i => rw [if_pos ⟨by omega, hi⟩, ← Nat.add_mod, bin_succ, show i + 1 - 1 = i by omega, Nat.add_comm]

/-- Rows of a power of a prime leave their ends. -/
theorem strip_ends {p : Nat} (h : prm p) : ∀ (n k : Nat), 0 < k → k < n → strip p n = 1 → bin n k % p = 0 := by
  have hp := (prm_two h).1
  intro n
  induction n using Nat.strongRecOn with
  | _ n ih =>
    intro k hk hkn hs
    by_cases hz : n % p = 0
    · rw [strip_yes hp (by omega) hz] at hs
      rw [lucas_div h, hz]
      by_cases hk0 : k % p = 0
      · have h1 := div_pos_of_mod hk hk0
        have h2 := div_mod p n
        have h3 := div_mod p k
        have h4 : k / p < n / p := by
          rw [hz] at h2
          rw [hk0] at h3
          exact Nat.lt_of_mul_lt_mul_left (a := p) (by omega)
        have := ih (n / p) (Nat.div_lt_self (by omega) hp) (k / p) h1 h4 hs
        rw [Nat.mul_mod, this, Nat.zero_mul, Nat.zero_mod]
      · rw [bin_over 0 (k % p) (by omega), Nat.mul_zero, Nat.zero_mod]
    · rw [strip_no hz] at hs; omega

/-- The sums when the first k numbers of x have been multiplied with all of y, and number k with the first j. -/
def convI (x y : Nat → Nat) (k j t : Nat) : Nat := convU x y t k + (if k ≤ t ∧ t < k + j then x k * y (t - k) else 0)
theorem convI_zero (x y : Nat → Nat) (k t : Nat) : convI x y k 0 t = convU x y t k := by unfold convI; rw [if_neg (by omega), Nat.add_zero]
theorem convI_at (x y : Nat → Nat) (k j : Nat) : convI x y k (j + 1) (k + j) = convI x y k j (k + j) + x k * y j := by
  unfold convI; rw [if_pos (by omega), if_neg (by omega), show k + j - k = j by omega]; rfl
theorem convI_other (x y : Nat → Nat) (k j t : Nat) (h : t ≠ k + j) : convI x y k (j + 1) t = convI x y k j t := by
  unfold convI
  by_cases e : k ≤ t ∧ t < k + j
  · rw [if_pos e, if_pos (by omega)]
  · rw [if_neg e, if_neg (by omega)]
theorem convI_full {x y : Nat → Nat} {m : Nat} (hy : ∀ i, m ≤ i → y i = 0) (k t : Nat) : convI x y k m t = convI x y (k + 1) 0 t := by
  rw [convI_zero]
  unfold convI
  show _ = convU x y t k + (if k ≤ t then x k * y (t - k) else 0)
  by_cases e : k ≤ t
  · rw [if_pos e]
    by_cases e2 : t < k + m
    · rw [if_pos ⟨e, e2⟩]
    · rw [if_neg (by omega), hy _ (by omega), Nat.mul_zero]
  · rw [if_neg (by omega), if_neg e]
theorem convI_le {x y : Nat → Nat} {q : Nat} (hx : ∀ i, x i ≤ q) (hy : ∀ i, y i ≤ q) (k j t : Nat) : convI x y k j t ≤ (k + 1) * (q * q) := by
  have h1 := convU_le hx hy t k
  have h2 := Nat.mul_le_mul (hx k) (hy (t - k))
  unfold convI
  rw [Nat.add_mul, Nat.one_mul]
  split <;> omega
theorem convI_start (x y : Nat → Nat) (t : Nat) : convI x y 0 0 t = 0 := by rw [convI_zero]; rfl
theorem convI_end {x y : Nat → Nat} {n : Nat} (hx : ∀ i, n ≤ i → x i = 0) (t : Nat) : convI x y n 0 t = conv x y t := by rw [convI_zero, conv_of x y t hx]
end Go.Proofs.Ytmnmbelmcdfcjaa
/-
  Plain mathematics of triangles of like and unlike. Nothing of the program.
-/
namespace Go.Proofs.Ytmnmbelmcdfcjaa
open Go.RowKit

/-- The cell at place k of the row i steps under f. -/
def st (f : Nat → Nat) : Nat → Nat → Nat
  | 0, k => f k
  | i + 1, k => (st f i k + st f i (k + 1)) % 2
theorem st_le {f : Nat → Nat} (hf : ∀ k, f k ≤ 1) : ∀ i k, st f i k ≤ 1
  | 0, k => hf k
  | i + 1, k => by simp only [st]; omega
theorem st_congr {f g : Nat → Nat} : ∀ (i k : Nat), (∀ j, k ≤ j → j ≤ k + i → f j = g j) → st f i k = st g i k
  | 0, k, h => h k (Nat.le_refl _) (Nat.le_refl _)
  | i + 1, k, h => by simp only [st]; rw [st_congr i k (fun j h1 h2 => h j h1 (by omega)), st_congr i (k + 1) (fun j h1 h2 => h j (by omega) (by omega))]
/-- Of three cells each is the sum of the two others. -/
theorem st_left {f : Nat → Nat} (hf : ∀ k, f k ≤ 1) (i k : Nat) : (st f i (k + 1) + st f (i + 1) k) % 2 = st f i k := by
  have h1 := st_le hf i k
  have h2 := st_le hf i (k + 1)
  simp only [st]; omega
theorem st_next (f : Nat → Nat) : ∀ i k, st (st f 1) i k = st f (i + 1) k
  | 0, _ => rfl
  | i + 1, k => by
    show (st (st f 1) i k + st (st f 1) i (k + 1)) % 2 = (st f (i + 1) k + st f (i + 1) (k + 1)) % 2
    rw [st_next f i k, st_next f i (k + 1)]
theorem st_sum (f g : Nat → Nat) : ∀ i k, st (fun j => (f j + g j) % 2) i k = (st f i k + st g i k) % 2 ∨ i = 0
  | 0, _ => .inr rfl
  | 1, k => .inl (by simp only [st]; omega)
  | i + 2, k => .inl (by
    rcases st_sum f g (i + 1) k with h1 | h1
    · rcases st_sum f g (i + 1) (k + 1) with h2 | h2
      · show (st _ (i + 1) k + st _ (i + 1) (k + 1)) % 2 = ((st f (i + 1) k + st f (i + 1) (k + 1)) % 2 + (st g (i + 1) k + st g (i + 1) (k + 1)) % 2) % 2
        rw [h1, h2]; omega
      · omega
    · omega)
/-- Under the row in which each cell is turned it is the same. -/
theorem st_turn {f : Nat → Nat} (hf : ∀ k, f k ≤ 1) (k : Nat) : st (fun j => 1 - f j) 1 k = st f 1 k := by
  have h1 := hf k
  have h2 := hf (k + 1)
  simp only [st]; omega
/-- From the other end. -/
theorem st_back (f : Nat → Nat) (n : Nat) : ∀ i k, i + k < n → st (fun j => f (n - 1 - j)) i k = st f i (n - 1 - i - k)
  | 0, k, _ => by simp only [st]; rw [Nat.sub_zero]
  | i + 1, k, h => by
    show (st _ i k + st _ i (k + 1)) % 2 = (st f i (n - 1 - (i + 1) - k) + st f i (n - 1 - (i + 1) - k + 1)) % 2
    rw [st_back f n i k (by omega), st_back f n i (k + 1) (by omega), show n - 1 - i - k = n - 1 - (i + 1) - k + 1 by omega, show n - 1 - i - (k + 1) = n - 1 - (i + 1) - k by omega, Nat.add_comm]
/-- The side that has the last cells of all rows; its triangle. -/
def side (f : Nat → Nat) (n j : Nat) : Nat := st f j (n - 1 - j)
theorem side_le {f : Nat → Nat} (hf : ∀ k, f k ≤ 1) (n j : Nat) : side f n j ≤ 1 := st_le hf _ _
theorem st_side {f : Nat → Nat} (hf : ∀ k, f k ≤ 1) (n : Nat) : ∀ i k, i + k < n → st (side f n) i k = st f k (n - 1 - i - k)
  | 0, k, _ => by simp only [st, side]; rw [Nat.sub_zero]
  | i + 1, k, h => by
    show (st _ i k + st _ i (k + 1)) % 2 = _
    rw [st_side hf n i k (by omega), st_side hf n i (k + 1) (by omega), show n - 1 - i - k = n - 1 - (i + 1) - k + 1 by omega, show n - 1 - i - (k + 1) = n - 1 - (i + 1) - k by omega]
    exact st_left hf k (n - 1 - (i + 1) - k)
theorem side_two {f : Nat → Nat} (hf : ∀ k, f k ≤ 1) (n j : Nat) (h : j < n) : side (side f n) n j = st f (n - 1 - j) 0 := by
  show st (side f n) j (n - 1 - j) = _
  rw [st_side hf n j (n - 1 - j) (by omega), show n - 1 - j - (n - 1 - j) = 0 by omega]
/-- Turned three times it is as before. -/
theorem side_three {f : Nat → Nat} (hf : ∀ k, f k ≤ 1) (n j : Nat) (h : j < n) : side (side (side f n) n) n j = f j := by
  have h1 := side_two (side_le hf n) n j h
  rw [h1, st_side hf n (n - 1 - j) 0 (by omega), show n - 1 - (n - 1 - j) - 0 = j by omega]; rfl

theorem sumF_add (f g : Nat → Nat) : ∀ m, sumF (fun i => f i + g i) m = sumF f m + sumF g m
  | 0 => rfl
  | m + 1 => by simp only [sumF]; rw [sumF_add f g m]; omega
/-- All cells of a triangle. -/
def tot (T : Nat → Nat → Nat) (n : Nat) : Nat := sumF (fun i => sumF (T i) (n - i)) n
theorem tot_congr {T S : Nat → Nat → Nat} (n : Nat) (h : ∀ i k, i + k < n → T i k = S i k) : tot T n = tot S n :=
  sumF_congr n fun i _ => sumF_congr (n - i) fun k _ => h i k (by omega)
theorem tot_more (A : Nat → Nat → Nat) (n : Nat) : tot A (n + 1) = tot A n + sumF (fun i => A i (n - i)) (n + 1) := by
  unfold tot
  show sumF (fun i => sumF (A i) (n + 1 - i)) n + sumF (A n) (n + 1 - n) = _ + (sumF (fun i => A i (n - i)) n + A n (n - n))
  have h : sumF (fun i => sumF (A i) (n + 1 - i)) n = sumF (fun i => sumF (A i) (n - i) + A i (n - i)) n := sumF_congr n fun i hi => by rw [show n + 1 - i = n - i + 1 by omega]; rfl
  rw [h, sumF_add, show n + 1 - n = 0 + 1 by omega, Nat.sub_self]
  show _ + (0 + A n 0) = _
  omega
theorem tot_swap (A : Nat → Nat → Nat) : ∀ n, tot (fun i k => A k i) n = tot A n
  | 0 => rfl
  | n + 1 => by
    rw [tot_more, tot_more, tot_swap A n, ← sumF_back (n + 1) (fun i => A i (n - i))]
    congr 1
    refine sumF_congr _ fun i hi => ?_
    show A (n - i) i = A (n + 1 - 1 - i) (n - (n + 1 - 1 - i))
    rw [Nat.add_sub_cancel, show n - (n - i) = i by omega]
theorem tot_back (T : Nat → Nat → Nat) (n : Nat) : tot (fun i k => T i (n - 1 - i - k)) n = tot T n :=
  sumF_congr n fun i _ => by
    rw [← sumF_back (n - i) (T i)]
    exact sumF_congr _ fun k _ => by
      show T i (n - 1 - i - k) = T i (n - i - 1 - k)
      rw [show n - 1 - i - k = n - i - 1 - k by omega]
/-- From the other end, and from the other sides, there are as many ones. -/
theorem ones_back (f : Nat → Nat) (n : Nat) : tot (st fun j => f (n - 1 - j)) n = tot (st f) n := by
  rw [tot_congr n (fun i k h => st_back f n i k h), tot_back]
theorem ones_side {f : Nat → Nat} (hf : ∀ k, f k ≤ 1) (n : Nat) : tot (st (side f n)) n = tot (st f) n := by
  rw [tot_congr n (fun i k h => st_side hf n i k h), ← tot_swap, ← tot_back (st f) n]
  exact tot_congr n fun i k _ => by rw [show n - 1 - k - i = n - 1 - i - k by omega]
theorem ones_next (f : Nat → Nat) (n : Nat) : tot (st f) (n + 1) = sumF f (n + 1) + tot (st (st f 1)) n := by
  unfold tot
  rw [sumF_first]
  show sumF f (n + 1) + _ = _
  congr 1
  refine sumF_congr n fun i _ => ?_
  rw [show n + 1 - (i + 1) = n - i by omega]
  exact sumF_congr _ fun k _ => (st_next f i k).symm

/-- The last cell: the cells that are left by 2. -/
def bsum (f : Nat → Nat) (i k : Nat) : Nat := sumF (fun j => bin i j * f (k + j)) (i + 1)
theorem bsum_next (f : Nat → Nat) (i k : Nat) : bsum f (i + 1) k = bsum f i k + bsum f i (k + 1) := by
  unfold bsum
  have h1 : sumF (fun j => bin (i + 1) j * f (k + j)) (i + 1 + 1) = bin (i + 1) 0 * f (k + 0) + sumF (fun j => bin i j * f (k + 1 + j) + bin i (j + 1) * f (k + (j + 1))) (i + 1) := by
    rw [sumF_first]
    congr 1
    exact sumF_congr _ fun j _ => by rw [bin_succ, Nat.add_mul, show k + (j + 1) = k + 1 + j by omega]
  have h2 : sumF (fun j => bin i j * f (k + j)) (i + 1 + 1) = bin i 0 * f (k + 0) + sumF (fun j => bin i (j + 1) * f (k + (j + 1))) (i + 1) := sumF_first _ _
  have h3 : sumF (fun j => bin i j * f (k + j)) (i + 1 + 1) = sumF (fun j => bin i j * f (k + j)) (i + 1) := by
    show _ + bin i (i + 1) * f (k + (i + 1)) = _
    rw [bin_over i (i + 1) (by omega), Nat.zero_mul]; rfl
  rw [h1, sumF_add, bin_zero]
  rw [bin_zero] at h2
  omega
theorem st_bsum {f : Nat → Nat} (hf : ∀ k, f k ≤ 1) : ∀ i k, st f i k = bsum f i k % 2
  | 0, k => by
    have := hf k
    show f k = (0 + 1 * f (k + 0)) % 2
    rw [Nat.add_zero]; omega
  | i + 1, k => by rw [bsum_next, Nat.add_mod, ← st_bsum hf i k, ← st_bsum hf i (k + 1)]; rfl
theorem sumF_mod (f g : Nat → Nat) : ∀ m, sumF (fun j => f j % 2 * g j) m % 2 = sumF (fun j => f j * g j) m % 2
  | 0 => rfl
  | m + 1 => by
    have h := sumF_mod f g m
    have h2 : f m % 2 * g m % 2 = f m * g m % 2 := by rw [Nat.mod_mul_mod]
    simp only [sumF]; omega
theorem last_left {f : Nat → Nat} (hf : ∀ k, f k ≤ 1) (n : Nat) : st f n 0 = sumF (fun j => leftN 2 n j * f j) (n + 1) % 2 := by
  rw [st_bsum hf]
  unfold bsum leftN
  rw [sumF_mod]
  congr 1
  exact sumF_congr _ fun j _ => by rw [Nat.zero_add]
theorem prm_2 : prm 2 := by unfold prm; omega
theorem left_und (n k : Nat) : leftN 2 n k = if und 2 k n then 1 else 0 := by
  have h1 := left_zero prm_2 n k
  have h2 := leftN_lt (q := 2) (by omega) n k
  unfold leftN at *
  cases h : und 2 k n
  · rw [h1.2 h]; rfl
  · have : bin n k % 2 ≠ 0 := fun e => by rw [h1.1 e] at h; cases h
    simp; omega
end Go.Proofs.Ytmnmbelmcdfcjaa
/-
  Triangles of like and unlike as bits of numbers; what is checked number by number. Nothing of the program.
-/
namespace Go.Proofs.Ytmnmbelmcdfcjaa
open Go.RowKit

def bitF (N k : Nat) : Nat := (N >>> k) % 2
theorem bitF_le (N k : Nat) : bitF N k ≤ 1 := by unfold bitF; omega
theorem bitF_test (N k : Nat) : bitF N k = (N.testBit k).toNat := by unfold bitF; rw [Nat.toNat_testBit, Nat.shiftRight_eq_div_pow]
def pop (N : Nat) : Nat → Nat
  | 0 => 0
  | k + 1 => pop N k + (N >>> k) % 2
theorem pop_sum (N : Nat) : ∀ k, sumF (bitF N) k = pop N k
  | 0 => rfl
  | k + 1 => by simp only [sumF, pop]; rw [pop_sum N k]; rfl
/-- The row under a row of l + 1 bits. -/
def downN (l N : Nat) : Nat := (N ^^^ (N >>> 1)) % 2 ^ l
def onesN : Nat → Nat → Nat
  | 0, _ => 0
  | l + 1, N => pop N (l + 1) + onesN l (downN l N)
theorem downN_bit (l N k : Nat) (h : k < l) : bitF (downN l N) k = st (bitF N) 1 k := by
  show _ = (bitF N k + bitF N (k + 1)) % 2
  unfold downN
  rw [bitF_test, bitF_test, bitF_test, Nat.testBit_mod_two_pow, Nat.testBit_xor, Nat.testBit_shiftRight, Nat.add_comm 1 k]
  simp only [h, decide_true, Bool.true_and]
  cases N.testBit k <;> cases N.testBit (k + 1) <;> rfl
theorem ones_bits : ∀ n N, tot (st (bitF N)) n = onesN n N
  | 0, _ => rfl
  | n + 1, N => by
    rw [ones_next, pop_sum]
    show pop N (n + 1) + _ = pop N (n + 1) + onesN n (downN n N)
    rw [← ones_bits n (downN n N)]
    congr 1
    exact tot_congr n fun i k h => st_congr i k fun j _ h2 => (downN_bit n N j (by omega)).symm
/-- A row as a number. -/
def numF (f : Nat → Nat) : Nat → Nat
  | 0 => 0
  | n + 1 => numF f n + f n * 2 ^ n
theorem numF_lt {f : Nat → Nat} (hf : ∀ k, f k ≤ 1) : ∀ n, numF f n < 2 ^ n
  | 0 => Nat.zero_lt_one
  | n + 1 => by
    have h1 := numF_lt hf n
    have h2 := Nat.mul_le_mul_right (2 ^ n) (hf n)
    simp only [numF]; rw [Nat.pow_succ]; omega
theorem numF_bit {f : Nat → Nat} (hf : ∀ k, f k ≤ 1) : ∀ n k, k < n → bitF (numF f n) k = f k
  | n + 1, k, h => by
    have h1 := numF_lt hf n
    have h2 := hf n
    show ((numF f n + f n * 2 ^ n) >>> k) % 2 = f k
    rw [Nat.shiftRight_eq_div_pow]
    by_cases e : k = n
    · subst e
      rw [Nat.add_mul_div_right _ _ (Nat.pow_pos (by omega)), Nat.div_eq_of_lt h1]; omega
    · have h3 := numF_bit hf n k (by omega)
      unfold bitF at h3
      rw [Nat.shiftRight_eq_div_pow] at h3
      have h4 : f n * 2 ^ n = 2 * (f n * 2 ^ (n - k - 1)) * 2 ^ k := by
        rw [Nat.mul_assoc, Nat.mul_assoc, ← Nat.pow_add, ← Nat.mul_assoc, Nat.mul_comm 2, Nat.mul_assoc, ← Nat.pow_succ']
        congr 2; omega
      rw [h4, Nat.add_mul_div_right _ _ (Nat.pow_pos (by omega)), Nat.add_mul_mod_self_left]; exact h3
theorem ones_num {f : Nat → Nat} (hf : ∀ k, f k ≤ 1) (n : Nat) : tot (st f) n = onesN n (numF f n) := by
  rw [← ones_bits]
  exact tot_congr n fun i k h => st_congr i k fun j _ h2 => (numF_bit hf n j (by omega)).symm

def allB (p : Nat → Bool) : Nat → Bool
  | 0 => true
  | n + 1 => p n && allB p n
theorem allB_of {p : Nat → Bool} : ∀ {n : Nat}, allB p n = true → ∀ k, k < n → p k = true
  | n + 1, h, k, hk => by
    simp only [allB, Bool.and_eq_true] at h
    by_cases e : k = n
    · subst e; exact h.1
    · exact allB_of h.2 k (by omega)
def cntB (p : Nat → Bool) : Nat → Nat
  | 0 => 0
  | n + 1 => cntB p n + (if p n then 1 else 0)
/-- How many rows of c bits have triangles with as many ones as noughts; of the first m. -/
def balU (c m : Nat) : Nat := cntB (fun N => 4 * onesN c N == c * (c + 1)) m
def balanced (c : Nat) : Nat := balU c (2 ^ c)
theorem cntB_le (p : Nat → Bool) : ∀ n, cntB p n ≤ n
  | 0 => Nat.le_refl _
  | n + 1 => by have := cntB_le p n; simp only [cntB]; split <;> omega
theorem cntB_none {p : Nat → Bool} (h : ∀ k, p k = false) : ∀ n, cntB p n = 0
  | 0 => rfl
  | n + 1 => by simp only [cntB]; rw [cntB_none h n, h n]; rfl
theorem cntB_pos {p : Nat → Bool} {k : Nat} (h : p k = true) : ∀ n, k < n → 0 < cntB p n
  | n + 1, hk => by
    simp only [cntB]
    by_cases e : k = n
    · subst e; rw [if_pos h]; omega
    · have := cntB_pos h n (by omega); omega

set_option maxRecDepth 100000 in
theorem few_all : allB (fun n => allB (fun N => Nat.ble (3 * onesN n N) (n * (n + 1) + 2)) (2 ^ n)) 13 = true := by decide +kernel
/-- There are at most two ones for each three cells, rounded up. -/
theorem few_ones {f : Nat → Nat} (hf : ∀ k, f k ≤ 1) {n : Nat} (h : n ≤ 12) : 3 * tot (st f) n ≤ n * (n + 1) + 2 := by
  rw [ones_num hf]
  exact Nat.le_of_ble_eq_true (allB_of (allB_of few_all n (by omega)) _ (numF_lt hf n))
theorem balanced_three : balanced 3 = 4 := by decide +kernel
theorem balanced_four : balanced 4 = 6 := by decide +kernel
/-- There are some exactly for sides that leave 0 or 3 divided by 4. -/
theorem balanced_some {c : Nat} (h1 : 1 ≤ c) (h2 : c ≤ 12) : 0 < balanced c ↔ c % 4 = 0 ∨ c % 4 = 3 := by
  have hw : ∀ N, N < 2 ^ c → (4 * onesN c N == c * (c + 1)) = true → 0 < balanced c := fun N h h' => cntB_pos (p := fun N => 4 * onesN c N == c * (c + 1)) h' (2 ^ c) h
  have hn : (∀ N, (4 * onesN c N == c * (c + 1)) = false) → balanced c = 0 := fun h => cntB_none h _
  rcases (show c = 1 ∨ c = 2 ∨ c = 3 ∨ c = 4 ∨ c = 5 ∨ c = 6 ∨ c = 7 ∨ c = 8 ∨ c = 9 ∨ c = 10 ∨ c = 11 ∨ c = 12 by omega) with rfl | rfl | rfl | rfl | rfl | rfl | rfl | rfl | rfl | rfl | rfl | rfl
  · rw [hn (fun N => by rw [beq_eq_false_iff_ne]; omega)]; simp
  · rw [hn (fun N => by rw [beq_eq_false_iff_ne]; omega)]; simp
  · exact ⟨fun _ => by decide, fun _ => hw 1 (by decide) (by decide +kernel)⟩
  · exact ⟨fun _ => by decide, fun _ => hw 2 (by decide) (by decide +kernel)⟩
  · rw [hn (fun N => by rw [beq_eq_false_iff_ne]; omega)]; simp
  · rw [hn (fun N => by rw [beq_eq_false_iff_ne]; omega)]; simp
  · exact ⟨fun _ => by decide, fun _ => hw 9 (by decide) (by decide +kernel)⟩
  · exact ⟨fun _ => by decide, fun _ => hw 11 (by decide) (by decide +kernel)⟩
  · rw [hn (fun N => by rw [beq_eq_false_iff_ne]; omega)]; simp
  · rw [hn (fun N => by rw [beq_eq_false_iff_ne]; omega)]; simp
  · exact ⟨fun _ => by decide, fun _ => hw 75 (by decide) (by decide +kernel)⟩
  · exact ⟨fun _ => by decide, fun _ => hw 73 (by decide) (by decide +kernel)⟩
end Go.Proofs.Ytmnmbelmcdfcjaa
/-
  The values of the functions of chapter 3 at every argument.
-/
namespace Go.Proofs.Ytmnmbelmcdfcjaa
open Go.RowKit

theorem tmod_n (n b : Nat) : Int.tmod (n : Int) (b : Int) = ((n % b : Nat) : Int) := by rw [Int.tmod_eq_emod_of_nonneg (by omega)]; rfl
theorem tdiv_n (n b : Nat) : Int.tdiv (n : Int) (b : Int) = ((n / b : Nat) : Int) := by rw [Int.tdiv_eq_ediv_of_nonneg (by omega)]; rfl

def prmI (p : Int) : Bool := decide (p = 2 ∨ p = 3 ∨ p = 5 ∨ p = 7 ∨ p = 11 ∨ p = 13)
theorem prmI_nat (p : Nat) : prmI p = true ↔ prm p := by unfold prmI prm; simp; omega
theorem prmI_t {p : Int} (h : prmI p = true) : ∃ P : Nat, p = P ∧ prm P := by
  refine ⟨p.toNat, ?_, ?_⟩
  · unfold prmI at h; simp at h; omega
  · unfold prmI at h; unfold prm; simp at h; omega

def timesV (n p : Int) : Int := if n < 1 ∨ 1000000000000000000 < n ∨ prmI p = false then -1 else (val p.toNat n.toNat : Int)
def allV (n p : Int) : Int := if n < 0 ∨ 999999999 < n ∨ prmI p = false then -1 else (tup p.toNat n.toNat : Int)
def cellTV (row place p : Int) : Int := if row < 0 ∨ 499999999 < row ∨ place < 0 ∨ row < place ∨ prmI p = false then -1 else (cars p.toNat row.toNat place.toNat : Int)
def mostV (row p : Int) : Int := if row < 1 ∨ 300 < row ∨ prmI p = false then -1 else (most p.toNat row.toNat : Int)
theorem timesV_bad {n p : Int} (h : n < 1 ∨ 1000000000000000000 < n ∨ prmI p = false) : timesV n p = -1 := if_pos h
theorem allV_bad {n p : Int} (h : n < 0 ∨ 999999999 < n ∨ prmI p = false) : allV n p = -1 := if_pos h
theorem cellTV_bad {row place p : Int} (h : row < 0 ∨ 499999999 < row ∨ place < 0 ∨ row < place ∨ prmI p = false) : cellTV row place p = -1 := if_pos h
theorem mostV_bad {row p : Int} (h : row < 1 ∨ 300 < row ∨ prmI p = false) : mostV row p = -1 := if_pos h
theorem prmI_ok {p : Nat} (h : prm p) : prmI p = true := (prmI_nat p).2 h
theorem timesV_nat {n p : Nat} (h1 : 1 ≤ n) (h2 : n ≤ 1000000000000000000) (h3 : prm p) : timesV n p = val p n := by
  unfold timesV; rw [if_neg (by rw [prmI_ok h3]; simp; omega)]; simp
theorem allV_nat {n p : Nat} (h2 : n ≤ 999999999) (h3 : prm p) : allV n p = tup p n := by
  unfold allV; rw [if_neg (by rw [prmI_ok h3]; simp; omega)]; simp
theorem cellTV_nat {n k p : Nat} (h2 : n ≤ 499999999) (hk : k ≤ n) (h3 : prm p) : cellTV n k p = cars p n k := by
  unfold cellTV; rw [if_neg (by rw [prmI_ok h3]; simp; omega)]; simp
theorem mostV_nat {n p : Nat} (h1 : 1 ≤ n) (h2 : n ≤ 300) (h3 : prm p) : mostV n p = most p n := by
  unfold mostV; rw [if_neg (by rw [prmI_ok h3]; simp; omega)]; simp
end Go.Proofs.Ytmnmbelmcdfcjaa
/-
  The values of the functions of chapter 4 at every argument.
-/
namespace Go.Proofs.Ytmnmbelmcdfcjaa
open Go.RowKit

def badL (row place p : Int) : Prop := row < 0 ∨ 999999999 < row ∨ place < 0 ∨ 999999999 < place ∨ prmI p = false
instance (row place p : Int) : Decidable (badL row place p) := by unfold badL; infer_instance
def leftV (row place p : Int) : Int := if badL row place p then -1 else ((bin row.toNat place.toNat % p.toNat : Nat) : Int)
theorem leftV_bad {row place p : Int} (h : badL row place p) : leftV row place p = -1 := if_pos h
theorem leftV_nat {n k p : Nat} (h1 : n ≤ 999999999) (h2 : k ≤ 999999999) (h3 : prm p) : leftV n k p = ((bin n k % p : Nat) : Int) := by
  unfold leftV; rw [if_neg (by unfold badL; rw [prmI_ok h3]; simp; omega)]; rfl

def badR (row q : Int) : Prop := row < 0 ∨ 300 < row ∨ q < 2 ∨ 1000 < q
instance (row q : Int) : Decidable (badR row q) := by unfold badR; infer_instance
def rowLV (row q : Int) : List Int := if badR row q then [] else rowLN q.toNat row.toNat
theorem rowLV_bad {row q : Int} (h : badR row q) : rowLV row q = [] := if_pos h
theorem rowLV_nat {n q : Nat} (h1 : n ≤ 300) (h2 : 2 ≤ q) (h3 : q ≤ 1000) : rowLV n q = rowLN q n := by
  unfold rowLV; rw [if_neg (by unfold badR; omega)]; simp
theorem rowLV_len (row q : Int) : (rowLV row q).length ≤ 301 := by
  unfold rowLV; split
  · simp
  · rename_i h; unfold badR at h; rw [rowLN_len]; omega

/-- A row of numbers that may be multiplied. -/
def rowOk (xs : List Int) (q : Int) : Bool := decide (1 ≤ xs.length ∧ xs.length ≤ 300) && xs.all (fun x => decide (0 ≤ x ∧ x < q))
def natL (xs : List Int) (i : Nat) : Nat := (xs.getD i 0).toNat
def okT (xs ys : List Int) (q : Int) : Bool := decide (2 ≤ q ∧ q ≤ 1000) && (rowOk xs q && rowOk ys q)
def timesLN (q : Nat) (xs ys : List Int) : List Int := (List.range (xs.length + ys.length - 1)).map fun t => ((conv (natL xs) (natL ys) t % q : Nat) : Int)
def timesLV (xs ys : List Int) (q : Int) : List Int := if okT xs ys q = true then timesLN q.toNat xs ys else []
theorem rowOk_at {xs : List Int} {q : Int} (h : rowOk xs q = true) {i : Nat} (hi : i < xs.length) : 0 ≤ xs.getD i 0 ∧ xs.getD i 0 < q := by
  unfold rowOk at h
  rw [Bool.and_eq_true, List.all_eq_true] at h
  have := h.2 (xs.getD i 0) (by rw [List.getD, List.getElem?_eq_getElem hi]; simp)
  simpa using this
theorem rowOk_len {xs : List Int} {q : Int} (h : rowOk xs q = true) : 1 ≤ xs.length ∧ xs.length ≤ 300 := by
  unfold rowOk at h
  rw [Bool.and_eq_true] at h
  simpa using h.1
theorem rowOk_of {xs : List Int} {q : Int} (h1 : 1 ≤ xs.length) (h2 : xs.length ≤ 300) (h : ∀ i, i < xs.length → 0 ≤ xs.getD i 0 ∧ xs.getD i 0 < q) : rowOk xs q = true := by
  unfold rowOk
  rw [Bool.and_eq_true, List.all_eq_true]
  refine ⟨by simp; omega, fun x hx => ?_⟩
  obtain ⟨i, hi, rfl⟩ := List.mem_iff_getElem.1 hx
  have := h i hi
  rw [List.getD, List.getElem?_eq_getElem hi] at this
  simpa using this
theorem rowOk_not {xs : List Int} {q : Int} {i : Nat} (hi : i < xs.length) (h : xs.getD i 0 < 0 ∨ q ≤ xs.getD i 0) : rowOk xs q = false := by
  cases e : rowOk xs q with
  | false => rfl
  | true => have := rowOk_at e hi; omega
theorem rowOk_short {xs : List Int} {q : Int} (h : xs.length < 1 ∨ 300 < xs.length) : rowOk xs q = false := by
  cases e : rowOk xs q with
  | false => rfl
  | true => have := rowOk_len e; omega
theorem natL_at {xs : List Int} {q : Int} (h : rowOk xs q = true) {i : Nat} (hi : i < xs.length) : ((natL xs i : Nat) : Int) = xs.getD i 0 ∧ (natL xs i : Int) < q := by
  have := rowOk_at h hi
  unfold natL; omega
theorem natL_over (xs : List Int) (i : Nat) (h : xs.length ≤ i) : natL xs i = 0 := by
  unfold natL; rw [List.getD, List.getElem?_eq_none h]; rfl
theorem natL_le {xs : List Int} {q : Nat} (h : rowOk xs q = true) (i : Nat) : natL xs i ≤ q := by
  by_cases hi : i < xs.length
  · have := (natL_at h hi).2; omega
  · rw [natL_over xs i (by omega)]; omega
theorem timesLN_len (q : Nat) (xs ys : List Int) : (timesLN q xs ys).length = xs.length + ys.length - 1 := by simp [timesLN]
theorem timesLN_getD (q : Nat) (xs ys : List Int) (t : Nat) (h : t < xs.length + ys.length - 1) : (timesLN q xs ys).getD t 0 = ((conv (natL xs) (natL ys) t % q : Nat) : Int) := by
  simp [timesLN, List.getD, h]
theorem timesLV_len (xs ys : List Int) (q : Int) : (timesLV xs ys q).length ≤ 599 := by
  unfold timesLV; split
  · rename_i h
    unfold okT at h
    simp only [Bool.and_eq_true] at h
    have h1 := rowOk_len h.2.1
    have h2 := rowOk_len h.2.2
    rw [timesLN_len]; omega
  · simp
end Go.Proofs.Ytmnmbelmcdfcjaa
/-
  The values of the functions of chapter 9 at every argument.
-/
namespace Go.Proofs.Ytmnmbelmcdfcjaa
open Go.RowKit

/-- A row of one to twelve cells, each of which is 0 or 1. -/
def sideB (xs : List Int) : Bool := decide (1 ≤ xs.length ∧ xs.length ≤ 12) && xs.all (fun x => decide (0 ≤ x ∧ x ≤ 1))
theorem sideB_len {xs : List Int} (h : sideB xs = true) : 1 ≤ xs.length ∧ xs.length ≤ 12 := by
  unfold sideB at h
  rw [Bool.and_eq_true] at h
  simpa using h.1
theorem sideB_at {xs : List Int} (h : sideB xs = true) {i : Nat} (hi : i < xs.length) : 0 ≤ xs.getD i 0 ∧ xs.getD i 0 ≤ 1 := by
  unfold sideB at h
  rw [Bool.and_eq_true, List.all_eq_true] at h
  have := h.2 (xs.getD i 0) (by rw [List.getD, List.getElem?_eq_getElem hi]; simp)
  simpa using this
theorem sideB_of {xs : List Int} (h1 : 1 ≤ xs.length) (h2 : xs.length ≤ 12) (h : ∀ i, i < xs.length → 0 ≤ xs.getD i 0 ∧ xs.getD i 0 ≤ 1) : sideB xs = true := by
  unfold sideB
  rw [Bool.and_eq_true, List.all_eq_true]
  refine ⟨by simp; omega, fun x hx => ?_⟩
  obtain ⟨i, hi, rfl⟩ := List.mem_iff_getElem.1 hx
  have := h i hi
  rw [List.getD, List.getElem?_eq_getElem hi] at this
  simpa using this
theorem sideB_short {xs : List Int} (h : xs.length < 1 ∨ 12 < xs.length) : sideB xs = false := by
  cases e : sideB xs with
  | false => rfl
  | true => have := sideB_len e; omega
theorem sideB_not {xs : List Int} {i : Nat} (hi : i < xs.length) (h : xs.getD i 0 < 0 ∨ 1 < xs.getD i 0) : sideB xs = false := by
  cases e : sideB xs with
  | false => rfl
  | true => have := sideB_at e hi; omega
theorem side_bit {xs : List Int} (h : sideB xs = true) (i : Nat) : natL xs i ≤ 1 := by
  by_cases hi : i < xs.length
  · have := sideB_at h hi; unfold natL; omega
  · rw [natL_over xs i (by omega)]; omega
theorem side_get {xs : List Int} (h : sideB xs = true) {i : Nat} (hi : i < xs.length) : xs.getD i 0 = (natL xs i : Int) := by
  have := sideB_at h hi; unfold natL; omega

/-- The first n cells of the row i steps under f. -/
def stL (f : Nat → Nat) (i n : Nat) : List Int := (List.range n).map fun k => (st f i k : Int)
theorem stL_len (f : Nat → Nat) (i n : Nat) : (stL f i n).length = n := by simp [stL]
theorem stL_getD (f : Nat → Nat) (i n k : Nat) (h : k < n) : (stL f i n).getD k 0 = (st f i k : Int) := by simp [stL, List.getD, h]
theorem stL_nat (f : Nat → Nat) (i n k : Nat) (h : k < n) : natL (stL f i n) k = st f i k := by unfold natL; rw [stL_getD f i n k h]; rfl
theorem stL_snoc (f : Nat → Nat) (i n : Nat) : stL f i (n + 1) = stL f i n ++ [(st f i n : Int)] := by simp [stL, List.range_succ]
theorem stL_zero {xs : List Int} (h : sideB xs = true) : stL (natL xs) 0 xs.length = xs := by
  apply List.ext_getElem?
  intro k
  by_cases hk : k < xs.length
  · have h1 := side_get h hk
    rw [List.getD, List.getElem?_eq_getElem hk, Option.getD_some] at h1
    unfold stL
    rw [List.getElem?_map, List.getElem?_range hk, List.getElem?_eq_getElem hk, h1]; rfl
  · rw [List.getElem?_eq_none (by rw [stL_len]; omega), List.getElem?_eq_none (by omega)]
theorem stL_side {f : Nat → Nat} (hf : ∀ k, f k ≤ 1) (i n : Nat) (h1 : 1 ≤ n) (h2 : n ≤ 12) : sideB (stL f i n) = true :=
  sideB_of (by rw [stL_len]; exact h1) (by rw [stL_len]; exact h2) (fun k hk => by
    rw [stL_len] at hk
    rw [stL_getD f i n k hk]
    have := st_le hf i k
    omega)
theorem stL_next (f : Nat → Nat) (i n : Nat) : stL (natL (stL f i (n + 1))) 1 n = stL f (i + 1) n := by
  unfold stL
  refine List.map_congr_left fun k hk => ?_
  have hk' := List.mem_range.1 hk
  have h1 := stL_nat f i (n + 1) k (by omega)
  have h2 := stL_nat f i (n + 1) (k + 1) (by omega)
  unfold stL at h1 h2
  simp only [st]
  rw [h1, h2]

def undrV (xs : List Int) : List Int := if sideB xs = true then stL (natL xs) 1 (xs.length - 1) else []
def rowsV (xs : List Int) : List (List Int) := if sideB xs = true then (List.range xs.length).map fun i => stL (natL xs) i (xs.length - i) else []
def onesV (xs : List Int) : Int := if sideB xs = true then (tot (st (natL xs)) xs.length : Int) else -1
def endV (xs : List Int) : Int := if sideB xs = true then (st (natL xs) (xs.length - 1) 0 : Int) else -1
def turnV (xs : List Int) : List Int := if sideB xs = true then (List.range xs.length).map fun j => (side (natL xs) xs.length j : Int) else []
def balV (c : Int) : Int := if c < 1 ∨ 12 < c then -1 else (balanced c.toNat : Int)
theorem undrV_no {xs : List Int} (h : sideB xs = false) : undrV xs = [] := by unfold undrV; rw [h]; rfl
theorem rowsV_no {xs : List Int} (h : sideB xs = false) : rowsV xs = [] := by unfold rowsV; rw [h]; rfl
theorem onesV_no {xs : List Int} (h : sideB xs = false) : onesV xs = -1 := by unfold onesV; rw [h]; rfl
theorem endV_no {xs : List Int} (h : sideB xs = false) : endV xs = -1 := by unfold endV; rw [h]; rfl
theorem turnV_no {xs : List Int} (h : sideB xs = false) : turnV xs = [] := by unfold turnV; rw [h]; rfl
theorem undrV_yes {xs : List Int} (h : sideB xs = true) : undrV xs = stL (natL xs) 1 (xs.length - 1) := if_pos h
theorem rowsV_yes {xs : List Int} (h : sideB xs = true) : rowsV xs = (List.range xs.length).map fun i => stL (natL xs) i (xs.length - i) := if_pos h
theorem onesV_yes {xs : List Int} (h : sideB xs = true) : onesV xs = (tot (st (natL xs)) xs.length : Int) := if_pos h
theorem endV_yes {xs : List Int} (h : sideB xs = true) : endV xs = (st (natL xs) (xs.length - 1) 0 : Int) := if_pos h
theorem turnV_yes {xs : List Int} (h : sideB xs = true) : turnV xs = (List.range xs.length).map fun j => (side (natL xs) xs.length j : Int) := if_pos h
theorem balV_bad {c : Int} (h : c < 1 ∨ 12 < c) : balV c = -1 := if_pos h
theorem balV_nat {c : Nat} (h1 : 1 ≤ c) (h2 : c ≤ 12) : balV c = balanced c := by unfold balV; rw [if_neg (by omega)]; rfl
theorem undrV_len (xs : List Int) : (undrV xs).length ≤ 11 := by
  unfold undrV; split
  · rename_i h; have := sideB_len h; rw [stL_len]; omega
  · simp
theorem turnV_len (xs : List Int) : (turnV xs).length ≤ 12 := by
  unfold turnV; split
  · rename_i h; have := sideB_len h; simp; omega
  · simp
theorem rowsV_len (xs : List Int) : (rowsV xs).length ≤ 12 := by
  unfold rowsV; split
  · rename_i h; have := sideB_len h; simp; omega
  · simp
/-- All cells of the first i rows. -/
def totU (f : Nat → Nat) (n : Nat) : Nat → Nat
  | 0 => 0
  | i + 1 => totU f n i + sumF (st f i) (n - i)
theorem totU_all (f : Nat → Nat) (n : Nat) : totU f n n = tot (st f) n := by
  have h : ∀ m, totU f n m = sumF (fun i => sumF (st f i) (n - i)) m := fun m => by
    induction m with
    | zero => rfl
    | succ m ih => show totU f n m + _ = _ + _; rw [ih]
  exact h n
theorem sumF_bit {f : Nat → Nat} (hf : ∀ k, f k ≤ 1) : ∀ m, sumF f m ≤ m
  | 0 => Nat.le_refl _
  | m + 1 => by have := sumF_bit hf m; have := hf m; simp only [sumF]; omega
theorem totU_le {f : Nat → Nat} (hf : ∀ k, f k ≤ 1) {n : Nat} (hn : n ≤ 12) : ∀ i, i ≤ n → totU f n i ≤ i * 12
  | 0, _ => Nat.le_refl _
  | i + 1, h => by
    have h1 := totU_le hf hn i (by omega)
    have h2 := sumF_bit (st_le hf i) (n - i)
    show totU f n i + sumF (st f i) (n - i) ≤ _
    omega
/-- The last cell: the cells that are under. -/
def lastU (f : Nat → Nat) (m : Nat) : Nat → Nat
  | 0 => 0
  | k + 1 => lastU f m k + (if und 2 k m = true then f k else 0)
theorem lastU_all {f : Nat → Nat} (hf : ∀ k, f k ≤ 1) (m : Nat) : lastU f m (m + 1) % 2 = st f m 0 := by
  rw [last_left hf]
  congr 1
  have h : ∀ j, lastU f m j = sumF (fun j => leftN 2 m j * f j) j := fun j => by
    induction j with
    | zero => rfl
    | succ j ih =>
      show lastU f m j + _ = sumF _ j + leftN 2 m j * f j
      rw [ih, left_und]
      cases und 2 j m <;> simp
  exact h (m + 1)
theorem lastU_le {f : Nat → Nat} (hf : ∀ k, f k ≤ 1) (m : Nat) : ∀ k, lastU f m k ≤ k
  | 0 => Nat.le_refl _
  | k + 1 => by
    have h1 := lastU_le hf m k
    have h2 := hf k
    show lastU f m k + _ ≤ _
    split <;> omega
end Go.Proofs.Ytmnmbelmcdfcjaa
/-
  The values of the functions of chapter 2 at every argument.
-/
namespace Go.Proofs.Ytmnmbelmcdfcjaa
open Go.RowKit

def bad1 (n b : Int) : Prop := n < 0 ∨ 999999999 < n ∨ b < 2 ∨ 16 < b
def bad2 (x y b : Int) : Prop := x < 0 ∨ 499999999 < x ∨ y < 0 ∨ 499999999 < y ∨ b < 2 ∨ 16 < b
def bad3 (x y b : Int) : Prop := x < 0 ∨ 999999999 < x ∨ y < 0 ∨ 999999999 < y ∨ b < 2 ∨ 16 < b
instance (n b : Int) : Decidable (bad1 n b) := by unfold bad1; infer_instance
instance (x y b : Int) : Decidable (bad2 x y b) := by unfold bad2; infer_instance
instance (x y b : Int) : Decidable (bad3 x y b) := by unfold bad3; infer_instance

def digitsV (n b : Int) : List Int := if bad1 n b then [] else (digs b.toNat n.toNat).map fun (d : Nat) => (d : Int)
def sumV (n b : Int) : Int := if bad1 n b then -1 else (sumL (digs b.toNat n.toNat) : Int)
def carriesV (x y b : Int) : Int := if bad2 x y b then -1 else (carL b.toNat 0 (pairs b.toNat x.toNat y.toNat) : Int)
def underV (x y b : Int) : Bool := if bad3 x y b then false else und b.toNat x.toNat y.toNat
def countV (n b : Int) : Int := if bad1 n b then -1 else (mulL (digs b.toNat n.toNat) : Int)
theorem digitsV_bad {n b : Int} (h : bad1 n b) : digitsV n b = [] := if_pos h
theorem sumV_bad {n b : Int} (h : bad1 n b) : sumV n b = -1 := if_pos h
theorem carriesV_bad {x y b : Int} (h : bad2 x y b) : carriesV x y b = -1 := if_pos h
theorem underV_bad {x y b : Int} (h : bad3 x y b) : underV x y b = false := if_pos h
theorem countV_bad {n b : Int} (h : bad1 n b) : countV n b = -1 := if_pos h
theorem digitsV_nat {n b : Nat} (h1 : n ≤ 999999999) (h2 : 2 ≤ b) (h3 : b ≤ 16) : digitsV n b = (digs b n).map fun (d : Nat) => (d : Int) := by
  unfold digitsV; rw [if_neg (by unfold bad1; omega)]; simp
theorem sumV_nat {n b : Nat} (h1 : n ≤ 999999999) (h2 : 2 ≤ b) (h3 : b ≤ 16) : sumV n b = sumL (digs b n) := by
  unfold sumV; rw [if_neg (by unfold bad1; omega)]; simp
theorem countV_nat {n b : Nat} (h1 : n ≤ 999999999) (h2 : 2 ≤ b) (h3 : b ≤ 16) : countV n b = mulL (digs b n) := by
  unfold countV; rw [if_neg (by unfold bad1; omega)]; simp
theorem carriesV_nat {x y b : Nat} (h1 : x ≤ 499999999) (h1' : y ≤ 499999999) (h2 : 2 ≤ b) (h3 : b ≤ 16) : carriesV x y b = carL b 0 (pairs b x y) := by
  unfold carriesV; rw [if_neg (by unfold bad2; omega)]; simp
theorem underV_nat {x y b : Nat} (h1 : x ≤ 999999999) (h1' : y ≤ 999999999) (h2 : 2 ≤ b) (h3 : b ≤ 16) : underV x y b = und b x y := by
  unfold underV; rw [if_neg (by unfold bad3; omega)]; simp

theorem digitsV_len (n b : Int) : (digitsV n b).length ≤ 999999999 := by
  unfold digitsV
  split
  · simp
  · rename_i h
    unfold bad1 at h
    rw [List.length_map]
    have := len_le (b := b.toNat) (by omega) n.toNat
    omega
end Go.Proofs.Ytmnmbelmcdfcjaa
/-
  Plain mathematics of rounds of differences in a ring: a ring of n numbers is a function that comes again every n places. Nothing of the program.
-/
namespace Go.Proofs.Ytmnmbelmcdfcjaa
open Go.RowKit

def ad (a b : Nat) : Nat := (a - b) + (b - a)
theorem ad_max (a b : Nat) : ad a b = max a b - min a b := by unfold ad; omega
/-- A round; so many rounds. -/
def dF (f : Nat → Nat) : Nat → Nat := fun k => ad (f k) (f (k + 1))
def dR (f : Nat → Nat) : Nat → Nat → Nat
  | 0 => f
  | r + 1 => dF (dR f r)
def per (n : Nat) (f : Nat → Nat) : Prop := ∀ k, f (k + n) = f k
theorem dR_front (f : Nat → Nat) : ∀ r, dR (dF f) r = dR f (r + 1)
  | 0 => rfl
  | r + 1 => by show dF (dR (dF f) r) = _; rw [dR_front f r]; rfl
theorem dR_add (f : Nat → Nat) (r : Nat) : ∀ s, dR (dR f r) s = dR f (r + s)
  | 0 => rfl
  | s + 1 => by show dF (dR (dR f r) s) = _; rw [dR_add f r s]; rfl
theorem per_dF {n : Nat} {f : Nat → Nat} (h : per n f) : per n (dF f) := fun k => by
  show ad (f (k + n)) (f (k + n + 1)) = ad (f k) (f (k + 1))
  rw [h k, show k + n + 1 = k + 1 + n by omega, h (k + 1)]
theorem per_dR {n : Nat} {f : Nat → Nat} (h : per n f) : ∀ r, per n (dR f r)
  | 0 => h
  | r + 1 => per_dF (per_dR h r)
theorem per_times {n : Nat} {f : Nat → Nat} (h : per n f) (k : Nat) : ∀ j, f (k + n * j) = f k
  | 0 => rfl
  | j + 1 => by rw [Nat.mul_succ, ← Nat.add_assoc, h, per_times h k j]
theorem per_mod {n : Nat} {f : Nat → Nat} (h : per n f) (k : Nat) : f (k % n) = f k := by
  have h1 := per_times h (k % n) (k / n)
  rw [Nat.mod_add_div] at h1
  exact h1.symm
theorem per_eq {n : Nat} {f g : Nat → Nat} (hn : 0 < n) (hf : per n f) (hg : per n g) (h : ∀ k, k < n → f k = g k) : f = g := by
  funext k
  rw [← per_mod hf k, ← per_mod hg k, h _ (Nat.mod_lt _ hn)]
theorem dF_le {f : Nat → Nat} {M : Nat} (h : ∀ k, f k ≤ M) (k : Nat) : dF f k ≤ M := by
  have h1 := h k
  have h2 := h (k + 1)
  show ad _ _ ≤ M
  unfold ad; omega
theorem dR_le {f : Nat → Nat} {M : Nat} (h : ∀ k, f k ≤ M) : ∀ r k, dR f r k ≤ M
  | 0 => h
  | r + 1 => fun k => dF_le (dR_le h r) k
theorem ad_times (c a b : Nat) : ad (c * a) (c * b) = c * ad a b := by unfold ad; rw [Nat.mul_add, Nat.mul_sub, Nat.mul_sub]
theorem dR_times (c : Nat) (f : Nat → Nat) : ∀ r, dR (fun k => c * f k) r = fun k => c * dR f r k
  | 0 => rfl
  | r + 1 => by
    show dF (dR (fun k => c * f k) r) = _
    rw [dR_times c f r]
    funext k
    exact ad_times c _ _
theorem dR_zero : ∀ r, dR (fun _ => 0) r = fun _ => 0
  | 0 => rfl
  | r + 1 => by show dF (dR _ r) = _; rw [dR_zero r]; rfl
/-- Moved on by one place. -/
theorem dR_moved (f : Nat → Nat) : ∀ r, dR (fun k => f (k + 1)) r = fun k => dR f r (k + 1)
  | 0 => rfl
  | r + 1 => by show dF (dR _ r) = _; rw [dR_moved f r]; rfl
/-- All together are even. -/
theorem dF_even {n : Nat} {f : Nat → Nat} (h : per n f) : sumF (dF f) n % 2 = 0 := by
  have h1 : ∀ m, (sumF (dF f) m + f 0 + f m) % 2 = 0 := fun m => by
    induction m with
    | zero => simp only [sumF]; omega
    | succ m ih =>
      have : dF f m = ad (f m) (f (m + 1)) := rfl
      simp only [sumF]
      rw [this]
      unfold ad; omega
  have h2 := h1 n
  have h3 := h 0
  rw [Nat.zero_add] at h3
  omega
/-- Divided by 2 rounds are sums. -/
theorem dR_mod (f : Nat → Nat) : ∀ r k, dR f r k % 2 = st (fun j => f j % 2) r k
  | 0, _ => rfl
  | r + 1, k => by
    have h1 := dR_mod f r k
    have h2 := dR_mod f r (k + 1)
    show ad _ _ % 2 = (st _ r k + st _ r (k + 1)) % 2
    rw [← h1, ← h2]
    unfold ad; omega
theorem dR_bits {f : Nat → Nat} (h : ∀ k, f k ≤ 1) (r k : Nat) : dR f r k = st f r k := by
  have h1 := dR_mod f r k
  have h2 := dR_le h r k
  rw [Nat.mod_eq_of_lt (by omega)] at h1
  rw [h1]
  exact st_congr r k fun j _ _ => by have := h j; show f j % 2 = f j; omega
theorem st_shift (f : Nat → Nat) : ∀ i k m, st (fun j => f (m + j)) i k = st f i (m + k)
  | 0, _, _ => rfl
  | i + 1, k, m => by show (st _ i k + st _ i (k + 1)) % 2 = (st f i (m + k) + st f i (m + k + 1)) % 2; rw [st_shift f i k m, st_shift f i (k + 1) m]; rfl
/-- As many rounds at once, told by the triangle. -/
theorem st_row {f : Nat → Nat} (h : ∀ k, f k ≤ 1) (r k : Nat) : st f r k = sumF (fun j => leftN 2 r j * f (k + j)) (r + 1) % 2 := by
  rw [← last_left (f := fun j => f (k + j)) (fun j => h _), st_shift]; rfl
theorem sumF_none {f : Nat → Nat} : ∀ m, (∀ i, i < m → f i = 0) → sumF f m = 0
  | 0, _ => rfl
  | m + 1, h => by simp only [sumF]; rw [sumF_none m (fun i hi => h i (by omega)), h m (by omega)]
/-- For a power of 2 each number is told by the one there and by the one so many places further on. -/
theorem st_power {f : Nat → Nat} (h : ∀ k, f k ≤ 1) {r : Nat} (hr : strip 2 r = 1) (h0 : 0 < r) (k : Nat) : st f r k = (f k + f (k + r)) % 2 := by
  rw [st_row h]
  obtain ⟨m, rfl⟩ : ∃ m, r = m + 1 := ⟨r - 1, by omega⟩
  rw [sumF_first]
  simp only [sumF]
  rw [sumF_none m (fun i hi => by rw [show leftN 2 (m + 1) (i + 1) = 0 from strip_ends prm_2 (m + 1) (i + 1) (by omega) (by omega) hr, Nat.zero_mul]), leftN_zero (by omega), leftN_self (by omega), Nat.one_mul, Nat.one_mul, Nat.zero_add, Nat.add_zero]
theorem strip_eight : strip 2 8 = 1 := by decide +kernel
theorem dR_eight {f : Nat → Nat} (h : per 8 f) (k : Nat) : dR f 8 k % 2 = 0 := by
  rw [dR_mod, st_power (fun j => by show f j % 2 ≤ 1; omega) strip_eight (by omega)]
  show (f k % 2 + f (k + 8) % 2) % 2 = 0
  rw [h k]; omega
/-- Rings of 1, 2, 4 or 8 numbers end. -/
theorem dR_ends : ∀ (j : Nat) (f : Nat → Nat), per 8 f → (∀ k, f k < 2 ^ j) → ∀ k, dR f (8 * j) k = 0
  | 0, f, _, h, k => by have := h k; rw [Nat.pow_zero] at this; show f k = 0; omega
  | j + 1, f, hp, h, k => by
    have h2 : ∀ k, f k ≤ 2 ^ (j + 1) - 1 := fun k => by have := h k; omega
    have h3 := dR_le h2 8
    have h4 : dR f 8 = fun k => 2 * (dR f 8 k / 2) := by
      funext i
      have := dR_eight hp i
      omega
    rw [show 8 * (j + 1) = 8 + 8 * j by omega, ← dR_add, h4, dR_times]
    show 2 * dR _ (8 * j) k = 0
    rw [dR_ends j (fun k => dR f 8 k / 2) (fun i => by show dR f 8 (i + 8) / 2 = _; rw [per_dR hp 8 i]) (fun i => by
      have h5 := h3 i
      have h6 : 0 < 2 ^ j := Nat.pow_pos (by omega)
      rw [Nat.pow_succ] at h5
      show dR f 8 i / 2 < 2 ^ j
      omega) k]
theorem per_eight {n : Nat} {f : Nat → Nat} (h : per n f) (hn : n = 1 ∨ n = 2 ∨ n = 4 ∨ n = 8) : per 8 f := fun k => by
  rcases hn with rfl | rfl | rfl | rfl
  · exact per_times h k 8
  · exact per_times h k 4
  · exact per_times h k 2
  · exact h k
theorem dR_done {f : Nat → Nat} {r : Nat} (h : ∀ k, dR f r k = 0) (s : Nat) (k : Nat) : dR f (r + s) k = 0 := by
  rw [← dR_add, show dR f r = fun _ => 0 from funext h, dR_zero]

/-- Where the greatest number still comes after L rounds, L + 1 numbers beside each other are 0 or it. -/
theorem ring_block {M : Nat} (hM : 0 < M) : ∀ (L : Nat) (g : Nat → Nat), (∀ k, g k ≤ M) → (∃ k, dR g L k = M) → ∃ a, (∀ i, i ≤ L → g (a + i) = 0 ∨ g (a + i) = M) ∧ ∃ i, i ≤ L ∧ g (a + i) = M
  | 0, g, _, ⟨k, hk⟩ => ⟨k, fun i hi => by obtain rfl : i = 0 := by omega
                                           exact .inr hk, 0, Nat.le_refl _, hk⟩
  | L + 1, g, hg, ⟨k, hk⟩ => by
    rw [← dR_front] at hk
    obtain ⟨a, h1, i0, hi0, h2⟩ := ring_block hM L (dF g) (dF_le hg) ⟨k, hk⟩
    have hd : ∀ i, dF g (a + i) = ad (g (a + i)) (g (a + (i + 1))) := fun i => rfl
    rw [hd] at h2
    have hup : ∀ j, i0 + 1 + j ≤ L + 1 → g (a + (i0 + 1 + j)) = 0 ∨ g (a + (i0 + 1 + j)) = M := fun j => by
      induction j with
      | zero => intro _; have := hg (a + i0); have := hg (a + (i0 + 1)); unfold ad at h2; rw [Nat.add_zero]; omega
      | succ j ih =>
        intro hj
        have h3 := ih (by omega)
        have h4 := h1 (i0 + 1 + j) (by omega)
        rw [hd] at h4
        have := hg (a + (i0 + 1 + j + 1))
        rw [show i0 + 1 + (j + 1) = i0 + 1 + j + 1 by omega]
        unfold ad at h4; omega
    have hdn : ∀ j, j ≤ i0 → g (a + (i0 - j)) = 0 ∨ g (a + (i0 - j)) = M := fun j => by
      induction j with
      | zero => intro _; have := hg (a + i0); have := hg (a + (i0 + 1)); unfold ad at h2; rw [Nat.sub_zero]; omega
      | succ j ih =>
        intro hj
        have h3 := ih (by omega)
        have h4 := h1 (i0 - (j + 1)) (by omega)
        rw [hd, show i0 - (j + 1) + 1 = i0 - j by omega] at h4
        have := hg (a + (i0 - (j + 1)))
        unfold ad at h4; omega
    refine ⟨a, fun i hi => ?_, ?_⟩
    · by_cases e : i ≤ i0
      · have := hdn (i0 - i) (by omega)
        rw [show i0 - (i0 - i) = i by omega] at this
        exact this
      · have := hup (i - i0 - 1) (by omega)
        rw [show i0 + 1 + (i - i0 - 1) = i by omega] at this
        exact this
    · have h5 := hg (a + i0)
      have h6 := hg (a + (i0 + 1))
      by_cases e : g (a + i0) = M
      · exact ⟨i0, by omega, e⟩
      · exact ⟨i0 + 1, by omega, by unfold ad at h2; omega⟩
theorem dR_again {y : Nat → Nat} {b : Nat} (h : dR y b = y) : ∀ j, dR y (b * j) = y
  | 0 => rfl
  | j + 1 => by rw [Nat.mul_succ, ← dR_add, dR_again h j, h]
/-- A ring that comes again has 0 and one other number alone. -/
theorem ring_two {n b M : Nat} {y : Nat → Nat} (hn : 0 < n) (hp : per n y) (hb : 0 < b) (h : dR y b = y) (hM : ∀ k, y k ≤ M) (hmax : ∃ k, y k = M) (k : Nat) : y k = 0 ∨ y k = M := by
  by_cases h0 : M = 0
  · have := hM k; omega
  · have hex : ∃ k, dR y n k = M := by
      refine Classical.byContradiction fun hno => ?_
      have hlow : ∀ k, dR y n k ≤ M - 1 := fun k => by
        have h1 := dR_le hM n k
        have h2 : dR y n k ≠ M := fun e => hno ⟨k, e⟩
        omega
      obtain ⟨k0, hk0⟩ := hmax
      have h3 : n ≤ b * n := Nat.le_mul_of_pos_left n hb
      have h4 := dR_le hlow (b * n - n) k0
      rw [dR_add, show n + (b * n - n) = b * n by omega, dR_again h n, hk0] at h4
      omega
    obtain ⟨a, h1, _⟩ := ring_block (by omega) n y hM hex
    have h2 : ∃ i, i ≤ n ∧ (a + i) % n = k % n := by
      refine ⟨(k % n + n - a % n) % n, Nat.le_of_lt (Nat.mod_lt _ hn), ?_⟩
      have h3 := Nat.mod_lt a hn
      have h4 := Nat.mod_lt k hn
      have h5 := Nat.div_add_mod a n
      rw [Nat.add_mod, Nat.mod_mod]
      by_cases e : a % n ≤ k % n
      · rw [show k % n + n - a % n = k % n - a % n + n by omega, Nat.add_mod_right, Nat.mod_eq_of_lt (show k % n - a % n < n by omega), show a % n + (k % n - a % n) = k % n by omega, Nat.mod_mod]
      · rw [Nat.mod_eq_of_lt (show k % n + n - a % n < n by omega), show a % n + (k % n + n - a % n) = k % n + n by omega, Nat.add_mod_right, Nat.mod_mod]
    obtain ⟨i, hi, he⟩ := h2
    rw [← per_mod hp k, ← he, per_mod hp]
    exact h1 i hi
/-- If it ends, it comes again one round behind the end, one round earlier. -/
theorem ring_end {f : Nat → Nat} {e r b : Nat} (hz : dR f e = fun _ => 0) (hfirst : ∀ s, s < e → dR f s ≠ fun _ => 0) (hb : 1 ≤ b) (hbr : b ≤ r) (h : dR f r = dR f (r - b))
    (hr : ∀ s c, s < r → 1 ≤ c → c ≤ s → dR f s ≠ dR f (s - c)) : r = e + 1 ∧ b = 1 := by
  have hz1 : dR f (e + 1) = fun _ => 0 := by show dF (dR f e) = _; rw [hz]; rfl
  have hle : r ≤ e + 1 := by
    refine Nat.le_of_not_lt fun hlt => hr (e + 1) 1 hlt (Nat.le_refl _) (by omega) ?_
    rw [Nat.add_sub_cancel, hz, hz1]
  -- the ring r - b comes again and again, and so it is noughts
  have hy : dR (dR f (r - b)) b = dR f (r - b) := by rw [dR_add, show r - b + b = r by omega, h]
  have hzero : dR f (r - b) = fun _ => 0 := by
    have h1 := dR_again hy e
    rw [dR_add] at h1
    have h2 : e ≤ r - b + b * e := Nat.le_trans (Nat.le_mul_of_pos_left e hb) (Nat.le_add_left _ _)
    rw [← h1, show r - b + b * e = e + (r - b + b * e - e) by omega]
    funext k
    exact dR_done (fun k => by rw [hz]) _ k
  have hge : e ≤ r - b := Nat.le_of_not_lt fun hlt => hfirst _ hlt hzero
  omega
end Go.Proofs.Ytmnmbelmcdfcjaa
/-
  The values of the functions of chapter 10 at every argument.
-/
namespace Go.Proofs.Ytmnmbelmcdfcjaa
open Go.RowKit

/-- A ring of one to eight numbers from 0 to 100. -/
def ringB (xs : List Int) : Bool := decide (1 ≤ xs.length ∧ xs.length ≤ 8) && xs.all (fun x => decide (0 ≤ x ∧ x ≤ 100))
theorem ringB_len {xs : List Int} (h : ringB xs = true) : 1 ≤ xs.length ∧ xs.length ≤ 8 := by
  unfold ringB at h
  rw [Bool.and_eq_true] at h
  simpa using h.1
theorem ringB_at {xs : List Int} (h : ringB xs = true) {i : Nat} (hi : i < xs.length) : 0 ≤ xs.getD i 0 ∧ xs.getD i 0 ≤ 100 := by
  unfold ringB at h
  rw [Bool.and_eq_true, List.all_eq_true] at h
  have := h.2 (xs.getD i 0) (by rw [List.getD, List.getElem?_eq_getElem hi]; simp)
  simpa using this
theorem ringB_of {xs : List Int} (h1 : 1 ≤ xs.length) (h2 : xs.length ≤ 8) (h : ∀ i, i < xs.length → 0 ≤ xs.getD i 0 ∧ xs.getD i 0 ≤ 100) : ringB xs = true := by
  unfold ringB
  rw [Bool.and_eq_true, List.all_eq_true]
  refine ⟨by simp; omega, fun x hx => ?_⟩
  obtain ⟨i, hi, rfl⟩ := List.mem_iff_getElem.1 hx
  have := h i hi
  rw [List.getD, List.getElem?_eq_getElem hi] at this
  simpa using this
theorem ringB_short {xs : List Int} (h : xs.length < 1 ∨ 8 < xs.length) : ringB xs = false := by
  cases e : ringB xs with
  | false => rfl
  | true => have := ringB_len e; omega
theorem ringB_not {xs : List Int} {i : Nat} (hi : i < xs.length) (h : xs.getD i 0 < 0 ∨ 100 < xs.getD i 0) : ringB xs = false := by
  cases e : ringB xs with
  | false => rfl
  | true => have := ringB_at e hi; omega

/-- The ring as a function that comes again; the first n numbers of a function. -/
def ringF (xs : List Int) : Nat → Nat := fun k => natL xs (k % xs.length)
def rgL (f : Nat → Nat) (n : Nat) : List Int := (List.range n).map fun k => (f k : Int)
theorem rgL_len (f : Nat → Nat) (n : Nat) : (rgL f n).length = n := by simp [rgL]
theorem rgL_getD (f : Nat → Nat) (n k : Nat) (h : k < n) : (rgL f n).getD k 0 = (f k : Int) := by simp [rgL, List.getD, h]
theorem rgL_snoc (f : Nat → Nat) (n : Nat) : rgL f (n + 1) = rgL f n ++ [(f n : Int)] := by simp [rgL, List.range_succ]
theorem rgL_congr {f g : Nat → Nat} (n : Nat) (h : ∀ k, k < n → f k = g k) : rgL f n = rgL g n := by
  unfold rgL
  exact List.map_congr_left fun k hk => by rw [h k (List.mem_range.1 hk)]
theorem ringF_le {xs : List Int} (h : ringB xs = true) (k : Nat) : ringF xs k ≤ 100 := by
  have hl := ringB_len h
  have := ringB_at h (Nat.mod_lt k (show 0 < xs.length by omega))
  unfold ringF natL; omega
theorem ringF_per {xs : List Int} : per xs.length (ringF xs) := fun k => by unfold ringF; rw [Nat.add_mod_right]
theorem ringF_get {xs : List Int} (h : ringB xs = true) {k : Nat} (hk : k < xs.length) : xs.getD k 0 = (ringF xs k : Int) := by
  have := ringB_at h hk
  unfold ringF natL
  rw [Nat.mod_eq_of_lt hk]; omega
theorem rgL_self {xs : List Int} (h : ringB xs = true) : rgL (ringF xs) xs.length = xs := by
  apply List.ext_getElem?
  intro k
  by_cases hk : k < xs.length
  · have h1 := ringF_get h hk
    rw [List.getD, List.getElem?_eq_getElem hk, Option.getD_some] at h1
    unfold rgL
    rw [List.getElem?_map, List.getElem?_range hk, List.getElem?_eq_getElem hk, h1]; rfl
  · rw [List.getElem?_eq_none (by rw [rgL_len]; omega), List.getElem?_eq_none (by omega)]
theorem rgL_ring {f : Nat → Nat} (hf : ∀ k, f k ≤ 100) (n : Nat) (h1 : 1 ≤ n) (h2 : n ≤ 8) : ringB (rgL f n) = true :=
  ringB_of (by rw [rgL_len]; exact h1) (by rw [rgL_len]; exact h2) (fun k hk => by
    rw [rgL_len] at hk
    rw [rgL_getD f n k hk]
    have := hf k
    omega)
theorem ringF_rgL {f : Nat → Nat} {n : Nat} (hn : 0 < n) (hp : per n f) : ringF (rgL f n) = f := by
  refine per_eq hn (by have := ringF_per (xs := rgL f n); rwa [rgL_len] at this) hp fun k hk => ?_
  unfold ringF natL
  rw [rgL_len, Nat.mod_eq_of_lt hk, rgL_getD f n k hk]; rfl

def roundV (xs : List Int) : List Int := if ringB xs = true then rgL (dF (ringF xs)) xs.length else []
theorem roundV_no {xs : List Int} (h : ringB xs = false) : roundV xs = [] := by unfold roundV; rw [h]; rfl
theorem roundV_yes {xs : List Int} (h : ringB xs = true) : roundV xs = rgL (dF (ringF xs)) xs.length := if_pos h
theorem roundV_rgL {f : Nat → Nat} {n : Nat} (hf : ∀ k, f k ≤ 100) (h1 : 1 ≤ n) (h2 : n ≤ 8) (hp : per n f) : roundV (rgL f n) = rgL (dF f) n := by
  rw [roundV_yes (rgL_ring hf n h1 h2), ringF_rgL (by omega) hp, rgL_len]
theorem roundV_len (xs : List Int) : (roundV xs).length ≤ 8 := by
  unfold roundV; split
  · rename_i h; have := ringB_len h; rw [rgL_len]; omega
  · simp
def roundsV (xs : List Int) (r : Int) : List Int := if ringB xs = true ∧ 0 ≤ r ∧ r ≤ 2000 then rgL (dR (ringF xs) r.toNat) xs.length else []
theorem roundsV_no {xs : List Int} {r : Int} (h : ringB xs = false ∨ r < 0 ∨ 2000 < r) : roundsV xs r = [] := by
  unfold roundsV
  rw [if_neg]
  rintro ⟨h1, h2, h3⟩
  rcases h with h | h | h
  · rw [h1] at h; cases h
  · omega
  · omega
theorem roundsV_nat {xs : List Int} (h : ringB xs = true) {r : Nat} (hr : r ≤ 2000) : roundsV xs r = rgL (dR (ringF xs) r) xs.length := by
  unfold roundsV; rw [if_pos ⟨h, by omega, by omega⟩]; rfl
theorem roundsV_len (xs : List Int) (r : Int) : (roundsV xs r).length ≤ 8 := by
  unfold roundsV; split
  · rename_i h; have := ringB_len h.1; rw [rgL_len]; omega
  · simp

/-- The first number below m of which p holds. -/
def firstI (p : Nat → Bool) : Nat → Option Nat
  | 0 => none
  | m + 1 => match firstI p m with
    | some i => some i
    | none => if p m then some m else none
theorem firstI_none {p : Nat → Bool} : ∀ {m : Nat}, firstI p m = none ↔ ∀ i, i < m → p i = false
  | 0 => by simp [firstI]
  | m + 1 => by
    unfold firstI
    cases h : firstI p m with
    | some i =>
      have h1 : ¬ ∀ i, i < m → p i = false := fun h2 => by rw [firstI_none.2 h2] at h; cases h
      simp only [reduceCtorEq, false_iff]
      intro h2; exact h1 fun i hi => h2 i (by omega)
    | none =>
      have h1 := firstI_none.1 h
      cases hp : p m with
      | true => simp only [if_true, reduceCtorEq, false_iff]; intro h2; have := h2 m (by omega); rw [hp] at this; cases this
      | false =>
        simp only [Bool.false_eq_true, if_false, true_iff]
        intro i hi
        by_cases e : i = m
        · subst e; exact hp
        · exact h1 i (by omega)
theorem firstI_some {p : Nat → Bool} {i : Nat} : ∀ {m : Nat}, firstI p m = some i ↔ i < m ∧ p i = true ∧ ∀ j, j < i → p j = false
  | 0 => by simp [firstI]
  | m + 1 => by
    unfold firstI
    cases h : firstI p m with
    | some k =>
      have h1 := firstI_some.1 h
      constructor
      · intro e; injection e with e; subst e; exact ⟨by omega, h1.2⟩
      · rintro ⟨h2, h3, h4⟩
        rcases Nat.lt_trichotomy k i with h5 | h5 | h5
        · have := h4 k h5; rw [h1.2.1] at this; cases this
        · rw [h5]
        · have := h1.2.2 i h5; rw [h3] at this; cases this
    | none =>
      have h1 := firstI_none.1 h
      cases hp : p m with
      | true =>
        simp only [if_true]
        constructor
        · intro e; injection e with e; subst e; exact ⟨by omega, hp, h1⟩
        · rintro ⟨h2, h3, h4⟩
          have : ¬ i < m := fun h5 => by have := h1 i h5; rw [h3] at this; cases this
          rw [show m = i by omega]
      | false =>
        simp only [Bool.false_eq_true, if_false, reduceCtorEq, false_iff]
        rintro ⟨h2, h3, h4⟩
        by_cases e : i = m
        · subst e; rw [h3] at hp; cases hp
        · have := h1 i (by omega); rw [h3] at this; cases this
/-- All numbers are 0 after r rounds. -/
def zeroB (f : Nat → Nat) (n r : Nat) : Bool := (List.range n).all fun k => dR f r k == 0
theorem zeroB_iff {f : Nat → Nat} {n r : Nat} : zeroB f n r = true ↔ ∀ k, k < n → dR f r k = 0 := by
  unfold zeroB; rw [List.all_eq_true]
  exact ⟨fun h k hk => by have := h k (List.mem_range.2 hk); simpa using this, fun h k hk => by have := h k (List.mem_range.1 hk); simpa using this⟩
def endN (xs : List Int) : Option Nat := if ringB xs = true then firstI (zeroB (ringF xs) xs.length) 2001 else none
def endI (xs : List Int) : Int := match endN xs with | some r => r | none => -1
def endB (xs : List Int) : Bool := (endN xs).isSome
/-- What is so many rounds later is what was so many rounds earlier. -/
def sameB (f : Nat → Nat) (n r k : Nat) : Bool := (List.range n).all fun j => dR f k j == dR f r j
theorem sameB_iff {f : Nat → Nat} {n r k : Nat} : sameB f n r k = true ↔ ∀ j, j < n → dR f k j = dR f r j := by
  unfold sameB; rw [List.all_eq_true]
  exact ⟨fun h k hk => by have := h k (List.mem_range.2 hk); simpa using this, fun h k hk => by have := h k (List.mem_range.1 hk); simpa using this⟩
/-- How many rounds earlier, first: from the round before on. -/
def backI (f : Nat → Nat) (n r : Nat) : Option Nat := firstI (fun i => sameB f n r (r - 1 - i)) r
def againN (xs : List Int) : Option Nat := if ringB xs = true then firstI (fun r => (backI (ringF xs) xs.length r).isSome) 2001 else none
def bitsV (xs : List Int) (r : Int) : List Int := if ringB xs = true ∧ (0 ≤ r ∧ r ≤ 300) ∧ xs.all (fun x => decide (x ≤ 1)) = true then rgL (st (ringF xs) r.toNat) xs.length else []
end Go.Proofs.Ytmnmbelmcdfcjaa
