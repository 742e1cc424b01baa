/-
  Plain mathematics of the triangle: cells 'bin n k' by sums of the two above, rows, sums of slopes, heaps and turns. Nothing of the program.
-/
import Derived.WalkKit
namespace Go.Proofs.Ytehmobcfbifocaa
open Go.RowKit

/-- A fact kept out of the walk's sight. -/
theorem hide {p : Prop} (h : p) : Hid p := h

/-- The cell of row n at place k: the sum of the two above. -/
def bin : Nat → Nat → Nat
  | _, 0 => 1
  | 0, _ + 1 => 0
  | n + 1, k + 1 => bin n k + bin n (k + 1)

theorem bin_zero (n : Nat) : bin n 0 = 1 := by cases n <;> rfl
theorem bin_succ (n k : Nat) : bin (n + 1) (k + 1) = bin n k + bin n (k + 1) := rfl
theorem bin_over : ∀ (n k : Nat), n < k → bin n k = 0
  | 0, k + 1, _ => rfl
  | n + 1, k + 1, h => by rw [bin_succ, bin_over n k (by omega), bin_over n (k + 1) (by omega)]
theorem bin_self : ∀ n : Nat, bin n n = 1
  | 0 => rfl
  | n + 1 => by rw [bin_succ, bin_self n, bin_over n (n + 1) (by omega)]
theorem bin_le : ∀ (n k : Nat), bin n k ≤ 2 ^ n
  | n, 0 => by rw [bin_zero]; exact Nat.one_le_two_pow
  | 0, k + 1 => by simp [bin]
  | n + 1, k + 1 => by rw [bin_succ]; have h1 := bin_le n k; have h2 := bin_le n (k + 1); rw [Nat.pow_succ]; omega
theorem bin_small (n k : Nat) (h : n ≤ 61) : bin n k ≤ 2305843009213693952 :=
  Nat.le_trans (bin_le n k) (Nat.le_trans (Nat.pow_le_pow_right (by omega) h) (by decide))

/-- The row n of the triangle. -/
def rowN (n : Nat) : List Int := (List.range (n + 1)).map fun k => (bin n k : Int)
/-- The first k cells of row n. -/
def rowP (n k : Nat) : List Int := (List.range k).map fun i => (bin n i : Int)
/-- What lies in the variable 'out' when j rows have been made. -/
def outSt : Nat → List Int
  | 0 => []
  | j + 1 => rowN j

theorem rowN_len (n : Nat) : (rowN n).length = n + 1 := by simp [rowN]
theorem rowP_len (n k : Nat) : (rowP n k).length = k := by simp [rowP]
theorem outSt_len (j : Nat) : (outSt j).length = j := by cases j <;> simp [outSt, rowN]
theorem rowP_snoc (n k : Nat) : rowP n (k + 1) = rowP n k ++ [(bin n k : Int)] := by simp [rowP, List.range_succ]
theorem rowP_full (n : Nat) : rowP n (n + 1) = rowN n := rfl
theorem rowP_one (n : Nat) : rowP n 1 = [1] := by simp [rowP, bin_zero]
theorem rowP_last (n : Nat) : rowP n n ++ [1] = rowN n := by rw [← rowP_full, rowP_snoc, bin_self]; rfl
theorem outSt_get (j k : Nat) (h : k < j) : (outSt j)[k]? = some (bin (j - 1) k : Int) := by
  cases j with
  | zero => omega
  | succ j => simp only [outSt, rowN]; rw [List.getElem?_map, List.getElem?_range (by omega)]; rfl
theorem bin_sum (j k : Nat) (hk : 0 < k) (hj : k < j) : bin (j - 1) (k - 1) + bin (j - 1) k = bin j k := by
  cases j with
  | zero => omega
  | succ j => cases k with
    | zero => omega
    | succ k => rw [bin_succ]; rfl

/-- One way for the rest: so many things of the first heap, the others of the second one. -/
def vterm (a b c k : Nat) : Nat := if k ≤ c then bin a k * bin b (c - k) else 0
/-- The first n of these, added. -/
def vs (a b c : Nat) : Nat → Nat
  | 0 => 0
  | n + 1 => vs a b c n + vterm a b c n
theorem vs_stable (a b c m : Nat) (h : ∀ k, m ≤ k → vterm a b c k = 0) : ∀ n, m ≤ n → vs a b c n = vs a b c m
  | 0, hn => by obtain rfl : m = 0 := by omega
                rfl
  | n + 1, hn => by
    by_cases e : m = n + 1
    · rw [e]
    · show vs a b c n + vterm a b c n = _
      rw [vs_stable a b c m h n (by omega), h n (by omega)]; rfl
theorem vterm_over (a b c k : Nat) (h : a < k ∨ c < k) : vterm a b c k = 0 := by
  unfold vterm
  split
  · rcases h with h | h
    · rw [bin_over a k h, Nat.zero_mul]
    · omega
  · rfl
theorem vs_same (a b c : Nat) : vs a b c (a + 1) = vs a b c (c + 1) := by
  rcases Nat.le_total a c with h | h
  · exact (vs_stable a b c (a + 1) (fun k hk => vterm_over _ _ _ _ (.inl (by omega))) (c + 1) (by omega)).symm
  · exact vs_stable a b c (c + 1) (fun k hk => vterm_over _ _ _ _ (.inr (by omega))) (a + 1) (by omega)
theorem vs_step (a b c : Nat) : ∀ n, vs (a + 1) b (c + 1) (n + 1) = vs a b (c + 1) (n + 1) + vs a b c n
  | 0 => by simp [vs, vterm, bin_zero]
  | n + 1 => by
    show vs (a + 1) b (c + 1) (n + 1) + vterm (a + 1) b (c + 1) (n + 1) = vs a b (c + 1) (n + 1) + vterm a b (c + 1) (n + 1) + (vs a b c n + vterm a b c n)
    rw [vs_step a b c n]
    have : vterm (a + 1) b (c + 1) (n + 1) = vterm a b (c + 1) (n + 1) + vterm a b c n := by
      unfold vterm
      by_cases h : n ≤ c
      · rw [if_pos (by omega), if_pos (by omega), if_pos h, bin_succ, show c + 1 - (n + 1) = c - n by omega, Nat.add_mul]; omega
      · rw [if_neg (by omega), if_neg (by omega), if_neg h]
    omega
/-- Two heaps are one. -/
theorem heaps : ∀ (a b c : Nat), vs a b c (c + 1) = bin (a + b) c
  | 0, b, c => by
    rw [vs_stable 0 b c 1 (fun k hk => vterm_over _ _ _ _ (.inl (by omega))) (c + 1) (by omega)]
    simp [vs, vterm, bin_zero]
  | a + 1, b, 0 => by simp [vs, vterm, bin_zero]
  | a + 1, b, c + 1 => by
    rw [vs_step, heaps a b (c + 1), heaps a b c, show a + 1 + b = (a + b) + 1 by omega, bin_succ]; omega
theorem vs_mono (a b c : Nat) : ∀ m n, m ≤ n → vs a b c m ≤ vs a b c n
  | m, 0, h => by obtain rfl : m = 0 := by omega
                  exact Nat.le_refl _
  | m, n + 1, h => by
    by_cases e : m = n + 1
    · rw [e]; exact Nat.le_refl _
    · exact Nat.le_trans (vs_mono a b c m n (by omega)) (Nat.le_add_right _ _)
theorem vs_le (a b c n : Nat) : vs a b c n ≤ bin (a + b) c := by
  rcases Nat.le_total n (c + 1) with h | h
  · rw [← heaps]; exact vs_mono _ _ _ _ _ h
  · rw [vs_stable a b c (c + 1) (fun k hk => vterm_over _ _ _ _ (.inr (by omega))) n h, heaps]; exact Nat.le_refl _
theorem vs_small (a b c n : Nat) (ha : a ≤ 30) (hb : b ≤ 30) : vs a b c n ≤ 2305843009213693952 := Nat.le_trans (vs_le a b c n) (bin_small _ _ (by omega))
theorem prod_small (a b k m : Nat) (ha : a ≤ 30) (hb : b ≤ 30) : bin a k * bin b m ≤ 1152921504606846976 := by
  have h1 : bin a k ≤ 2 ^ 30 := Nat.le_trans (bin_le a k) (Nat.pow_le_pow_right (by omega) ha)
  have h2 : bin b m ≤ 2 ^ 30 := Nat.le_trans (bin_le b m) (Nat.pow_le_pow_right (by omega) hb)
  exact Nat.le_trans (Nat.mul_le_mul h1 h2) (by decide)

/-- The sign of a place. -/
def sg (k : Nat) : Int := if k % 2 = 0 then 1 else -1
theorem sg_succ (k : Nat) : sg (k + 1) = - sg k := by unfold sg; split <;> split <;> omega
theorem sg_even {k : Nat} (h : k % 2 = 0) : sg k = 1 := if_pos h
theorem sg_odd {k : Nat} (h : ¬ k % 2 = 0) : sg k = -1 := if_neg h
/-- The first k cells of row r with signs that take turns, added. -/
def ts (r : Nat) : Nat → Int
  | 0 => 0
  | k + 1 => ts r k + sg k * bin r k
theorem ts_succ (r : Nat) : ∀ k, ts (r + 1) (k + 1) = sg k * bin r k
  | 0 => by simp [ts, bin_zero]
  | k + 1 => by
    show ts (r + 1) (k + 1) + sg (k + 1) * bin (r + 1) (k + 1) = _
    rw [ts_succ r k, bin_succ, sg_succ]
    rw [Int.natCast_add, Int.mul_add, Int.neg_mul, Int.neg_mul]; omega
theorem ts_zero : ∀ k, ts 0 (k + 1) = 1
  | 0 => by simp [ts, sg, bin_zero]
  | k + 1 => by
    show ts 0 (k + 1) + sg (k + 1) * bin 0 (k + 1) = _
    rw [ts_zero k, bin_over 0 (k + 1) (by omega)]; simp
theorem ts_small (r k : Nat) (h : r ≤ 60) : -2305843009213693952 ≤ ts r k ∧ ts r k ≤ 2305843009213693952 := by
  cases k with
  | zero => simp [ts]
  | succ k => cases r with
    | zero => rw [ts_zero]; omega
    | succ r =>
      rw [ts_succ]
      have := bin_small r k (by omega)
      unfold sg
      split <;> omega

/-- A cell times its place is the row times the cell before in the row before. -/
theorem absorb : ∀ (n k : Nat), bin (n + 1) (k + 1) * (k + 1) = (n + 1) * bin n k
  | 0, 0 => rfl
  | 0, k + 1 => by rw [bin_over (0 + 1) (k + 1 + 1) (by omega), bin_over 0 (k + 1) (by omega)]; simp
  | m + 1, 0 => by
    have h := absorb m 0
    rw [bin_zero] at *
    rw [bin_succ, bin_zero]; omega
  | m + 1, j + 1 => by
    have h1 := absorb m (j + 1)
    have h2 := absorb m j
    rw [bin_succ (m + 1) (j + 1), Nat.add_mul, h1]
    have h3 : bin (m + 1) (j + 1) * (j + 1 + 1) = bin (m + 1) (j + 1) * (j + 1) + bin (m + 1) (j + 1) := by rw [Nat.mul_add, Nat.mul_one]
    rw [h3, h2]
    have h4 : (m + 1 + 1) * bin (m + 1) (j + 1) = (m + 1) * bin (m + 1) (j + 1) + bin (m + 1) (j + 1) := by rw [Nat.add_mul, Nat.one_mul]
    have h5 : (m + 1) * bin (m + 1) (j + 1) = (m + 1) * bin m j + (m + 1) * bin m (j + 1) := by rw [bin_succ m j, Nat.mul_add]
    omega
/-- Rows look the same from both ends. -/
theorem bin_ends : ∀ (n a b : Nat), a + b = n → bin n a = bin n b
  | 0, a, b, h => by obtain rfl : a = 0 := by omega
                     obtain rfl : b = 0 := by omega
                     rfl
  | n + 1, 0, b, h => by obtain rfl : b = n + 1 := by omega
                         rw [bin_zero, bin_self]
  | n + 1, a + 1, 0, h => by obtain rfl : a = n := by omega
                             rw [bin_zero, bin_self]
  | n + 1, a + 1, b + 1, h => by
    rw [bin_succ, bin_succ, bin_ends n a (b + 1) (by omega), bin_ends n (a + 1) b (by omega)]; omega
/-- The first k cells of row n together. -/
def psum (n : Nat) : Nat → Nat
  | 0 => 0
  | k + 1 => psum n k + bin n k
theorem psum_step (n : Nat) : ∀ k, psum (n + 1) (k + 1) = psum n (k + 1) + psum n k
  | 0 => by simp [psum, bin_zero]
  | k + 1 => by
    show psum (n + 1) (k + 1) + bin (n + 1) (k + 1) = psum n (k + 1) + bin n (k + 1) + (psum n k + bin n k)
    rw [psum_step n k, bin_succ]; omega
theorem psum_row : ∀ n, psum n (n + 1) = 2 ^ n
  | 0 => rfl
  | n + 1 => by
    rw [psum_step, show psum n (n + 1 + 1) = psum n (n + 1) + bin n (n + 1) from rfl, bin_over n (n + 1) (by omega), psum_row n, Nat.pow_succ]; omega
theorem psum_mono (n : Nat) : ∀ j k, j ≤ k → psum n j ≤ psum n k
  | j, 0, h => by obtain rfl : j = 0 := by omega
                  exact Nat.le_refl _
  | j, k + 1, h => by
    by_cases e : j = k + 1
    · rw [e]; exact Nat.le_refl _
    · exact Nat.le_trans (psum_mono n j k (by omega)) (Nat.le_add_right _ _)
theorem psum_small (n k : Nat) (h : n ≤ 60) (hk : k ≤ n + 1) : psum n k ≤ 1152921504606846976 :=
  Nat.le_trans (psum_mono n k (n + 1) hk) (by rw [psum_row]; exact Nat.le_trans (Nat.pow_le_pow_right (by omega) h) (by decide))
end Go.Proofs.Ytehmobcfbifocaa
/-
  Plain mathematics of digits: the digits of a number from the lowest one on, their sum, their product one more each, carries, what is under a number and how many. Nothing of the program.
-/
namespace Go.Proofs.Ytehmobcfbifocaa
open Go.RowKit

/-- The digits of n in base b, from the lowest one on. -/
def digs (b n : Nat) : List Nat := if _h : 2 ≤ b ∧ 0 < n then n % b :: digs b (n / b) else []
termination_by n
decreasing_by exact Nat.div_lt_self _h.2 _h.1
/-- The digits of x and y side by side. -/
def pairs (b x y : Nat) : List (Nat × Nat) := if _h : 2 ≤ b ∧ 0 < x + y then (x % b, y % b) :: pairs b (x / b) (y / b) else []
termination_by x + y
decreasing_by
  rcases Nat.eq_zero_or_pos x with hx | hx
  · subst hx; have := Nat.div_lt_self (n := y) (k := b) (by omega) _h.1; simp; omega
  · have h1 := Nat.div_lt_self (n := x) (k := b) hx _h.1; have h2 := Nat.div_le_self y b; omega

theorem digs_zero (b : Nat) : digs b 0 = [] := by rw [digs, dif_neg (by omega)]
theorem digs_pos {b n : Nat} (hb : 2 ≤ b) (hn : 0 < n) : digs b n = n % b :: digs b (n / b) := by rw [digs, dif_pos ⟨hb, hn⟩]
theorem pairs_zero (b : Nat) : pairs b 0 0 = [] := by rw [pairs, dif_neg (by omega)]
theorem pairs_pos {b x y : Nat} (hb : 2 ≤ b) (hn : 0 < x + y) : pairs b x y = (x % b, y % b) :: pairs b (x / b) (y / b) := by rw [pairs, dif_pos ⟨hb, hn⟩]

/-- Numbers added; numbers, one more each, multiplied. -/
def sumL : List Nat → Nat
  | [] => 0
  | x :: r => x + sumL r
def mulL : List Nat → Nat
  | [] => 1
  | x :: r => (x + 1) * mulL r
theorem sumL_app : ∀ (p q : List Nat), sumL (p ++ q) = sumL p + sumL q
  | [], q => by simp [sumL]
  | x :: p, q => by simp [sumL, sumL_app p q]; omega
theorem mulL_app : ∀ (p q : List Nat), mulL (p ++ q) = mulL p * mulL q
  | [], q => by simp [mulL]
  | x :: p, q => by simp [mulL, mulL_app p q, Nat.mul_assoc]
theorem sumL_snoc (p : List Nat) (x : Nat) : sumL (p ++ [x]) = sumL p + x := by rw [sumL_app]; simp [sumL]
theorem mulL_snoc (p : List Nat) (x : Nat) : mulL (p ++ [x]) = mulL p * (x + 1) := by rw [mulL_app]; simp [mulL]
theorem mulL_pos : ∀ p : List Nat, 1 ≤ mulL p
  | [] => Nat.le_refl _
  | x :: p => by have := mulL_pos p; simp only [mulL]; exact Nat.le_trans this (Nat.le_mul_of_pos_left _ (by omega))

/-- Strong induction on a number that is divided. -/
theorem div_ind {b : Nat} (hb : 2 ≤ b) {p : Nat → Prop} (h0 : p 0) (h1 : ∀ n, 0 < n → p (n / b) → p n) (n : Nat) : p n := by
  induction n using Nat.strongRecOn with
  | ind n ih =>
    rcases Nat.eq_zero_or_pos n with h | h
    · subst h; exact h0
    · exact h1 n h (ih _ (Nat.div_lt_self h hb))
theorem div_ind2 {b : Nat} (hb : 2 ≤ b) {p : Nat → Nat → Prop} (h0 : p 0 0) (h1 : ∀ x y, 0 < x + y → p (x / b) (y / b) → p x y) (x y : Nat) : p x y := by
  obtain ⟨s, hs⟩ : ∃ s, s = x + y := ⟨_, rfl⟩
  induction s using Nat.strongRecOn generalizing x y with
  | ind s ih =>
    rcases Nat.eq_zero_or_pos (x + y) with h | h
    · obtain ⟨rfl, rfl⟩ : x = 0 ∧ y = 0 := by omega
      exact h0
    · refine h1 x y h (ih (x / b + y / b) ?_ _ _ rfl)
      have e1 := Nat.div_le_self x b
      have e2 := Nat.div_le_self y b
      rcases Nat.eq_zero_or_pos x with hx | hx
      · have := Nat.div_lt_self (n := y) (k := b) (by omega) hb; omega
      · have := Nat.div_lt_self (n := x) (k := b) hx hb; omega

theorem div_mod (b n : Nat) : b * (n / b) + n % b = n := Nat.div_add_mod n b
theorem two_mul_le {b q : Nat} (hb : 2 ≤ b) : 2 * q ≤ b * q := Nat.mul_le_mul_right q hb

theorem digs_lt {b : Nat} (hb : 2 ≤ b) (n : Nat) : ∀ d ∈ digs b n, d < b := by
  refine div_ind hb (p := fun n => ∀ d ∈ digs b n, d < b) (by rw [digs_zero]; simp) (fun n hn ih => ?_) n
  rw [digs_pos hb hn]
  intro d hd
  rcases List.mem_cons.1 hd with rfl | h
  · exact Nat.mod_lt _ (by omega)
  · exact ih d h
theorem sum_le {b : Nat} (hb : 2 ≤ b) (n : Nat) : sumL (digs b n) ≤ n := by
  refine div_ind hb (p := fun n => sumL (digs b n) ≤ n) (by rw [digs_zero]; exact Nat.le_refl _) (fun n hn ih => ?_) n
  rw [digs_pos hb hn]
  have := div_mod b n
  have := two_mul_le (q := n / b) hb
  simp only [sumL]; omega
theorem mul_le {b : Nat} (hb : 2 ≤ b) (n : Nat) : mulL (digs b n) ≤ n + 1 := by
  refine div_ind hb (p := fun n => mulL (digs b n) ≤ n + 1) (by rw [digs_zero]; exact Nat.le_refl _) (fun n hn ih => ?_) n
  rw [digs_pos hb hn]
  have h1 := div_mod b n
  have h2 : n % b + 1 ≤ b := Nat.mod_lt _ (by omega)
  have h3 := Nat.mul_le_mul_left (n % b + 1) ih
  have h4 := Nat.mul_le_mul_right (n / b) h2
  simp only [mulL]
  rw [Nat.mul_add, Nat.mul_one] at h3
  omega
theorem mul_two {b n : Nat} (hb : 2 ≤ b) (hn : 0 < n) : 2 ≤ mulL (digs b n) := by
  refine div_ind hb (p := fun n => 0 < n → 2 ≤ mulL (digs b n)) (fun h => by omega) (fun n hn ih _ => ?_) n hn
  rw [digs_pos hb hn]
  simp only [mulL]
  have hp := mulL_pos (digs b (n / b))
  rcases Nat.eq_zero_or_pos (n / b) with h | h
  · have := div_mod b n
    rw [h] at this
    exact Nat.le_trans (show 2 ≤ n % b + 1 by omega) (Nat.le_mul_of_pos_right _ hp)
  · exact Nat.le_trans (ih h) (Nat.le_mul_of_pos_left _ (by omega))
theorem len_le {b : Nat} (hb : 2 ≤ b) (n : Nat) : (digs b n).length ≤ n := by
  refine div_ind hb (p := fun n => (digs b n).length ≤ n) (by rw [digs_zero]; exact Nat.le_refl _) (fun n hn ih => ?_) n
  rw [digs_pos hb hn]
  have := Nat.div_lt_self hn hb
  simp only [List.length_cons]; omega
theorem pairs_len {b : Nat} (hb : 2 ≤ b) (x y : Nat) : (pairs b x y).length ≤ x + y := by
  refine div_ind2 hb (p := fun x y => (pairs b x y).length ≤ x + y) (by rw [pairs_zero]; exact Nat.le_refl _) (fun x y hn ih => ?_) x y
  rw [pairs_pos hb hn]
  have e1 := Nat.div_le_self x b
  have e2 := Nat.div_le_self y b
  simp only [List.length_cons]
  rcases Nat.eq_zero_or_pos x with hx | hx
  · have := Nat.div_lt_self (n := y) (k := b) (by omega) hb; omega
  · have := Nat.div_lt_self (n := x) (k := b) hx hb; omega

/-- Digits leave what the number leaves, by the base less 1. -/
theorem sum_mod {b : Nat} (hb : 2 ≤ b) (n : Nat) : ∃ q, n = sumL (digs b n) + (b - 1) * q := by
  refine div_ind hb (p := fun n => ∃ q, n = sumL (digs b n) + (b - 1) * q) ⟨0, by rw [digs_zero]; rfl⟩ (fun n hn ih => ?_) n
  obtain ⟨q, hq⟩ := ih
  refine ⟨n / b + q, ?_⟩
  rw [digs_pos hb hn]
  simp only [sumL]
  have h1 := div_mod b n
  obtain ⟨c, rfl⟩ : ∃ c, b = c + 1 := ⟨b - 1, by omega⟩
  rw [Nat.add_sub_cancel] at *
  rw [Nat.mul_add]
  rw [Nat.add_mul, Nat.one_mul] at h1
  omega
theorem sum_mod_eq {b : Nat} (hb : 2 ≤ b) (n : Nat) : sumL (digs b n) % (b - 1) = n % (b - 1) := by
  obtain ⟨q, hq⟩ := sum_mod hb n
  conv => rhs; rw [hq]
  rw [Nat.add_mul_mod_self_left]
theorem sum_times {b : Nat} (hb : 2 ≤ b) (n : Nat) : sumL (digs b (n * b)) = sumL (digs b n) := by
  rcases Nat.eq_zero_or_pos n with h | h
  · subst h; rw [Nat.zero_mul]
  · rw [digs_pos hb (Nat.mul_pos h (by omega)), Nat.mul_mod_left, Nat.mul_div_cancel _ (by omega)]; simp [sumL]

/-- Carries: how many, and which one goes on. -/
def carL (b : Nat) : Nat → List (Nat × Nat) → Nat
  | _, [] => 0
  | c, p :: r => (p.1 + p.2 + c) / b + carL b ((p.1 + p.2 + c) / b) r
def goesOn (b : Nat) : Nat → List (Nat × Nat) → Nat
  | c, [] => c
  | c, p :: r => goesOn b ((p.1 + p.2 + c) / b) r
theorem goesOn_snoc (b : Nat) : ∀ (c : Nat) (p : List (Nat × Nat)) (x : Nat × Nat), goesOn b c (p ++ [x]) = (x.1 + x.2 + goesOn b c p) / b
  | c, [], x => rfl
  | c, y :: p, x => by simp only [List.cons_append, goesOn]; exact goesOn_snoc b _ p x
theorem carL_snoc (b : Nat) : ∀ (c : Nat) (p : List (Nat × Nat)) (x : Nat × Nat), carL b c (p ++ [x]) = carL b c p + (x.1 + x.2 + goesOn b c p) / b
  | c, [], x => by simp [carL, goesOn]
  | c, y :: p, x => by simp only [List.cons_append, carL, goesOn]; rw [carL_snoc b _ p x]; omega
theorem one_carry {b x y c : Nat} (hx : x < b) (hy : y < b) (hc : c ≤ 1) : (x + y + c) / b ≤ 1 := by
  have : (x + y + c) / b < 2 := Nat.div_lt_of_lt_mul (by omega)
  omega
theorem goesOn_le {b : Nat} : ∀ (c : Nat) (p : List (Nat × Nat)), c ≤ 1 → (∀ x ∈ p, x.1 < b ∧ x.2 < b) → goesOn b c p ≤ 1
  | c, [], hc, _ => hc
  | c, x :: p, hc, h => goesOn_le _ p (one_carry (h x (by simp)).1 (h x (by simp)).2 hc) (fun y hy => h y (by simp [hy]))
theorem carL_le {b : Nat} : ∀ (c : Nat) (p : List (Nat × Nat)), c ≤ 1 → (∀ x ∈ p, x.1 < b ∧ x.2 < b) → carL b c p ≤ p.length
  | c, [], _, _ => Nat.le_refl _
  | c, x :: p, hc, h => by
    have h1 := one_carry (h x (by simp)).1 (h x (by simp)).2 hc
    have h2 := carL_le _ p h1 (fun y hy => h y (by simp [hy]))
    simp only [carL, List.length_cons]; omega
theorem pairs_lt {b : Nat} (hb : 2 ≤ b) (x y : Nat) : ∀ p ∈ pairs b x y, p.1 < b ∧ p.2 < b := by
  refine div_ind2 hb (p := fun x y => ∀ p ∈ pairs b x y, p.1 < b ∧ p.2 < b) (by rw [pairs_zero]; simp) (fun x y hn ih => ?_) x y
  rw [pairs_pos hb hn]
  intro d hd
  rcases List.mem_cons.1 hd with rfl | h
  · exact ⟨Nat.mod_lt _ (by omega), Nat.mod_lt _ (by omega)⟩
  · exact ih d h

/-- What is added at one place. -/
theorem place {b x y c : Nat} (hb : 2 ≤ b) : (x + y + c) % b = (x % b + y % b + c) % b ∧ (x + y + c) / b = x / b + y / b + (x % b + y % b + c) / b := by
  have hx := div_mod b x
  have hy := div_mod b y
  have he : x + y + c = (x % b + y % b + c) + b * (x / b + y / b) := by rw [Nat.mul_add]; omega
  constructor
  · rw [he, Nat.add_mul_mod_self_left]
  · rw [he, Nat.add_mul_div_left _ _ (by omega)]; omega
/-- Carries are what digits lose. -/
theorem carries {b : Nat} (hb : 2 ≤ b) (x y : Nat) : ∀ c, c ≤ 1 → (b - 1) * carL b c (pairs b x y) + sumL (digs b (x + y + c)) = sumL (digs b x) + sumL (digs b y) + c := by
  refine div_ind2 hb (p := fun x y => ∀ c, c ≤ 1 → (b - 1) * carL b c (pairs b x y) + sumL (digs b (x + y + c)) = sumL (digs b x) + sumL (digs b y) + c) ?_ (fun x y hn ih c hc => ?_) x y
  · intro c hc
    rw [pairs_zero, digs_zero]
    rcases Nat.eq_zero_or_pos c with h | h
    · subst h; rw [digs_zero]; rfl
    · obtain rfl : c = 1 := by omega
      rw [digs_pos hb (by omega), show (0 + 0 + 1) / b = 0 by exact Nat.div_eq_of_lt (by omega), digs_zero, show (0 + 0 + 1) % b = 1 by exact Nat.mod_eq_of_lt (by omega)]; rfl
  · rw [pairs_pos hb hn]
    have hsx : ∀ n, sumL (digs b n) = n % b + sumL (digs b (n / b)) := fun n => by
      rcases Nat.eq_zero_or_pos n with h | h
      · subst h; simp [digs_zero, sumL]
      · rw [digs_pos hb h]; rfl
    rw [hsx (x + y + c), hsx x, hsx y, (place (x := x) (y := y) (c := c) hb).1, (place (x := x) (y := y) (c := c) hb).2]
    simp only [carL]
    have hx := Nat.mod_lt x (show 0 < b by omega)
    have hy := Nat.mod_lt y (show 0 < b by omega)
    have h1 := one_carry hx hy hc
    have h2 := ih _ h1
    have h3 := div_mod b (x % b + y % b + c)
    generalize (x % b + y % b + c) / b = d at *
    generalize (x % b + y % b + c) % b = e at *
    rw [Nat.mul_add]
    rcases (show d = 0 ∨ d = 1 by omega) with rfl | rfl
    · omega
    · rw [Nat.mul_one] at *; omega
theorem carL_swap (b : Nat) : ∀ (c : Nat) (p : List (Nat × Nat)), carL b c (p.map fun x => (x.2, x.1)) = carL b c p
  | c, [] => rfl
  | c, x :: p => by simp only [List.map_cons, carL]; rw [Nat.add_comm x.2 x.1, carL_swap b _ p]
theorem pairs_swap {b : Nat} (hb : 2 ≤ b) (x y : Nat) : pairs b y x = (pairs b x y).map fun x => (x.2, x.1) := by
  refine div_ind2 hb (p := fun x y => pairs b y x = (pairs b x y).map fun x => (x.2, x.1)) (by rw [pairs_zero]; rfl) (fun x y hn ih => ?_) x y
  rw [pairs_pos hb hn, pairs_pos hb (show 0 < y + x by omega), ih]; rfl

/-- Each digit at most the one above it. -/
def und (b x y : Nat) : Bool := (pairs b x y).all fun p => decide (p.1 ≤ p.2)
theorem und_zero (b : Nat) : und b 0 0 = true := by unfold und; rw [pairs_zero]; rfl
theorem und_step {b : Nat} (hb : 2 ≤ b) (x y : Nat) : und b x y = (decide (x % b ≤ y % b) && und b (x / b) (y / b)) := by
  rcases Nat.eq_zero_or_pos (x + y) with h | h
  · obtain ⟨rfl, rfl⟩ : x = 0 ∧ y = 0 := by omega
    simp [und_zero]
  · unfold und; rw [pairs_pos hb h]; rfl
theorem und_none {b : Nat} (hb : 2 ≤ b) (y : Nat) : und b 0 y = true := by
  refine div_ind hb (p := fun y => und b 0 y = true) (und_zero b) (fun y hn ih => ?_) y
  rw [und_step hb, Nat.zero_div, ih]; simp
theorem und_le {b : Nat} (hb : 2 ≤ b) (x y : Nat) : und b x y = true → x ≤ y := by
  refine div_ind2 hb (p := fun x y => und b x y = true → x ≤ y) (fun _ => Nat.le_refl _) (fun x y hn ih h => ?_) x y
  rw [und_step hb, Bool.and_eq_true, decide_eq_true_eq] at h
  have h1 := ih h.2
  have h2 := div_mod b x
  have h3 := div_mod b y
  have h4 := Nat.mul_le_mul_left b h1
  omega
theorem und_same {b : Nat} (hb : 2 ≤ b) (x : Nat) : und b x x = true := by
  refine div_ind hb (p := fun x => und b x x = true) (und_zero b) (fun x hn ih => ?_) x
  rw [und_step hb, ih]; simp
/-- Nothing is carried where what is under is added to the rest. -/
theorem und_carries {b : Nat} (hb : 2 ≤ b) (x z : Nat) : und b x (x + z) = true ↔ carL b 0 (pairs b x z) = 0 := by
  refine div_ind2 hb (p := fun x z => und b x (x + z) = true ↔ carL b 0 (pairs b x z) = 0) ?_ (fun x z hn ih => ?_) x z
  · rw [pairs_zero, und_zero]; simp [carL]
  · rw [pairs_pos hb hn, und_step hb]
    have hp := place (b := b) (x := x) (y := z) (c := 0) hb
    rw [Nat.add_zero, Nat.add_zero] at hp
    rw [hp.1, hp.2]
    simp only [carL, Nat.add_zero]
    have hx := Nat.mod_lt x (show 0 < b by omega)
    have hy := Nat.mod_lt z (show 0 < b by omega)
    by_cases hc : x % b + z % b < b
    · rw [Nat.div_eq_of_lt hc, Nat.mod_eq_of_lt hc, Nat.add_zero, Nat.zero_add, ← ih]
      simp
    · have h1 : (x % b + z % b) / b = 1 := by
        have h2 : (x % b + z % b) / b < 2 := Nat.div_lt_of_lt_mul (by omega)
        have h3 : 1 ≤ (x % b + z % b) / b := (Nat.le_div_iff_mul_le (by omega)).2 (by omega)
        omega
      have h2 := div_mod b (x % b + z % b)
      rw [h1] at h2
      constructor
      · intro h
        rw [Bool.and_eq_true, decide_eq_true_eq] at h
        omega
      · intro h; omega
theorem und_sums {b : Nat} (hb : 2 ≤ b) (x y : Nat) : und b x y = true ↔ x ≤ y ∧ sumL (digs b x) + sumL (digs b (y - x)) = sumL (digs b y) := by
  constructor
  · intro h
    have hle := und_le hb x y h
    refine ⟨hle, ?_⟩
    have hc := carries hb x (y - x) 0 (by omega)
    have he : x + (y - x) = y := by omega
    rw [(und_carries hb x (y - x)).1 (by rw [he]; exact h), Nat.add_zero, he] at hc
    omega
  · rintro ⟨hle, hs⟩
    have hc := carries hb x (y - x) 0 (by omega)
    have he : x + (y - x) = y := by omega
    rw [Nat.add_zero, he] at hc
    have h0 : (b - 1) * carL b 0 (pairs b x (y - x)) = 0 := by omega
    have h1 : carL b 0 (pairs b x (y - x)) = 0 := by
      rcases Nat.mul_eq_zero.1 h0 with h | h
      · omega
      · exact h
    have := (und_carries hb x (y - x)).2 h1
    rwa [he] at this

/-- How many of the first m numbers are under n. -/
def undUp (b n : Nat) : Nat → Nat
  | 0 => 0
  | m + 1 => undUp b n m + (if und b m n then 1 else 0)
theorem undUp_le (b n : Nat) : ∀ m, undUp b n m ≤ m
  | 0 => Nat.le_refl _
  | m + 1 => by have := undUp_le b n m; simp only [undUp]; split <;> omega
theorem undUp_stable {b : Nat} (hb : 2 ≤ b) (n : Nat) : ∀ j, undUp b n (n + 1 + j) = undUp b n (n + 1)
  | 0 => rfl
  | j + 1 => by
    show undUp b n (n + 1 + j) + _ = _
    rw [undUp_stable hb n j, if_neg]
    · rfl
    · intro h; exact absurd (und_le hb _ _ h) (by show ¬ (n + 1 + j ≤ n); omega)
theorem undUp_part {b : Nat} (hb : 2 ≤ b) (n m : Nat) : ∀ j, j ≤ b → undUp b n (b * m + j) = undUp b n (b * m) + (if und b m (n / b) then min j (n % b + 1) else 0)
  | 0, _ => by simp
  | j + 1, h => by
    show undUp b n (b * m + j) + (if und b (b * m + j) n then 1 else 0) = _
    have h1 : (b * m + j) % b = j := by rw [Nat.mul_add_mod]; exact Nat.mod_eq_of_lt (by omega)
    have h2 : (b * m + j) / b = m := by rw [Nat.mul_add_div (by omega), Nat.div_eq_of_lt (by omega)]; rfl
    rw [undUp_part hb n m j (by omega), und_step hb (b * m + j) n, h1, h2]
    cases hu : und b m (n / b)
    · simp
    · by_cases hj : j ≤ n % b
      · simp [hj]; omega
      · simp [hj]; omega
theorem undUp_times {b : Nat} (hb : 2 ≤ b) (n : Nat) : ∀ m, undUp b n (b * m) = (n % b + 1) * undUp b (n / b) m
  | 0 => by simp [undUp]
  | m + 1 => by
    rw [Nat.mul_succ, undUp_part hb n m b (Nat.le_refl _), undUp_times hb n m]
    have := Nat.mod_lt n (show 0 < b by omega)
    simp only [undUp]
    cases und b m (n / b)
    · simp
    · simp only [if_true]; rw [Nat.mul_add, Nat.mul_one, Nat.min_eq_right (by omega)]
/-- Numbers under a number are counted. -/
theorem undUp_all {b : Nat} (hb : 2 ≤ b) (n : Nat) : undUp b n (n + 1) = mulL (digs b n) := by
  refine div_ind hb (p := fun n => undUp b n (n + 1) = mulL (digs b n)) ?_ (fun n hn ih => ?_) n
  · rw [digs_zero]; simp [undUp, und_zero, mulL]
  · rw [digs_pos hb hn]
    have h1 := div_mod b n
    have h2 := Nat.mod_lt n (show 0 < b by omega)
    have h3 : b * (n / b + 1) = n + 1 + (b - 1 - n % b) := by rw [Nat.mul_add, Nat.mul_one]; omega
    rw [← undUp_stable hb n (b - 1 - n % b), ← h3, undUp_times hb, ih]; rfl

/-- What is made of the digits from place k on. -/
def fromP (b : Nat) : List Nat → Nat
  | [] => 0
  | x :: r => x + b * fromP b r
theorem fromP_digs {b : Nat} (hb : 2 ≤ b) (n : Nat) : fromP b (digs b n) = n := by
  refine div_ind hb (p := fun n => fromP b (digs b n) = n) (by rw [digs_zero]; rfl) (fun n hn ih => ?_) n
  rw [digs_pos hb hn]
  have := div_mod b n
  simp only [fromP]; rw [ih]; omega
theorem fromP_drop (b : Nat) : ∀ (l : List Nat) (k : Nat) (h : k < l.length), fromP b (l.drop k) = fromP b (l.drop (k + 1)) * b + l[k]
  | [], k, h => by simp at h
  | x :: l, 0, h => by simp [fromP, Nat.mul_comm]; omega
  | x :: l, k + 1, h => by simpa using fromP_drop b l k (by simpa using h)
theorem fromP_le {b : Nat} (hb : 1 ≤ b) : ∀ (l : List Nat) (k : Nat), fromP b (l.drop k) ≤ fromP b l
  | [], k => by simp
  | x :: l, 0 => by simp
  | x :: l, k + 1 => by
    have h := fromP_le hb l k
    simp only [List.drop_succ_cons, fromP]
    have := Nat.le_mul_of_pos_left (fromP b l) hb
    omega
theorem digs_last {b : Nat} (hb : 2 ≤ b) (n : Nat) (hn : 0 < n) : ∃ h : (digs b n).length - 1 < (digs b n).length, 0 < (digs b n)[(digs b n).length - 1] := by
  refine div_ind hb (p := fun n => 0 < n → ∃ h : (digs b n).length - 1 < (digs b n).length, 0 < (digs b n)[(digs b n).length - 1]) (fun h => by omega) (fun n hn ih _ => ?_) n hn
  have hd := digs_pos hb hn
  generalize digs b n = D at hd
  subst hd
  rcases Nat.eq_zero_or_pos (n / b) with h | h
  · have := div_mod b n
    rw [h] at this
    rw [h, digs_zero]
    exact ⟨by simp, by simp; omega⟩
  · obtain ⟨h1, h2⟩ := ih h
    refine ⟨by simp, ?_⟩
    simp only [List.length_cons, Nat.add_sub_cancel]
    rw [List.getElem_cons]
    rw [dif_neg (by omega)]
    exact h2
end Go.Proofs.Ytehmobcfbifocaa
/-
  Plain mathematics of how often a prime divides: numbers, products of all numbers up to a number, cells of the triangle; by digits, by carries; and how much it may be. Nothing of the program.
-/
namespace Go.Proofs.Ytehmobcfbifocaa
open Go.RowKit

/-- How often p divides n. -/
def val (p n : Nat) : Nat := if _h : (2 ≤ p ∧ 0 < n) ∧ n % p = 0 then val p (n / p) + 1 else 0
termination_by n
decreasing_by exact Nat.div_lt_self _h.1.2 _h.1.1
/-- What is left of n when p no longer divides it. -/
def strip (p n : Nat) : Nat := if _h : (2 ≤ p ∧ 0 < n) ∧ n % p = 0 then strip p (n / p) else n
termination_by n
decreasing_by exact Nat.div_lt_self _h.1.2 _h.1.1
/-- n by p, by its square, and so on, added. -/
def tup (p n : Nat) : Nat := if _h : 2 ≤ p ∧ 0 < n then n / p + tup p (n / p) else 0
termination_by n
decreasing_by exact Nat.div_lt_self _h.2 _h.1

theorem val_no {p n : Nat} (h : n % p ≠ 0) : val p n = 0 := by rw [val, dif_neg (fun e => h e.2)]
theorem val_yes {p n : Nat} (hp : 2 ≤ p) (hn : 0 < n) (h : n % p = 0) : val p n = val p (n / p) + 1 := by rw [val, dif_pos ⟨⟨hp, hn⟩, h⟩]
theorem strip_no {p n : Nat} (h : n % p ≠ 0) : strip p n = n := by rw [strip, dif_neg (fun e => h e.2)]
theorem strip_yes {p n : Nat} (hp : 2 ≤ p) (hn : 0 < n) (h : n % p = 0) : strip p n = strip p (n / p) := by rw [strip, dif_pos ⟨⟨hp, hn⟩, h⟩]
theorem tup_zero (p : Nat) : tup p 0 = 0 := by rw [tup, dif_neg (by omega)]
theorem tup_pos {p n : Nat} (hp : 2 ≤ p) (hn : 0 < n) : tup p n = n / p + tup p (n / p) := by rw [tup, dif_pos ⟨hp, hn⟩]
theorem tup_any {p : Nat} (hp : 2 ≤ p) (n : Nat) : tup p n = n / p + tup p (n / p) := by
  rcases Nat.eq_zero_or_pos n with h | h
  · subst h; simp [tup_zero]
  · exact tup_pos hp h
theorem div_pos_of_mod {p n : Nat} (hn : 0 < n) (h : n % p = 0) : 0 < n / p := by
  rcases Nat.eq_zero_or_pos (n / p) with e | e
  · have := div_mod p n; rw [e, h] at this; omega
  · exact e

theorem strip_val {p : Nat} (hp : 2 ≤ p) (n : Nat) : 0 < n → p ^ val p n * strip p n = n ∧ 0 < strip p n := by
  refine div_ind hp (p := fun n => 0 < n → p ^ val p n * strip p n = n ∧ 0 < strip p n) (fun h => by omega) (fun n hn ih _ => ?_) n
  by_cases h : n % p = 0
  · have h1 := ih (div_pos_of_mod hn h)
    rw [val_yes hp hn h, strip_yes hp hn h, Nat.pow_succ]
    refine ⟨?_, h1.2⟩
    have h2 := div_mod p n
    rw [h, Nat.add_zero] at h2
    calc p ^ val p (n / p) * p * strip p (n / p) = p * (p ^ val p (n / p) * strip p (n / p)) := by rw [Nat.mul_comm _ p, Nat.mul_assoc]
      _ = n := by rw [h1.1, h2]
  · rw [val_no h, strip_no h]; simp; exact hn
theorem strip_mod {p : Nat} (hp : 2 ≤ p) (n : Nat) : 0 < n → strip p n % p ≠ 0 := by
  refine div_ind hp (p := fun n => 0 < n → strip p n % p ≠ 0) (fun h => by omega) (fun n hn ih _ => ?_) n
  by_cases h : n % p = 0
  · rw [strip_yes hp hn h]; exact ih (div_pos_of_mod hn h)
  · rw [strip_no h]; exact h
theorem pow_gt {p : Nat} (hp : 2 ≤ p) : ∀ k, k + 1 ≤ p ^ k
  | 0 => by simp
  | k + 1 => by
    have h1 := pow_gt hp k
    have h2 := Nat.mul_le_mul_left (p ^ k) hp
    rw [Nat.pow_succ]; omega
theorem val_pow_le {p : Nat} (hp : 2 ≤ p) {n : Nat} (hn : 0 < n) : p ^ val p n ≤ n := by
  have h := strip_val hp n hn
  have h2 := Nat.le_mul_of_pos_right (p ^ val p n) h.2
  omega
theorem val_lt {p : Nat} (hp : 2 ≤ p) {n : Nat} (hn : 0 < n) : val p n < n := by
  have h1 := val_pow_le hp hn
  have h2 := pow_gt hp (val p n)
  omega

/-- Digits tell how often. -/
theorem legendre {p : Nat} (hp : 2 ≤ p) (n : Nat) : (p - 1) * tup p n + sumL (digs p n) = n := by
  refine div_ind hp (p := fun n => (p - 1) * tup p n + sumL (digs p n) = n) (by rw [tup_zero, digs_zero]; rfl) (fun n hn ih => ?_) n
  rw [tup_pos hp hn, digs_pos hp hn]
  simp only [sumL]
  have h1 := div_mod p n
  obtain ⟨c, rfl⟩ : ∃ c, p = c + 1 := ⟨p - 1, by omega⟩
  rw [Nat.add_sub_cancel] at *
  rw [Nat.mul_add]
  rw [Nat.add_mul, Nat.one_mul] at h1
  omega
theorem tup_le {p : Nat} (hp : 2 ≤ p) (n : Nat) : tup p n ≤ n := by
  have h1 := legendre hp n
  have h2 := Nat.le_mul_of_pos_left (tup p n) (show 0 < p - 1 by omega)
  omega
theorem succ_div_mod {p : Nat} (hp : 2 ≤ p) (n : Nat) : ((n + 1) % p = 0 ∧ (n + 1) / p = n / p + 1) ∨ ((n + 1) % p ≠ 0 ∧ (n + 1) / p = n / p) := by
  have h1 := div_mod p n
  have hm := Nat.mod_lt n (show 0 < p by omega)
  by_cases h : n % p + 1 = p
  · left
    have e : n + 1 = p * (n / p + 1) := by rw [Nat.mul_add]; omega
    constructor
    · rw [e, Nat.mul_mod_right]
    · conv => lhs; rw [e]
      rw [Nat.mul_div_cancel_left _ (by omega)]
  · right
    have e : n + 1 = p * (n / p) + (n % p + 1) := by omega
    constructor
    · rw [e, Nat.mul_add_mod, Nat.mod_eq_of_lt (show n % p + 1 < p by omega)]; omega
    · conv => lhs; rw [e]
      rw [Nat.mul_add_div (by omega), Nat.div_eq_of_lt (show n % p + 1 < p by omega), Nat.add_zero]
/-- With one number more it is as much more as p divides that. -/
theorem tup_succ {p : Nat} (hp : 2 ≤ p) (n : Nat) : tup p (n + 1) = tup p n + val p (n + 1) := by
  induction n using Nat.strongRecOn with
  | ind n ih =>
    rw [tup_any hp (n + 1), tup_any hp n]
    rcases succ_div_mod hp n with ⟨h1, h2⟩ | ⟨h1, h2⟩
    · rw [h2, val_yes hp (by omega) h1, h2]
      have hlt : n / p < n ∨ n = 0 := by
        rcases Nat.eq_zero_or_pos n with h | h
        · exact .inr h
        · exact .inl (Nat.div_lt_self h hp)
      rcases hlt with hlt | rfl
      · rw [ih _ hlt]; omega
      · rw [Nat.mod_eq_of_lt (by omega)] at h1; omega
    · rw [h2, val_no h1]; omega

/-- The six primes. -/
def prm (p : Nat) : Prop := p = 2 ∨ p = 3 ∨ p = 5 ∨ p = 7 ∨ p = 11 ∨ p = 13
instance (p : Nat) : Decidable (prm p) := by unfold prm; infer_instance
theorem prm_two {p : Nat} (h : prm p) : 2 ≤ p ∧ p ≤ 13 := by unfold prm at h; omega
def sixth : List Nat := [2, 3, 5, 7, 11, 13]
theorem prm_in {p : Nat} (h : prm p) : p ∈ sixth := by unfold prm at h; unfold sixth; simp; omega
theorem zeros_all : sixth.all (fun p => (List.range p).all fun x => (List.range p).all fun y => !(x * y % p == 0) || (x == 0 || y == 0)) = true := by decide
theorem no_zeros {p : Nat} (h : prm p) (x : Nat) (hx : x < p) (y : Nat) (hy : y < p) (hz : x * y % p = 0) : x = 0 ∨ y = 0 := by
  have h1 := List.all_eq_true.1 (List.all_eq_true.1 (List.all_eq_true.1 zeros_all p (prm_in h)) x (List.mem_range.2 hx)) y (List.mem_range.2 hy)
  simpa [hz] using h1
theorem euclid {p : Nat} (h : prm p) (x y : Nat) (hxy : x * y % p = 0) : x % p = 0 ∨ y % p = 0 := by
  have hp := prm_two h
  refine no_zeros h _ (Nat.mod_lt _ (by omega)) _ (Nat.mod_lt _ (by omega)) ?_
  rw [← Nat.mul_mod]; exact hxy
theorem val_times {p n : Nat} (hp : 2 ≤ p) (hn : 0 < n) : val p (n * p) = val p n + 1 := by
  rw [val_yes hp (Nat.mul_pos hn (by omega)) (Nat.mul_mod_left _ _), Nat.mul_div_cancel _ (by omega)]
/-- Of a product it is both together. -/
theorem val_mul {p : Nat} (h : prm p) (x y : Nat) : 0 < x → 0 < y → val p (x * y) = val p x + val p y := by
  have hp := (prm_two h).1
  revert y
  refine div_ind hp (p := fun x => ∀ y, 0 < x → 0 < y → val p (x * y) = val p x + val p y) (fun _ h => by omega) (fun x hx ihx y _ hy => ?_) x
  by_cases hxm : x % p = 0
  · have e := div_mod p x
    rw [hxm, Nat.add_zero] at e
    have h1 := ihx y (div_pos_of_mod hx hxm) hy
    rw [val_yes hp hx hxm]
    conv => lhs; rw [← e]
    rw [show p * (x / p) * y = x / p * y * p by rw [Nat.mul_comm p, Nat.mul_assoc, Nat.mul_comm p, ← Nat.mul_assoc], val_times hp (Nat.mul_pos (div_pos_of_mod hx hxm) hy), h1]
    omega
  · rw [val_no hxm]
    refine div_ind hp (p := fun y => 0 < y → val p (x * y) = 0 + val p y) (fun h => by omega) (fun y hy ih _ => ?_) y hy
    by_cases hym : y % p = 0
    · have e := div_mod p y
      rw [hym, Nat.add_zero] at e
      have h1 := ih (div_pos_of_mod hy hym)
      rw [val_yes hp hy hym]
      conv => lhs; rw [← e]
      rw [show x * (p * (y / p)) = x * (y / p) * p by rw [Nat.mul_comm p, Nat.mul_assoc], val_times hp (Nat.mul_pos hx (div_pos_of_mod hy hym)), h1]
      omega
    · rw [val_no hym, val_no (fun e => by rcases euclid h x y e with e | e; exact hxm e; exact hym e)]
theorem val_one {p : Nat} (hp : 2 ≤ p) : val p 1 = 0 := val_no (by rw [Nat.mod_eq_of_lt (by omega)]; omega)
theorem apart_all : sixth.all (fun p => sixth.all fun q => p == q || !(p % q == 0)) = true := by decide
theorem prm_apart {p q : Nat} (hp : prm p) (hq : prm q) (hne : p ≠ q) : p % q ≠ 0 := by
  have h1 := List.all_eq_true.1 (List.all_eq_true.1 apart_all p (prm_in hp)) q (prm_in hq)
  simpa [hne] using h1
/-- Divided by another prime it is as often. -/
theorem val_apart {p q n : Nat} (hp : prm p) (hq : prm q) (hne : p ≠ q) (hn : 0 < n) (h : n % p = 0) : val q (n / p) = val q n := by
  have e := div_mod p n
  rw [h, Nat.add_zero] at e
  conv => rhs; rw [← e]
  rw [val_mul hq _ _ (by have := prm_two hp; omega) (div_pos_of_mod hn h), val_no (prm_apart hp hq hne)]
  omega
theorem val_strip {p q : Nat} (hp : prm p) (hq : prm q) (hne : p ≠ q) (n : Nat) : 0 < n → val q (strip p n) = val q n := by
  have h2 := (prm_two hp).1
  refine div_ind h2 (p := fun n => 0 < n → val q (strip p n) = val q n) (fun h => by omega) (fun n hn ih _ => ?_) n
  by_cases h : n % p = 0
  · rw [strip_yes h2 hn h, ih (div_pos_of_mod hn h), val_apart hp hq hne hn h]
  · rw [strip_no h]

theorem bin_half (n k : Nat) : bin (n + 1) (k + 1) ≤ 2 ^ n := by
  rw [bin_succ, ← psum_row n]
  by_cases h : k + 2 ≤ n + 1
  · have h1 := psum_mono n (k + 2) (n + 1) h
    simp only [psum] at h1 ⊢
    omega
  · by_cases e : k = n
    · subst e
      rw [bin_over k (k + 1) (by omega)]
      simp only [psum]; omega
    · rw [bin_over n k (by omega), bin_over n (k + 1) (by omega)]; omega
theorem bin_max {n : Nat} (k : Nat) (h : n ≤ 60) : bin n k ≤ 576460752303423488 := by
  match n, k, h with
  | n, 0, _ => rw [bin_zero]; omega
  | 0, k + 1, _ => rw [bin_over 0 (k + 1) (by omega)]; omega
  | n + 1, k + 1, h => exact Nat.le_trans (bin_half n k) (Nat.le_trans (Nat.pow_le_pow_right (by omega) (show n ≤ 59 by omega)) (by decide))
theorem bin_pos : ∀ (n k : Nat), k ≤ n → 0 < bin n k
  | n, 0, _ => by rw [bin_zero]; omega
  | 0, k + 1, h => by omega
  | n + 1, k + 1, h => by rw [bin_succ]; have := bin_pos n k (by omega); omega
/-- How often a prime divides a cell. -/
theorem val_bin {p : Nat} (h : prm p) : ∀ (n k : Nat), k ≤ n → val p (bin n k) + tup p k + tup p (n - k) = tup p n
  | n, 0, _ => by rw [bin_zero, val_one (prm_two h).1, tup_zero]; simp
  | 0, k + 1, hk => by omega
  | n + 1, k + 1, hk => by
    have h1 := val_bin h n k (by omega)
    have h2 := congrArg (val p) (absorb n k)
    rw [val_mul h _ _ (bin_pos _ _ hk) (by omega), val_mul h _ _ (by omega) (bin_pos _ _ (by omega))] at h2
    rw [tup_succ (prm_two h).1 k, tup_succ (prm_two h).1 n, show n + 1 - (k + 1) = n - k by omega]
    omega

/-- Carries tell how often. -/
theorem tup_carries {p : Nat} (hp : 2 ≤ p) (x y : Nat) : tup p (x + y) = tup p x + tup p y + carL p 0 (pairs p x y) := by
  have h1 := carries hp x y 0 (by omega)
  rw [Nat.add_zero, Nat.add_zero] at h1
  have h2 := legendre hp (x + y)
  have h3 := legendre hp x
  have h4 := legendre hp y
  refine Nat.eq_of_mul_eq_mul_left (show 0 < p - 1 by omega) ?_
  rw [Nat.mul_add, Nat.mul_add]
  omega
def cars (p n k : Nat) : Nat := carL p 0 (pairs p k (n - k))
theorem tup_cars {p : Nat} (hp : 2 ≤ p) {n k : Nat} (hk : k ≤ n) : tup p n = tup p k + tup p (n - k) + cars p n k := by
  have := tup_carries hp k (n - k)
  rw [show k + (n - k) = n by omega] at this
  exact this
theorem cars_zero {p : Nat} (hp : 2 ≤ p) {n k : Nat} (hk : k ≤ n) : cars p n k = 0 ↔ und p k n = true := by
  have := und_carries hp k (n - k)
  rw [show k + (n - k) = n by omega] at this
  exact this.symm
theorem cars_bin {p : Nat} (h : prm p) {n k : Nat} (hk : k ≤ n) : val p (bin n k) = cars p n k := by
  have h1 := val_bin h n k hk
  have h2 := tup_cars (prm_two h).1 hk
  omega
/-- As many carries as the sum has room for. -/
theorem pow_car {p : Nat} (hp : 2 ≤ p) (x y : Nat) : ∀ c, c ≤ 1 → p ^ carL p c (pairs p x y) ≤ max 1 (x + y + c) := by
  refine div_ind2 hp (p := fun x y => ∀ c, c ≤ 1 → p ^ carL p c (pairs p x y) ≤ max 1 (x + y + c)) ?_ (fun x y hn ih c hc => ?_) x y
  · intro c hc; rw [pairs_zero]; simp only [carL, Nat.pow_zero]; omega
  · rw [pairs_pos hp hn]
    simp only [carL]
    have h1 := one_carry (Nat.mod_lt x (show 0 < p by omega)) (Nat.mod_lt y (show 0 < p by omega)) hc
    have h2 := ih _ h1
    have h3 := (place (x := x) (y := y) (c := c) hp).2
    have h4 := div_mod p (x + y + c)
    generalize (x % p + y % p + c) / p = d at *
    have h5 := two_mul_le (q := (x + y + c) / p) hp
    rcases (show d = 0 ∨ d = 1 by omega) with rfl | rfl
    · rw [Nat.zero_add]; omega
    · rw [Nat.add_comm 1, Nat.pow_succ]
      have h6 := Nat.mul_le_mul_right p h2
      rw [Nat.max_eq_right (Nat.le_add_left 1 _)] at h6
      rw [h3, Nat.mul_comm p] at h4
      omega
theorem pow_cars {p : Nat} (hp : 2 ≤ p) {n k : Nat} (hk : k ≤ n) (hn : 0 < n) : p ^ cars p n k ≤ n := by
  have h := pow_car hp k (n - k) 0 (by omega)
  have e : k + (n - k) + 0 = n := by omega
  rw [e, Nat.max_eq_right hn] at h
  exact h
theorem cars_lt {p : Nat} (hp : 2 ≤ p) {n k : Nat} (hk : k ≤ n) : cars p n k ≤ n := by
  have := tup_cars hp hk
  have := tup_le hp n
  omega

/-- The most often of the first m cells of row n. -/
def mostU (p n : Nat) : Nat → Nat
  | 0 => 0
  | m + 1 => max (mostU p n m) (cars p n m)
theorem mostU_ge (p n : Nat) : ∀ m k, k < m → cars p n k ≤ mostU p n m
  | 0, k, h => by omega
  | m + 1, k, h => by
    simp only [mostU]
    by_cases e : k = m
    · subst e; omega
    · have := mostU_ge p n m k (by omega); omega
theorem mostU_is (p n : Nat) : ∀ m, mostU p n m = 0 ∨ ∃ k, k < m ∧ mostU p n m = cars p n k
  | 0 => .inl rfl
  | m + 1 => by
    simp only [mostU]
    by_cases e : mostU p n m ≤ cars p n m
    · exact .inr ⟨m, by omega, by omega⟩
    · rcases mostU_is p n m with h | ⟨k, h1, h2⟩
      · omega
      · exact .inr ⟨k, by omega, by omega⟩
def most (p n : Nat) : Nat := mostU p n (n + 1)
theorem mostU_le {p : Nat} (hp : 2 ≤ p) (n m : Nat) (hm : m ≤ n + 1) : mostU p n m ≤ n := by
  rcases mostU_is p n m with h | ⟨k, h1, h2⟩
  · omega
  · rw [h2]; exact cars_lt hp (by omega)
theorem pow_most {p : Nat} (hp : 2 ≤ p) {n : Nat} (hn : 0 < n) : p ^ most p n ≤ n := by
  unfold most
  rcases mostU_is p n (n + 1) with h | ⟨k, h1, h2⟩
  · rw [h]; simp; omega
  · rw [h2]; exact pow_cars hp (by omega) hn
theorem val_most {p : Nat} (hp : 2 ≤ p) {n : Nat} (hn : 0 < n) : val p n ≤ most p n := by
  have h1 := mostU_ge p n (n + 1) 1 (by omega)
  obtain ⟨m, rfl⟩ : ∃ m, n = m + 1 := ⟨n - 1, by omega⟩
  have h2 := tup_cars hp (show 1 ≤ m + 1 by omega)
  have h3 := tup_succ hp m
  have h4 : tup p 1 = 0 := by rw [tup_pos hp (by omega), Nat.div_eq_of_lt (by omega), tup_zero]
  rw [show m + 1 - 1 = m by omega, h4] at h2
  unfold most
  omega
/-- For rows that are a power of the prime it is just that. -/
theorem most_power {p : Nat} (hp : 2 ≤ p) {n : Nat} (hn : 0 < n) (hs : strip p n ≤ 1) : p ^ most p n = n := by
  have h1 := strip_val hp n hn
  have h2 := pow_most hp hn
  have h3 := Nat.pow_le_pow_right (show 0 < p by omega) (val_most hp hn)
  have h4 : strip p n = 1 := by omega
  rw [h4, Nat.mul_one] at h1
  omega
theorem und_full {p : Nat} (hp : 2 ≤ p) : ∀ (j n k : Nat), n + 1 = p ^ j → k ≤ n → und p k n = true
  | 0, n, k, h, hk => by
    obtain ⟨rfl, rfl⟩ : n = 0 ∧ k = 0 := by simp at h; omega
    exact und_zero p
  | j + 1, n, k, h, hk => by
    have hpos : 0 < p ^ j := Nat.pow_pos (by omega)
    rw [Nat.pow_succ] at h
    have e : n = (p - 1) + p * (p ^ j - 1) := by
      rw [Nat.mul_comm p, Nat.sub_mul]
      have := Nat.le_mul_of_pos_left p hpos
      omega
    have h1 : n % p = p - 1 := by rw [e, Nat.add_mul_mod_self_left, Nat.mod_eq_of_lt (by omega)]
    have h2 : n / p = p ^ j - 1 := by rw [e, Nat.add_mul_div_left _ _ (by omega), Nat.div_eq_of_lt (by omega), Nat.zero_add]
    have h3 := Nat.mod_lt k (show 0 < p by omega)
    have h4 := Nat.div_le_div_right (c := p) hk
    rw [und_step hp, und_full hp j (n / p) (k / p) (by omega) h4, h1]
    simp; omega
/-- For rows that are one less than a power it is 0. -/
theorem most_none {p : Nat} (hp : 2 ≤ p) {n : Nat} (hs : strip p (n + 1) ≤ 1) : most p n = 0 := by
  have h1 := strip_val hp (n + 1) (by omega)
  have h4 : strip p (n + 1) = 1 := by omega
  rw [h4, Nat.mul_one] at h1
  unfold most
  rcases mostU_is p n (n + 1) with h | ⟨k, h2, h3⟩
  · exact h
  · rw [h3]; exact (cars_zero hp (by omega)).2 (und_full hp _ n k h1.1.symm (by omega))
end Go.Proofs.Ytehmobcfbifocaa
/-
  Plain mathematics of what is left: Lucas by digits, small cells, rows that are multiplied into rows. Nothing of the program.
-/
namespace Go.Proofs.Ytehmobcfbifocaa
open Go.RowKit

/-- Row p leaves its ends alone. -/
theorem row_prime_all : sixth.all (fun p => (List.range (p + 1)).all fun k => bin p k % p == (if k = 0 ∨ k = p then 1 else 0)) = true := by decide +kernel
theorem row_prime {p : Nat} (h : prm p) (k : Nat) : bin p k % p = if k = 0 ∨ k = p then 1 else 0 := by
  by_cases hk : k ≤ p
  · have h1 := List.all_eq_true.1 (List.all_eq_true.1 row_prime_all p (prm_in h)) k (List.mem_range.2 (by omega))
    simpa using h1
  · rw [bin_over p k (by omega), if_neg (by omega)]; exact Nat.zero_mod _
/-- p rows further down. -/
theorem bin_down {p : Nat} (h : prm p) : ∀ (m c : Nat), bin (m + p) c % p = (bin m c + if p ≤ c then bin m (c - p) else 0) % p
  | 0, c => by
    have hp := (prm_two h).1
    rw [Nat.zero_add, row_prime h c]
    by_cases h0 : c = 0
    · subst h0; rw [if_pos (.inl rfl), if_neg (by omega), bin_zero, Nat.mod_eq_of_lt (by omega)]
    · by_cases h1 : c = p
      · subst h1; rw [if_pos (.inr rfl), if_pos (Nat.le_refl _), Nat.sub_self, bin_zero, bin_over 0 c (by omega), Nat.mod_eq_of_lt (by omega)]
      · rw [if_neg (by omega), bin_over 0 c (by omega)]
        by_cases h2 : p ≤ c
        · rw [if_pos h2, bin_over 0 (c - p) (by omega)]; simp
        · rw [if_neg h2]; simp
  | m + 1, 0 => by
    have hp := (prm_two h).1
    rw [bin_zero, bin_zero, if_neg (by omega)]
  | m + 1, c + 1 => by
    have hp := (prm_two h).1
    rw [show m + 1 + p = (m + p) + 1 by omega, bin_succ, Nat.add_mod, bin_down h m c, bin_down h m (c + 1), ← Nat.add_mod, bin_succ m c]
    by_cases h1 : p ≤ c
    · rw [if_pos h1, if_pos (by omega), if_pos (by omega), show c + 1 - p = (c - p) + 1 by omega, bin_succ m (c - p)]
      congr 1 <;> omega
    · rw [if_neg h1]
      by_cases h2 : p = c + 1
      · rw [if_pos (by omega), if_pos (by omega), ← h2, Nat.sub_self, bin_zero, bin_zero]
        congr 1 <;> omega
      · rw [if_neg (by omega), if_neg (by omega)]
        congr 1 <;> omega
/-- Digits tell what is left. -/
theorem lucas {p : Nat} (h : prm p) {a b : Nat} (ha : a < p) (hb : b < p) : ∀ (n k : Nat), bin (p * n + a) (p * k + b) % p = (bin n k * bin a b) % p
  | 0, k => by
    rw [Nat.mul_zero, Nat.zero_add]
    match k with
    | 0 => rw [Nat.mul_zero, Nat.zero_add, bin_zero, Nat.one_mul]
    | k + 1 => rw [bin_over a _ (by rw [Nat.mul_succ]; omega), bin_over 0 (k + 1) (by omega), Nat.zero_mul]
  | n + 1, k => by
    rw [Nat.mul_succ, Nat.add_right_comm, bin_down h]
    match k with
    | 0 =>
      rw [Nat.mul_zero, Nat.zero_add, if_neg (by omega), Nat.add_zero]
      have := lucas h ha hb n 0
      rw [Nat.mul_zero, Nat.zero_add] at this
      rw [this, bin_zero, bin_zero]
    | k + 1 =>
      rw [if_pos (by rw [Nat.mul_succ]; omega), show p * (k + 1) + b - p = p * k + b by rw [Nat.mul_succ]; omega, Nat.add_mod, lucas h ha hb n (k + 1), lucas h ha hb n k, ← Nat.add_mod, bin_succ]
      congr 1
      rw [Nat.add_mul]; omega
theorem lucas_div {p : Nat} (h : prm p) (n k : Nat) : bin n k % p = (bin (n / p) (k / p) * bin (n % p) (k % p)) % p := by
  have hp := (prm_two h).1
  have := lucas h (Nat.mod_lt n (show 0 < p by omega)) (Nat.mod_lt k (show 0 < p by omega)) (n / p) (k / p)
  rwa [div_mod, div_mod] at this
theorem lucas_times {p : Nat} (h : prm p) (n k : Nat) : bin (n * p) (k * p) % p = bin n k % p := by
  have hp := (prm_two h).1
  have := lucas h (show 0 < p by omega) (show 0 < p by omega) n k
  rwa [Nat.add_zero, Nat.add_zero, bin_zero, Nat.mul_one, Nat.mul_comm p, Nat.mul_comm p] at this
/-- Small cells are not divided. -/
theorem small_all : sixth.all (fun p => (List.range p).all fun a => (List.range (a + 1)).all fun b => !(bin a b % p == 0)) = true := by decide +kernel
theorem small_not {p : Nat} (h : prm p) {a b : Nat} (ha : a < p) (hb : b ≤ a) : bin a b % p ≠ 0 := by
  have h1 := List.all_eq_true.1 (List.all_eq_true.1 (List.all_eq_true.1 small_all p (prm_in h)) a (List.mem_range.2 ha)) b (List.mem_range.2 (by omega))
  simpa using h1
/-- A cell is divided just if the place is not under the row. -/
theorem left_zero {p : Nat} (h : prm p) (n k : Nat) : bin n k % p = 0 ↔ und p k n = false := by
  have hp := (prm_two h).1
  refine div_ind2 hp (p := fun n k => bin n k % p = 0 ↔ und p k n = false) ?_ (fun n k _ ih => ?_) n k
  · rw [und_zero, bin_zero, Nat.mod_eq_of_lt (by omega)]; simp
  · rw [lucas_div h, und_step hp, Bool.and_eq_false_iff, decide_eq_false_iff_not, ← ih]
    have hm := Nat.mod_lt n (show 0 < p by omega)
    constructor
    · intro h0
      rcases euclid h _ _ h0 with h1 | h1
      · exact .inr h1
      · left
        intro hle
        exact small_not h hm hle h1
    · rintro (h1 | h1)
      · rw [bin_over (n % p) (k % p) (by omega), Nat.mul_zero, Nat.zero_mod]
      · rw [Nat.mul_mod, h1, Nat.zero_mul, Nat.zero_mod]

/-- A cell made of the one before it. -/
theorem bin_next (n k : Nat) : bin n (k + 1) * (k + 1) + bin n k * k = bin n k * n := by
  have h := absorb n k
  rw [bin_succ, Nat.add_mul, Nat.add_mul, Nat.one_mul, Nat.mul_add, Nat.mul_one, Nat.mul_comm n] at h
  omega
theorem bin_div (n k : Nat) : bin n k * (n - k) / (k + 1) = bin n (k + 1) := by
  have h := bin_next n k
  have h2 : bin n k * (n - k) = bin n (k + 1) * (k + 1) := by rw [Nat.mul_sub]; omega
  rw [h2, Nat.mul_div_cancel _ (by omega)]

/-- The numbers of x and y whose places are together t, multiplied, of the first m places of x. -/
def convU (x y : Nat → Nat) (t : Nat) : Nat → Nat
  | 0 => 0
  | m + 1 => convU x y t m + (if m ≤ t then x m * y (t - m) else 0)
def conv (x y : Nat → Nat) (t : Nat) : Nat := convU x y t (t + 1)
theorem convU_over (x y : Nat → Nat) (t : Nat) : ∀ j, convU x y t (t + 1 + j) = convU x y t (t + 1)
  | 0 => rfl
  | j + 1 => by
    show convU x y t (t + 1 + j) + (if t + 1 + j ≤ t then x (t + 1 + j) * y (t - (t + 1 + j)) else 0) = _
    rw [convU_over x y t j, if_neg (by omega), Nat.add_zero]
theorem convU_short (x y : Nat → Nat) (t : Nat) {n : Nat} (hx : ∀ i, n ≤ i → x i = 0) : ∀ j, convU x y t (n + j) = convU x y t n
  | 0 => rfl
  | j + 1 => by
    show convU x y t (n + j) + (if n + j ≤ t then x (n + j) * y (t - (n + j)) else 0) = _
    rw [convU_short x y t hx j, hx (n + j) (by omega)]; simp
theorem conv_of (x y : Nat → Nat) (t : Nat) {n : Nat} (hx : ∀ i, n ≤ i → x i = 0) : conv x y t = convU x y t n := by
  unfold conv
  by_cases h : t + 1 ≤ n
  · obtain ⟨j, rfl⟩ : ∃ j, n = t + 1 + j := ⟨n - (t + 1), by omega⟩
    rw [convU_over]
  · obtain ⟨j, hj⟩ : ∃ j, t + 1 = n + j := ⟨t + 1 - n, by omega⟩
    rw [hj, convU_short x y t hx]
/-- A sum from the other end. -/
def sumF (f : Nat → Nat) : Nat → Nat
  | 0 => 0
  | m + 1 => sumF f m + f m
theorem sumF_first (f : Nat → Nat) : ∀ m, sumF f (m + 1) = f 0 + sumF (fun i => f (i + 1)) m
  | 0 => by simp [sumF]
  | m + 1 => by
    show sumF f (m + 1) + f (m + 1) = _
    rw [sumF_first f m]
    simp only [sumF]; omega
theorem sumF_congr {f g : Nat → Nat} : ∀ m, (∀ i, i < m → f i = g i) → sumF f m = sumF g m
  | 0, _ => rfl
  | m + 1, h => by simp only [sumF]; rw [sumF_congr m (fun i hi => h i (by omega)), h m (by omega)]
theorem sumF_back : ∀ (m : Nat) (f : Nat → Nat), sumF (fun i => f (m - 1 - i)) m = sumF f m
  | 0, _ => rfl
  | m + 1, f => by
    rw [sumF_first]
    simp only [sumF]
    rw [show m + 1 - 1 - 0 = m by omega, ← sumF_back m f]
    rw [sumF_congr m (fun i hi => by rw [show m + 1 - 1 - (i + 1) = m - 1 - i by omega])]
    omega
theorem convU_sum (x y : Nat → Nat) (t : Nat) : ∀ m, m ≤ t + 1 → convU x y t m = sumF (fun i => x i * y (t - i)) m
  | 0, _ => rfl
  | m + 1, h => by simp only [convU, sumF]; rw [convU_sum x y t m (by omega), if_pos (by omega)]
theorem conv_swap (x y : Nat → Nat) (t : Nat) : conv x y t = conv y x t := by
  unfold conv
  rw [convU_sum x y t _ (Nat.le_refl _), convU_sum y x t _ (Nat.le_refl _), ← sumF_back (t + 1) (fun i => y i * x (t - i))]
  refine sumF_congr _ (fun i hi => ?_)
  show x i * y (t - i) = y (t + 1 - 1 - i) * x (t - (t + 1 - 1 - i))
  rw [show t + 1 - 1 - i = t - i by omega, show t - (t - i) = i by omega, Nat.mul_comm]
/-- Rows are multiplied into rows. -/
theorem convU_bin (a b t : Nat) : ∀ m, convU (bin a) (bin b) t m = vs a b t m
  | 0 => rfl
  | m + 1 => by
    show convU (bin a) (bin b) t m + _ = vs a b t m + vterm a b t m
    rw [convU_bin a b t m]; rfl
theorem conv_bin (a b t : Nat) : conv (bin a) (bin b) t = bin (a + b) t := by
  unfold conv
  rw [convU_bin, heaps]
theorem convU_mod (x y : Nat → Nat) (t q : Nat) : ∀ m, convU (fun i => x i % q) (fun i => y i % q) t m % q = convU x y t m % q
  | 0 => rfl
  | m + 1 => by
    simp only [convU]
    rw [Nat.add_mod, convU_mod x y t q m, Nat.add_mod (convU x y t m)]
    split
    · rw [← Nat.mul_mod]
    · rfl
theorem conv_mod (x y : Nat → Nat) (t q : Nat) : conv (fun i => x i % q) (fun i => y i % q) t % q = conv x y t % q := convU_mod x y t q _
theorem conv_one (x y : Nat → Nat) (h0 : y 0 = 1) (h : ∀ i, 0 < i → y i = 0) (t : Nat) : conv x y t = x t := by
  rw [conv_swap, conv_of y x t (n := 1) (fun i hi => h i (by omega))]
  simp [convU, h0]
theorem convU_le {x y : Nat → Nat} {q : Nat} (hx : ∀ i, x i ≤ q) (hy : ∀ i, y i ≤ q) (t : Nat) : ∀ m, convU x y t m ≤ m * (q * q)
  | 0 => by simp [convU]
  | m + 1 => by
    have h1 := convU_le hx hy t m
    have h2 := Nat.mul_le_mul (hx m) (hy (t - m))
    simp only [convU]
    rw [Nat.add_mul, Nat.one_mul]
    split <;> omega
end Go.Proofs.Ytehmobcfbifocaa
/-
  Plain mathematics of what is left: small cells multiplied digit by digit; rows of what is left; rows multiplied number by number. Nothing of the program.
-/
namespace Go.Proofs.Ytehmobcfbifocaa
open Go.RowKit

/-- The cells of all pairs of digits, multiplied. -/
def prodL : List (Nat × Nat) → Nat
  | [] => 1
  | x :: l => bin x.1 x.2 * prodL l
theorem prodL_snoc : ∀ (p : List (Nat × Nat)) (x : Nat × Nat), prodL (p ++ [x]) = prodL p * bin x.1 x.2
  | [], x => by simp [prodL]
  | y :: p, x => by simp only [List.cons_append, prodL]; rw [prodL_snoc p x, Nat.mul_assoc]
theorem prodL_left {p : Nat} (h : prm p) (n k : Nat) : prodL (pairs p n k) % p = bin n k % p := by
  have hp := (prm_two h).1
  refine div_ind2 hp (p := fun n k => prodL (pairs p n k) % p = bin n k % p) ?_ (fun n k hnk ih => ?_) n k
  · rw [pairs_zero]; rfl
  · rw [pairs_pos hp hnk, lucas_div h]
    simp only [prodL]
    rw [Nat.mul_comm, Nat.mul_mod, ih, ← Nat.mul_mod]
theorem prodL_step {p : Nat} (pre : List (Nat × Nat)) (x : Nat × Nat) : prodL pre % p * (bin x.1 x.2 % p) % p = prodL (pre ++ [x]) % p := by
  rw [prodL_snoc, ← Nat.mul_mod]

/-- What is left of a row's first cells, and of the whole row. -/
def leftN (q n k : Nat) : Nat := bin n k % q
def rowLP (q n k : Nat) : List Int := (List.range k).map fun i => (leftN q n i : Int)
def rowLN (q n : Nat) : List Int := rowLP q n (n + 1)
/-- The row before row j: nothing before row 0. -/
def outL (q : Nat) : Nat → List Int
  | 0 => []
  | j + 1 => rowLN q j
theorem leftN_lt {q : Nat} (hq : 2 ≤ q) (n k : Nat) : leftN q n k < q := Nat.mod_lt _ (by omega)
theorem leftN_zero {q : Nat} (hq : 2 ≤ q) (n : Nat) : leftN q n 0 = 1 := by unfold leftN; rw [bin_zero, Nat.mod_eq_of_lt (by omega)]
theorem leftN_self {q : Nat} (hq : 2 ≤ q) (n : Nat) : leftN q n n = 1 := by unfold leftN; rw [bin_self, Nat.mod_eq_of_lt (by omega)]
theorem leftN_over (q n k : Nat) (h : n < k) : leftN q n k = 0 := by unfold leftN; rw [bin_over n k h, Nat.zero_mod]
theorem leftN_sum (q j k : Nat) (hk : 0 < k) (hj : k < j) : (leftN q (j - 1) (k - 1) + leftN q (j - 1) k) % q = leftN q j k := by
  unfold leftN; rw [← Nat.add_mod, bin_sum j k hk hj]
theorem rowLP_len (q n k : Nat) : (rowLP q n k).length = k := by simp [rowLP]
theorem rowLN_len (q n : Nat) : (rowLN q n).length = n + 1 := rowLP_len _ _ _
theorem outL_len (q j : Nat) : (outL q j).length = j := by cases j <;> simp [outL, rowLN_len]
theorem rowLP_snoc (q n k : Nat) : rowLP q n (k + 1) = rowLP q n k ++ [(leftN q n k : Int)] := by simp [rowLP, List.range_succ]
theorem rowLP_one {q : Nat} (hq : 2 ≤ q) (n : Nat) : rowLP q n 1 = [1] := by simp [rowLP, leftN_zero hq]
theorem rowLP_last {q : Nat} (hq : 2 ≤ q) (n : Nat) : rowLP q n n ++ [1] = rowLN q n := by unfold rowLN; rw [rowLP_snoc, leftN_self hq]; rfl
theorem rowLP_get (q n k i : Nat) (h : i < k) : (rowLP q n k)[i]? = some (leftN q n i : Int) := by
  simp [rowLP, h]
theorem rowLP_getD (q n k i : Nat) (h : i < k) : (rowLP q n k).getD i 0 = (leftN q n i : Int) := by
  rw [List.getD, rowLP_get q n k i h]; rfl
theorem outL_get (q j k : Nat) (h : k < j) : (outL q j)[k]? = some (leftN q (j - 1) k : Int) := by
  cases j with
  | zero => omega
  | succ j => exact rowLP_get q j (j + 1) k h
/-- Adding to each cell of row j the one before it, of which what is left is kept: row j + 1; the last cell was 0. -/
theorem left_turn (q j i n : Nat) (hi : i < n) : (if 0 < i ∧ i < n then leftN q j i + leftN q j (i - 1) else leftN q j i) % q = leftN q (j + 1) i := by
  unfold leftN
  cases i with
  | zero => rw [if_neg (by omega), bin_zero, bin_zero, Nat.mod_mod]
  | succ i => rw [if_pos ⟨by omega, hi⟩, ← Nat.add_mod, bin_succ, show i + 1 - 1 = i by omega, Nat.add_comm]

/-- Rows of a power of a prime leave their ends. -/
theorem strip_ends {p : Nat} (h : prm p) : ∀ (n k : Nat), 0 < k → k < n → strip p n = 1 → bin n k % p = 0 := by
  have hp := (prm_two h).1
  intro n
  induction n using Nat.strongRecOn with
  | _ n ih =>
    intro k hk hkn hs
    by_cases hz : n % p = 0
    · rw [strip_yes hp (by omega) hz] at hs
      rw [lucas_div h, hz]
      by_cases hk0 : k % p = 0
      · have h1 := div_pos_of_mod hk hk0
        have h2 := div_mod p n
        have h3 := div_mod p k
        have h4 : k / p < n / p := by
          rw [hz] at h2
          rw [hk0] at h3
          exact Nat.lt_of_mul_lt_mul_left (a := p) (by omega)
        have := ih (n / p) (Nat.div_lt_self (by omega) hp) (k / p) h1 h4 hs
        rw [Nat.mul_mod, this, Nat.zero_mul, Nat.zero_mod]
      · rw [bin_over 0 (k % p) (by omega), Nat.mul_zero, Nat.zero_mod]
    · rw [strip_no hz] at hs; omega

/-- The sums when the first k numbers of x have been multiplied with all of y, and number k with the first j. -/
def convI (x y : Nat → Nat) (k j t : Nat) : Nat := convU x y t k + (if k ≤ t ∧ t < k + j then x k * y (t - k) else 0)
theorem convI_zero (x y : Nat → Nat) (k t : Nat) : convI x y k 0 t = convU x y t k := by unfold convI; rw [if_neg (by omega), Nat.add_zero]
theorem convI_at (x y : Nat → Nat) (k j : Nat) : convI x y k (j + 1) (k + j) = convI x y k j (k + j) + x k * y j := by
  unfold convI; rw [if_pos (by omega), if_neg (by omega), show k + j - k = j by omega]; rfl
theorem convI_other (x y : Nat → Nat) (k j t : Nat) (h : t ≠ k + j) : convI x y k (j + 1) t = convI x y k j t := by
  unfold convI
  by_cases e : k ≤ t ∧ t < k + j
  · rw [if_pos e, if_pos (by omega)]
  · rw [if_neg e, if_neg (by omega)]
theorem convI_full {x y : Nat → Nat} {m : Nat} (hy : ∀ i, m ≤ i → y i = 0) (k t : Nat) : convI x y k m t = convI x y (k + 1) 0 t := by
  rw [convI_zero]
  unfold convI
  show _ = convU x y t k + (if k ≤ t then x k * y (t - k) else 0)
  by_cases e : k ≤ t
  · rw [if_pos e]
    by_cases e2 : t < k + m
    · rw [if_pos ⟨e, e2⟩]
    · rw [if_neg (by omega), hy _ (by omega), Nat.mul_zero]
  · rw [if_neg (by omega), if_neg e]
theorem convI_le {x y : Nat → Nat} {q : Nat} (hx : ∀ i, x i ≤ q) (hy : ∀ i, y i ≤ q) (k j t : Nat) : convI x y k j t ≤ (k + 1) * (q * q) := by
  have h1 := convU_le hx hy t k
  have h2 := Nat.mul_le_mul (hx k) (hy (t - k))
  unfold convI
  rw [Nat.add_mul, Nat.one_mul]
  split <;> omega
theorem convI_start (x y : Nat → Nat) (t : Nat) : convI x y 0 0 t = 0 := by rw [convI_zero]; rfl
theorem convI_end {x y : Nat → Nat} {n : Nat} (hx : ∀ i, n ≤ i → x i = 0) (t : Nat) : convI x y n 0 t = conv x y t := by rw [convI_zero, conv_of x y t hx]
end Go.Proofs.Ytehmobcfbifocaa
