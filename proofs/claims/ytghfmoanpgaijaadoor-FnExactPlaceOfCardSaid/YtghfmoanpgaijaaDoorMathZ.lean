/-
  Plain mathematics of the triangle: cells 'bin n k' by sums of the two above, rows, sums of slopes, heaps and turns. Nothing of the program.
-/
import Derived.WalkKit
import Derived.Laws.Concat
import Derived.Laws.Strings2
namespace Go.Proofs.YtghfmoanpgaijaaDoor
open Go.RowKit

/-- A fact kept out of the walk's sight. -/
theorem hide {p : Prop} (h : p) : Hid p := h

/-- The cell of row n at place k: the sum of the two above. -/
def bin : Nat → Nat → Nat
  | _, 0 => 1
  | 0, _ + 1 => 0
  | n + 1, k + 1 => bin n k + bin n (k + 1)

theorem bin_zero (n : Nat) : bin n 0 = 1 := by cases n <;> rfl
theorem bin_succ (n k : Nat) : bin (n + 1) (k + 1) = bin n k + bin n (k + 1) := rfl
theorem bin_over : ∀ (n k : Nat), n < k → bin n k = 0
  | 0, k + 1, _ => rfl
  | n + 1, k + 1, h => by rw [bin_succ, bin_over n k (by omega), bin_over n (k + 1) (by omega)]
theorem bin_self : ∀ n : Nat, bin n n = 1
  | 0 => rfl
  | n + 1 => by rw [bin_succ, bin_self n, bin_over n (n + 1) (by omega)]
theorem bin_le : ∀ (n k : Nat), bin n k ≤ 2 ^ n
  | n, 0 => by rw [bin_zero]; exact Nat.one_le_two_pow
  | 0, k + 1 => by simp [bin]
  | n + 1, k + 1 => by rw [bin_succ]; have h1 := bin_le n k; have h2 := bin_le n (k + 1); rw [Nat.pow_succ]; omega
theorem bin_small (n k : Nat) (h : n ≤ 61) : bin n k ≤ 2305843009213693952 :=
  Nat.le_trans (bin_le n k) (Nat.le_trans (Nat.pow_le_pow_right (by omega) h) (by decide))

/-- The row n of the triangle. -/
def rowN (n : Nat) : List Int := (List.range (n + 1)).map fun k => (bin n k : Int)
/-- The first k cells of row n. -/
def rowP (n k : Nat) : List Int := (List.range k).map fun i => (bin n i : Int)
/-- What lies in the variable 'out' when j rows have been made. -/
def outSt : Nat → List Int
  | 0 => []
  | j + 1 => rowN j

theorem rowN_len (n : Nat) : (rowN n).length = n + 1 := by simp [rowN]
theorem rowP_len (n k : Nat) : (rowP n k).length = k := by simp [rowP]
theorem outSt_len (j : Nat) : (outSt j).length = j := by cases j <;> simp [outSt, rowN]
theorem rowP_snoc (n k : Nat) : rowP n (k + 1) = rowP n k ++ [(bin n k : Int)] := by simp [rowP, List.range_succ]
theorem rowP_full (n : Nat) : rowP n (n + 1) = rowN n := rfl
theorem rowP_one (n : Nat) : rowP n 1 = [1] := by simp [rowP, bin_zero]
theorem rowP_last (n : Nat) : rowP n n ++ [1] = rowN n := by rw [← rowP_full, rowP_snoc, bin_self]; rfl
theorem outSt_get (j k : Nat) (h : k < j) : (outSt j)[k]? = some (bin (j - 1) k : Int) := by
  cases j with
  | zero => omega
  | succ j => simp only [outSt, rowN]; rw [List.getElem?_map, List.getElem?_range (by omega)]; rfl
theorem bin_sum (j k : Nat) (hk : 0 < k) (hj : k < j) : bin (j - 1) (k - 1) + bin (j - 1) k = bin j k := by
  cases j with
  | zero => omega
  | succ j => cases k with
    | zero => omega
    | succ k => rw [bin_succ]; rfl

/-- One way for the rest: so many things of the first heap, the others of the second one. -/
def vterm (a b c k : Nat) : Nat := if k ≤ c then bin a k * bin b (c - k) else 0
/-- The first n of these, added. -/
def vs (a b c : Nat) : Nat → Nat
  | 0 => 0
  | n + 1 => vs a b c n + vterm a b c n
theorem vs_stable (a b c m : Nat) (h : ∀ k, m ≤ k → vterm a b c k = 0) : ∀ n, m ≤ n → vs a b c n = vs a b c m
  | 0, hn => by obtain rfl : m = 0 := by omega
                rfl
  | n + 1, hn => by
    by_cases e : m = n + 1
    · rw [e]
    · show vs a b c n + vterm a b c n = _
      rw [vs_stable a b c m h n (by omega), h n (by omega)]; rfl
theorem vterm_over (a b c k : Nat) (h : a < k ∨ c < k) : vterm a b c k = 0 := by
  unfold vterm
  split
  · rcases h with h | h
    · rw [bin_over a k h, Nat.zero_mul]
    · omega
  · rfl
theorem vs_same (a b c : Nat) : vs a b c (a + 1) = vs a b c (c + 1) := by
  rcases Nat.le_total a c with h | h
  · exact (vs_stable a b c (a + 1) (fun k hk => vterm_over _ _ _ _ (.inl (by omega))) (c + 1) (by omega)).symm
  · exact vs_stable a b c (c + 1) (fun k hk => vterm_over _ _ _ _ (.inr (by omega))) (a + 1) (by omega)
theorem vs_step (a b c : Nat) : ∀ n, vs (a + 1) b (c + 1) (n + 1) = vs a b (c + 1) (n + 1) + vs a b c n
  | 0 => by simp [vs, vterm, bin_zero]
  | n + 1 => by
    show vs (a + 1) b (c + 1) (n + 1) + vterm (a + 1) b (c + 1) (n + 1) = vs a b (c + 1) (n + 1) + vterm a b (c + 1) (n + 1) + (vs a b c n + vterm a b c n)
    rw [vs_step a b c n]
    have : vterm (a + 1) b (c + 1) (n + 1) = vterm a b (c + 1) (n + 1) + vterm a b c n := by
      unfold vterm
      by_cases h : n ≤ c
      · rw [if_pos (by omega), if_pos (by omega), if_pos h, bin_succ, show c + 1 - (n + 1) = c - n by omega, Nat.add_mul]; omega
      · rw [if_neg (by omega), if_neg (by omega), if_neg h]
    omega
/-- Two heaps are one. -/
theorem heaps : ∀ (a b c : Nat), vs a b c (c + 1) = bin (a + b) c
  | 0, b, c => by
    rw [vs_stable 0 b c 1 (fun k hk => vterm_over _ _ _ _ (.inl (by omega))) (c + 1) (by omega)]
    simp [vs, vterm, bin_zero]
  | a + 1, b, 0 => by simp [vs, vterm, bin_zero]
  | a + 1, b, c + 1 => by
    rw [vs_step, heaps a b (c + 1), heaps a b c, show a + 1 + b = (a + b) + 1 by omega, bin_succ]; omega
theorem vs_mono (a b c : Nat) : ∀ m n, m ≤ n → vs a b c m ≤ vs a b c n
  | m, 0, h => by obtain rfl : m = 0 := by omega
                  exact Nat.le_refl _
  | m, n + 1, h => by
    by_cases e : m = n + 1
    · rw [e]; exact Nat.le_refl _
    · exact Nat.le_trans (vs_mono a b c m n (by omega)) (Nat.le_add_right _ _)
theorem vs_le (a b c n : Nat) : vs a b c n ≤ bin (a + b) c := by
  rcases Nat.le_total n (c + 1) with h | h
  · rw [← heaps]; exact vs_mono _ _ _ _ _ h
  · rw [vs_stable a b c (c + 1) (fun k hk => vterm_over _ _ _ _ (.inr (by omega))) n h, heaps]; exact Nat.le_refl _
theorem vs_small (a b c n : Nat) (ha : a ≤ 30) (hb : b ≤ 30) : vs a b c n ≤ 2305843009213693952 := Nat.le_trans (vs_le a b c n) (bin_small _ _ (by omega))
theorem prod_small (a b k m : Nat) (ha : a ≤ 30) (hb : b ≤ 30) : bin a k * bin b m ≤ 1152921504606846976 := by
  have h1 : bin a k ≤ 2 ^ 30 := Nat.le_trans (bin_le a k) (Nat.pow_le_pow_right (by omega) ha)
  have h2 : bin b m ≤ 2 ^ 30 := Nat.le_trans (bin_le b m) (Nat.pow_le_pow_right (by omega) hb)
  exact Nat.le_trans (Nat.mul_le_mul h1 h2) (by decide)

/-- The sign of a place. -/
def sg (k : Nat) : Int := if k % 2 = 0 then 1 else -1
theorem sg_succ (k : Nat) : sg (k + 1) = - sg k := by unfold sg; split <;> split <;> omega
theorem sg_even {k : Nat} (h : k % 2 = 0) : sg k = 1 := if_pos h
theorem sg_odd {k : Nat} (h : ¬ k % 2 = 0) : sg k = -1 := if_neg h
/-- The first k cells of row r with signs that take turns, added. -/
def ts (r : Nat) : Nat → Int
  | 0 => 0
  | k + 1 => ts r k + sg k * bin r k
theorem ts_succ (r : Nat) : ∀ k, ts (r + 1) (k + 1) = sg k * bin r k
  | 0 => by simp [ts, bin_zero]
  | k + 1 => by
    show ts (r + 1) (k + 1) + sg (k + 1) * bin (r + 1) (k + 1) = _
    rw [ts_succ r k, bin_succ, sg_succ]
    rw [Int.natCast_add, Int.mul_add, Int.neg_mul, Int.neg_mul]; omega
theorem ts_zero : ∀ k, ts 0 (k + 1) = 1
  | 0 => by simp [ts, sg, bin_zero]
  | k + 1 => by
    show ts 0 (k + 1) + sg (k + 1) * bin 0 (k + 1) = _
    rw [ts_zero k, bin_over 0 (k + 1) (by omega)]; simp
theorem ts_small (r k : Nat) (h : r ≤ 60) : -2305843009213693952 ≤ ts r k ∧ ts r k ≤ 2305843009213693952 := by
  cases k with
  | zero => simp [ts]
  | succ k => cases r with
    | zero => rw [ts_zero]; omega
    | succ r =>
      rw [ts_succ]
      have := bin_small r k (by omega)
      unfold sg
      split <;> omega

/-- A cell times its place is the row times the cell before in the row before. -/
theorem absorb : ∀ (n k : Nat), bin (n + 1) (k + 1) * (k + 1) = (n + 1) * bin n k
  | 0, 0 => rfl
  | 0, k + 1 => by rw [bin_over (0 + 1) (k + 1 + 1) (by omega), bin_over 0 (k + 1) (by omega)]; simp
  | m + 1, 0 => by
    have h := absorb m 0
    rw [bin_zero] at *
    rw [bin_succ, bin_zero]; omega
  | m + 1, j + 1 => by
    have h1 := absorb m (j + 1)
    have h2 := absorb m j
    rw [bin_succ (m + 1) (j + 1), Nat.add_mul, h1]
    have h3 : bin (m + 1) (j + 1) * (j + 1 + 1) = bin (m + 1) (j + 1) * (j + 1) + bin (m + 1) (j + 1) := by rw [Nat.mul_add, Nat.mul_one]
    rw [h3, h2]
    have h4 : (m + 1 + 1) * bin (m + 1) (j + 1) = (m + 1) * bin (m + 1) (j + 1) + bin (m + 1) (j + 1) := by rw [Nat.add_mul, Nat.one_mul]
    have h5 : (m + 1) * bin (m + 1) (j + 1) = (m + 1) * bin m j + (m + 1) * bin m (j + 1) := by rw [bin_succ m j, Nat.mul_add]
    omega
/-- Rows look the same from both ends. -/
theorem bin_ends : ∀ (n a b : Nat), a + b = n → bin n a = bin n b
  | 0, a, b, h => by obtain rfl : a = 0 := by omega
                     obtain rfl : b = 0 := by omega
                     rfl
  | n + 1, 0, b, h => by obtain rfl : b = n + 1 := by omega
                         rw [bin_zero, bin_self]
  | n + 1, a + 1, 0, h => by obtain rfl : a = n := by omega
                             rw [bin_zero, bin_self]
  | n + 1, a + 1, b + 1, h => by
    rw [bin_succ, bin_succ, bin_ends n a (b + 1) (by omega), bin_ends n (a + 1) b (by omega)]; omega
/-- The first k cells of row n together. -/
def psum (n : Nat) : Nat → Nat
  | 0 => 0
  | k + 1 => psum n k + bin n k
theorem psum_step (n : Nat) : ∀ k, psum (n + 1) (k + 1) = psum n (k + 1) + psum n k
  | 0 => by simp [psum, bin_zero]
  | k + 1 => by
    show psum (n + 1) (k + 1) + bin (n + 1) (k + 1) = psum n (k + 1) + bin n (k + 1) + (psum n k + bin n k)
    rw [psum_step n k, bin_succ]; omega
theorem psum_row : ∀ n, psum n (n + 1) = 2 ^ n
  | 0 => rfl
  | n + 1 => by
    rw [psum_step, show psum n (n + 1 + 1) = psum n (n + 1) + bin n (n + 1) from rfl, bin_over n (n + 1) (by omega), psum_row n, Nat.pow_succ]; omega
theorem psum_mono (n : Nat) : ∀ j k, j ≤ k → psum n j ≤ psum n k
  | j, 0, h => by obtain rfl : j = 0 := by omega
                  exact Nat.le_refl _
  | j, k + 1, h => by
    by_cases e : j = k + 1
    · rw [e]; exact Nat.le_refl _
    · exact Nat.le_trans (psum_mono n j k (by omega)) (Nat.le_add_right _ _)
theorem psum_small (n k : Nat) (h : n ≤ 60) (hk : k ≤ n + 1) : psum n k ≤ 1152921504606846976 :=
  Nat.le_trans (psum_mono n k (n + 1) hk) (by rw [psum_row]; exact Nat.le_trans (Nat.pow_le_pow_right (by omega) h) (by decide))
end Go.Proofs.YtghfmoanpgaijaaDoor
/-
  The values of the functions of chapter 1 at every argument.
-/
namespace Go.Proofs.YtghfmoanpgaijaaDoor
open Go.RowKit

def cellV (row place : Int) : Int := if row < 0 ∨ 60 < row ∨ place < 0 then -1 else (bin row.toNat place.toNat : Int)
theorem cellV_bad {row place : Int} (h : row < 0 ∨ 60 < row ∨ place < 0) : cellV row place = -1 := by unfold cellV; rw [if_pos h]
theorem cellV_nat {r k : Nat} (h : r ≤ 60) : cellV r k = bin r k := by unfold cellV; rw [if_neg (by omega)]; simp

theorem ret_int {k : IntKind} {a b : Int} (h : a = b) : Ending.returned (.int k a) = .returned (.int k b) := by rw [h]
end Go.Proofs.YtghfmoanpgaijaaDoor
/-
  Plain mathematics of digits: the digits of a number from the lowest one on, their sum, their product one more each, carries, what is under a number and how many. Nothing of the program.
-/
namespace Go.Proofs.YtghfmoanpgaijaaDoor
open Go.RowKit

/-- The digits of n in base b, from the lowest one on. -/
def digs (b n : Nat) : List Nat := if _h : 2 ≤ b ∧ 0 < n then n % b :: digs b (n / b) else []
termination_by n
decreasing_by exact Nat.div_lt_self _h.2 _h.1
/-- The digits of x and y side by side. -/
def pairs (b x y : Nat) : List (Nat × Nat) := if _h : 2 ≤ b ∧ 0 < x + y then (x % b, y % b) :: pairs b (x / b) (y / b) else []
termination_by x + y
decreasing_by
  rcases Nat.eq_zero_or_pos x with hx | hx
  · subst hx; have := Nat.div_lt_self (n := y) (k := b) (by omega) _h.1; simp; omega
  · have h1 := Nat.div_lt_self (n := x) (k := b) hx _h.1; have h2 := Nat.div_le_self y b; omega

theorem digs_zero (b : Nat) : digs b 0 = [] := by rw [digs, dif_neg (by omega)]
theorem digs_pos {b n : Nat} (hb : 2 ≤ b) (hn : 0 < n) : digs b n = n % b :: digs b (n / b) := by rw [digs, dif_pos ⟨hb, hn⟩]
theorem pairs_zero (b : Nat) : pairs b 0 0 = [] := by rw [pairs, dif_neg (by omega)]
theorem pairs_pos {b x y : Nat} (hb : 2 ≤ b) (hn : 0 < x + y) : pairs b x y = (x % b, y % b) :: pairs b (x / b) (y / b) := by rw [pairs, dif_pos ⟨hb, hn⟩]

/-- Numbers added; numbers, one more each, multiplied. -/
def sumL : List Nat → Nat
  | [] => 0
  | x :: r => x + sumL r
def mulL : List Nat → Nat
  | [] => 1
  | x :: r => (x + 1) * mulL r
theorem sumL_app : ∀ (p q : List Nat), sumL (p ++ q) = sumL p + sumL q
  | [], q => by simp [sumL]
  | x :: p, q => by simp [sumL, sumL_app p q]; omega
theorem mulL_app : ∀ (p q : List Nat), mulL (p ++ q) = mulL p * mulL q
  | [], q => by simp [mulL]
  | x :: p, q => by simp [mulL, mulL_app p q, Nat.mul_assoc]
theorem sumL_snoc (p : List Nat) (x : Nat) : sumL (p ++ [x]) = sumL p + x := by rw [sumL_app]; simp [sumL]
theorem mulL_snoc (p : List Nat) (x : Nat) : mulL (p ++ [x]) = mulL p * (x + 1) := by rw [mulL_app]; simp [mulL]
theorem mulL_pos : ∀ p : List Nat, 1 ≤ mulL p
  | [] => Nat.le_refl _
  | x :: p => by have := mulL_pos p; simp only [mulL]; exact Nat.le_trans this (Nat.le_mul_of_pos_left _ (by omega))

/-- Strong induction on a number that is divided. -/
theorem div_ind {b : Nat} (hb : 2 ≤ b) {p : Nat → Prop} (h0 : p 0) (h1 : ∀ n, 0 < n → p (n / b) → p n) (n : Nat) : p n := by
  induction n using Nat.strongRecOn with
  | ind n ih =>
    rcases Nat.eq_zero_or_pos n with h | h
    · subst h; exact h0
    · exact h1 n h (ih _ (Nat.div_lt_self h hb))
theorem div_ind2 {b : Nat} (hb : 2 ≤ b) {p : Nat → Nat → Prop} (h0 : p 0 0) (h1 : ∀ x y, 0 < x + y → p (x / b) (y / b) → p x y) (x y : Nat) : p x y := by
  obtain ⟨s, hs⟩ : ∃ s, s = x + y := ⟨_, rfl⟩
  induction s using Nat.strongRecOn generalizing x y with
  | ind s ih =>
    rcases Nat.eq_zero_or_pos (x + y) with h | h
    · obtain ⟨rfl, rfl⟩ : x = 0 ∧ y = 0 := by omega
      exact h0
    · refine h1 x y h (ih (x / b + y / b) ?_ _ _ rfl)
      have e1 := Nat.div_le_self x b
      have e2 := Nat.div_le_self y b
      rcases Nat.eq_zero_or_pos x with hx | hx
      · have := Nat.div_lt_self (n := y) (k := b) (by omega) hb; omega
      · have := Nat.div_lt_self (n := x) (k := b) hx hb; omega

theorem div_mod (b n : Nat) : b * (n / b) + n % b = n := Nat.div_add_mod n b
theorem two_mul_le {b q : Nat} (hb : 2 ≤ b) : 2 * q ≤ b * q := Nat.mul_le_mul_right q hb

theorem digs_lt {b : Nat} (hb : 2 ≤ b) (n : Nat) : ∀ d ∈ digs b n, d < b := by
  refine div_ind hb (p := fun n => ∀ d ∈ digs b n, d < b) (by rw [digs_zero]; simp) (fun n hn ih => ?_) n
  rw [digs_pos hb hn]
  intro d hd
  rcases List.mem_cons.1 hd with rfl | h
  · exact Nat.mod_lt _ (by omega)
  · exact ih d h
theorem sum_le {b : Nat} (hb : 2 ≤ b) (n : Nat) : sumL (digs b n) ≤ n := by
  refine div_ind hb (p := fun n => sumL (digs b n) ≤ n) (by rw [digs_zero]; exact Nat.le_refl _) (fun n hn ih => ?_) n
  rw [digs_pos hb hn]
  have := div_mod b n
  have := two_mul_le (q := n / b) hb
  simp only [sumL]; omega
theorem mul_le {b : Nat} (hb : 2 ≤ b) (n : Nat) : mulL (digs b n) ≤ n + 1 := by
  refine div_ind hb (p := fun n => mulL (digs b n) ≤ n + 1) (by rw [digs_zero]; exact Nat.le_refl _) (fun n hn ih => ?_) n
  rw [digs_pos hb hn]
  have h1 := div_mod b n
  have h2 : n % b + 1 ≤ b := Nat.mod_lt _ (by omega)
  have h3 := Nat.mul_le_mul_left (n % b + 1) ih
  have h4 := Nat.mul_le_mul_right (n / b) h2
  simp only [mulL]
  rw [Nat.mul_add, Nat.mul_one] at h3
  omega
theorem mul_two {b n : Nat} (hb : 2 ≤ b) (hn : 0 < n) : 2 ≤ mulL (digs b n) := by
  refine div_ind hb (p := fun n => 0 < n → 2 ≤ mulL (digs b n)) (fun h => by omega) (fun n hn ih _ => ?_) n hn
  rw [digs_pos hb hn]
  simp only [mulL]
  have hp := mulL_pos (digs b (n / b))
  rcases Nat.eq_zero_or_pos (n / b) with h | h
  · have := div_mod b n
    rw [h] at this
    exact Nat.le_trans (show 2 ≤ n % b + 1 by omega) (Nat.le_mul_of_pos_right _ hp)
  · exact Nat.le_trans (ih h) (Nat.le_mul_of_pos_left _ (by omega))
theorem len_le {b : Nat} (hb : 2 ≤ b) (n : Nat) : (digs b n).length ≤ n := by
  refine div_ind hb (p := fun n => (digs b n).length ≤ n) (by rw [digs_zero]; exact Nat.le_refl _) (fun n hn ih => ?_) n
  rw [digs_pos hb hn]
  have := Nat.div_lt_self hn hb
  simp only [List.length_cons]; omega
theorem pairs_len {b : Nat} (hb : 2 ≤ b) (x y : Nat) : (pairs b x y).length ≤ x + y := by
  refine div_ind2 hb (p := fun x y => (pairs b x y).length ≤ x + y) (by rw [pairs_zero]; exact Nat.le_refl _) (fun x y hn ih => ?_) x y
  rw [pairs_pos hb hn]
  have e1 := Nat.div_le_self x b
  have e2 := Nat.div_le_self y b
  simp only [List.length_cons]
  rcases Nat.eq_zero_or_pos x with hx | hx
  · have := Nat.div_lt_self (n := y) (k := b) (by omega) hb; omega
  · have := Nat.div_lt_self (n := x) (k := b) hx hb; omega

/-- Digits leave what the number leaves, by the base less 1. -/
theorem sum_mod {b : Nat} (hb : 2 ≤ b) (n : Nat) : ∃ q, n = sumL (digs b n) + (b - 1) * q := by
  refine div_ind hb (p := fun n => ∃ q, n = sumL (digs b n) + (b - 1) * q) ⟨0, by rw [digs_zero]; rfl⟩ (fun n hn ih => ?_) n
  obtain ⟨q, hq⟩ := ih
  refine ⟨n / b + q, ?_⟩
  rw [digs_pos hb hn]
  simp only [sumL]
  have h1 := div_mod b n
  obtain ⟨c, rfl⟩ : ∃ c, b = c + 1 := ⟨b - 1, by omega⟩
  rw [Nat.add_sub_cancel] at *
  rw [Nat.mul_add]
  rw [Nat.add_mul, Nat.one_mul] at h1
  omega
theorem sum_mod_eq {b : Nat} (hb : 2 ≤ b) (n : Nat) : sumL (digs b n) % (b - 1) = n % (b - 1) := by
  obtain ⟨q, hq⟩ := sum_mod hb n
  conv => rhs; rw [hq]
  rw [Nat.add_mul_mod_self_left]
theorem sum_times {b : Nat} (hb : 2 ≤ b) (n : Nat) : sumL (digs b (n * b)) = sumL (digs b n) := by
  rcases Nat.eq_zero_or_pos n with h | h
  · subst h; rw [Nat.zero_mul]
  · rw [digs_pos hb (Nat.mul_pos h (by omega)), Nat.mul_mod_left, Nat.mul_div_cancel _ (by omega)]; simp [sumL]

/-- Carries: how many, and which one goes on. -/
def carL (b : Nat) : Nat → List (Nat × Nat) → Nat
  | _, [] => 0
  | c, p :: r => (p.1 + p.2 + c) / b + carL b ((p.1 + p.2 + c) / b) r
def goesOn (b : Nat) : Nat → List (Nat × Nat) → Nat
  | c, [] => c
  | c, p :: r => goesOn b ((p.1 + p.2 + c) / b) r
theorem goesOn_snoc (b : Nat) : ∀ (c : Nat) (p : List (Nat × Nat)) (x : Nat × Nat), goesOn b c (p ++ [x]) = (x.1 + x.2 + goesOn b c p) / b
  | c, [], x => rfl
  | c, y :: p, x => by simp only [List.cons_append, goesOn]; exact goesOn_snoc b _ p x
theorem carL_snoc (b : Nat) : ∀ (c : Nat) (p : List (Nat × Nat)) (x : Nat × Nat), carL b c (p ++ [x]) = carL b c p + (x.1 + x.2 + goesOn b c p) / b
  | c, [], x => by simp [carL, goesOn]
  | c, y :: p, x => by simp only [List.cons_append, carL, goesOn]; rw [carL_snoc b _ p x]; omega
theorem one_carry {b x y c : Nat} (hx : x < b) (hy : y < b) (hc : c ≤ 1) : (x + y + c) / b ≤ 1 := by
  have : (x + y + c) / b < 2 := Nat.div_lt_of_lt_mul (by omega)
  omega
theorem goesOn_le {b : Nat} : ∀ (c : Nat) (p : List (Nat × Nat)), c ≤ 1 → (∀ x ∈ p, x.1 < b ∧ x.2 < b) → goesOn b c p ≤ 1
  | c, [], hc, _ => hc
  | c, x :: p, hc, h => goesOn_le _ p (one_carry (h x (by simp)).1 (h x (by simp)).2 hc) (fun y hy => h y (by simp [hy]))
theorem carL_le {b : Nat} : ∀ (c : Nat) (p : List (Nat × Nat)), c ≤ 1 → (∀ x ∈ p, x.1 < b ∧ x.2 < b) → carL b c p ≤ p.length
  | c, [], _, _ => Nat.le_refl _
  | c, x :: p, hc, h => by
    have h1 := one_carry (h x (by simp)).1 (h x (by simp)).2 hc
    have h2 := carL_le _ p h1 (fun y hy => h y (by simp [hy]))
    simp only [carL, List.length_cons]; omega
theorem pairs_lt {b : Nat} (hb : 2 ≤ b) (x y : Nat) : ∀ p ∈ pairs b x y, p.1 < b ∧ p.2 < b := by
  refine div_ind2 hb (p := fun x y => ∀ p ∈ pairs b x y, p.1 < b ∧ p.2 < b) (by rw [pairs_zero]; simp) (fun x y hn ih => ?_) x y
  rw [pairs_pos hb hn]
  intro d hd
  rcases List.mem_cons.1 hd with rfl | h
  · exact ⟨Nat.mod_lt _ (by omega), Nat.mod_lt _ (by omega)⟩
  · exact ih d h

/-- What is added at one place. -/
theorem place {b x y c : Nat} (hb : 2 ≤ b) : (x + y + c) % b = (x % b + y % b + c) % b ∧ (x + y + c) / b = x / b + y / b + (x % b + y % b + c) / b := by
  have hx := div_mod b x
  have hy := div_mod b y
  have he : x + y + c = (x % b + y % b + c) + b * (x / b + y / b) := by rw [Nat.mul_add]; omega
  constructor
  · rw [he, Nat.add_mul_mod_self_left]
  · rw [he, Nat.add_mul_div_left _ _ (by omega)]; omega
/-- Carries are what digits lose. -/
theorem carries {b : Nat} (hb : 2 ≤ b) (x y : Nat) : ∀ c, c ≤ 1 → (b - 1) * carL b c (pairs b x y) + sumL (digs b (x + y + c)) = sumL (digs b x) + sumL (digs b y) + c := by
  refine div_ind2 hb (p := fun x y => ∀ c, c ≤ 1 → (b - 1) * carL b c (pairs b x y) + sumL (digs b (x + y + c)) = sumL (digs b x) + sumL (digs b y) + c) ?_ (fun x y hn ih c hc => ?_) x y
  · intro c hc
    rw [pairs_zero, digs_zero]
    rcases Nat.eq_zero_or_pos c with h | h
    · subst h; rw [digs_zero]; rfl
    · obtain rfl : c = 1 := by omega
      rw [digs_pos hb (by omega), show (0 + 0 + 1) / b = 0 by exact Nat.div_eq_of_lt (by omega), digs_zero, show (0 + 0 + 1) % b = 1 by exact Nat.mod_eq_of_lt (by omega)]; rfl
  · rw [pairs_pos hb hn]
    have hsx : ∀ n, sumL (digs b n) = n % b + sumL (digs b (n / b)) := fun n => by
      rcases Nat.eq_zero_or_pos n with h | h
      · subst h; simp [digs_zero, sumL]
      · rw [digs_pos hb h]; rfl
    rw [hsx (x + y + c), hsx x, hsx y, (place (x := x) (y := y) (c := c) hb).1, (place (x := x) (y := y) (c := c) hb).2]
    simp only [carL]
    have hx := Nat.mod_lt x (show 0 < b by omega)
    have hy := Nat.mod_lt y (show 0 < b by omega)
    have h1 := one_carry hx hy hc
    have h2 := ih _ h1
    have h3 := div_mod b (x % b + y % b + c)
    generalize (x % b + y % b + c) / b = d at *
    generalize (x % b + y % b + c) % b = e at *
    rw [Nat.mul_add]
    rcases (show d = 0 ∨ d = 1 by omega) with rfl | rfl
    · omega
    · rw [Nat.mul_one] at *; omega
theorem carL_swap (b : Nat) : ∀ (c : Nat) (p : List (Nat × Nat)), carL b c (p.map fun x => (x.2, x.1)) = carL b c p
  | c, [] => rfl
  | c, x :: p => by simp only [List.map_cons, carL]; rw [Nat.add_comm x.2 x.1, carL_swap b _ p]
theorem pairs_swap {b : Nat} (hb : 2 ≤ b) (x y : Nat) : pairs b y x = (pairs b x y).map fun x => (x.2, x.1) := by
  refine div_ind2 hb (p := fun x y => pairs b y x = (pairs b x y).map fun x => (x.2, x.1)) (by rw [pairs_zero]; rfl) (fun x y hn ih => ?_) x y
  rw [pairs_pos hb hn, pairs_pos hb (show 0 < y + x by omega), ih]; rfl

/-- Each digit at most the one above it. -/
def und (b x y : Nat) : Bool := (pairs b x y).all fun p => decide (p.1 ≤ p.2)
theorem und_zero (b : Nat) : und b 0 0 = true := by unfold und; rw [pairs_zero]; rfl
theorem und_step {b : Nat} (hb : 2 ≤ b) (x y : Nat) : und b x y = (decide (x % b ≤ y % b) && und b (x / b) (y / b)) := by
  rcases Nat.eq_zero_or_pos (x + y) with h | h
  · obtain ⟨rfl, rfl⟩ : x = 0 ∧ y = 0 := by omega
    simp [und_zero]
  · unfold und; rw [pairs_pos hb h]; rfl
theorem und_none {b : Nat} (hb : 2 ≤ b) (y : Nat) : und b 0 y = true := by
  refine div_ind hb (p := fun y => und b 0 y = true) (und_zero b) (fun y hn ih => ?_) y
  rw [und_step hb, Nat.zero_div, ih]; simp
theorem und_le {b : Nat} (hb : 2 ≤ b) (x y : Nat) : und b x y = true → x ≤ y := by
  refine div_ind2 hb (p := fun x y => und b x y = true → x ≤ y) (fun _ => Nat.le_refl _) (fun x y hn ih h => ?_) x y
  rw [und_step hb, Bool.and_eq_true, decide_eq_true_eq] at h
  have h1 := ih h.2
  have h2 := div_mod b x
  have h3 := div_mod b y
  have h4 := Nat.mul_le_mul_left b h1
  omega
theorem und_same {b : Nat} (hb : 2 ≤ b) (x : Nat) : und b x x = true := by
  refine div_ind hb (p := fun x => und b x x = true) (und_zero b) (fun x hn ih => ?_) x
  rw [und_step hb, ih]; simp
/-- Nothing is carried where what is under is added to the rest. -/
theorem und_carries {b : Nat} (hb : 2 ≤ b) (x z : Nat) : und b x (x + z) = true ↔ carL b 0 (pairs b x z) = 0 := by
  refine div_ind2 hb (p := fun x z => und b x (x + z) = true ↔ carL b 0 (pairs b x z) = 0) ?_ (fun x z hn ih => ?_) x z
  · rw [pairs_zero, und_zero]; simp [carL]
  · rw [pairs_pos hb hn, und_step hb]
    have hp := place (b := b) (x := x) (y := z) (c := 0) hb
    rw [Nat.add_zero, Nat.add_zero] at hp
    rw [hp.1, hp.2]
    simp only [carL, Nat.add_zero]
    have hx := Nat.mod_lt x (show 0 < b by omega)
    have hy := Nat.mod_lt z (show 0 < b by omega)
    by_cases hc : x % b + z % b < b
    · rw [Nat.div_eq_of_lt hc, Nat.mod_eq_of_lt hc, Nat.add_zero, Nat.zero_add, ← ih]
      simp
    · have h1 : (x % b + z % b) / b = 1 := by
        have h2 : (x % b + z % b) / b < 2 := Nat.div_lt_of_lt_mul (by omega)
        have h3 : 1 ≤ (x % b + z % b) / b := (Nat.le_div_iff_mul_le (by omega)).2 (by omega)
        omega
      have h2 := div_mod b (x % b + z % b)
      rw [h1] at h2
      constructor
      · intro h
        rw [Bool.and_eq_true, decide_eq_true_eq] at h
        omega
      · intro h; omega
theorem und_sums {b : Nat} (hb : 2 ≤ b) (x y : Nat) : und b x y = true ↔ x ≤ y ∧ sumL (digs b x) + sumL (digs b (y - x)) = sumL (digs b y) := by
  constructor
  · intro h
    have hle := und_le hb x y h
    refine ⟨hle, ?_⟩
    have hc := carries hb x (y - x) 0 (by omega)
    have he : x + (y - x) = y := by omega
    rw [(und_carries hb x (y - x)).1 (by rw [he]; exact h), Nat.add_zero, he] at hc
    omega
  · rintro ⟨hle, hs⟩
    have hc := carries hb x (y - x) 0 (by omega)
    have he : x + (y - x) = y := by omega
    rw [Nat.add_zero, he] at hc
    have h0 : (b - 1) * carL b 0 (pairs b x (y - x)) = 0 := by omega
    have h1 : carL b 0 (pairs b x (y - x)) = 0 := by
      rcases Nat.mul_eq_zero.1 h0 with h | h
      · omega
      · exact h
    have := (und_carries hb x (y - x)).2 h1
    rwa [he] at this

/-- How many of the first m numbers are under n. -/
def undUp (b n : Nat) : Nat → Nat
  | 0 => 0
  | m + 1 => undUp b n m + (if und b m n then 1 else 0)
theorem undUp_le (b n : Nat) : ∀ m, undUp b n m ≤ m
  | 0 => Nat.le_refl _
  | m + 1 => by have := undUp_le b n m; simp only [undUp]; split <;> omega
theorem undUp_stable {b : Nat} (hb : 2 ≤ b) (n : Nat) : ∀ j, undUp b n (n + 1 + j) = undUp b n (n + 1)
  | 0 => rfl
  | j + 1 => by
    show undUp b n (n + 1 + j) + _ = _
    rw [undUp_stable hb n j, if_neg]
    · rfl
    · intro h; exact absurd (und_le hb _ _ h) (by show ¬ (n + 1 + j ≤ n); omega)
theorem undUp_part {b : Nat} (hb : 2 ≤ b) (n m : Nat) : ∀ j, j ≤ b → undUp b n (b * m + j) = undUp b n (b * m) + (if und b m (n / b) then min j (n % b + 1) else 0)
  | 0, _ => by simp
  | j + 1, h => by
    show undUp b n (b * m + j) + (if und b (b * m + j) n then 1 else 0) = _
    have h1 : (b * m + j) % b = j := by rw [Nat.mul_add_mod]; exact Nat.mod_eq_of_lt (by omega)
    have h2 : (b * m + j) / b = m := by rw [Nat.mul_add_div (by omega), Nat.div_eq_of_lt (by omega)]; rfl
    rw [undUp_part hb n m j (by omega), und_step hb (b * m + j) n, h1, h2]
    cases hu : und b m (n / b)
    · simp
    · by_cases hj : j ≤ n % b
      · simp [hj]; omega
      · simp [hj]; omega
theorem undUp_times {b : Nat} (hb : 2 ≤ b) (n : Nat) : ∀ m, undUp b n (b * m) = (n % b + 1) * undUp b (n / b) m
  | 0 => by simp [undUp]
  | m + 1 => by
    rw [Nat.mul_succ, undUp_part hb n m b (Nat.le_refl _), undUp_times hb n m]
    have := Nat.mod_lt n (show 0 < b by omega)
    simp only [undUp]
    cases und b m (n / b)
    · simp
    · simp only [if_true]; rw [Nat.mul_add, Nat.mul_one, Nat.min_eq_right (by omega)]
/-- Numbers under a number are counted. -/
theorem undUp_all {b : Nat} (hb : 2 ≤ b) (n : Nat) : undUp b n (n + 1) = mulL (digs b n) := by
  refine div_ind hb (p := fun n => undUp b n (n + 1) = mulL (digs b n)) ?_ (fun n hn ih => ?_) n
  · rw [digs_zero]; simp [undUp, und_zero, mulL]
  · rw [digs_pos hb hn]
    have h1 := div_mod b n
    have h2 := Nat.mod_lt n (show 0 < b by omega)
    have h3 : b * (n / b + 1) = n + 1 + (b - 1 - n % b) := by rw [Nat.mul_add, Nat.mul_one]; omega
    rw [← undUp_stable hb n (b - 1 - n % b), ← h3, undUp_times hb, ih]; rfl

/-- What is made of the digits from place k on. -/
def fromP (b : Nat) : List Nat → Nat
  | [] => 0
  | x :: r => x + b * fromP b r
theorem fromP_digs {b : Nat} (hb : 2 ≤ b) (n : Nat) : fromP b (digs b n) = n := by
  refine div_ind hb (p := fun n => fromP b (digs b n) = n) (by rw [digs_zero]; rfl) (fun n hn ih => ?_) n
  rw [digs_pos hb hn]
  have := div_mod b n
  simp only [fromP]; rw [ih]; omega
theorem fromP_drop (b : Nat) : ∀ (l : List Nat) (k : Nat) (h : k < l.length), fromP b (l.drop k) = fromP b (l.drop (k + 1)) * b + l[k]
  | [], k, h => by simp at h
  | x :: l, 0, h => by simp [fromP, Nat.mul_comm]; omega
  | x :: l, k + 1, h => by simpa using fromP_drop b l k (by simpa using h)
theorem fromP_le {b : Nat} (hb : 1 ≤ b) : ∀ (l : List Nat) (k : Nat), fromP b (l.drop k) ≤ fromP b l
  | [], k => by simp
  | x :: l, 0 => by simp
  | x :: l, k + 1 => by
    have h := fromP_le hb l k
    simp only [List.drop_succ_cons, fromP]
    have := Nat.le_mul_of_pos_left (fromP b l) hb
    omega
theorem digs_last {b : Nat} (hb : 2 ≤ b) (n : Nat) (hn : 0 < n) : ∃ h : (digs b n).length - 1 < (digs b n).length, 0 < (digs b n)[(digs b n).length - 1] := by
  refine div_ind hb (p := fun n => 0 < n → ∃ h : (digs b n).length - 1 < (digs b n).length, 0 < (digs b n)[(digs b n).length - 1]) (fun h => by omega) (fun n hn ih _ => ?_) n hn
  have hd := digs_pos hb hn
  generalize digs b n = D at hd
  subst hd
  rcases Nat.eq_zero_or_pos (n / b) with h | h
  · have := div_mod b n
    rw [h] at this
    rw [h, digs_zero]
    exact ⟨by simp, by simp; omega⟩
  · obtain ⟨h1, h2⟩ := ih h
    refine ⟨by simp, ?_⟩
    simp only [List.length_cons, Nat.add_sub_cancel]
    rw [List.getElem_cons]
    rw [dif_neg (by omega)]
    exact h2
end Go.Proofs.YtghfmoanpgaijaaDoor
/-
  Plain mathematics of how often a prime divides: numbers, products of all numbers up to a number, cells of the triangle; by digits, by carries; and how much it may be. Nothing of the program.
-/
namespace Go.Proofs.YtghfmoanpgaijaaDoor
open Go.RowKit

/-- How often p divides n. -/
def val (p n : Nat) : Nat := if _h : (2 ≤ p ∧ 0 < n) ∧ n % p = 0 then val p (n / p) + 1 else 0
termination_by n
decreasing_by exact Nat.div_lt_self _h.1.2 _h.1.1
/-- What is left of n when p no longer divides it. -/
def strip (p n : Nat) : Nat := if _h : (2 ≤ p ∧ 0 < n) ∧ n % p = 0 then strip p (n / p) else n
termination_by n
decreasing_by exact Nat.div_lt_self _h.1.2 _h.1.1
/-- n by p, by its square, and so on, added. -/
def tup (p n : Nat) : Nat := if _h : 2 ≤ p ∧ 0 < n then n / p + tup p (n / p) else 0
termination_by n
decreasing_by exact Nat.div_lt_self _h.2 _h.1

theorem val_no {p n : Nat} (h : n % p ≠ 0) : val p n = 0 := by rw [val, dif_neg (fun e => h e.2)]
theorem val_yes {p n : Nat} (hp : 2 ≤ p) (hn : 0 < n) (h : n % p = 0) : val p n = val p (n / p) + 1 := by rw [val, dif_pos ⟨⟨hp, hn⟩, h⟩]
theorem strip_no {p n : Nat} (h : n % p ≠ 0) : strip p n = n := by rw [strip, dif_neg (fun e => h e.2)]
theorem strip_yes {p n : Nat} (hp : 2 ≤ p) (hn : 0 < n) (h : n % p = 0) : strip p n = strip p (n / p) := by rw [strip, dif_pos ⟨⟨hp, hn⟩, h⟩]
theorem tup_zero (p : Nat) : tup p 0 = 0 := by rw [tup, dif_neg (by omega)]
theorem tup_pos {p n : Nat} (hp : 2 ≤ p) (hn : 0 < n) : tup p n = n / p + tup p (n / p) := by rw [tup, dif_pos ⟨hp, hn⟩]
theorem tup_any {p : Nat} (hp : 2 ≤ p) (n : Nat) : tup p n = n / p + tup p (n / p) := by
  rcases Nat.eq_zero_or_pos n with h | h
  · subst h; simp [tup_zero]
  · exact tup_pos hp h
theorem div_pos_of_mod {p n : Nat} (hn : 0 < n) (h : n % p = 0) : 0 < n / p := by
  rcases Nat.eq_zero_or_pos (n / p) with e | e
  · have := div_mod p n; rw [e, h] at this; omega
  · exact e

theorem strip_val {p : Nat} (hp : 2 ≤ p) (n : Nat) : 0 < n → p ^ val p n * strip p n = n ∧ 0 < strip p n := by
  refine div_ind hp (p := fun n => 0 < n → p ^ val p n * strip p n = n ∧ 0 < strip p n) (fun h => by omega) (fun n hn ih _ => ?_) n
  by_cases h : n % p = 0
  · have h1 := ih (div_pos_of_mod hn h)
    rw [val_yes hp hn h, strip_yes hp hn h, Nat.pow_succ]
    refine ⟨?_, h1.2⟩
    have h2 := div_mod p n
    rw [h, Nat.add_zero] at h2
    calc p ^ val p (n / p) * p * strip p (n / p) = p * (p ^ val p (n / p) * strip p (n / p)) := by rw [Nat.mul_comm _ p, Nat.mul_assoc]
      _ = n := by rw [h1.1, h2]
  · rw [val_no h, strip_no h]; simp; exact hn
theorem strip_mod {p : Nat} (hp : 2 ≤ p) (n : Nat) : 0 < n → strip p n % p ≠ 0 := by
  refine div_ind hp (p := fun n => 0 < n → strip p n % p ≠ 0) (fun h => by omega) (fun n hn ih _ => ?_) n
  by_cases h : n % p = 0
  · rw [strip_yes hp hn h]; exact ih (div_pos_of_mod hn h)
  · rw [strip_no h]; exact h
theorem pow_gt {p : Nat} (hp : 2 ≤ p) : ∀ k, k + 1 ≤ p ^ k
  | 0 => by simp
  | k + 1 => by
    have h1 := pow_gt hp k
    have h2 := Nat.mul_le_mul_left (p ^ k) hp
    rw [Nat.pow_succ]; omega
theorem val_pow_le {p : Nat} (hp : 2 ≤ p) {n : Nat} (hn : 0 < n) : p ^ val p n ≤ n := by
  have h := strip_val hp n hn
  have h2 := Nat.le_mul_of_pos_right (p ^ val p n) h.2
  omega
theorem val_lt {p : Nat} (hp : 2 ≤ p) {n : Nat} (hn : 0 < n) : val p n < n := by
  have h1 := val_pow_le hp hn
  have h2 := pow_gt hp (val p n)
  omega

/-- Digits tell how often. -/
theorem legendre {p : Nat} (hp : 2 ≤ p) (n : Nat) : (p - 1) * tup p n + sumL (digs p n) = n := by
  refine div_ind hp (p := fun n => (p - 1) * tup p n + sumL (digs p n) = n) (by rw [tup_zero, digs_zero]; rfl) (fun n hn ih => ?_) n
  rw [tup_pos hp hn, digs_pos hp hn]
  simp only [sumL]
  have h1 := div_mod p n
  obtain ⟨c, rfl⟩ : ∃ c, p = c + 1 := ⟨p - 1, by omega⟩
  rw [Nat.add_sub_cancel] at *
  rw [Nat.mul_add]
  rw [Nat.add_mul, Nat.one_mul] at h1
  omega
theorem tup_le {p : Nat} (hp : 2 ≤ p) (n : Nat) : tup p n ≤ n := by
  have h1 := legendre hp n
  have h2 := Nat.le_mul_of_pos_left (tup p n) (show 0 < p - 1 by omega)
  omega
theorem succ_div_mod {p : Nat} (hp : 2 ≤ p) (n : Nat) : ((n + 1) % p = 0 ∧ (n + 1) / p = n / p + 1) ∨ ((n + 1) % p ≠ 0 ∧ (n + 1) / p = n / p) := by
  have h1 := div_mod p n
  have hm := Nat.mod_lt n (show 0 < p by omega)
  by_cases h : n % p + 1 = p
  · left
    have e : n + 1 = p * (n / p + 1) := by rw [Nat.mul_add]; omega
    constructor
    · rw [e, Nat.mul_mod_right]
    · conv => lhs; rw [e]
      rw [Nat.mul_div_cancel_left _ (by omega)]
  · right
    have e : n + 1 = p * (n / p) + (n % p + 1) := by omega
    constructor
    · rw [e, Nat.mul_add_mod, Nat.mod_eq_of_lt (show n % p + 1 < p by omega)]; omega
    · conv => lhs; rw [e]
      rw [Nat.mul_add_div (by omega), Nat.div_eq_of_lt (show n % p + 1 < p by omega), Nat.add_zero]
/-- With one number more it is as much more as p divides that. -/
theorem tup_succ {p : Nat} (hp : 2 ≤ p) (n : Nat) : tup p (n + 1) = tup p n + val p (n + 1) := by
  induction n using Nat.strongRecOn with
  | ind n ih =>
    rw [tup_any hp (n + 1), tup_any hp n]
    rcases succ_div_mod hp n with ⟨h1, h2⟩ | ⟨h1, h2⟩
    · rw [h2, val_yes hp (by omega) h1, h2]
      have hlt : n / p < n ∨ n = 0 := by
        rcases Nat.eq_zero_or_pos n with h | h
        · exact .inr h
        · exact .inl (Nat.div_lt_self h hp)
      rcases hlt with hlt | rfl
      · rw [ih _ hlt]; omega
      · rw [Nat.mod_eq_of_lt (by omega)] at h1; omega
    · rw [h2, val_no h1]; omega

/-- The six primes. -/
def prm (p : Nat) : Prop := p = 2 ∨ p = 3 ∨ p = 5 ∨ p = 7 ∨ p = 11 ∨ p = 13
instance (p : Nat) : Decidable (prm p) := by unfold prm; infer_instance
theorem prm_two {p : Nat} (h : prm p) : 2 ≤ p ∧ p ≤ 13 := by unfold prm at h; omega
def sixth : List Nat := [2, 3, 5, 7, 11, 13]
theorem prm_in {p : Nat} (h : prm p) : p ∈ sixth := by unfold prm at h; unfold sixth; simp; omega
theorem zeros_all : sixth.all (fun p => (List.range p).all fun x => (List.range p).all fun y => !(x * y % p == 0) || (x == 0 || y == 0)) = true := by decide
theorem no_zeros {p : Nat} (h : prm p) (x : Nat) (hx : x < p) (y : Nat) (hy : y < p) (hz : x * y % p = 0) : x = 0 ∨ y = 0 := by
  have h1 := List.all_eq_true.1 (List.all_eq_true.1 (List.all_eq_true.1 zeros_all p (prm_in h)) x (List.mem_range.2 hx)) y (List.mem_range.2 hy)
  simpa [hz] using h1
theorem euclid {p : Nat} (h : prm p) (x y : Nat) (hxy : x * y % p = 0) : x % p = 0 ∨ y % p = 0 := by
  have hp := prm_two h
  refine no_zeros h _ (Nat.mod_lt _ (by omega)) _ (Nat.mod_lt _ (by omega)) ?_
  rw [← Nat.mul_mod]; exact hxy
theorem val_times {p n : Nat} (hp : 2 ≤ p) (hn : 0 < n) : val p (n * p) = val p n + 1 := by
  rw [val_yes hp (Nat.mul_pos hn (by omega)) (Nat.mul_mod_left _ _), Nat.mul_div_cancel _ (by omega)]
/-- Of a product it is both together. -/
theorem val_mul {p : Nat} (h : prm p) (x y : Nat) : 0 < x → 0 < y → val p (x * y) = val p x + val p y := by
  have hp := (prm_two h).1
  revert y
  refine div_ind hp (p := fun x => ∀ y, 0 < x → 0 < y → val p (x * y) = val p x + val p y) (fun _ h => by omega) (fun x hx ihx y _ hy => ?_) x
  by_cases hxm : x % p = 0
  · have e := div_mod p x
    rw [hxm, Nat.add_zero] at e
    have h1 := ihx y (div_pos_of_mod hx hxm) hy
    rw [val_yes hp hx hxm]
    conv => lhs; rw [← e]
    rw [show p * (x / p) * y = x / p * y * p by rw [Nat.mul_comm p, Nat.mul_assoc, Nat.mul_comm p, ← Nat.mul_assoc], val_times hp (Nat.mul_pos (div_pos_of_mod hx hxm) hy), h1]
    omega
  · rw [val_no hxm]
    refine div_ind hp (p := fun y => 0 < y → val p (x * y) = 0 + val p y) (fun h => by omega) (fun y hy ih _ => ?_) y hy
    by_cases hym : y % p = 0
    · have e := div_mod p y
      rw [hym, Nat.add_zero] at e
      have h1 := ih (div_pos_of_mod hy hym)
      rw [val_yes hp hy hym]
      conv => lhs; rw [← e]
      rw [show x * (p * (y / p)) = x * (y / p) * p by rw [Nat.mul_comm p, Nat.mul_assoc], val_times hp (Nat.mul_pos hx (div_pos_of_mod hy hym)), h1]
      omega
    · rw [val_no hym, val_no (fun e => by rcases euclid h x y e with e | e; exact hxm e; exact hym e)]
theorem val_one {p : Nat} (hp : 2 ≤ p) : val p 1 = 0 := val_no (by rw [Nat.mod_eq_of_lt (by omega)]; omega)
theorem apart_all : sixth.all (fun p => sixth.all fun q => p == q || !(p % q == 0)) = true := by decide
theorem prm_apart {p q : Nat} (hp : prm p) (hq : prm q) (hne : p ≠ q) : p % q ≠ 0 := by
  have h1 := List.all_eq_true.1 (List.all_eq_true.1 apart_all p (prm_in hp)) q (prm_in hq)
  simpa [hne] using h1
/-- Divided by another prime it is as often. -/
theorem val_apart {p q n : Nat} (hp : prm p) (hq : prm q) (hne : p ≠ q) (hn : 0 < n) (h : n % p = 0) : val q (n / p) = val q n := by
  have e := div_mod p n
  rw [h, Nat.add_zero] at e
  conv => rhs; rw [← e]
  rw [val_mul hq _ _ (by have := prm_two hp; omega) (div_pos_of_mod hn h), val_no (prm_apart hp hq hne)]
  omega
theorem val_strip {p q : Nat} (hp : prm p) (hq : prm q) (hne : p ≠ q) (n : Nat) : 0 < n → val q (strip p n) = val q n := by
  have h2 := (prm_two hp).1
  refine div_ind h2 (p := fun n => 0 < n → val q (strip p n) = val q n) (fun h => by omega) (fun n hn ih _ => ?_) n
  by_cases h : n % p = 0
  · rw [strip_yes h2 hn h, ih (div_pos_of_mod hn h), val_apart hp hq hne hn h]
  · rw [strip_no h]

theorem bin_half (n k : Nat) : bin (n + 1) (k + 1) ≤ 2 ^ n := by
  rw [bin_succ, ← psum_row n]
  by_cases h : k + 2 ≤ n + 1
  · have h1 := psum_mono n (k + 2) (n + 1) h
    simp only [psum] at h1 ⊢
    omega
  · by_cases e : k = n
    · subst e
      rw [bin_over k (k + 1) (by omega)]
      simp only [psum]; omega
    · rw [bin_over n k (by omega), bin_over n (k + 1) (by omega)]; omega
theorem bin_max {n : Nat} (k : Nat) (h : n ≤ 60) : bin n k ≤ 576460752303423488 := by
  match n, k, h with
  | n, 0, _ => rw [bin_zero]; omega
  | 0, k + 1, _ => rw [bin_over 0 (k + 1) (by omega)]; omega
  | n + 1, k + 1, h => exact Nat.le_trans (bin_half n k) (Nat.le_trans (Nat.pow_le_pow_right (by omega) (show n ≤ 59 by omega)) (by decide))
theorem bin_pos : ∀ (n k : Nat), k ≤ n → 0 < bin n k
  | n, 0, _ => by rw [bin_zero]; omega
  | 0, k + 1, h => by omega
  | n + 1, k + 1, h => by rw [bin_succ]; have := bin_pos n k (by omega); omega
/-- How often a prime divides a cell. -/
theorem val_bin {p : Nat} (h : prm p) : ∀ (n k : Nat), k ≤ n → val p (bin n k) + tup p k + tup p (n - k) = tup p n
  | n, 0, _ => by rw [bin_zero, val_one (prm_two h).1, tup_zero]; simp
  | 0, k + 1, hk => by omega
  | n + 1, k + 1, hk => by
    have h1 := val_bin h n k (by omega)
    have h2 := congrArg (val p) (absorb n k)
    rw [val_mul h _ _ (bin_pos _ _ hk) (by omega), val_mul h _ _ (by omega) (bin_pos _ _ (by omega))] at h2
    rw [tup_succ (prm_two h).1 k, tup_succ (prm_two h).1 n, show n + 1 - (k + 1) = n - k by omega]
    omega

/-- Carries tell how often. -/
theorem tup_carries {p : Nat} (hp : 2 ≤ p) (x y : Nat) : tup p (x + y) = tup p x + tup p y + carL p 0 (pairs p x y) := by
  have h1 := carries hp x y 0 (by omega)
  rw [Nat.add_zero, Nat.add_zero] at h1
  have h2 := legendre hp (x + y)
  have h3 := legendre hp x
  have h4 := legendre hp y
  refine Nat.eq_of_mul_eq_mul_left (show 0 < p - 1 by omega) ?_
  rw [Nat.mul_add, Nat.mul_add]
  omega
def cars (p n k : Nat) : Nat := carL p 0 (pairs p k (n - k))
theorem tup_cars {p : Nat} (hp : 2 ≤ p) {n k : Nat} (hk : k ≤ n) : tup p n = tup p k + tup p (n - k) + cars p n k := by
  have := tup_carries hp k (n - k)
  rw [show k + (n - k) = n by omega] at this
  exact this
theorem cars_zero {p : Nat} (hp : 2 ≤ p) {n k : Nat} (hk : k ≤ n) : cars p n k = 0 ↔ und p k n = true := by
  have := und_carries hp k (n - k)
  rw [show k + (n - k) = n by omega] at this
  exact this.symm
theorem cars_bin {p : Nat} (h : prm p) {n k : Nat} (hk : k ≤ n) : val p (bin n k) = cars p n k := by
  have h1 := val_bin h n k hk
  have h2 := tup_cars (prm_two h).1 hk
  omega
/-- As many carries as the sum has room for. -/
theorem pow_car {p : Nat} (hp : 2 ≤ p) (x y : Nat) : ∀ c, c ≤ 1 → p ^ carL p c (pairs p x y) ≤ max 1 (x + y + c) := by
  refine div_ind2 hp (p := fun x y => ∀ c, c ≤ 1 → p ^ carL p c (pairs p x y) ≤ max 1 (x + y + c)) ?_ (fun x y hn ih c hc => ?_) x y
  · intro c hc; rw [pairs_zero]; simp only [carL, Nat.pow_zero]; omega
  · rw [pairs_pos hp hn]
    simp only [carL]
    have h1 := one_carry (Nat.mod_lt x (show 0 < p by omega)) (Nat.mod_lt y (show 0 < p by omega)) hc
    have h2 := ih _ h1
    have h3 := (place (x := x) (y := y) (c := c) hp).2
    have h4 := div_mod p (x + y + c)
    generalize (x % p + y % p + c) / p = d at *
    have h5 := two_mul_le (q := (x + y + c) / p) hp
    rcases (show d = 0 ∨ d = 1 by omega) with rfl | rfl
    · rw [Nat.zero_add]; omega
    · rw [Nat.add_comm 1, Nat.pow_succ]
      have h6 := Nat.mul_le_mul_right p h2
      rw [Nat.max_eq_right (Nat.le_add_left 1 _)] at h6
      rw [h3, Nat.mul_comm p] at h4
      omega
theorem pow_cars {p : Nat} (hp : 2 ≤ p) {n k : Nat} (hk : k ≤ n) (hn : 0 < n) : p ^ cars p n k ≤ n := by
  have h := pow_car hp k (n - k) 0 (by omega)
  have e : k + (n - k) + 0 = n := by omega
  rw [e, Nat.max_eq_right hn] at h
  exact h
theorem cars_lt {p : Nat} (hp : 2 ≤ p) {n k : Nat} (hk : k ≤ n) : cars p n k ≤ n := by
  have := tup_cars hp hk
  have := tup_le hp n
  omega

/-- The most often of the first m cells of row n. -/
def mostU (p n : Nat) : Nat → Nat
  | 0 => 0
  | m + 1 => max (mostU p n m) (cars p n m)
theorem mostU_ge (p n : Nat) : ∀ m k, k < m → cars p n k ≤ mostU p n m
  | 0, k, h => by omega
  | m + 1, k, h => by
    simp only [mostU]
    by_cases e : k = m
    · subst e; omega
    · have := mostU_ge p n m k (by omega); omega
theorem mostU_is (p n : Nat) : ∀ m, mostU p n m = 0 ∨ ∃ k, k < m ∧ mostU p n m = cars p n k
  | 0 => .inl rfl
  | m + 1 => by
    simp only [mostU]
    by_cases e : mostU p n m ≤ cars p n m
    · exact .inr ⟨m, by omega, by omega⟩
    · rcases mostU_is p n m with h | ⟨k, h1, h2⟩
      · omega
      · exact .inr ⟨k, by omega, by omega⟩
def most (p n : Nat) : Nat := mostU p n (n + 1)
theorem mostU_le {p : Nat} (hp : 2 ≤ p) (n m : Nat) (hm : m ≤ n + 1) : mostU p n m ≤ n := by
  rcases mostU_is p n m with h | ⟨k, h1, h2⟩
  · omega
  · rw [h2]; exact cars_lt hp (by omega)
theorem pow_most {p : Nat} (hp : 2 ≤ p) {n : Nat} (hn : 0 < n) : p ^ most p n ≤ n := by
  unfold most
  rcases mostU_is p n (n + 1) with h | ⟨k, h1, h2⟩
  · rw [h]; simp; omega
  · rw [h2]; exact pow_cars hp (by omega) hn
theorem val_most {p : Nat} (hp : 2 ≤ p) {n : Nat} (hn : 0 < n) : val p n ≤ most p n := by
  have h1 := mostU_ge p n (n + 1) 1 (by omega)
  obtain ⟨m, rfl⟩ : ∃ m, n = m + 1 := ⟨n - 1, by omega⟩
  have h2 := tup_cars hp (show 1 ≤ m + 1 by omega)
  have h3 := tup_succ hp m
  have h4 : tup p 1 = 0 := by rw [tup_pos hp (by omega), Nat.div_eq_of_lt (by omega), tup_zero]
  rw [show m + 1 - 1 = m by omega, h4] at h2
  unfold most
  omega
/-- For rows that are a power of the prime it is just that. -/
theorem most_power {p : Nat} (hp : 2 ≤ p) {n : Nat} (hn : 0 < n) (hs : strip p n ≤ 1) : p ^ most p n = n := by
  have h1 := strip_val hp n hn
  have h2 := pow_most hp hn
  have h3 := Nat.pow_le_pow_right (show 0 < p by omega) (val_most hp hn)
  have h4 : strip p n = 1 := by omega
  rw [h4, Nat.mul_one] at h1
  omega
theorem und_full {p : Nat} (hp : 2 ≤ p) : ∀ (j n k : Nat), n + 1 = p ^ j → k ≤ n → und p k n = true
  | 0, n, k, h, hk => by
    obtain ⟨rfl, rfl⟩ : n = 0 ∧ k = 0 := by simp at h; omega
    exact und_zero p
  | j + 1, n, k, h, hk => by
    have hpos : 0 < p ^ j := Nat.pow_pos (by omega)
    rw [Nat.pow_succ] at h
    have e : n = (p - 1) + p * (p ^ j - 1) := by
      rw [Nat.mul_comm p, Nat.sub_mul]
      have := Nat.le_mul_of_pos_left p hpos
      omega
    have h1 : n % p = p - 1 := by rw [e, Nat.add_mul_mod_self_left, Nat.mod_eq_of_lt (by omega)]
    have h2 : n / p = p ^ j - 1 := by rw [e, Nat.add_mul_div_left _ _ (by omega), Nat.div_eq_of_lt (by omega), Nat.zero_add]
    have h3 := Nat.mod_lt k (show 0 < p by omega)
    have h4 := Nat.div_le_div_right (c := p) hk
    rw [und_step hp, und_full hp j (n / p) (k / p) (by omega) h4, h1]
    simp; omega
/-- For rows that are one less than a power it is 0. -/
theorem most_none {p : Nat} (hp : 2 ≤ p) {n : Nat} (hs : strip p (n + 1) ≤ 1) : most p n = 0 := by
  have h1 := strip_val hp (n + 1) (by omega)
  have h4 : strip p (n + 1) = 1 := by omega
  rw [h4, Nat.mul_one] at h1
  unfold most
  rcases mostU_is p n (n + 1) with h | ⟨k, h2, h3⟩
  · exact h
  · rw [h3]; exact (cars_zero hp (by omega)).2 (und_full hp _ n k h1.1.symm (by omega))
end Go.Proofs.YtghfmoanpgaijaaDoor
/-
  Plain mathematics of divisors of rows, checked row by row. Nothing of the program.
-/
namespace Go.Proofs.YtghfmoanpgaijaaDoor
open Go.RowKit

/-- A row out of the one before; all rows, quickly. -/
def nextE : Nat → List Nat → List Nat
  | a, [] => [a]
  | a, b :: r => (a + b) :: nextE b r
def rowE : Nat → List Nat
  | 0 => [1]
  | n + 1 => nextE 0 (rowE n)
theorem nextE_get : ∀ (l : List Nat) (a k : Nat), (nextE a l).getD k 0 = (a :: l).getD k 0 + l.getD k 0
  | [], a, 0 => rfl
  | [], a, k + 1 => rfl
  | b :: r, a, 0 => rfl
  | b :: r, a, k + 1 => by
    show (nextE b r).getD k 0 = _
    rw [nextE_get r b k]; rfl
theorem nextE_len : ∀ (l : List Nat) (a : Nat), (nextE a l).length = l.length + 1
  | [], _ => rfl
  | b :: r, _ => by show (nextE b r).length + 1 = _; rw [nextE_len r b]; rfl
theorem rowE_len : ∀ n, (rowE n).length = n + 1
  | 0 => rfl
  | n + 1 => by show (nextE 0 (rowE n)).length = _; rw [nextE_len, rowE_len n]
theorem rowE_get : ∀ n k, (rowE n).getD k 0 = bin n k
  | 0, 0 => rfl
  | 0, k + 1 => rfl
  | n + 1, 0 => by
    show (nextE 0 (rowE n)).getD 0 0 = _
    rw [nextE_get, rowE_get n 0, bin_zero, bin_zero]; rfl
  | n + 1, k + 1 => by
    show (nextE 0 (rowE n)).getD (k + 1) 0 = _
    rw [nextE_get, rowE_get n (k + 1), bin_succ, List.getD_cons_succ, rowE_get n k]
theorem rowE_eq (n : Nat) : rowE n = (List.range (n + 1)).map (bin n) := by
  apply List.ext_getElem?
  intro k
  by_cases h : k < n + 1
  · have h1 := rowE_get n k
    rw [List.getElem?_map, List.getElem?_range h]
    rw [List.getD, List.getElem?_eq_getElem (by rw [rowE_len]; exact h)] at h1
    rw [List.getElem?_eq_getElem (by rw [rowE_len]; exact h)]
    exact congrArg some h1
  · rw [List.getElem?_eq_none (by rw [rowE_len]; omega), List.getElem?_eq_none (by simp; omega)]

/-- The greatest common divisor of the first numbers of a list, beginning with a. -/
def gcdU (f : Nat → Nat) : Nat → Nat
  | 0 => 0
  | k + 1 => Nat.gcd (gcdU f k) (f k)
/-- The least number that the first numbers divide. -/
def lcmU (f : Nat → Nat) : Nat → Nat
  | 0 => 1
  | k + 1 => lcmU f k / Nat.gcd (lcmU f k) (f k) * f k
/-- The greatest common divisor of the cells between the ends of a row; the least number that all its cells divide; that of all numbers up to n. -/
def shared (n : Nat) : Nat := gcdU (fun k => bin n (k + 1)) (n - 1)
def over (n : Nat) : Nat := lcmU (bin n) (n + 1)
def ofAll (n : Nat) : Nat := lcmU (fun k => k + 1) n
theorem gcdU_congr {f g : Nat → Nat} : ∀ m, (∀ i, i < m → f i = g i) → gcdU f m = gcdU g m
  | 0, _ => rfl
  | m + 1, h => by unfold gcdU; rw [gcdU_congr m (fun i hi => h i (by omega)), h m (by omega)]
theorem lcmU_congr {f g : Nat → Nat} : ∀ m, (∀ i, i < m → f i = g i) → lcmU f m = lcmU g m
  | 0, _ => rfl
  | m + 1, h => by unfold lcmU; rw [lcmU_congr m (fun i hi => h i (by omega)), h m (by omega)]
def gcdL : Nat → List Nat → Nat
  | a, [] => a
  | a, b :: r => gcdL (Nat.gcd a b) r
def lcmL : Nat → List Nat → Nat
  | a, [] => a
  | a, b :: r => lcmL (a / Nat.gcd a b * b) r
theorem gcdL_snoc : ∀ (l : List Nat) (a x : Nat), gcdL a (l ++ [x]) = Nat.gcd (gcdL a l) x
  | [], _, _ => rfl
  | _ :: r, _, x => gcdL_snoc r _ x
theorem lcmL_snoc : ∀ (l : List Nat) (a x : Nat), lcmL a (l ++ [x]) = lcmL a l / Nat.gcd (lcmL a l) x * x
  | [], _, _ => rfl
  | _ :: r, _, x => lcmL_snoc r _ x
theorem gcdL_map (f : Nat → Nat) : ∀ m, gcdL 0 ((List.range m).map f) = gcdU f m
  | 0 => rfl
  | m + 1 => by rw [List.range_succ, List.map_append, List.map_singleton, gcdL_snoc, gcdL_map f m]; rfl
theorem lcmL_map (f : Nat → Nat) : ∀ m, lcmL 1 ((List.range m).map f) = lcmU f m
  | 0 => rfl
  | m + 1 => by rw [List.range_succ, List.map_append, List.map_singleton, lcmL_snoc, lcmL_map f m]; rfl
theorem inner_eq (n : Nat) : ((rowE n).drop 1).take (n - 1) = (List.range (n - 1)).map fun k => bin n (k + 1) := by
  rw [rowE_eq]
  apply List.ext_getElem?
  intro k
  rw [List.getElem?_take]
  by_cases h : k < n - 1
  · rw [if_pos h, List.getElem?_drop, List.getElem?_map, List.getElem?_map, List.getElem?_range h, List.getElem?_range (by omega), Nat.add_comm]; rfl
  · rw [if_neg h, List.getElem?_eq_none (by simp; omega)]
theorem shared_eq (n : Nat) : shared n = gcdL 0 (((rowE n).drop 1).take (n - 1)) := by rw [inner_eq, gcdL_map]; rfl
theorem over_eq (n : Nat) : over n = lcmL 1 (rowE n) := by rw [rowE_eq, lcmL_map]; rfl
theorem ofAll_eq (n : Nat) : ofAll n = lcmL 1 ((List.range n).map fun k => k + 1) := by rw [lcmL_map]; rfl

/-- The least number from 2 on that divides n, sought from k on. -/
def leastD (n : Nat) : Nat → Nat → Nat
  | 0, k => k
  | f + 1, k => if n % k = 0 then k else leastD n f (k + 1)
theorem shared_all : (List.range 61).all (fun n => decide (n < 2) || (let d := leastD n 60 2; decide (2 ≤ d) && n % d == 0 && (List.range d).all (fun j => decide (j < 2) || !(n % j == 0)) &&
    ((strip d n == 1 && gcdL 0 (((rowE n).drop 1).take (n - 1)) == d) || (decide (1 < strip d n) && gcdL 0 (((rowE n).drop 1).take (n - 1)) == 1)))) = true := by decide +kernel
/-- What is shared by the cells of a row: its prime, or 1. -/
theorem shared_is {n : Nat} (h1 : 2 ≤ n) (h2 : n ≤ 60) : ∃ d, 2 ≤ d ∧ n % d = 0 ∧ (∀ j, 2 ≤ j → j < d → n % j ≠ 0) ∧ ((strip d n = 1 ∧ shared n = d) ∨ (1 < strip d n ∧ shared n = 1)) := by
  have h := List.all_eq_true.1 shared_all n (List.mem_range.2 (by omega))
  rw [Bool.or_eq_true] at h
  rcases h with h | h
  · have := of_decide_eq_true h; omega
  · generalize leastD n 60 2 = d at h
    rw [← shared_eq] at h
    simp only [Bool.and_eq_true, Bool.or_eq_true, beq_iff_eq, decide_eq_true_eq, List.all_eq_true, List.mem_range, Bool.not_eq_true', beq_eq_false_iff_ne] at h
    obtain ⟨⟨⟨h3, h4⟩, h5⟩, h6⟩ := h
    exact ⟨d, h3, h4, fun j hj hjd => (h5 j hjd).resolve_left (by omega), h6⟩
theorem shared_le {n : Nat} (h1 : 2 ≤ n) (h2 : n ≤ 60) : 1 ≤ shared n ∧ shared n ≤ 60 := by
  obtain ⟨d, h3, h4, _, h5⟩ := shared_is h1 h2
  have : d ≤ n := Nat.le_of_dvd (by omega) (Nat.dvd_of_mod_eq_zero h4)
  rcases h5 with ⟨_, h⟩ | ⟨_, h⟩ <;> omega
theorem over_all : (List.range 37).all (fun n => lcmL 1 (rowE n) * (n + 1) == lcmL 1 ((List.range (n + 1)).map fun k => k + 1) && (rowE n).all (fun c => lcmL 1 (rowE n) % c == 0)) = true := by decide +kernel
theorem over_times {n : Nat} (h : n ≤ 36) : over n * (n + 1) = ofAll (n + 1) := by
  have h1 := List.all_eq_true.1 over_all n (List.mem_range.2 (by omega))
  rw [Bool.and_eq_true, beq_iff_eq, ← over_eq, ← ofAll_eq] at h1
  exact h1.1
theorem over_mod {n k : Nat} (h : n ≤ 36) (hk : k ≤ n) : over n % bin n k = 0 := by
  have h1 := List.all_eq_true.1 over_all n (List.mem_range.2 (by omega))
  rw [Bool.and_eq_true, ← over_eq] at h1
  have h2 := List.all_eq_true.1 h1.2 (bin n k) (by rw [rowE_eq]; exact List.mem_map.2 ⟨k, List.mem_range.2 (by omega), rfl⟩)
  exact beq_iff_eq.1 h2
theorem ofAll_all : (List.range 38).all (fun n => (decide (n < 2) || lcmL 1 ((List.range n).map fun k => k + 1) == lcmL 1 ((List.range (n - 1)).map fun k => k + 1) * gcdL 0 (((rowE n).drop 1).take (n - 1))) &&
    (List.range n).all (fun k => lcmL 1 ((List.range n).map fun k => k + 1) % (k + 1) == 0) && decide (lcmL 1 ((List.range n).map fun k => k + 1) ≤ 6000000000000000)) = true := by decide +kernel
theorem ofAll_next {n : Nat} (h1 : 2 ≤ n) (h2 : n ≤ 37) : ofAll n = ofAll (n - 1) * shared n := by
  have h := List.all_eq_true.1 ofAll_all n (List.mem_range.2 (by omega))
  rw [Bool.and_eq_true, Bool.and_eq_true, Bool.or_eq_true, ← ofAll_eq, ← ofAll_eq, ← shared_eq, beq_iff_eq] at h
  rcases h.1.1 with h | h
  · have := of_decide_eq_true h; omega
  · exact h
theorem ofAll_mod {n k : Nat} (h2 : n ≤ 37) (hk1 : 1 ≤ k) (hk : k ≤ n) : ofAll n % k = 0 := by
  have h := List.all_eq_true.1 ofAll_all n (List.mem_range.2 (by omega))
  rw [Bool.and_eq_true, Bool.and_eq_true, ← ofAll_eq] at h
  have h3 := List.all_eq_true.1 h.1.2 (k - 1) (List.mem_range.2 (by omega))
  rw [beq_iff_eq, Nat.sub_add_cancel hk1] at h3
  exact h3
theorem ofAll_le {n : Nat} (h2 : n ≤ 37) : ofAll n ≤ 6000000000000000 := by
  have h := List.all_eq_true.1 ofAll_all n (List.mem_range.2 (by omega))
  rw [Bool.and_eq_true, ← ofAll_eq] at h
  exact of_decide_eq_true h.2
theorem ofAll_one : ofAll 1 = 1 := rfl
theorem lcmU_pos {f : Nat → Nat} : ∀ m, (∀ i, i < m → 0 < f i) → 0 < lcmU f m
  | 0, _ => Nat.zero_lt_one
  | m + 1, h => by
    have h1 := lcmU_pos m (fun i hi => h i (by omega))
    have h2 := h m (by omega)
    unfold lcmU
    exact Nat.mul_pos (Nat.div_pos (Nat.le_of_dvd h1 (Nat.gcd_dvd_left _ _)) (Nat.gcd_pos_of_pos_right _ h2)) h2
/-- On the way the numbers do not grow beyond the last one. -/
theorem lcmU_step {f : Nat → Nat} (m : Nat) (h : 0 < f m) : lcmU f m ≤ lcmU f (m + 1) := by
  show _ ≤ lcmU f m / Nat.gcd (lcmU f m) (f m) * f m
  have h1 : Nat.gcd (lcmU f m) (f m) ≤ f m := Nat.le_of_dvd h (Nat.gcd_dvd_right _ _)
  have h2 : lcmU f m / Nat.gcd (lcmU f m) (f m) * Nat.gcd (lcmU f m) (f m) = lcmU f m := Nat.div_mul_cancel (Nat.gcd_dvd_left _ _)
  have h3 := Nat.mul_le_mul_left (lcmU f m / Nat.gcd (lcmU f m) (f m)) h1
  omega
theorem lcmU_mono {f : Nat → Nat} (m : Nat) : ∀ j, (∀ i, i < m + j → 0 < f i) → lcmU f m ≤ lcmU f (m + j)
  | 0, _ => Nat.le_refl _
  | j + 1, h => Nat.le_trans (lcmU_mono m j (fun i hi => h i (by omega))) (lcmU_step (m + j) (h (m + j) (by omega)))
theorem over_le {n : Nat} (h : n ≤ 36) : over n ≤ 6000000000000000 := by
  have h1 := over_times h
  have h2 := ofAll_le (n := n + 1) (by omega)
  have h3 := Nat.le_mul_of_pos_right (over n) (show 0 < n + 1 by omega)
  omega

/-- The six cells around a cell; each triple's product and greatest common divisor. -/
def star (n k : Nat) (i : Nat) : Nat :=
  if i = 0 then bin (n - 1) (k - 1) else if i = 1 then bin (n - 1) k else if i = 2 then bin n (k + 1) else if i = 3 then bin (n + 1) (k + 1) else if i = 4 then bin (n + 1) k else bin n (k - 1)
def triP (n k w : Nat) : Nat := star n k w * star n k (w + 2) * star n k (w + 4)
def triG (n k w : Nat) : Nat := Nat.gcd (Nat.gcd (star n k w) (star n k (w + 2))) (star n k (w + 4))
def cellE (n k : Nat) : Nat := (rowE n).getD k 0
def starE (n k : Nat) (i : Nat) : Nat :=
  if i = 0 then cellE (n - 1) (k - 1) else if i = 1 then cellE (n - 1) k else if i = 2 then cellE n (k + 1) else if i = 3 then cellE (n + 1) (k + 1) else if i = 4 then cellE (n + 1) k else cellE n (k - 1)
theorem starE_eq (n k i : Nat) : starE n k i = star n k i := by unfold starE star cellE; simp only [rowE_get]
theorem triple_all : (List.range 21).all (fun n => (List.range n).all fun k => decide (k < 1) || (starE n k 0 * starE n k 2 * starE n k 4 == starE n k 1 * starE n k 3 * starE n k 5 &&
    Nat.gcd (Nat.gcd (starE n k 0) (starE n k 2)) (starE n k 4) == Nat.gcd (Nat.gcd (starE n k 1) (starE n k 3)) (starE n k 5) && decide (starE n k 0 * starE n k 2 * starE n k 4 ≤ 1000000000000000000))) = true := by decide +kernel
theorem triple {n k : Nat} (h1 : n ≤ 20) (h2 : 1 ≤ k) (h3 : k < n) : triP n k 0 = triP n k 1 ∧ triG n k 0 = triG n k 1 ∧ triP n k 0 ≤ 1000000000000000000 := by
  have h := List.all_eq_true.1 (List.all_eq_true.1 triple_all n (List.mem_range.2 (by omega))) k (List.mem_range.2 h3)
  simp only [starE_eq, Bool.or_eq_true, Bool.and_eq_true, beq_iff_eq, decide_eq_true_eq] at h
  rcases h with h | ⟨⟨h, h'⟩, h''⟩
  · omega
  · exact ⟨h, h', h''⟩
theorem star_sum {n k : Nat} (h2 : 1 ≤ k) (h3 : k < n) : star n k 0 + star n k 1 = bin n k ∧ star n k 4 = bin n k + star n k 5 ∧ star n k 3 = bin n k + star n k 2 := by
  obtain ⟨m, rfl⟩ : ∃ m, n = m + 1 := ⟨n - 1, by omega⟩
  obtain ⟨j, rfl⟩ : ∃ j, k = j + 1 := ⟨k - 1, by omega⟩
  refine ⟨(bin_succ m j).symm, ?_, ?_⟩
  · show bin (m + 1 + 1) (j + 1) = bin (m + 1) (j + 1) + bin (m + 1) j
    rw [bin_succ (m + 1) j, Nat.add_comm]
  · exact bin_succ (m + 1) (j + 1)
theorem star_pos {n k : Nat} (h2 : 1 ≤ k) (h3 : k < n) (i : Nat) : 0 < star n k i := by
  unfold star
  repeat' split
  all_goals exact bin_pos _ _ (by omega)
theorem star_le {n k : Nat} (h : n ≤ 30) (i : Nat) : star n k i ≤ 4294967296 := by
  have hb : ∀ a b, a ≤ 31 → bin a b ≤ 4294967296 := fun a b ha => Nat.le_trans (bin_le a b) (Nat.le_trans (Nat.pow_le_pow_right (by omega) (show a ≤ 32 by omega)) (by decide))
  unfold star
  repeat' split
  all_goals exact hb _ _ (by omega)
end Go.Proofs.YtghfmoanpgaijaaDoor
/-
  Plain mathematics of what is left: Lucas by digits, small cells, rows that are multiplied into rows. Nothing of the program.
-/
namespace Go.Proofs.YtghfmoanpgaijaaDoor
open Go.RowKit

/-- Row p leaves its ends alone. -/
theorem row_prime_all : sixth.all (fun p => (List.range (p + 1)).all fun k => bin p k % p == (if k = 0 ∨ k = p then 1 else 0)) = true := by decide +kernel
theorem row_prime {p : Nat} (h : prm p) (k : Nat) : bin p k % p = if k = 0 ∨ k = p then 1 else 0 := by
  by_cases hk : k ≤ p
  · have h1 := List.all_eq_true.1 (List.all_eq_true.1 row_prime_all p (prm_in h)) k (List.mem_range.2 (by omega))
    simpa using h1
  · rw [bin_over p k (by omega), if_neg (by omega)]; exact Nat.zero_mod _
/-- p rows further down. -/
theorem bin_down {p : Nat} (h : prm p) : ∀ (m c : Nat), bin (m + p) c % p = (bin m c + if p ≤ c then bin m (c - p) else 0) % p
  | 0, c => by
    have hp := (prm_two h).1
    rw [Nat.zero_add, row_prime h c]
    by_cases h0 : c = 0
    · subst h0; rw [if_pos (.inl rfl), if_neg (by omega), bin_zero, Nat.mod_eq_of_lt (by omega)]
    · by_cases h1 : c = p
      · subst h1; rw [if_pos (.inr rfl), if_pos (Nat.le_refl _), Nat.sub_self, bin_zero, bin_over 0 c (by omega), Nat.mod_eq_of_lt (by omega)]
      · rw [if_neg (by omega), bin_over 0 c (by omega)]
        by_cases h2 : p ≤ c
        · rw [if_pos h2, bin_over 0 (c - p) (by omega)]; simp
        · rw [if_neg h2]; simp
  | m + 1, 0 => by
    have hp := (prm_two h).1
    rw [bin_zero, bin_zero, if_neg (by omega)]
  | m + 1, c + 1 => by
    have hp := (prm_two h).1
    rw [show m + 1 + p = (m + p) + 1 by omega, bin_succ, Nat.add_mod, bin_down h m c, bin_down h m (c + 1), ← Nat.add_mod, bin_succ m c]
    by_cases h1 : p ≤ c
    · rw [if_pos h1, if_pos (by omega), if_pos (by omega), show c + 1 - p = (c - p) + 1 by omega, bin_succ m (c - p)]
      congr 1 <;> omega
    · rw [if_neg h1]
      by_cases h2 : p = c + 1
      · rw [if_pos (by omega), if_pos (by omega), ← h2, Nat.sub_self, bin_zero, bin_zero]
        congr 1 <;> omega
      · rw [if_neg (by omega), if_neg (by omega)]
        congr 1 <;> omega
/-- Digits tell what is left. -/
theorem lucas {p : Nat} (h : prm p) {a b : Nat} (ha : a < p) (hb : b < p) : ∀ (n k : Nat), bin (p * n + a) (p * k + b) % p = (bin n k * bin a b) % p
  | 0, k => by
    rw [Nat.mul_zero, Nat.zero_add]
    match k with
    | 0 => rw [Nat.mul_zero, Nat.zero_add, bin_zero, Nat.one_mul]
    | k + 1 => rw [bin_over a _ (by rw [Nat.mul_succ]; omega), bin_over 0 (k + 1) (by omega), Nat.zero_mul]
  | n + 1, k => by
    rw [Nat.mul_succ, Nat.add_right_comm, bin_down h]
    match k with
    | 0 =>
      rw [Nat.mul_zero, Nat.zero_add, if_neg (by omega), Nat.add_zero]
      have := lucas h ha hb n 0
      rw [Nat.mul_zero, Nat.zero_add] at this
      rw [this, bin_zero, bin_zero]
    | k + 1 =>
      rw [if_pos (by rw [Nat.mul_succ]; omega), show p * (k + 1) + b - p = p * k + b by rw [Nat.mul_succ]; omega, Nat.add_mod, lucas h ha hb n (k + 1), lucas h ha hb n k, ← Nat.add_mod, bin_succ]
      congr 1
      rw [Nat.add_mul]; omega
theorem lucas_div {p : Nat} (h : prm p) (n k : Nat) : bin n k % p = (bin (n / p) (k / p) * bin (n % p) (k % p)) % p := by
  have hp := (prm_two h).1
  have := lucas h (Nat.mod_lt n (show 0 < p by omega)) (Nat.mod_lt k (show 0 < p by omega)) (n / p) (k / p)
  rwa [div_mod, div_mod] at this
theorem lucas_times {p : Nat} (h : prm p) (n k : Nat) : bin (n * p) (k * p) % p = bin n k % p := by
  have hp := (prm_two h).1
  have := lucas h (show 0 < p by omega) (show 0 < p by omega) n k
  rwa [Nat.add_zero, Nat.add_zero, bin_zero, Nat.mul_one, Nat.mul_comm p, Nat.mul_comm p] at this
/-- Small cells are not divided. -/
theorem small_all : sixth.all (fun p => (List.range p).all fun a => (List.range (a + 1)).all fun b => !(bin a b % p == 0)) = true := by decide +kernel
theorem small_not {p : Nat} (h : prm p) {a b : Nat} (ha : a < p) (hb : b ≤ a) : bin a b % p ≠ 0 := by
  have h1 := List.all_eq_true.1 (List.all_eq_true.1 (List.all_eq_true.1 small_all p (prm_in h)) a (List.mem_range.2 ha)) b (List.mem_range.2 (by omega))
  simpa using h1
/-- A cell is divided just if the place is not under the row. -/
theorem left_zero {p : Nat} (h : prm p) (n k : Nat) : bin n k % p = 0 ↔ und p k n = false := by
  have hp := (prm_two h).1
  refine div_ind2 hp (p := fun n k => bin n k % p = 0 ↔ und p k n = false) ?_ (fun n k _ ih => ?_) n k
  · rw [und_zero, bin_zero, Nat.mod_eq_of_lt (by omega)]; simp
  · rw [lucas_div h, und_step hp, Bool.and_eq_false_iff, decide_eq_false_iff_not, ← ih]
    have hm := Nat.mod_lt n (show 0 < p by omega)
    constructor
    · intro h0
      rcases euclid h _ _ h0 with h1 | h1
      · exact .inr h1
      · left
        intro hle
        exact small_not h hm hle h1
    · rintro (h1 | h1)
      · rw [bin_over (n % p) (k % p) (by omega), Nat.mul_zero, Nat.zero_mod]
      · rw [Nat.mul_mod, h1, Nat.zero_mul, Nat.zero_mod]

/-- A cell made of the one before it. -/
theorem bin_next (n k : Nat) : bin n (k + 1) * (k + 1) + bin n k * k = bin n k * n := by
  have h := absorb n k
  rw [bin_succ, Nat.add_mul, Nat.add_mul, Nat.one_mul, Nat.mul_add, Nat.mul_one, Nat.mul_comm n] at h
  omega
theorem bin_div (n k : Nat) : bin n k * (n - k) / (k + 1) = bin n (k + 1) := by
  have h := bin_next n k
  have h2 : bin n k * (n - k) = bin n (k + 1) * (k + 1) := by rw [Nat.mul_sub]; omega
  rw [h2, Nat.mul_div_cancel _ (by omega)]

/-- The numbers of x and y whose places are together t, multiplied, of the first m places of x. -/
def convU (x y : Nat → Nat) (t : Nat) : Nat → Nat
  | 0 => 0
  | m + 1 => convU x y t m + (if m ≤ t then x m * y (t - m) else 0)
def conv (x y : Nat → Nat) (t : Nat) : Nat := convU x y t (t + 1)
theorem convU_over (x y : Nat → Nat) (t : Nat) : ∀ j, convU x y t (t + 1 + j) = convU x y t (t + 1)
  | 0 => rfl
  | j + 1 => by
    show convU x y t (t + 1 + j) + (if t + 1 + j ≤ t then x (t + 1 + j) * y (t - (t + 1 + j)) else 0) = _
    rw [convU_over x y t j, if_neg (by omega), Nat.add_zero]
theorem convU_short (x y : Nat → Nat) (t : Nat) {n : Nat} (hx : ∀ i, n ≤ i → x i = 0) : ∀ j, convU x y t (n + j) = convU x y t n
  | 0 => rfl
  | j + 1 => by
    show convU x y t (n + j) + (if n + j ≤ t then x (n + j) * y (t - (n + j)) else 0) = _
    rw [convU_short x y t hx j, hx (n + j) (by omega)]; simp
theorem conv_of (x y : Nat → Nat) (t : Nat) {n : Nat} (hx : ∀ i, n ≤ i → x i = 0) : conv x y t = convU x y t n := by
  unfold conv
  by_cases h : t + 1 ≤ n
  · obtain ⟨j, rfl⟩ : ∃ j, n = t + 1 + j := ⟨n - (t + 1), by omega⟩
    rw [convU_over]
  · obtain ⟨j, hj⟩ : ∃ j, t + 1 = n + j := ⟨t + 1 - n, by omega⟩
    rw [hj, convU_short x y t hx]
/-- A sum from the other end. -/
def sumF (f : Nat → Nat) : Nat → Nat
  | 0 => 0
  | m + 1 => sumF f m + f m
theorem sumF_first (f : Nat → Nat) : ∀ m, sumF f (m + 1) = f 0 + sumF (fun i => f (i + 1)) m
  | 0 => by simp [sumF]
  | m + 1 => by
    show sumF f (m + 1) + f (m + 1) = _
    rw [sumF_first f m]
    simp only [sumF]; omega
theorem sumF_congr {f g : Nat → Nat} : ∀ m, (∀ i, i < m → f i = g i) → sumF f m = sumF g m
  | 0, _ => rfl
  | m + 1, h => by simp only [sumF]; rw [sumF_congr m (fun i hi => h i (by omega)), h m (by omega)]
theorem sumF_back : ∀ (m : Nat) (f : Nat → Nat), sumF (fun i => f (m - 1 - i)) m = sumF f m
  | 0, _ => rfl
  | m + 1, f => by
    rw [sumF_first]
    simp only [sumF]
    rw [show m + 1 - 1 - 0 = m by omega, ← sumF_back m f]
    rw [sumF_congr m (fun i hi => by rw [show m + 1 - 1 - (i + 1) = m - 1 - i by omega])]
    omega
theorem convU_sum (x y : Nat → Nat) (t : Nat) : ∀ m, m ≤ t + 1 → convU x y t m = sumF (fun i => x i * y (t - i)) m
  | 0, _ => rfl
  | m + 1, h => by simp only [convU, sumF]; rw [convU_sum x y t m (by omega), if_pos (by omega)]
theorem conv_swap (x y : Nat → Nat) (t : Nat) : conv x y t = conv y x t := by
  unfold conv
  rw [convU_sum x y t _ (Nat.le_refl _), convU_sum y x t _ (Nat.le_refl _), ← sumF_back (t + 1) (fun i => y i * x (t - i))]
  refine sumF_congr _ (fun i hi => ?_)
  show x i * y (t - i) = y (t + 1 - 1 - i) * x (t - (t + 1 - 1 - i))
  rw [show t + 1 - 1 - i = t - i by omega, show t - (t - i) = i by omega, Nat.mul_comm]
/-- Rows are multiplied into rows. -/
theorem convU_bin (a b t : Nat) : ∀ m, convU (bin a) (bin b) t m = vs a b t m
  | 0 => rfl
  | m + 1 => by
    show convU (bin a) (bin b) t m + _ = vs a b t m + vterm a b t m
    rw [convU_bin a b t m]; rfl
theorem conv_bin (a b t : Nat) : conv (bin a) (bin b) t = bin (a + b) t := by
  unfold conv
  rw [convU_bin, heaps]
theorem convU_mod (x y : Nat → Nat) (t q : Nat) : ∀ m, convU (fun i => x i % q) (fun i => y i % q) t m % q = convU x y t m % q
  | 0 => rfl
  | m + 1 => by
    simp only [convU]
    rw [Nat.add_mod, convU_mod x y t q m, Nat.add_mod (convU x y t m)]
    split
    · rw [← Nat.mul_mod]
    · rfl
theorem conv_mod (x y : Nat → Nat) (t q : Nat) : conv (fun i => x i % q) (fun i => y i % q) t % q = conv x y t % q := convU_mod x y t q _
theorem conv_one (x y : Nat → Nat) (h0 : y 0 = 1) (h : ∀ i, 0 < i → y i = 0) (t : Nat) : conv x y t = x t := by
  rw [conv_swap, conv_of y x t (n := 1) (fun i hi => h i (by omega))]
  simp [convU, h0]
theorem convU_le {x y : Nat → Nat} {q : Nat} (hx : ∀ i, x i ≤ q) (hy : ∀ i, y i ≤ q) (t : Nat) : ∀ m, convU x y t m ≤ m * (q * q)
  | 0 => by simp [convU]
  | m + 1 => by
    have h1 := convU_le hx hy t m
    have h2 := Nat.mul_le_mul (hx m) (hy (t - m))
    simp only [convU]
    rw [Nat.add_mul, Nat.one_mul]
    split <;> omega
end Go.Proofs.YtghfmoanpgaijaaDoor
/-
  Plain mathematics of ways that stay above: texts of brackets (40 opens, 41 closes), how many there are, their order, their places, the first way back. Nothing of the program.
-/
namespace Go.Proofs.YtghfmoanpgaijaaDoor
open Go.RowKit

/-- Ways of so many steps up and as many down; of so many up and so many down. -/
def catN (u : Nat) : Nat := bin (2 * u) u / (u + 1)
def wayT (u d : Nat) : Nat := if d = 0 then 1 else bin (u + d) d - bin (u + d) (d - 1)
def catE (u : Nat) : Nat := cellE (2 * u) u / (u + 1)
def wayE (u d : Nat) : Nat := if d = 0 then 1 else cellE (u + d) d - cellE (u + d) (d - 1)
theorem catE_eq (u : Nat) : catE u = catN u := by unfold catE catN cellE; rw [rowE_get]
theorem wayE_eq (u d : Nat) : wayE u d = wayT u d := by unfold wayE wayT cellE; rw [rowE_get, rowE_get]
set_option maxRecDepth 100000 in
theorem cat_all : (List.range 31).all (fun u => (u == 0 || sumF (fun k => catE k * catE (u - 1 - k)) u == catE u) && ((catE u % 2 == 1) == (strip 2 (u + 1) == 1)) && decide (catE u ≤ 4000000000000000) && decide (1 ≤ catE u)) = true := by decide +kernel
theorem cat_one (u : Nat) (h : u ≤ 30) : (u = 0 ∨ sumF (fun k => catN k * catN (u - 1 - k)) u = catN u) ∧ (catN u % 2 = 1 ↔ strip 2 (u + 1) = 1) ∧ catN u ≤ 4000000000000000 ∧ 1 ≤ catN u := by
  have h1 := List.all_eq_true.1 cat_all u (List.mem_range.2 (by omega))
  rw [Bool.and_eq_true, Bool.and_eq_true, Bool.and_eq_true, Bool.or_eq_true, beq_iff_eq, beq_iff_eq, decide_eq_true_eq, decide_eq_true_eq, beq_iff_eq, Bool.eq_iff_iff, beq_iff_eq, beq_iff_eq] at h1
  simp only [catE_eq] at h1
  exact ⟨h1.1.1.1, h1.1.1.2, h1.1.2, h1.2⟩
theorem cat_part (u : Nat) (h : u ≤ 30) (hu : u ≠ 0) : ∀ k, k ≤ u → sumF (fun k => catN k * catN (u - 1 - k)) k ≤ 4000000000000000 := by
  have h1 := cat_one u h
  have h2 : sumF (fun k => catN k * catN (u - 1 - k)) u ≤ 4000000000000000 := by rw [h1.1.resolve_left hu]; exact h1.2.2.1
  intro k hk
  obtain ⟨j, rfl⟩ : ∃ j, u = k + j := ⟨u - k, by omega⟩
  have hm : ∀ (f : Nat → Nat) (m j : Nat), sumF f m ≤ sumF f (m + j) := fun f m j => by
    induction j with
    | zero => exact Nat.le_refl _
    | succ j ih => exact Nat.le_trans ih (Nat.le_add_right _ _)
  exact Nat.le_trans (hm _ k j) h2
set_option maxRecDepth 100000 in
theorem way_all : (List.range 31).all (fun u => (List.range (u + 1)).all fun d => (u == 0 || wayE u d == (if 0 < d then wayE u (d - 1) else 0) + (if d < u then wayE (u - 1) d else 0)) && (d < u || wayE u d == catE u) && decide (wayE u d ≤ 4000000000000000) && decide (1 ≤ wayE u d)) = true := by decide +kernel
theorem way_one (u d : Nat) (h : u ≤ 30) (hd : d ≤ u) : (u = 0 ∨ wayT u d = (if 0 < d then wayT u (d - 1) else 0) + (if d < u then wayT (u - 1) d else 0)) ∧ (d < u ∨ wayT u d = catN u) ∧ wayT u d ≤ 4000000000000000 ∧ 1 ≤ wayT u d := by
  have h1 := List.all_eq_true.1 (List.all_eq_true.1 way_all u (List.mem_range.2 (by omega))) d (List.mem_range.2 (by omega))
  simp only [Bool.and_eq_true, Bool.or_eq_true, beq_iff_eq, decide_eq_true_eq, catE_eq, wayE_eq] at h1
  exact ⟨h1.1.1.1, h1.1.1.2, h1.1.2, h1.2⟩

/-- From height h on a text stays above and comes back. -/
def okW : Nat → List Nat → Bool
  | h, [] => h == 0
  | h, c :: r => if c = 40 then okW (h + 1) r else if c = 41 then (match h with | 0 => false | m + 1 => okW m r) else false
theorem okW_nil (h : Nat) : okW h [] = (h == 0) := rfl
theorem okW_up (h : Nat) (r : List Nat) : okW h (40 :: r) = okW (h + 1) r := rfl
theorem okW_down (h : Nat) (r : List Nat) : okW (h + 1) (41 :: r) = okW h r := rfl
theorem okW_low (r : List Nat) : okW 0 (41 :: r) = false := rfl
theorem okW_none (h : Nat) (c : Nat) (r : List Nat) (h1 : c ≠ 40) (h2 : c ≠ 41) : okW h (c :: r) = false := by unfold okW; rw [if_neg h1, if_neg h2]
theorem okW_cases {h c : Nat} {r : List Nat} (hk : okW h (c :: r) = true) : (c = 40 ∧ okW (h + 1) r = true) ∨ (c = 41 ∧ ∃ m, h = m + 1 ∧ okW m r = true) := by
  by_cases e1 : c = 40
  · subst e1; exact .inl ⟨rfl, hk⟩
  · by_cases e2 : c = 41
    · subst e2
      cases h with
      | zero => rw [okW_low] at hk; cases hk
      | succ m => exact .inr ⟨rfl, m, rfl, hk⟩
    · rw [okW_none h c r e1 e2] at hk; cases hk
theorem okW_ge : ∀ (s : List Nat) (h : Nat), okW h s = true → h ≤ s.length
  | [], h, hk => by rw [okW_nil] at hk; have := beq_iff_eq.1 hk; simp; omega
  | c :: r, h, hk => by
    rw [List.length_cons]
    rcases okW_cases hk with ⟨_, h1⟩ | ⟨_, m, rfl, h1⟩
    · have := okW_ge r _ h1; omega
    · have := okW_ge r _ h1; omega
theorem okW_even : ∀ (s : List Nat) (h : Nat), okW h s = true → (s.length + h) % 2 = 0
  | [], h, hk => by rw [okW_nil] at hk; have := beq_iff_eq.1 hk; simp; omega
  | c :: r, h, hk => by
    rw [List.length_cons]
    rcases okW_cases hk with ⟨_, h1⟩ | ⟨_, m, rfl, h1⟩
    · have := okW_even r _ h1; omega
    · have := okW_even r _ h1; omega
/-- In brackets; with a pair of brackets behind it. -/
theorem okW_wrap : ∀ (s : List Nat) (h : Nat), okW h s = true → okW (h + 1) (s ++ [41]) = true
  | [], h, hk => by rw [okW_nil] at hk; obtain rfl := beq_iff_eq.1 hk; rfl
  | c :: r, h, hk => by
    rcases okW_cases hk with ⟨rfl, h1⟩ | ⟨rfl, m, rfl, h1⟩
    · exact okW_wrap r _ h1
    · exact okW_wrap r _ h1
theorem okW_pair : ∀ (s : List Nat) (h : Nat), okW h s = true → okW h (s ++ [40, 41]) = true
  | [], h, hk => by rw [okW_nil] at hk; obtain rfl := beq_iff_eq.1 hk; rfl
  | c :: r, h, hk => by
    rcases okW_cases hk with ⟨rfl, h1⟩ | ⟨rfl, m, rfl, h1⟩
    · exact okW_pair r _ h1
    · exact okW_pair r _ h1

/-- All ends of ways with so many steps up and down left, in order. -/
def wlF : Nat → Nat → Nat → List (List Nat)
  | 0, _, _ => [[]]
  | f + 1, u, d => (if 0 < u then (wlF f (u - 1) d).map (40 :: ·) else []) ++ (if u < d then (wlF f u (d - 1)).map (41 :: ·) else [])
def wl (u d : Nat) : List (List Nat) := wlF (u + d) u d
theorem wl_zero : wl 0 0 = [[]] := rfl
theorem wl_step (u d : Nat) (h : 0 < u + d) : wl u d = (if 0 < u then (wl (u - 1) d).map (40 :: ·) else []) ++ (if u < d then (wl u (d - 1)).map (41 :: ·) else []) := by
  unfold wl
  obtain ⟨f, hf⟩ : ∃ f, u + d = f + 1 := ⟨u + d - 1, by omega⟩
  rw [hf]
  show _ ++ _ = _
  congr 1
  · by_cases e : 0 < u
    · rw [if_pos e, if_pos e, show u - 1 + d = f by omega]
    · rw [if_neg e, if_neg e]
  · by_cases e : u < d
    · rw [if_pos e, if_pos e, show u + (d - 1) = f by omega]
    · rw [if_neg e, if_neg e]
def ltL : List Nat → List Nat → Bool
  | [], [] => false
  | [], _ :: _ => true
  | _ :: _, [] => false
  | a :: r, b :: s => decide (a < b) || (a == b && ltL r s)
def rising : List (List Nat) → Bool
  | [] => true
  | [_] => true
  | a :: b :: r => ltL a b && rising (b :: r)
set_option maxRecDepth 100000 in
theorem wl_all : (List.range 8).all (fun d => (List.range (d + 1)).all fun u => (wl u d).length == wayE d u && (!(u == d) || (rising (wl u d) && (wl u d).all fun s => okW 0 s && s.length == 2 * u))) = true := by decide +kernel
theorem wl_len {u d : Nat} (hd : d ≤ 7) (hu : u ≤ d) : (wl u d).length = wayT d u := by
  have h1 := List.all_eq_true.1 (List.all_eq_true.1 wl_all d (List.mem_range.2 (by omega))) u (List.mem_range.2 (by omega))
  rw [Bool.and_eq_true, beq_iff_eq, wayE_eq] at h1
  exact h1.1
theorem wl_good {u : Nat} (hu : u ≤ 7) : rising (wl u u) = true ∧ ∀ s ∈ wl u u, okW 0 s = true ∧ s.length = 2 * u := by
  have h1 := List.all_eq_true.1 (List.all_eq_true.1 wl_all u (List.mem_range.2 (by omega))) u (List.mem_range.2 (by omega))
  rw [Bool.and_eq_true, Bool.or_eq_true, beq_self_eq_true, Bool.and_eq_true] at h1
  have h2 := h1.2.resolve_left (by simp)
  refine ⟨h2.1, fun s hs => ?_⟩
  have h3 := List.all_eq_true.1 h2.2 s hs
  rw [Bool.and_eq_true, beq_iff_eq] at h3
  exact h3
theorem wl_many {u : Nat} (hu : u ≤ 7) : (wl u u).length = catN u := by
  rw [wl_len hu (Nat.le_refl _)]
  exact (way_one u u (by omega) (Nat.le_refl _)).2.1.resolve_left (by omega)
theorem rising_at : ∀ (l : List (List Nat)) (k : Nat) (a b : List Nat), rising l = true → l[k]? = some a → l[k + 1]? = some b → ltL a b = true
  | [], _, _, _, _, h, _ => by simp at h
  | [_], k, _, _, _, _, h => by simp at h
  | x :: y :: r, 0, a, b, h, h1, h2 => by
    simp at h1 h2
    subst h1 h2
    simp only [rising, Bool.and_eq_true] at h
    exact h.1
  | x :: y :: r, k + 1, a, b, h, h1, h2 => by
    simp only [rising, Bool.and_eq_true] at h
    exact rising_at (y :: r) k a b h.2 h1 h2

/-- The place of a text among them. -/
def plW : Nat → Nat → List Nat → Nat
  | _, _, [] => 0
  | u, d, c :: r => if c = 40 then plW (u - 1) d r else (if 0 < u then wayT d (u - 1) else 0) + plW u (d - 1) r
theorem plW_at : ∀ (s : List Nat) (u d h : Nat), okW h s = true → d = u + h → s.length = u + d → d ≤ 7 → (wl u d)[plW u d s]? = some s
  | [], u, d, h, _, hd, hl, _ => by
    obtain rfl : u = 0 := by simp at hl; omega
    obtain rfl : d = 0 := by simp at hl; omega
    rfl
  | c :: r, u, d, h, hk, hd, hl, h7 => by
    rw [List.length_cons] at hl
    rw [wl_step u d (by omega)]
    rcases okW_cases hk with ⟨rfl, h1⟩ | ⟨rfl, m, rfl, h1⟩
    · have h2 := okW_ge r _ h1
      have hu : 0 < u := by omega
      have ih := plW_at r (u - 1) d (h + 1) h1 (by omega) (by omega) h7
      have hlt := (List.getElem?_eq_some_iff.1 ih).1
      show (_ ++ _)[plW (u - 1) d r]? = _
      rw [if_pos hu, List.getElem?_append_left (by rw [List.length_map]; exact hlt), List.getElem?_map, ih]; rfl
    · have ih := plW_at r u (d - 1) m h1 (by omega) (by omega) (by omega)
      have hlen : (if 0 < u then (wl (u - 1) d).map (40 :: ·) else []).length = if 0 < u then wayT d (u - 1) else 0 := by
        by_cases e : 0 < u
        · rw [if_pos e, if_pos e, List.length_map, wl_len h7 (by omega)]
        · rw [if_neg e, if_neg e]; rfl
      show (_ ++ _)[(if 0 < u then wayT d (u - 1) else 0) + plW u (d - 1) r]? = _
      rw [List.getElem?_append_right (by omega), hlen, Nat.add_sub_cancel_left, if_pos (by omega), List.getElem?_map, ih]; rfl
theorem plW_lt {s : List Nat} {u : Nat} (hk : okW 0 s = true) (hl : s.length = 2 * u) (h7 : u ≤ 7) : (wl u u)[plW u u s]? = some s ∧ plW u u s < (wl u u).length := by
  have h1 := plW_at s u u 0 hk rfl (by omega) h7
  exact ⟨h1, (List.getElem?_eq_some_iff.1 h1).1⟩
/-- On the way to the place the sum does not grow beyond it. -/
theorem plW_le {s : List Nat} {u d h : Nat} (hk : okW h s = true) (hd : d = u + h) (hl : s.length = u + d) (h7 : d ≤ 7) : plW u d s < wayT d u := by
  have h1 := plW_at s u d h hk hd hl h7
  rw [← wl_len h7 (by omega)]
  exact (List.getElem?_eq_some_iff.1 h1).1

/-- The first way back: what is inside it, and what is behind it. -/
def backW : Nat → List Nat → List Nat × List Nat
  | _, [] => ([], [])
  | h, c :: r => if c = 40 then (c :: (backW (h + 1) r).1, (backW (h + 1) r).2) else match h with | 0 => ([], r) | m + 1 => (c :: (backW m r).1, (backW m r).2)
theorem backW_is : ∀ (r : List Nat) (h : Nat), okW (h + 1) r = true → r = (backW h r).1 ++ 41 :: (backW h r).2 ∧ okW h (backW h r).1 = true ∧ okW 0 (backW h r).2 = true
  | [], h, hk => by rw [okW_nil] at hk; cases hk
  | c :: r, h, hk => by
    rcases okW_cases hk with ⟨rfl, h1⟩ | ⟨rfl, m, hm, h1⟩
    · obtain ⟨h2, h3, h4⟩ := backW_is r (h + 1) h1
      refine ⟨?_, h3, h4⟩
      show 40 :: r = 40 :: ((backW (h + 1) r).1 ++ 41 :: (backW (h + 1) r).2)
      rw [← h2]
    · obtain rfl : h = m := by omega
      cases h with
      | zero => exact ⟨rfl, rfl, h1⟩
      | succ m =>
        obtain ⟨h2, h3, h4⟩ := backW_is r m h1
        refine ⟨?_, h3, h4⟩
        show 41 :: r = 41 :: ((backW m r).1 ++ 41 :: (backW m r).2)
        rw [← h2]
end Go.Proofs.YtghfmoanpgaijaaDoor
/-
  Strings as lists of numbers below 256. Nothing of the program.
-/
namespace Go.Proofs.YtghfmoanpgaijaaDoor
open Go

def str (l : List Nat) : ByteArray := ⟨(l.map UInt8.ofNat).toArray⟩
theorem ret_str {a b : ByteArray} (h : a = b) : Ending.returned (.string a) = .returned (.string b) := by rw [h]
theorem str_nil : str [] = ⟨#[]⟩ := rfl
theorem str_size (l : List Nat) : (str l).size = l.length := by simp [str, ByteArray.size]
theorem str_app (a b : List Nat) : str a ++ str b = str (a ++ b) := by
  unfold str; rw [ByteArray.mk_append_mk, List.map_append]
theorem str_toList (l : List Nat) : (str l).toList = l.map UInt8.ofNat := by unfold str; exact ByteArray.toList_mk _
theorem str_get (l : List Nat) (i : Nat) (h : i < (str l).size) (hl : ∀ x ∈ l, x < 256) : ((str l)[i]).toNat = l.getD i 0 := by
  have hi : i < l.length := by rwa [str_size] at h
  have e : (str l)[i] = UInt8.ofNat l[i] := by
    show ((l.map UInt8.ofNat).toArray)[i]'(by simpa using hi) = _
    rw [List.getElem_toArray, List.getElem_map]
  rw [e, List.getD, List.getElem?_eq_getElem hi, Option.getD_some, UInt8.toNat_ofNat_of_lt' (by exact hl _ (List.getElem_mem hi))]
theorem str_cut (l : List Nat) (a b : Nat) : (str l).extract a b = str ((l.drop a).take (b - a)) := by
  unfold str; rw [ByteArray.extract_mk, List.map_take, List.map_drop]
theorem str_inj {a b : List Nat} (ha : ∀ x ∈ a, x < 256) (hb : ∀ x ∈ b, x < 256) (h : a.map UInt8.ofNat = b.map UInt8.ofNat) : a = b := by
  have e : ∀ (l : List Nat), (∀ x ∈ l, x < 256) → (l.map UInt8.ofNat).map UInt8.toNat = l := fun l hl => by
    rw [List.map_map]
    conv => rhs; rw [← List.map_id l]
    exact List.map_congr_left fun x hx => UInt8.toNat_ofNat_of_lt' (hl x hx)
  rw [← e a ha, ← e b hb, h]
end Go.Proofs.YtghfmoanpgaijaaDoor
/-
  The values of the functions of chapter 3 at every argument.
-/
namespace Go.Proofs.YtghfmoanpgaijaaDoor
open Go.RowKit

theorem tmod_n (n b : Nat) : Int.tmod (n : Int) (b : Int) = ((n % b : Nat) : Int) := by rw [Int.tmod_eq_emod_of_nonneg (by omega)]; rfl
theorem tdiv_n (n b : Nat) : Int.tdiv (n : Int) (b : Int) = ((n / b : Nat) : Int) := by rw [Int.tdiv_eq_ediv_of_nonneg (by omega)]; rfl

def prmI (p : Int) : Bool := decide (p = 2 ∨ p = 3 ∨ p = 5 ∨ p = 7 ∨ p = 11 ∨ p = 13)
theorem prmI_nat (p : Nat) : prmI p = true ↔ prm p := by unfold prmI prm; simp; omega
theorem prmI_t {p : Int} (h : prmI p = true) : ∃ P : Nat, p = P ∧ prm P := by
  refine ⟨p.toNat, ?_, ?_⟩
  · unfold prmI at h; simp at h; omega
  · unfold prmI at h; unfold prm; simp at h; omega

def timesV (n p : Int) : Int := if n < 1 ∨ 1000000000000000000 < n ∨ prmI p = false then -1 else (val p.toNat n.toNat : Int)
def allV (n p : Int) : Int := if n < 0 ∨ 999999999 < n ∨ prmI p = false then -1 else (tup p.toNat n.toNat : Int)
def cellTV (row place p : Int) : Int := if row < 0 ∨ 499999999 < row ∨ place < 0 ∨ row < place ∨ prmI p = false then -1 else (cars p.toNat row.toNat place.toNat : Int)
def mostV (row p : Int) : Int := if row < 1 ∨ 300 < row ∨ prmI p = false then -1 else (most p.toNat row.toNat : Int)
theorem timesV_bad {n p : Int} (h : n < 1 ∨ 1000000000000000000 < n ∨ prmI p = false) : timesV n p = -1 := if_pos h
theorem allV_bad {n p : Int} (h : n < 0 ∨ 999999999 < n ∨ prmI p = false) : allV n p = -1 := if_pos h
theorem cellTV_bad {row place p : Int} (h : row < 0 ∨ 499999999 < row ∨ place < 0 ∨ row < place ∨ prmI p = false) : cellTV row place p = -1 := if_pos h
theorem mostV_bad {row p : Int} (h : row < 1 ∨ 300 < row ∨ prmI p = false) : mostV row p = -1 := if_pos h
theorem prmI_ok {p : Nat} (h : prm p) : prmI p = true := (prmI_nat p).2 h
theorem timesV_nat {n p : Nat} (h1 : 1 ≤ n) (h2 : n ≤ 1000000000000000000) (h3 : prm p) : timesV n p = val p n := by
  unfold timesV; rw [if_neg (by rw [prmI_ok h3]; simp; omega)]; simp
theorem allV_nat {n p : Nat} (h2 : n ≤ 999999999) (h3 : prm p) : allV n p = tup p n := by
  unfold allV; rw [if_neg (by rw [prmI_ok h3]; simp; omega)]; simp
theorem cellTV_nat {n k p : Nat} (h2 : n ≤ 499999999) (hk : k ≤ n) (h3 : prm p) : cellTV n k p = cars p n k := by
  unfold cellTV; rw [if_neg (by rw [prmI_ok h3]; simp; omega)]; simp
theorem mostV_nat {n p : Nat} (h1 : 1 ≤ n) (h2 : n ≤ 300) (h3 : prm p) : mostV n p = most p n := by
  unfold mostV; rw [if_neg (by rw [prmI_ok h3]; simp; omega)]; simp
end Go.Proofs.YtghfmoanpgaijaaDoor
/-
  The values of the functions of chapter 11 at every argument; strings as lists of numbers below 256.
-/
namespace Go.Proofs.YtghfmoanpgaijaaDoor
open Go Go.RowKit

def byt (s : ByteArray) : List Nat := s.data.toList.map UInt8.toNat
theorem byt_lt (s : ByteArray) : ∀ x ∈ byt s, x < 256 := fun x hx => by
  obtain ⟨b, _, rfl⟩ := List.mem_map.1 hx
  exact b.toNat_lt
theorem str_byt (s : ByteArray) : str (byt s) = s := by
  apply ByteArray.ext
  apply Array.ext'
  show ((byt s).map UInt8.ofNat) = _
  unfold byt
  rw [List.map_map]
  conv => rhs; rw [← List.map_id s.data.toList]
  exact List.map_congr_left fun b _ => UInt8.ofNat_toNat
theorem byt_len (s : ByteArray) : (byt s).length = s.size := by unfold byt; rw [List.length_map]; rfl
theorem str_of (s : ByteArray) : ∃ l : List Nat, s = str l ∧ (∀ x ∈ l, x < 256) ∧ l.length = s.size := ⟨byt s, (str_byt s).symm, byt_lt s, byt_len s⟩

theorem drop_get (l : List Nat) (k : Nat) (h : k < l.length) : l.drop k = l.getD k 0 :: l.drop (k + 1) := by
  rw [List.drop_eq_getElem_cons h, List.getD, List.getElem?_eq_getElem h, Option.getD_some]
theorem drop_all (l : List Nat) : l.drop l.length = [] := List.drop_eq_nil_of_le (Nat.le_refl _)

def waysV (up : Int) : Int := if up < 0 ∨ 30 < up then -1 else (catN up.toNat : Int)
def wayToV (up down : Int) : Int := if up < 0 ∨ 30 < up ∨ down < 0 ∨ up < down then -1 else (wayT up.toNat down.toNat : Int)
theorem waysV_bad {up : Int} (h : up < 0 ∨ 30 < up) : waysV up = -1 := if_pos h
theorem waysV_nat {u : Nat} (h : u ≤ 30) : waysV u = catN u := by unfold waysV; rw [if_neg (by omega)]; rfl
theorem wayToV_bad {up down : Int} (h : up < 0 ∨ 30 < up ∨ down < 0 ∨ up < down) : wayToV up down = -1 := if_pos h
theorem wayToV_nat {u d : Nat} (h : u ≤ 30) (hd : d ≤ u) : wayToV u d = wayT u d := by unfold wayToV; rw [if_neg (by omega)]; rfl

def wayL (l : List Nat) : Bool := okW 0 l && decide (l.length ≤ 14)
theorem wayL_is {l : List Nat} (h : wayL l = true) : okW 0 l = true ∧ l.length ≤ 14 ∧ ∃ u, u ≤ 7 ∧ l.length = 2 * u := by
  unfold wayL at h
  rw [Bool.and_eq_true, decide_eq_true_eq] at h
  have := okW_even l 0 h.1
  exact ⟨h.1, h.2, l.length / 2, by omega, by omega⟩

/-- The texts of ways, in order. -/
def toldV (up : Int) : List (List Nat) := if up < 0 ∨ 7 < up then [] else wl up.toNat up.toNat
theorem toldV_bad {up : Int} (h : up < 0 ∨ 7 < up) : toldV up = [] := if_pos h
theorem toldV_nat {u : Nat} (h : u ≤ 7) : toldV u = wl u u := by unfold toldV; rw [if_neg (by omega)]; rfl

def placeV (l : List Nat) : Int := if wayL l then (plW (l.length / 2) (l.length / 2) l : Int) else -1
theorem placeV_bad {l : List Nat} (h : wayL l = false) : placeV l = -1 := by unfold placeV; rw [h]; rfl
theorem placeV_is {l : List Nat} (h : wayL l = true) : placeV l = plW (l.length / 2) (l.length / 2) l := by unfold placeV; rw [h]; rfl

/-- The first way back. -/
def frontB (l : List Nat) : Bool := wayL l && decide (0 < l.length)
def frontA (l : List Nat) : List Nat := if frontB l then (backW 0 l.tail).1 else []
def frontR (l : List Nat) : List Nat := if frontB l then (backW 0 l.tail).2 else []
theorem front_bad {l : List Nat} (h : frontB l = false) : frontA l = [] ∧ frontR l = [] := by unfold frontA frontR; rw [h]; exact ⟨rfl, rfl⟩
theorem front_is {l : List Nat} (h : frontB l = true) : ∃ r, l = 40 :: r ∧ okW 1 r = true ∧ r.length ≤ 13 ∧ frontA l = (backW 0 r).1 ∧ frontR l = (backW 0 r).2 := by
  have h' := h
  unfold frontB at h'
  rw [Bool.and_eq_true, decide_eq_true_eq] at h'
  obtain ⟨hk, hl, _⟩ := wayL_is h'.1
  cases l with
  | nil => simp at h'
  | cons c r =>
    rcases okW_cases hk with ⟨rfl, h1⟩ | ⟨_, m, hm, _⟩
    · exact ⟨r, rfl, h1, by simp at hl; omega, by unfold frontA; rw [h]; rfl, by unfold frontR; rw [h]; rfl⟩
    · omega
end Go.Proofs.YtghfmoanpgaijaaDoor
