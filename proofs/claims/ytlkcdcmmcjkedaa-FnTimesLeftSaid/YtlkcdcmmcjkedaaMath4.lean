/-
  Plain mathematics of what is left: Lucas by digits, small cells, rows that are multiplied into rows. Nothing of the program.
-/
import Derived.Test.YtlkcdcmmcjkedaaMath3
namespace Go.Proofs.Ytlkcdcmmcjkedaa
open Go.RowKit

/-- Row p leaves its ends alone. -/
theorem row_prime_all : sixth.all (fun p => (List.range (p + 1)).all fun k => bin p k % p == (if k = 0 ∨ k = p then 1 else 0)) = true := by decide +kernel
theorem row_prime {p : Nat} (h : prm p) (k : Nat) : bin p k % p = if k = 0 ∨ k = p then 1 else 0 := by
  by_cases hk : k ≤ p
  · have h1 := List.all_eq_true.1 (List.all_eq_true.1 row_prime_all p (prm_in h)) k (List.mem_range.2 (by omega))
    simpa using h1
  · rw [bin_over p k (by omega), if_neg (by omega)]; exact Nat.zero_mod _
/-- p rows further down. -/
theorem bin_down {p : Nat} (h : prm p) : ∀ (m c : Nat), bin (m + p) c % p = (bin m c + if p ≤ c then bin m (c - p) else 0) % p
  | 0, c => by
    have hp := (prm_two h).1
    rw [Nat.zero_add, row_prime h c]
    by_cases h0 : c = 0
    · subst h0; rw [if_pos (.inl rfl), if_neg (by omega), bin_zero, Nat.mod_eq_of_lt (by omega)]
    · by_cases h1 : c = p
      · subst h1; rw [if_pos (.inr rfl), if_pos (Nat.le_refl _), Nat.sub_self, bin_zero, bin_over 0 c (by omega), Nat.mod_eq_of_lt (by omega)]
      · rw [if_neg (by omega), bin_over 0 c (by omega)]
        by_cases h2 : p ≤ c
        · rw [if_pos h2, bin_over 0 (c - p) (by omega)]; simp
        · rw [if_neg h2]; simp
  | m + 1, 0 => by
    have hp := (prm_two h).1
    rw [bin_zero, bin_zero, if_neg (by omega)]
  | m + 1, c + 1 => by
    have hp := (prm_two h).1
    rw [show m + 1 + p = (m + p) + 1 by omega, bin_succ, Nat.add_mod, bin_down h m c, bin_down h m (c + 1), ← Nat.add_mod, bin_succ m c]
    by_cases h1 : p ≤ c
    · rw [if_pos h1, if_pos (by omega), if_pos (by omega), show c + 1 - p = (c - p) + 1 by omega, bin_succ m (c - p)]
      congr 1 <;> omega
    · rw [if_neg h1]
      by_cases h2 : p = c + 1
      · rw [if_pos (by omega), if_pos (by omega), ← h2, Nat.sub_self, bin_zero, bin_zero]
        congr 1 <;> omega
      · rw [if_neg (by omega), if_neg (by omega)]
        congr 1 <;> omega
/-- Digits tell what is left. -/
theorem lucas {p : Nat} (h : prm p) {a b : Nat} (ha : a < p) (hb : b < p) : ∀ (n k : Nat), bin (p * n + a) (p * k + b) % p = (bin n k * bin a b) % p
  | 0, k => by
    rw [Nat.mul_zero, Nat.zero_add]
    match k with
    | 0 => rw [Nat.mul_zero, Nat.zero_add, bin_zero, Nat.one_mul]
    | k + 1 => rw [bin_over a _ (by rw [Nat.mul_succ]; omega), bin_over 0 (k + 1) (by omega), Nat.zero_mul]
  | n + 1, k => by
    rw [Nat.mul_succ, Nat.add_right_comm, bin_down h]
    match k with
    | 0 =>
      rw [Nat.mul_zero, Nat.zero_add, if_neg (by omega), Nat.add_zero]
      have := lucas h ha hb n 0
      rw [Nat.mul_zero, Nat.zero_add] at this
      rw [this, bin_zero, bin_zero]
    | k + 1 =>
      rw [if_pos (by rw [Nat.mul_succ]; omega), show p * (k + 1) + b - p = p * k + b by rw [Nat.mul_succ]; omega, Nat.add_mod, lucas h ha hb n (k + 1), lucas h ha hb n k, ← Nat.add_mod, bin_succ]
      congr 1
      rw [Nat.add_mul]; omega
theorem lucas_div {p : Nat} (h : prm p) (n k : Nat) : bin n k % p = (bin (n / p) (k / p) * bin (n % p) (k % p)) % p := by
  have hp := (prm_two h).1
  have := lucas h (Nat.mod_lt n (show 0 < p by omega)) (Nat.mod_lt k (show 0 < p by omega)) (n / p) (k / p)
  rwa [div_mod, div_mod] at this
theorem lucas_times {p : Nat} (h : prm p) (n k : Nat) : bin (n * p) (k * p) % p = bin n k % p := by
  have hp := (prm_two h).1
  have := lucas h (show 0 < p by omega) (show 0 < p by omega) n k
  rwa [Nat.add_zero, Nat.add_zero, bin_zero, Nat.mul_one, Nat.mul_comm p, Nat.mul_comm p] at this
/-- Small cells are not divided. -/
theorem small_all : sixth.all (fun p => (List.range p).all fun a => (List.range (a + 1)).all fun b => !(bin a b % p == 0)) = true := by decide +kernel
theorem small_not {p : Nat} (h : prm p) {a b : Nat} (ha : a < p) (hb : b ≤ a) : bin a b % p ≠ 0 := by
  have h1 := List.all_eq_true.1 (List.all_eq_true.1 (List.all_eq_true.1 small_all p (prm_in h)) a (List.mem_range.2 ha)) b (List.mem_range.2 (by omega))
  simpa using h1
/-- A cell is divided just if the place is not under the row. -/
theorem left_zero {p : Nat} (h : prm p) (n k : Nat) : bin n k % p = 0 ↔ und p k n = false := by
  have hp := (prm_two h).1
  refine div_ind2 hp (p := fun n k => bin n k % p = 0 ↔ und p k n = false) ?_ (fun n k _ ih => ?_) n k
  · rw [und_zero, bin_zero, Nat.mod_eq_of_lt (by omega)]; simp
  · rw [lucas_div h, und_step hp, Bool.and_eq_false_iff, decide_eq_false_iff_not, ← ih]
    have hm := Nat.mod_lt n (show 0 < p by omega)
    constructor
    · intro h0
      rcases euclid h _ _ h0 with h1 | h1
      · exact .inr h1
      · left
        intro hle
        exact small_not h hm hle h1
    · rintro (h1 | h1)
      · rw [bin_over (n % p) (k % p) (by omega), Nat.mul_zero, Nat.zero_mod]
      · rw [Nat.mul_mod, h1, Nat.zero_mul, Nat.zero_mod]

/-- A cell made of the one before it. -/
theorem bin_next (n k : Nat) : bin n (k + 1) * (k + 1) + bin n k * k = bin n k * n := by
  have h := absorb n k
  rw [bin_succ, Nat.add_mul, Nat.add_mul, Nat.one_mul, Nat.mul_add, Nat.mul_one, Nat.mul_comm n] at h
  omega
theorem bin_div (n k : Nat) : bin n k * (n - k) / (k + 1) = bin n (k + 1) := by
  have h := bin_next n k
  have h2 : bin n k * (n - k) = bin n (k + 1) * (k + 1) := by rw [Nat.mul_sub]; omega
  rw [h2, Nat.mul_div_cancel _ (by omega)]

/-- The numbers of x and y whose places are together t, multiplied, of the first m places of x. -/
def convU (x y : Nat → Nat) (t : Nat) : Nat → Nat
  | 0 => 0
  | m + 1 => convU x y t m + (if m ≤ t then x m * y (t - m) else 0)
def conv (x y : Nat → Nat) (t : Nat) : Nat := convU x y t (t + 1)
theorem convU_over (x y : Nat → Nat) (t : Nat) : ∀ j, convU x y t (t + 1 + j) = convU x y t (t + 1)
  | 0 => rfl
  | j + 1 => by
    show convU x y t (t + 1 + j) + (if t + 1 + j ≤ t then x (t + 1 + j) * y (t - (t + 1 + j)) else 0) = _
    rw [convU_over x y t j, if_neg (by omega), Nat.add_zero]
theorem convU_short (x y : Nat → Nat) (t : Nat) {n : Nat} (hx : ∀ i, n ≤ i → x i = 0) : ∀ j, convU x y t (n + j) = convU x y t n
  | 0 => rfl
  | j + 1 => by
    show convU x y t (n + j) + (if n + j ≤ t then x (n + j) * y (t - (n + j)) else 0) = _
    rw [convU_short x y t hx j, hx (n + j) (by omega)]; simp
theorem conv_of (x y : Nat → Nat) (t : Nat) {n : Nat} (hx : ∀ i, n ≤ i → x i = 0) : conv x y t = convU x y t n := by
  unfold conv
  by_cases h : t + 1 ≤ n
  · obtain ⟨j, rfl⟩ : ∃ j, n = t + 1 + j := ⟨n - (t + 1), by omega⟩
    rw [convU_over]
  · obtain ⟨j, hj⟩ : ∃ j, t + 1 = n + j := ⟨t + 1 - n, by omega⟩
    rw [hj, convU_short x y t hx]
/-- A sum from the other end. -/
def sumF (f : Nat → Nat) : Nat → Nat
  | 0 => 0
  | m + 1 => sumF f m + f m
theorem sumF_first (f : Nat → Nat) : ∀ m, sumF f (m + 1) = f 0 + sumF (fun i => f (i + 1)) m
  | 0 => by simp [sumF]
  | m + 1 => by
    show sumF f (m + 1) + f (m + 1) = _
    rw [sumF_first f m]
    simp only [sumF]; omega
theorem sumF_congr {f g : Nat → Nat} : ∀ m, (∀ i, i < m → f i = g i) → sumF f m = sumF g m
  | 0, _ => rfl
  | m + 1, h => by simp only [sumF]; rw [sumF_congr m (fun i hi => h i (by omega)), h m (by omega)]
theorem sumF_back : ∀ (m : Nat) (f : Nat → Nat), sumF (fun i => f (m - 1 - i)) m = sumF f m
  | 0, _ => rfl
  | m + 1, f => by
    rw [sumF_first]
    simp only [sumF]
    rw [show m + 1 - 1 - 0 = m by omega, ← sumF_back m f]
    rw [sumF_congr m (fun i hi => by rw [show m + 1 - 1 - (i + 1) = m - 1 - i by omega])]
    omega
theorem convU_sum (x y : Nat → Nat) (t : Nat) : ∀ m, m ≤ t + 1 → convU x y t m = sumF (fun i => x i * y (t - i)) m
  | 0, _ => rfl
  | m + 1, h => by simp only [convU, sumF]; rw [convU_sum x y t m (by omega), if_pos (by omega)]
theorem conv_swap (x y : Nat → Nat) (t : Nat) : conv x y t = conv y x t := by
  unfold conv
  rw [convU_sum x y t _ (Nat.le_refl _), convU_sum y x t _ (Nat.le_refl _), ← sumF_back (t + 1) (fun i => y i * x (t - i))]
  refine sumF_congr _ (fun i hi => ?_)
  show x i * y (t - i) = y (t + 1 - 1 - i) * x (t - (t + 1 - 1 - i))
  rw [show t + 1 - 1 - i = t - i by omega, show t - (t - i) = i by omega, Nat.mul_comm]
/-- Rows are multiplied into rows. -/
theorem convU_bin (a b t : Nat) : ∀ m, convU (bin a) (bin b) t m = vs a b t m
  | 0 => rfl
  | m + 1 => by
    show convU (bin a) (bin b) t m + _ = vs a b t m + vterm a b t m
    rw [convU_bin a b t m]; rfl
theorem conv_bin (a b t : Nat) : conv (bin a) (bin b) t = bin (a + b) t := by
  unfold conv
  rw [convU_bin, heaps]
theorem convU_mod (x y : Nat → Nat) (t q : Nat) : ∀ m, convU (fun i => x i % q) (fun i => y i % q) t m % q = convU x y t m % q
  | 0 => rfl
  | m + 1 => by
    simp only [convU]
    rw [Nat.add_mod, convU_mod x y t q m, Nat.add_mod (convU x y t m)]
    split
    · rw [← Nat.mul_mod]
    · rfl
theorem conv_mod (x y : Nat → Nat) (t q : Nat) : conv (fun i => x i % q) (fun i => y i % q) t % q = conv x y t % q := convU_mod x y t q _
theorem conv_one (x y : Nat → Nat) (h0 : y 0 = 1) (h : ∀ i, 0 < i → y i = 0) (t : Nat) : conv x y t = x t := by
  rw [conv_swap, conv_of y x t (n := 1) (fun i hi => h i (by omega))]
  simp [convU, h0]
theorem convU_le {x y : Nat → Nat} {q : Nat} (hx : ∀ i, x i ≤ q) (hy : ∀ i, y i ≤ q) (t : Nat) : ∀ m, convU x y t m ≤ m * (q * q)
  | 0 => by simp [convU]
  | m + 1 => by
    have h1 := convU_le hx hy t m
    have h2 := Nat.mul_le_mul (hx m) (hy (t - m))
    simp only [convU]
    rw [Nat.add_mul, Nat.one_mul]
    split <;> omega
end Go.Proofs.Ytlkcdcmmcjkedaa
