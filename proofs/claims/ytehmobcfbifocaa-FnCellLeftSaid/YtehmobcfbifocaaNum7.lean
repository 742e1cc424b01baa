/-
  Chapter 7's numbers: primes by the cells between; twice a prime; stretched cells: checked row by row. Nothing of the program.
-/
import Derived.Test.YtehmobcfbifocaaSpecY
namespace Go.Proofs.Ytehmobcfbifocaa

/-- The next row; all rows. -/
def nxt (a : Nat) : List Nat → List Nat
  | [] => [a]
  | b :: l => (a + b) :: nxt b l
def rows (n : Nat) : List Nat := match n with
  | 0 => [1]
  | n + 1 => nxt 0 (rows n)
theorem nxt_get : ∀ (l : List Nat) (a k : Nat), (nxt a l).getD k 0 = (match k with | 0 => a | k + 1 => l.getD k 0) + l.getD k 0
  | [], a, 0 => by simp [nxt]
  | [], a, k + 1 => by simp [nxt]
  | b :: l, a, 0 => by simp [nxt]
  | b :: l, a, k + 1 => by
    have := nxt_get l b k
    simp only [nxt, List.getD_cons_succ]
    rw [this]
    cases k <;> simp
theorem rows_get : ∀ n k, (rows n).getD k 0 = bin n k
  | 0, 0 => by simp [rows, bin_zero]
  | 0, k + 1 => by rw [bin_over 0 (k + 1) (by omega)]; simp [rows]
  | n + 1, 0 => by
    show (nxt 0 (rows n)).getD 0 0 = _
    rw [nxt_get, rows_get n 0, bin_zero, bin_zero]
  | n + 1, k + 1 => by
    show (nxt 0 (rows n)).getD (k + 1) 0 = _
    rw [nxt_get, bin_succ]
    show (rows n).getD k 0 + (rows n).getD (k + 1) 0 = _
    rw [rows_get n k, rows_get n (k + 1)]
/-- A test of each row, from one on. -/
def chk (t : Nat → List Nat → Bool) : Nat → Nat → List Nat → Bool
  | 0, _, _ => true
  | f + 1, n, row => t n row && chk t f (n + 1) (nxt 0 row)
theorem chk_all (t : Nat → List Nat → Bool) : ∀ (f n : Nat), chk t f n (rows n) = true → ∀ m, n ≤ m → m < n + f → t m (rows m) = true
  | 0, n, _, m, h1, h2 => by omega
  | f + 1, n, h, m, h1, h2 => by
    simp only [chk, Bool.and_eq_true] at h
    by_cases e : m = n
    · subst e; exact h.1
    · exact chk_all t f (n + 1) h.2 m (by omega) (by omega)
/-- The first m of a list are whole multiples. -/
def okRow (n : Nat) : Nat → List Nat → Bool
  | 0, _ => true
  | _ + 1, [] => true
  | m + 1, x :: l => (x % n == 0) && okRow n m l
theorem okRow_iff (n : Nat) : ∀ (m : Nat) (l : List Nat), okRow n m l = true ↔ ∀ k, k < m → l.getD k 0 % n = 0
  | 0, l => by simp [okRow]
  | m + 1, [] => by simp [okRow]
  | m + 1, x :: l => by
    simp only [okRow, Bool.and_eq_true, beq_iff_eq, okRow_iff n m l]
    constructor
    · rintro ⟨h1, h2⟩ k hk
      cases k with
      | zero => simpa using h1
      | succ k => simpa using h2 k (by omega)
    · intro h
      exact ⟨by simpa using h 0 (by omega), fun k hk => by simpa using h (k + 1) (by omega)⟩
theorem getD_drop1 (l : List Nat) (k : Nat) : (l.drop 1).getD k 0 = l.getD (k + 1) 0 := by
  cases l <;> simp
def tBet (n : Nat) (row : List Nat) : Bool := decide (n < 2) || (okRow n (n - 1) (row.drop 1) == isP n)
def tTwi (n : Nat) (row : List Nat) : Bool := decide (n % 2 = 1) || decide (n / 2 < 5) || decide (43 < n / 2) || !isP (n / 2) || (row.getD (n / 2) 0 % (n / 2 * (n / 2) * (n / 2)) == 2)
def tStr (n : Nat) (row : List Nat) : Bool := [3, 5, 7, 11, 13, 17].all fun p => decide (n % p ≠ 0) || decide (16 < n / p) || (List.range (n / p + 1)).all fun k => row.getD (k * p) 0 % (p * p) == (rows (n / p)).getD k 0 % (p * p)
theorem bet_all : chk tBet 301 0 [1] = true := by decide +kernel
theorem twi_all : chk tTwi 87 0 [1] = true := by decide +kernel
theorem str_all : chk tStr 273 0 [1] = true := by decide +kernel
theorem bet_fact {n : Nat} (h2 : 2 ≤ n) (h3 : n ≤ 300) : (∀ k, 1 ≤ k → k < n → bin n k % n = 0) ↔ isP n = true := by
  have h := chk_all tBet 301 0 bet_all n (by omega) (by omega)
  unfold tBet at h
  rw [decide_eq_false (by omega), Bool.false_or, beq_iff_eq] at h
  rw [← h, okRow_iff]
  constructor
  · intro g k hk
    rw [getD_drop1, rows_get]
    exact g (k + 1) (by omega) (by omega)
  · intro g k hk1 hk2
    have := g (k - 1) (by omega)
    rw [getD_drop1, rows_get, show k - 1 + 1 = k by omega] at this
    exact this
theorem twi_fact {p : Nat} (h5 : 5 ≤ p) (h43 : p ≤ 43) (hp : isP p = true) : bin (2 * p) p % (p * p * p) = 2 := by
  have h := chk_all tTwi 87 0 twi_all (2 * p) (by omega) (by omega)
  unfold tTwi at h
  rw [show 2 * p / 2 = p by omega, decide_eq_false (by omega), decide_eq_false (by omega), decide_eq_false (by omega), hp, rows_get] at h
  simpa using h
theorem str_fact {n k p : Nat} (hn : n ≤ 16) (hk : k ≤ n) (hp : p = 3 ∨ p = 5 ∨ p = 7 ∨ p = 11 ∨ p = 13 ∨ p = 17) : bin (n * p) (k * p) % (p * p) = bin n k % (p * p) := by
  have hle : n * p ≤ 16 * 17 := Nat.mul_le_mul hn (by omega)
  have h := chk_all tStr 273 0 str_all (n * p) (by omega) (by omega)
  unfold tStr at h
  have h1 := List.all_eq_true.1 h p (by simp; omega)
  rw [Nat.mul_mod_left, Nat.mul_div_cancel _ (by omega), decide_eq_false (by omega), decide_eq_false (by omega), Bool.false_or, Bool.false_or] at h1
  have h2 := List.all_eq_true.1 h1 k (List.mem_range.2 (by omega))
  rw [beq_iff_eq, rows_get, rows_get] at h2
  exact h2
end Go.Proofs.Ytehmobcfbifocaa
