/-
  Plain mathematics of how often a prime divides: numbers, products of all numbers up to a number, cells of the triangle; by digits, by carries; and how much it may be. Nothing of the program.
-/
import Derived.Test.YtlkcdcmmcjkedaaMath2
namespace Go.Proofs.Ytlkcdcmmcjkedaa
open Go.RowKit

/-- How often p divides n. -/
def val (p n : Nat) : Nat := if _h : (2 ≤ p ∧ 0 < n) ∧ n % p = 0 then val p (n / p) + 1 else 0
termination_by n
decreasing_by exact Nat.div_lt_self _h.1.2 _h.1.1
/-- What is left of n when p no longer divides it. -/
def strip (p n : Nat) : Nat := if _h : (2 ≤ p ∧ 0 < n) ∧ n % p = 0 then strip p (n / p) else n
termination_by n
decreasing_by exact Nat.div_lt_self _h.1.2 _h.1.1
/-- n by p, by its square, and so on, added. -/
def tup (p n : Nat) : Nat := if _h : 2 ≤ p ∧ 0 < n then n / p + tup p (n / p) else 0
termination_by n
decreasing_by exact Nat.div_lt_self _h.2 _h.1

theorem val_no {p n : Nat} (h : n % p ≠ 0) : val p n = 0 := by rw [val, dif_neg (fun e => h e.2)]
theorem val_yes {p n : Nat} (hp : 2 ≤ p) (hn : 0 < n) (h : n % p = 0) : val p n = val p (n / p) + 1 := by rw [val, dif_pos ⟨⟨hp, hn⟩, h⟩]
theorem strip_no {p n : Nat} (h : n % p ≠ 0) : strip p n = n := by rw [strip, dif_neg (fun e => h e.2)]
theorem strip_yes {p n : Nat} (hp : 2 ≤ p) (hn : 0 < n) (h : n % p = 0) : strip p n = strip p (n / p) := by rw [strip, dif_pos ⟨⟨hp, hn⟩, h⟩]
theorem tup_zero (p : Nat) : tup p 0 = 0 := by rw [tup, dif_neg (by omega)]
theorem tup_pos {p n : Nat} (hp : 2 ≤ p) (hn : 0 < n) : tup p n = n / p + tup p (n / p) := by rw [tup, dif_pos ⟨hp, hn⟩]
theorem tup_any {p : Nat} (hp : 2 ≤ p) (n : Nat) : tup p n = n / p + tup p (n / p) := by
  rcases Nat.eq_zero_or_pos n with h | h
  · subst h; simp [tup_zero]
  · exact tup_pos hp h
theorem div_pos_of_mod {p n : Nat} (hn : 0 < n) (h : n % p = 0) : 0 < n / p := by
  rcases Nat.eq_zero_or_pos (n / p) with e | e
  · have := div_mod p n; rw [e, h] at this; omega
  · exact e

theorem strip_val {p : Nat} (hp : 2 ≤ p) (n : Nat) : 0 < n → p ^ val p n * strip p n = n ∧ 0 < strip p n := by
  refine div_ind hp (p := fun n => 0 < n → p ^ val p n * strip p n = n ∧ 0 < strip p n) (fun h => by omega) (fun n hn ih _ => ?_) n
  by_cases h : n % p = 0
  · have h1 := ih (div_pos_of_mod hn h)
    rw [val_yes hp hn h, strip_yes hp hn h, Nat.pow_succ]
    refine ⟨?_, h1.2⟩
    have h2 := div_mod p n
    rw [h, Nat.add_zero] at h2
    calc p ^ val p (n / p) * p * strip p (n / p) = p * (p ^ val p (n / p) * strip p (n / p)) := by rw [Nat.mul_comm _ p, Nat.mul_assoc]
      _ = n := by rw [h1.1, h2]
  · rw [val_no h, strip_no h]; simp; exact hn
theorem strip_mod {p : Nat} (hp : 2 ≤ p) (n : Nat) : 0 < n → strip p n % p ≠ 0 := by
  refine div_ind hp (p := fun n => 0 < n → strip p n % p ≠ 0) (fun h => by omega) (fun n hn ih _ => ?_) n
  by_cases h : n % p = 0
  · rw [strip_yes hp hn h]; exact ih (div_pos_of_mod hn h)
  · rw [strip_no h]; exact h
theorem pow_gt {p : Nat} (hp : 2 ≤ p) : ∀ k, k + 1 ≤ p ^ k
  | 0 => by simp
  | k + 1 => by
    have h1 := pow_gt hp k
    have h2 := Nat.mul_le_mul_left (p ^ k) hp
    rw [Nat.pow_succ]; omega
theorem val_pow_le {p : Nat} (hp : 2 ≤ p) {n : Nat} (hn : 0 < n) : p ^ val p n ≤ n := by
  have h := strip_val hp n hn
  have h2 := Nat.le_mul_of_pos_right (p ^ val p n) h.2
  omega
theorem val_lt {p : Nat} (hp : 2 ≤ p) {n : Nat} (hn : 0 < n) : val p n < n := by
  have h1 := val_pow_le hp hn
  have h2 := pow_gt hp (val p n)
  omega

/-- Digits tell how often. -/
theorem legendre {p : Nat} (hp : 2 ≤ p) (n : Nat) : (p - 1) * tup p n + sumL (digs p n) = n := by
  refine div_ind hp (p := fun n => (p - 1) * tup p n + sumL (digs p n) = n) (by rw [tup_zero, digs_zero]; rfl) (fun n hn ih => ?_) n
  rw [tup_pos hp hn, digs_pos hp hn]
  simp only [sumL]
  have h1 := div_mod p n
  obtain ⟨c, rfl⟩ : ∃ c, p = c + 1 := ⟨p - 1, by omega⟩
  rw [Nat.add_sub_cancel] at *
  rw [Nat.mul_add]
  rw [Nat.add_mul, Nat.one_mul] at h1
  omega
theorem tup_le {p : Nat} (hp : 2 ≤ p) (n : Nat) : tup p n ≤ n := by
  have h1 := legendre hp n
  have h2 := Nat.le_mul_of_pos_left (tup p n) (show 0 < p - 1 by omega)
  omega
theorem succ_div_mod {p : Nat} (hp : 2 ≤ p) (n : Nat) : ((n + 1) % p = 0 ∧ (n + 1) / p = n / p + 1) ∨ ((n + 1) % p ≠ 0 ∧ (n + 1) / p = n / p) := by
  have h1 := div_mod p n
  have hm := Nat.mod_lt n (show 0 < p by omega)
  by_cases h : n % p + 1 = p
  · left
    have e : n + 1 = p * (n / p + 1) := by rw [Nat.mul_add]; omega
    constructor
    · rw [e, Nat.mul_mod_right]
    · conv => lhs; rw [e]
      rw [Nat.mul_div_cancel_left _ (by omega)]
  · right
    have e : n + 1 = p * (n / p) + (n % p + 1) := by omega
    constructor
    · rw [e, Nat.mul_add_mod, Nat.mod_eq_of_lt (show n % p + 1 < p by omega)]; omega
    · conv => lhs; rw [e]
      rw [Nat.mul_add_div (by omega), Nat.div_eq_of_lt (show n % p + 1 < p by omega), Nat.add_zero]
/-- With one number more it is as much more as p divides that. -/
theorem tup_succ {p : Nat} (hp : 2 ≤ p) (n : Nat) : tup p (n + 1) = tup p n + val p (n + 1) := by
  induction n using Nat.strongRecOn with
  | ind n ih =>
    rw [tup_any hp (n + 1), tup_any hp n]
    rcases succ_div_mod hp n with ⟨h1, h2⟩ | ⟨h1, h2⟩
    · rw [h2, val_yes hp (by omega) h1, h2]
      have hlt : n / p < n ∨ n = 0 := by
        rcases Nat.eq_zero_or_pos n with h | h
        · exact .inr h
        · exact .inl (Nat.div_lt_self h hp)
      rcases hlt with hlt | rfl
      · rw [ih _ hlt]; omega
      · rw [Nat.mod_eq_of_lt (by omega)] at h1; omega
    · rw [h2, val_no h1]; omega

/-- The six primes. -/
def prm (p : Nat) : Prop := p = 2 ∨ p = 3 ∨ p = 5 ∨ p = 7 ∨ p = 11 ∨ p = 13
instance (p : Nat) : Decidable (prm p) := by unfold prm; infer_instance
theorem prm_two {p : Nat} (h : prm p) : 2 ≤ p ∧ p ≤ 13 := by unfold prm at h; omega
def sixth : List Nat := [2, 3, 5, 7, 11, 13]
theorem prm_in {p : Nat} (h : prm p) : p ∈ sixth := by unfold prm at h; unfold sixth; simp; omega
theorem zeros_all : sixth.all (fun p => (List.range p).all fun x => (List.range p).all fun y => !(x * y % p == 0) || (x == 0 || y == 0)) = true := by decide
theorem no_zeros {p : Nat} (h : prm p) (x : Nat) (hx : x < p) (y : Nat) (hy : y < p) (hz : x * y % p = 0) : x = 0 ∨ y = 0 := by
  have h1 := List.all_eq_true.1 (List.all_eq_true.1 (List.all_eq_true.1 zeros_all p (prm_in h)) x (List.mem_range.2 hx)) y (List.mem_range.2 hy)
  simpa [hz] using h1
theorem euclid {p : Nat} (h : prm p) (x y : Nat) (hxy : x * y % p = 0) : x % p = 0 ∨ y % p = 0 := by
  have hp := prm_two h
  refine no_zeros h _ (Nat.mod_lt _ (by omega)) _ (Nat.mod_lt _ (by omega)) ?_
  rw [← Nat.mul_mod]; exact hxy
theorem val_times {p n : Nat} (hp : 2 ≤ p) (hn : 0 < n) : val p (n * p) = val p n + 1 := by
  rw [val_yes hp (Nat.mul_pos hn (by omega)) (Nat.mul_mod_left _ _), Nat.mul_div_cancel _ (by omega)]
/-- Of a product it is both together. -/
theorem val_mul {p : Nat} (h : prm p) (x y : Nat) : 0 < x → 0 < y → val p (x * y) = val p x + val p y := by
  have hp := (prm_two h).1
  revert y
  refine div_ind hp (p := fun x => ∀ y, 0 < x → 0 < y → val p (x * y) = val p x + val p y) (fun _ h => by omega) (fun x hx ihx y _ hy => ?_) x
  by_cases hxm : x % p = 0
  · have e := div_mod p x
    rw [hxm, Nat.add_zero] at e
    have h1 := ihx y (div_pos_of_mod hx hxm) hy
    rw [val_yes hp hx hxm]
    conv => lhs; rw [← e]
    rw [show p * (x / p) * y = x / p * y * p by rw [Nat.mul_comm p, Nat.mul_assoc, Nat.mul_comm p, ← Nat.mul_assoc], val_times hp (Nat.mul_pos (div_pos_of_mod hx hxm) hy), h1]
    omega
  · rw [val_no hxm]
    refine div_ind hp (p := fun y => 0 < y → val p (x * y) = 0 + val p y) (fun h => by omega) (fun y hy ih _ => ?_) y hy
    by_cases hym : y % p = 0
    · have e := div_mod p y
      rw [hym, Nat.add_zero] at e
      have h1 := ih (div_pos_of_mod hy hym)
      rw [val_yes hp hy hym]
      conv => lhs; rw [← e]
      rw [show x * (p * (y / p)) = x * (y / p) * p by rw [Nat.mul_comm p, Nat.mul_assoc], val_times hp (Nat.mul_pos hx (div_pos_of_mod hy hym)), h1]
      omega
    · rw [val_no hym, val_no (fun e => by rcases euclid h x y e with e | e; exact hxm e; exact hym e)]
theorem val_one {p : Nat} (hp : 2 ≤ p) : val p 1 = 0 := val_no (by rw [Nat.mod_eq_of_lt (by omega)]; omega)
theorem apart_all : sixth.all (fun p => sixth.all fun q => p == q || !(p % q == 0)) = true := by decide
theorem prm_apart {p q : Nat} (hp : prm p) (hq : prm q) (hne : p ≠ q) : p % q ≠ 0 := by
  have h1 := List.all_eq_true.1 (List.all_eq_true.1 apart_all p (prm_in hp)) q (prm_in hq)
  simpa [hne] using h1
/-- Divided by another prime it is as often. -/
theorem val_apart {p q n : Nat} (hp : prm p) (hq : prm q) (hne : p ≠ q) (hn : 0 < n) (h : n % p = 0) : val q (n / p) = val q n := by
  have e := div_mod p n
  rw [h, Nat.add_zero] at e
  conv => rhs; rw [← e]
  rw [val_mul hq _ _ (by have := prm_two hp; omega) (div_pos_of_mod hn h), val_no (prm_apart hp hq hne)]
  omega
theorem val_strip {p q : Nat} (hp : prm p) (hq : prm q) (hne : p ≠ q) (n : Nat) : 0 < n → val q (strip p n) = val q n := by
  have h2 := (prm_two hp).1
  refine div_ind h2 (p := fun n => 0 < n → val q (strip p n) = val q n) (fun h => by omega) (fun n hn ih _ => ?_) n
  by_cases h : n % p = 0
  · rw [strip_yes h2 hn h, ih (div_pos_of_mod hn h), val_apart hp hq hne hn h]
  · rw [strip_no h]

theorem bin_half (n k : Nat) : bin (n + 1) (k + 1) ≤ 2 ^ n := by
  rw [bin_succ, ← psum_row n]
  by_cases h : k + 2 ≤ n + 1
  · have h1 := psum_mono n (k + 2) (n + 1) h
    simp only [psum] at h1 ⊢
    omega
  · by_cases e : k = n
    · subst e
      rw [bin_over k (k + 1) (by omega)]
      simp only [psum]; omega
    · rw [bin_over n k (by omega), bin_over n (k + 1) (by omega)]; omega
theorem bin_max {n : Nat} (k : Nat) (h : n ≤ 60) : bin n k ≤ 576460752303423488 := by
  match n, k, h with
  | n, 0, _ => rw [bin_zero]; omega
  | 0, k + 1, _ => rw [bin_over 0 (k + 1) (by omega)]; omega
  | n + 1, k + 1, h => exact Nat.le_trans (bin_half n k) (Nat.le_trans (Nat.pow_le_pow_right (by omega) (show n ≤ 59 by omega)) (by decide))
theorem bin_pos : ∀ (n k : Nat), k ≤ n → 0 < bin n k
  | n, 0, _ => by rw [bin_zero]; omega
  | 0, k + 1, h => by omega
  | n + 1, k + 1, h => by rw [bin_succ]; have := bin_pos n k (by omega); omega
/-- How often a prime divides a cell. -/
theorem val_bin {p : Nat} (h : prm p) : ∀ (n k : Nat), k ≤ n → val p (bin n k) + tup p k + tup p (n - k) = tup p n
  | n, 0, _ => by rw [bin_zero, val_one (prm_two h).1, tup_zero]; simp
  | 0, k + 1, hk => by omega
  | n + 1, k + 1, hk => by
    have h1 := val_bin h n k (by omega)
    have h2 := congrArg (val p) (absorb n k)
    rw [val_mul h _ _ (bin_pos _ _ hk) (by omega), val_mul h _ _ (by omega) (bin_pos _ _ (by omega))] at h2
    rw [tup_succ (prm_two h).1 k, tup_succ (prm_two h).1 n, show n + 1 - (k + 1) = n - k by omega]
    omega

/-- Carries tell how often. -/
theorem tup_carries {p : Nat} (hp : 2 ≤ p) (x y : Nat) : tup p (x + y) = tup p x + tup p y + carL p 0 (pairs p x y) := by
  have h1 := carries hp x y 0 (by omega)
  rw [Nat.add_zero, Nat.add_zero] at h1
  have h2 := legendre hp (x + y)
  have h3 := legendre hp x
  have h4 := legendre hp y
  refine Nat.eq_of_mul_eq_mul_left (show 0 < p - 1 by omega) ?_
  rw [Nat.mul_add, Nat.mul_add]
  omega
def cars (p n k : Nat) : Nat := carL p 0 (pairs p k (n - k))
theorem tup_cars {p : Nat} (hp : 2 ≤ p) {n k : Nat} (hk : k ≤ n) : tup p n = tup p k + tup p (n - k) + cars p n k := by
  have := tup_carries hp k (n - k)
  rw [show k + (n - k) = n by omega] at this
  exact this
theorem cars_zero {p : Nat} (hp : 2 ≤ p) {n k : Nat} (hk : k ≤ n) : cars p n k = 0 ↔ und p k n = true := by
  have := und_carries hp k (n - k)
  rw [show k + (n - k) = n by omega] at this
  exact this.symm
theorem cars_bin {p : Nat} (h : prm p) {n k : Nat} (hk : k ≤ n) : val p (bin n k) = cars p n k := by
  have h1 := val_bin h n k hk
  have h2 := tup_cars (prm_two h).1 hk
  omega
/-- As many carries as the sum has room for. -/
theorem pow_car {p : Nat} (hp : 2 ≤ p) (x y : Nat) : ∀ c, c ≤ 1 → p ^ carL p c (pairs p x y) ≤ max 1 (x + y + c) := by
  refine div_ind2 hp (p := fun x y => ∀ c, c ≤ 1 → p ^ carL p c (pairs p x y) ≤ max 1 (x + y + c)) ?_ (fun x y hn ih c hc => ?_) x y
  · intro c hc; rw [pairs_zero]; simp only [carL, Nat.pow_zero]; omega
  · rw [pairs_pos hp hn]
    simp only [carL]
    have h1 := one_carry (Nat.mod_lt x (show 0 < p by omega)) (Nat.mod_lt y (show 0 < p by omega)) hc
    have h2 := ih _ h1
    have h3 := (place (x := x) (y := y) (c := c) hp).2
    have h4 := div_mod p (x + y + c)
    generalize (x % p + y % p + c) / p = d at *
    have h5 := two_mul_le (q := (x + y + c) / p) hp
    rcases (show d = 0 ∨ d = 1 by omega) with rfl | rfl
    · rw [Nat.zero_add]; omega
    · rw [Nat.add_comm 1, Nat.pow_succ]
      have h6 := Nat.mul_le_mul_right p h2
      rw [Nat.max_eq_right (Nat.le_add_left 1 _)] at h6
      rw [h3, Nat.mul_comm p] at h4
      omega
theorem pow_cars {p : Nat} (hp : 2 ≤ p) {n k : Nat} (hk : k ≤ n) (hn : 0 < n) : p ^ cars p n k ≤ n := by
  have h := pow_car hp k (n - k) 0 (by omega)
  have e : k + (n - k) + 0 = n := by omega
  rw [e, Nat.max_eq_right hn] at h
  exact h
theorem cars_lt {p : Nat} (hp : 2 ≤ p) {n k : Nat} (hk : k ≤ n) : cars p n k ≤ n := by
  have := tup_cars hp hk
  have := tup_le hp n
  omega

/-- The most often of the first m cells of row n. -/
def mostU (p n : Nat) : Nat → Nat
  | 0 => 0
  | m + 1 => max (mostU p n m) (cars p n m)
theorem mostU_ge (p n : Nat) : ∀ m k, k < m → cars p n k ≤ mostU p n m
  | 0, k, h => by omega
  | m + 1, k, h => by
    simp only [mostU]
    by_cases e : k = m
    · subst e; omega
    · have := mostU_ge p n m k (by omega); omega
theorem mostU_is (p n : Nat) : ∀ m, mostU p n m = 0 ∨ ∃ k, k < m ∧ mostU p n m = cars p n k
  | 0 => .inl rfl
  | m + 1 => by
    simp only [mostU]
    by_cases e : mostU p n m ≤ cars p n m
    · exact .inr ⟨m, by omega, by omega⟩
    · rcases mostU_is p n m with h | ⟨k, h1, h2⟩
      · omega
      · exact .inr ⟨k, by omega, by omega⟩
def most (p n : Nat) : Nat := mostU p n (n + 1)
theorem mostU_le {p : Nat} (hp : 2 ≤ p) (n m : Nat) (hm : m ≤ n + 1) : mostU p n m ≤ n := by
  rcases mostU_is p n m with h | ⟨k, h1, h2⟩
  · omega
  · rw [h2]; exact cars_lt hp (by omega)
theorem pow_most {p : Nat} (hp : 2 ≤ p) {n : Nat} (hn : 0 < n) : p ^ most p n ≤ n := by
  unfold most
  rcases mostU_is p n (n + 1) with h | ⟨k, h1, h2⟩
  · rw [h]; simp; omega
  · rw [h2]; exact pow_cars hp (by omega) hn
theorem val_most {p : Nat} (hp : 2 ≤ p) {n : Nat} (hn : 0 < n) : val p n ≤ most p n := by
  have h1 := mostU_ge p n (n + 1) 1 (by omega)
  obtain ⟨m, rfl⟩ : ∃ m, n = m + 1 := ⟨n - 1, by omega⟩
  have h2 := tup_cars hp (show 1 ≤ m + 1 by omega)
  have h3 := tup_succ hp m
  have h4 : tup p 1 = 0 := by rw [tup_pos hp (by omega), Nat.div_eq_of_lt (by omega), tup_zero]
  rw [show m + 1 - 1 = m by omega, h4] at h2
  unfold most
  omega
/-- For rows that are a power of the prime it is just that. -/
theorem most_power {p : Nat} (hp : 2 ≤ p) {n : Nat} (hn : 0 < n) (hs : strip p n ≤ 1) : p ^ most p n = n := by
  have h1 := strip_val hp n hn
  have h2 := pow_most hp hn
  have h3 := Nat.pow_le_pow_right (show 0 < p by omega) (val_most hp hn)
  have h4 : strip p n = 1 := by omega
  rw [h4, Nat.mul_one] at h1
  omega
theorem und_full {p : Nat} (hp : 2 ≤ p) : ∀ (j n k : Nat), n + 1 = p ^ j → k ≤ n → und p k n = true
  | 0, n, k, h, hk => by
    obtain ⟨rfl, rfl⟩ : n = 0 ∧ k = 0 := by simp at h; omega
    exact und_zero p
  | j + 1, n, k, h, hk => by
    have hpos : 0 < p ^ j := Nat.pow_pos (by omega)
    rw [Nat.pow_succ] at h
    have e : n = (p - 1) + p * (p ^ j - 1) := by
      rw [Nat.mul_comm p, Nat.sub_mul]
      have := Nat.le_mul_of_pos_left p hpos
      omega
    have h1 : n % p = p - 1 := by rw [e, Nat.add_mul_mod_self_left, Nat.mod_eq_of_lt (by omega)]
    have h2 : n / p = p ^ j - 1 := by rw [e, Nat.add_mul_div_left _ _ (by omega), Nat.div_eq_of_lt (by omega), Nat.zero_add]
    have h3 := Nat.mod_lt k (show 0 < p by omega)
    have h4 := Nat.div_le_div_right (c := p) hk
    rw [und_step hp, und_full hp j (n / p) (k / p) (by omega) h4, h1]
    simp; omega
/-- For rows that are one less than a power it is 0. -/
theorem most_none {p : Nat} (hp : 2 ≤ p) {n : Nat} (hs : strip p (n + 1) ≤ 1) : most p n = 0 := by
  have h1 := strip_val hp (n + 1) (by omega)
  have h4 : strip p (n + 1) = 1 := by omega
  rw [h4, Nat.mul_one] at h1
  unfold most
  rcases mostU_is p n (n + 1) with h | ⟨k, h2, h3⟩
  · exact h
  · rw [h3]; exact (cars_zero hp (by omega)).2 (und_full hp _ n k h1.1.symm (by omega))
end Go.Proofs.Ytlkcdcmmcjkedaa
