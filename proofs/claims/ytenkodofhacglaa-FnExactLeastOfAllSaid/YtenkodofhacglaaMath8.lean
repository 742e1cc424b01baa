/-
  Plain mathematics of divisors of rows, checked row by row. Nothing of the program.
-/
import Derived.Test.YtenkodofhacglaaMath3
namespace Go.Proofs.Ytenkodofhacglaa
open Go.RowKit

/-- A row out of the one before; all rows, quickly. -/
def nextE : Nat → List Nat → List Nat
  | a, [] => [a]
  | a, b :: r => (a + b) :: nextE b r
def rowE : Nat → List Nat
  | 0 => [1]
  | n + 1 => nextE 0 (rowE n)
theorem nextE_get : ∀ (l : List Nat) (a k : Nat), (nextE a l).getD k 0 = (a :: l).getD k 0 + l.getD k 0
  | [], a, 0 => rfl
  | [], a, k + 1 => rfl
  | b :: r, a, 0 => rfl
  | b :: r, a, k + 1 => by
    show (nextE b r).getD k 0 = _
    rw [nextE_get r b k]; rfl
theorem nextE_len : ∀ (l : List Nat) (a : Nat), (nextE a l).length = l.length + 1
  | [], _ => rfl
  | b :: r, _ => by show (nextE b r).length + 1 = _; rw [nextE_len r b]; rfl
theorem rowE_len : ∀ n, (rowE n).length = n + 1
  | 0 => rfl
  | n + 1 => by show (nextE 0 (rowE n)).length = _; rw [nextE_len, rowE_len n]
theorem rowE_get : ∀ n k, (rowE n).getD k 0 = bin n k
  | 0, 0 => rfl
  | 0, k + 1 => rfl
  | n + 1, 0 => by
    show (nextE 0 (rowE n)).getD 0 0 = _
    rw [nextE_get, rowE_get n 0, bin_zero, bin_zero]; rfl
  | n + 1, k + 1 => by
    show (nextE 0 (rowE n)).getD (k + 1) 0 = _
    rw [nextE_get, rowE_get n (k + 1), bin_succ, List.getD_cons_succ, rowE_get n k]
theorem rowE_eq (n : Nat) : rowE n = (List.range (n + 1)).map (bin n) := by
  apply List.ext_getElem?
  intro k
  by_cases h : k < n + 1
  · have h1 := rowE_get n k
    rw [List.getElem?_map, List.getElem?_range h]
    rw [List.getD, List.getElem?_eq_getElem (by rw [rowE_len]; exact h)] at h1
    rw [List.getElem?_eq_getElem (by rw [rowE_len]; exact h)]
    exact congrArg some h1
  · rw [List.getElem?_eq_none (by rw [rowE_len]; omega), List.getElem?_eq_none (by simp; omega)]

/-- The greatest common divisor of the first numbers of a list, beginning with a. -/
def gcdU (f : Nat → Nat) : Nat → Nat
  | 0 => 0
  | k + 1 => Nat.gcd (gcdU f k) (f k)
/-- The least number that the first numbers divide. -/
def lcmU (f : Nat → Nat) : Nat → Nat
  | 0 => 1
  | k + 1 => lcmU f k / Nat.gcd (lcmU f k) (f k) * f k
/-- The greatest common divisor of the cells between the ends of a row; the least number that all its cells divide; that of all numbers up to n. -/
def shared (n : Nat) : Nat := gcdU (fun k => bin n (k + 1)) (n - 1)
def over (n : Nat) : Nat := lcmU (bin n) (n + 1)
def ofAll (n : Nat) : Nat := lcmU (fun k => k + 1) n
theorem gcdU_congr {f g : Nat → Nat} : ∀ m, (∀ i, i < m → f i = g i) → gcdU f m = gcdU g m
  | 0, _ => rfl
  | m + 1, h => by unfold gcdU; rw [gcdU_congr m (fun i hi => h i (by omega)), h m (by omega)]
theorem lcmU_congr {f g : Nat → Nat} : ∀ m, (∀ i, i < m → f i = g i) → lcmU f m = lcmU g m
  | 0, _ => rfl
  | m + 1, h => by unfold lcmU; rw [lcmU_congr m (fun i hi => h i (by omega)), h m (by omega)]
def gcdL : Nat → List Nat → Nat
  | a, [] => a
  | a, b :: r => gcdL (Nat.gcd a b) r
def lcmL : Nat → List Nat → Nat
  | a, [] => a
  | a, b :: r => lcmL (a / Nat.gcd a b * b) r
theorem gcdL_snoc : ∀ (l : List Nat) (a x : Nat), gcdL a (l ++ [x]) = Nat.gcd (gcdL a l) x
  | [], _, _ => rfl
  | _ :: r, _, x => gcdL_snoc r _ x
theorem lcmL_snoc : ∀ (l : List Nat) (a x : Nat), lcmL a (l ++ [x]) = lcmL a l / Nat.gcd (lcmL a l) x * x
  | [], _, _ => rfl
  | _ :: r, _, x => lcmL_snoc r _ x
theorem gcdL_map (f : Nat → Nat) : ∀ m, gcdL 0 ((List.range m).map f) = gcdU f m
  | 0 => rfl
  | m + 1 => by rw [List.range_succ, List.map_append, List.map_singleton, gcdL_snoc, gcdL_map f m]; rfl
theorem lcmL_map (f : Nat → Nat) : ∀ m, lcmL 1 ((List.range m).map f) = lcmU f m
  | 0 => rfl
  | m + 1 => by rw [List.range_succ, List.map_append, List.map_singleton, lcmL_snoc, lcmL_map f m]; rfl
theorem inner_eq (n : Nat) : ((rowE n).drop 1).take (n - 1) = (List.range (n - 1)).map fun k => bin n (k + 1) := by
  rw [rowE_eq]
  apply List.ext_getElem?
  intro k
  rw [List.getElem?_take]
  by_cases h : k < n - 1
  · rw [if_pos h, List.getElem?_drop, List.getElem?_map, List.getElem?_map, List.getElem?_range h, List.getElem?_range (by omega), Nat.add_comm]; rfl
  · rw [if_neg h, List.getElem?_eq_none (by simp; omega)]
theorem shared_eq (n : Nat) : shared n = gcdL 0 (((rowE n).drop 1).take (n - 1)) := by rw [inner_eq, gcdL_map]; rfl
theorem over_eq (n : Nat) : over n = lcmL 1 (rowE n) := by rw [rowE_eq, lcmL_map]; rfl
theorem ofAll_eq (n : Nat) : ofAll n = lcmL 1 ((List.range n).map fun k => k + 1) := by rw [lcmL_map]; rfl

/-- The least number from 2 on that divides n, sought from k on. -/
def leastD (n : Nat) : Nat → Nat → Nat
  | 0, k => k
  | f + 1, k => if n % k = 0 then k else leastD n f (k + 1)
theorem shared_all : (List.range 61).all (fun n => decide (n < 2) || (let d := leastD n 60 2; decide (2 ≤ d) && n % d == 0 && (List.range d).all (fun j => decide (j < 2) || !(n % j == 0)) &&
    ((strip d n == 1 && gcdL 0 (((rowE n).drop 1).take (n - 1)) == d) || (decide (1 < strip d n) && gcdL 0 (((rowE n).drop 1).take (n - 1)) == 1)))) = true := by decide +kernel
/-- What is shared by the cells of a row: its prime, or 1. -/
theorem shared_is {n : Nat} (h1 : 2 ≤ n) (h2 : n ≤ 60) : ∃ d, 2 ≤ d ∧ n % d = 0 ∧ (∀ j, 2 ≤ j → j < d → n % j ≠ 0) ∧ ((strip d n = 1 ∧ shared n = d) ∨ (1 < strip d n ∧ shared n = 1)) := by
  have h := List.all_eq_true.1 shared_all n (List.mem_range.2 (by omega))
  rw [Bool.or_eq_true] at h
  rcases h with h | h
  · have := of_decide_eq_true h; omega
  · generalize leastD n 60 2 = d at h
    rw [← shared_eq] at h
    simp only [Bool.and_eq_true, Bool.or_eq_true, beq_iff_eq, decide_eq_true_eq, List.all_eq_true, List.mem_range, Bool.not_eq_true', beq_eq_false_iff_ne] at h
    obtain ⟨⟨⟨h3, h4⟩, h5⟩, h6⟩ := h
    exact ⟨d, h3, h4, fun j hj hjd => (h5 j hjd).resolve_left (by omega), h6⟩
theorem shared_le {n : Nat} (h1 : 2 ≤ n) (h2 : n ≤ 60) : 1 ≤ shared n ∧ shared n ≤ 60 := by
  obtain ⟨d, h3, h4, _, h5⟩ := shared_is h1 h2
  have : d ≤ n := Nat.le_of_dvd (by omega) (Nat.dvd_of_mod_eq_zero h4)
  rcases h5 with ⟨_, h⟩ | ⟨_, h⟩ <;> omega
theorem over_all : (List.range 37).all (fun n => lcmL 1 (rowE n) * (n + 1) == lcmL 1 ((List.range (n + 1)).map fun k => k + 1) && (rowE n).all (fun c => lcmL 1 (rowE n) % c == 0)) = true := by decide +kernel
theorem over_times {n : Nat} (h : n ≤ 36) : over n * (n + 1) = ofAll (n + 1) := by
  have h1 := List.all_eq_true.1 over_all n (List.mem_range.2 (by omega))
  rw [Bool.and_eq_true, beq_iff_eq, ← over_eq, ← ofAll_eq] at h1
  exact h1.1
theorem over_mod {n k : Nat} (h : n ≤ 36) (hk : k ≤ n) : over n % bin n k = 0 := by
  have h1 := List.all_eq_true.1 over_all n (List.mem_range.2 (by omega))
  rw [Bool.and_eq_true, ← over_eq] at h1
  have h2 := List.all_eq_true.1 h1.2 (bin n k) (by rw [rowE_eq]; exact List.mem_map.2 ⟨k, List.mem_range.2 (by omega), rfl⟩)
  exact beq_iff_eq.1 h2
theorem ofAll_all : (List.range 38).all (fun n => (decide (n < 2) || lcmL 1 ((List.range n).map fun k => k + 1) == lcmL 1 ((List.range (n - 1)).map fun k => k + 1) * gcdL 0 (((rowE n).drop 1).take (n - 1))) &&
    (List.range n).all (fun k => lcmL 1 ((List.range n).map fun k => k + 1) % (k + 1) == 0) && decide (lcmL 1 ((List.range n).map fun k => k + 1) ≤ 6000000000000000)) = true := by decide +kernel
theorem ofAll_next {n : Nat} (h1 : 2 ≤ n) (h2 : n ≤ 37) : ofAll n = ofAll (n - 1) * shared n := by
  have h := List.all_eq_true.1 ofAll_all n (List.mem_range.2 (by omega))
  rw [Bool.and_eq_true, Bool.and_eq_true, Bool.or_eq_true, ← ofAll_eq, ← ofAll_eq, ← shared_eq, beq_iff_eq] at h
  rcases h.1.1 with h | h
  · have := of_decide_eq_true h; omega
  · exact h
theorem ofAll_mod {n k : Nat} (h2 : n ≤ 37) (hk1 : 1 ≤ k) (hk : k ≤ n) : ofAll n % k = 0 := by
  have h := List.all_eq_true.1 ofAll_all n (List.mem_range.2 (by omega))
  rw [Bool.and_eq_true, Bool.and_eq_true, ← ofAll_eq] at h
  have h3 := List.all_eq_true.1 h.1.2 (k - 1) (List.mem_range.2 (by omega))
  rw [beq_iff_eq, Nat.sub_add_cancel hk1] at h3
  exact h3
theorem ofAll_le {n : Nat} (h2 : n ≤ 37) : ofAll n ≤ 6000000000000000 := by
  have h := List.all_eq_true.1 ofAll_all n (List.mem_range.2 (by omega))
  rw [Bool.and_eq_true, ← ofAll_eq] at h
  exact of_decide_eq_true h.2
theorem ofAll_one : ofAll 1 = 1 := rfl
theorem lcmU_pos {f : Nat → Nat} : ∀ m, (∀ i, i < m → 0 < f i) → 0 < lcmU f m
  | 0, _ => Nat.zero_lt_one
  | m + 1, h => by
    have h1 := lcmU_pos m (fun i hi => h i (by omega))
    have h2 := h m (by omega)
    unfold lcmU
    exact Nat.mul_pos (Nat.div_pos (Nat.le_of_dvd h1 (Nat.gcd_dvd_left _ _)) (Nat.gcd_pos_of_pos_right _ h2)) h2
/-- On the way the numbers do not grow beyond the last one. -/
theorem lcmU_step {f : Nat → Nat} (m : Nat) (h : 0 < f m) : lcmU f m ≤ lcmU f (m + 1) := by
  show _ ≤ lcmU f m / Nat.gcd (lcmU f m) (f m) * f m
  have h1 : Nat.gcd (lcmU f m) (f m) ≤ f m := Nat.le_of_dvd h (Nat.gcd_dvd_right _ _)
  have h2 : lcmU f m / Nat.gcd (lcmU f m) (f m) * Nat.gcd (lcmU f m) (f m) = lcmU f m := Nat.div_mul_cancel (Nat.gcd_dvd_left _ _)
  have h3 := Nat.mul_le_mul_left (lcmU f m / Nat.gcd (lcmU f m) (f m)) h1
  omega
theorem lcmU_mono {f : Nat → Nat} (m : Nat) : ∀ j, (∀ i, i < m + j → 0 < f i) → lcmU f m ≤ lcmU f (m + j)
  | 0, _ => Nat.le_refl _
  | j + 1, h => Nat.le_trans (lcmU_mono m j (fun i hi => h i (by omega))) (lcmU_step (m + j) (h (m + j) (by omega)))
theorem over_le {n : Nat} (h : n ≤ 36) : over n ≤ 6000000000000000 := by
  have h1 := over_times h
  have h2 := ofAll_le (n := n + 1) (by omega)
  have h3 := Nat.le_mul_of_pos_right (over n) (show 0 < n + 1 by omega)
  omega

/-- The six cells around a cell; each triple's product and greatest common divisor. -/
def star (n k : Nat) (i : Nat) : Nat :=
  if i = 0 then bin (n - 1) (k - 1) else if i = 1 then bin (n - 1) k else if i = 2 then bin n (k + 1) else if i = 3 then bin (n + 1) (k + 1) else if i = 4 then bin (n + 1) k else bin n (k - 1)
def triP (n k w : Nat) : Nat := star n k w * star n k (w + 2) * star n k (w + 4)
def triG (n k w : Nat) : Nat := Nat.gcd (Nat.gcd (star n k w) (star n k (w + 2))) (star n k (w + 4))
def cellE (n k : Nat) : Nat := (rowE n).getD k 0
def starE (n k : Nat) (i : Nat) : Nat :=
  if i = 0 then cellE (n - 1) (k - 1) else if i = 1 then cellE (n - 1) k else if i = 2 then cellE n (k + 1) else if i = 3 then cellE (n + 1) (k + 1) else if i = 4 then cellE (n + 1) k else cellE n (k - 1)
theorem starE_eq (n k i : Nat) : starE n k i = star n k i := by unfold starE star cellE; simp only [rowE_get]
theorem triple_all : (List.range 21).all (fun n => (List.range n).all fun k => decide (k < 1) || (starE n k 0 * starE n k 2 * starE n k 4 == starE n k 1 * starE n k 3 * starE n k 5 &&
    Nat.gcd (Nat.gcd (starE n k 0) (starE n k 2)) (starE n k 4) == Nat.gcd (Nat.gcd (starE n k 1) (starE n k 3)) (starE n k 5) && decide (starE n k 0 * starE n k 2 * starE n k 4 ≤ 1000000000000000000))) = true := by decide +kernel
theorem triple {n k : Nat} (h1 : n ≤ 20) (h2 : 1 ≤ k) (h3 : k < n) : triP n k 0 = triP n k 1 ∧ triG n k 0 = triG n k 1 ∧ triP n k 0 ≤ 1000000000000000000 := by
  have h := List.all_eq_true.1 (List.all_eq_true.1 triple_all n (List.mem_range.2 (by omega))) k (List.mem_range.2 h3)
  simp only [starE_eq, Bool.or_eq_true, Bool.and_eq_true, beq_iff_eq, decide_eq_true_eq] at h
  rcases h with h | ⟨⟨h, h'⟩, h''⟩
  · omega
  · exact ⟨h, h', h''⟩
theorem star_sum {n k : Nat} (h2 : 1 ≤ k) (h3 : k < n) : star n k 0 + star n k 1 = bin n k ∧ star n k 4 = bin n k + star n k 5 ∧ star n k 3 = bin n k + star n k 2 := by
  obtain ⟨m, rfl⟩ : ∃ m, n = m + 1 := ⟨n - 1, by omega⟩
  obtain ⟨j, rfl⟩ : ∃ j, k = j + 1 := ⟨k - 1, by omega⟩
  refine ⟨(bin_succ m j).symm, ?_, ?_⟩
  · show bin (m + 1 + 1) (j + 1) = bin (m + 1) (j + 1) + bin (m + 1) j
    rw [bin_succ (m + 1) j, Nat.add_comm]
  · exact bin_succ (m + 1) (j + 1)
theorem star_pos {n k : Nat} (h2 : 1 ≤ k) (h3 : k < n) (i : Nat) : 0 < star n k i := by
  unfold star
  repeat' split
  all_goals exact bin_pos _ _ (by omega)
theorem star_le {n k : Nat} (h : n ≤ 30) (i : Nat) : star n k i ≤ 4294967296 := by
  have hb : ∀ a b, a ≤ 31 → bin a b ≤ 4294967296 := fun a b ha => Nat.le_trans (bin_le a b) (Nat.le_trans (Nat.pow_le_pow_right (by omega) (show a ≤ 32 by omega)) (by decide))
  unfold star
  repeat' split
  all_goals exact hb _ _ (by omega)
end Go.Proofs.Ytenkodofhacglaa
