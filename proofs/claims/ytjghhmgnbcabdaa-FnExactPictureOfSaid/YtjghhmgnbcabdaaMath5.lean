/-
  Plain mathematics of cells that are left: rows up to a row, whole rows. Nothing of the program.
-/
import Derived.Test.YtjghhmgnbcabdaaMath4
namespace Go.Proofs.Ytjghhmgnbcabdaa
open Go.RowKit

/-- How many cells of row n a prime does not divide. -/
def keep (p n : Nat) : Nat := mulL (digs p n)
/-- .. of all rows before n. -/
def keepU (p : Nat) : Nat → Nat
  | 0 => 0
  | n + 1 => keepU p n + keep p n
def tri (n : Nat) : Nat := n * (n + 1) / 2
theorem tri_succ (n : Nat) : tri (n + 1) = tri n + (n + 1) := by
  unfold tri
  have h : (n + 1) * (n + 1 + 1) = n * (n + 1) + (n + 1) * 2 := by rw [Nat.mul_comm n, ← Nat.mul_add]
  rw [h, Nat.add_mul_div_right _ _ (by omega)]
theorem keep_zero (p : Nat) : keep p 0 = 1 := by unfold keep; rw [digs_zero]; rfl
theorem keep_any {p : Nat} (hp : 2 ≤ p) (n : Nat) : keep p n = (n % p + 1) * keep p (n / p) := by
  rcases Nat.eq_zero_or_pos n with h | h
  · subst h; simp [keep_zero]
  · unfold keep; rw [digs_pos hp h]; rfl
theorem keep_at {p m d : Nat} (hp : 2 ≤ p) (hd : d < p) : keep p (p * m + d) = (d + 1) * keep p m := by
  rw [keep_any hp, Nat.mul_add_mod, Nat.mod_eq_of_lt hd, Nat.mul_add_div (by omega), Nat.div_eq_of_lt hd]; rfl
theorem keep_times {p : Nat} (hp : 2 ≤ p) (n : Nat) : keep p (n * p) = keep p n := by
  have h := keep_at (m := n) (d := 0) hp (by omega)
  rw [Nat.add_zero, Nat.zero_add, Nat.one_mul, Nat.mul_comm] at h
  exact h
theorem keep_le {p : Nat} (hp : 2 ≤ p) (n : Nat) : keep p n ≤ n + 1 := mul_le hp n
theorem keep_pos (p n : Nat) : 1 ≤ keep p n := mulL_pos _
theorem keepU_part {p : Nat} (hp : 2 ≤ p) (m : Nat) : ∀ d, d ≤ p → keepU p (p * m + d) = keepU p (p * m) + tri d * keep p m
  | 0, _ => by simp [tri]
  | d + 1, h => by
    show keepU p (p * m + d) + keep p (p * m + d) = _
    rw [keepU_part hp m d (by omega), keep_at hp (by omega), tri_succ, Nat.add_mul (tri d)]; omega
theorem keepU_times {p : Nat} (hp : 2 ≤ p) : ∀ m, keepU p (p * m) = tri p * keepU p m
  | 0 => by simp [keepU]
  | m + 1 => by
    rw [Nat.mul_succ, keepU_part hp m p (Nat.le_refl _), keepU_times hp m]
    simp only [keepU]
    rw [Nat.mul_add]
/-- Rows up to a row, by its lowest digit. -/
theorem keepU_any {p : Nat} (hp : 2 ≤ p) (n : Nat) : keepU p n = tri p * keepU p (n / p) + tri (n % p) * keep p (n / p) := by
  have h := keepU_part hp (n / p) (n % p) (Nat.le_of_lt (Nat.mod_lt _ (by omega)))
  rw [div_mod] at h
  rw [h, keepU_times hp]
theorem keepU_one {p : Nat} (hp : 2 ≤ p) : keepU p p = tri p := by
  have h := keepU_times hp 1
  rw [Nat.mul_one] at h
  rw [h]
  show tri p * (0 + keep p 0) = tri p
  rw [keep_zero]; omega
theorem keepU_two {p : Nat} (hp : 2 ≤ p) : keepU p (p * p) = tri p * tri p := by rw [keepU_times hp, keepU_one hp]
theorem keepU_le {p : Nat} (hp : 2 ≤ p) : ∀ n, keepU p n ≤ tri n
  | 0 => by simp [keepU]
  | n + 1 => by have := keepU_le hp n; have := keep_le hp n; rw [tri_succ]; simp only [keepU]; omega

/-- The same from the highest digit on: what the digits from place k on make. -/
def upL (p : Nat) : List Nat → Nat
  | [] => 0
  | d :: r => tri p * upL p r + tri d * mulL r
theorem upL_digs {p : Nat} (hp : 2 ≤ p) (n : Nat) : upL p (digs p n) = keepU p n := by
  refine div_ind hp (p := fun n => upL p (digs p n) = keepU p n) (by rw [digs_zero]; rfl) (fun n hn ih => ?_) n
  rw [digs_pos hp hn, keepU_any hp n]
  simp only [upL]
  rw [ih]; rfl
/-- What the digits from place k on add, each place its power of half of p and one more. -/
def addF (p : Nat) (l : List Nat) (k : Nat) : Nat := tri (l.getD k 0) * mulL (l.drop (k + 1)) * tri p ^ k
def addU (p : Nat) (l : List Nat) : Nat → Nat
  | 0 => 0
  | k + 1 => addU p l k + addF p l k
theorem addU_cons (p d : Nat) (r : List Nat) : ∀ k, addU p (d :: r) (k + 1) = tri p * addU p r k + tri d * mulL r
  | 0 => by simp [addU, addF]
  | k + 1 => by
    show addU p (d :: r) (k + 1) + addF p (d :: r) (k + 1) = tri p * (addU p r k + addF p r k) + _
    rw [addU_cons p d r k, Nat.mul_add]
    have h : addF p (d :: r) (k + 1) = tri p * addF p r k := by
      unfold addF
      rw [List.drop_succ_cons, List.getD_cons_succ, Nat.pow_succ, Nat.mul_comm (tri p), Nat.mul_assoc, Nat.mul_assoc, Nat.mul_assoc]
    rw [h]; omega
theorem addU_upL (p : Nat) : ∀ l : List Nat, addU p l l.length = upL p l
  | [] => rfl
  | d :: r => by rw [List.length_cons, addU_cons, addU_upL p r]; rfl
theorem addU_mono (p : Nat) (l : List Nat) : ∀ j k, j ≤ k → addU p l j ≤ addU p l k
  | j, 0, h => by obtain rfl : j = 0 := by omega
                  exact Nat.le_refl _
  | j, k + 1, h => by
    by_cases e : j = k + 1
    · rw [e]; exact Nat.le_refl _
    · exact Nat.le_trans (addU_mono p l j k (by omega)) (Nat.le_add_right _ _)

/-- A whole row: all its digits but the highest one are one less than p. -/
def whole (p n : Nat) : Bool := if _h : 2 ≤ p ∧ p ≤ n then n % p == p - 1 && whole p (n / p) else true
termination_by n
decreasing_by exact Nat.div_lt_self (by omega) _h.1
theorem whole_low {p n : Nat} (h : n < p) : whole p n = true := by rw [whole, dif_neg (by omega)]
theorem whole_high {p n : Nat} (hp : 2 ≤ p) (h : p ≤ n) : whole p n = (n % p == p - 1 && whole p (n / p)) := by rw [whole, dif_pos ⟨hp, h⟩]
/-- It holds exactly if as many cells are left as the row has. -/
theorem whole_keep {p : Nat} (hp : 2 ≤ p) (n : Nat) : whole p n = true ↔ keep p n = n + 1 := by
  refine div_ind hp (p := fun n => whole p n = true ↔ keep p n = n + 1) (by rw [whole_low (by omega), keep_zero]; simp) (fun n _ ih => ?_) n
  by_cases hlt : n < p
  · rw [whole_low hlt, keep_any hp, Nat.div_eq_of_lt hlt, Nat.mod_eq_of_lt hlt, keep_zero]; simp
  · have hle : p ≤ n := by omega
    rw [whole_high hp hle, Bool.and_eq_true, beq_iff_eq, ih, keep_any hp n]
    have h1 := div_mod p n
    have h2 := Nat.mod_lt n (show 0 < p by omega)
    have h3 := keep_le hp (n / p)
    have h4 : 0 < n / p := Nat.div_pos hle (by omega)
    generalize keep p (n / p) = s at *
    generalize n / p = q at *
    generalize n % p = r at *
    constructor
    · rintro ⟨hr, hs⟩
      rw [hs, hr, Nat.sub_add_cancel (by omega), Nat.mul_add]; omega
    · intro h
      have h5 := Nat.mul_le_mul_left (r + 1) h3
      rw [h, Nat.mul_add, Nat.mul_one, Nat.add_mul, Nat.one_mul] at h5
      have hr : r = p - 1 := by
        by_cases e : r = p - 1
        · exact e
        · exfalso
          have h6 := Nat.mul_le_mul_right q (show r + 2 ≤ p by omega)
          rw [Nat.add_mul] at h6
          omega
      refine ⟨hr, ?_⟩
      have h7 : r + 1 = p := by omega
      rw [h7] at h
      have h8 : p * s = p * (q + 1) := by rw [Nat.mul_add]; omega
      exact Nat.eq_of_mul_eq_mul_left (by omega) h8
theorem whole_power {p : Nat} (hp : 2 ≤ p) : ∀ j n, n + 1 = p ^ j → whole p n = true
  | 0, n, h => whole_low (by simp at h; omega)
  | j + 1, n, h => by
    have hpos : 0 < p ^ j := Nat.pow_pos (by omega)
    rw [Nat.pow_succ] at h
    have e : n = (p - 1) + p * (p ^ j - 1) := by
      rw [Nat.mul_comm p, Nat.sub_mul]
      have := Nat.le_mul_of_pos_left p hpos
      omega
    by_cases hlt : n < p
    · exact whole_low hlt
    · have h1 : n % p = p - 1 := by rw [e, Nat.add_mul_mod_self_left, Nat.mod_eq_of_lt (by omega)]
      have h2 : n / p = p ^ j - 1 := by rw [e, Nat.add_mul_div_left _ _ (by omega), Nat.div_eq_of_lt (by omega), Nat.zero_add]
      rw [whole_high hp (by omega), h1, whole_power hp j (n / p) (by omega)]; simp

/-- Between a power and the next one the whole rows are those all of whose lower digits are one less than p. -/
theorem whole_block {p : Nat} (hp : 2 ≤ p) : ∀ (j d r : Nat), 1 ≤ d → d < p → r < p ^ j → whole p (d * p ^ j + r) = decide (r = p ^ j - 1)
  | 0, d, r, h1, h2, h3 => by
    obtain rfl : r = 0 := by simp at h3; omega
    rw [Nat.pow_zero, Nat.mul_one, Nat.add_zero, whole_low h2]; rfl
  | j + 1, d, r, h1, h2, h3 => by
    have hpos : 0 < p ^ j := Nat.pow_pos (by omega)
    have hr := div_mod p r
    have hm := Nat.mod_lt r (show 0 < p by omega)
    have hq : r / p < p ^ j := Nat.div_lt_of_lt_mul (by rw [Nat.mul_comm, ← Nat.pow_succ]; exact h3)
    have e : d * p ^ (j + 1) + r = p * (d * p ^ j + r / p) + r % p := by
      rw [Nat.pow_succ, Nat.mul_add, ← Nat.mul_assoc, Nat.mul_comm (d * p ^ j) p]; omega
    have hge : p ≤ d * p ^ (j + 1) + r := by
      have h4 : 1 ≤ d * p ^ j + r / p := Nat.le_trans (Nat.mul_pos h1 hpos) (Nat.le_add_right _ _)
      have h5 := Nat.mul_le_mul_left p h4
      rw [e]; omega
    rw [whole_high hp hge, e, Nat.mul_add_mod, Nat.mod_eq_of_lt hm, Nat.mul_add_div (by omega), Nat.div_eq_of_lt hm, Nat.add_zero, whole_block hp j d (r / p) h1 h2 hq]
    rw [Bool.eq_iff_iff, Bool.and_eq_true, beq_iff_eq, decide_eq_true_eq, decide_eq_true_eq, Nat.pow_succ]
    generalize p ^ j = P at *
    generalize r / p = q at *
    generalize r % p = t at *
    constructor
    · rintro ⟨rfl, rfl⟩
      have h6 : p * (P - 1) = P * p - p := by rw [Nat.mul_sub, Nat.mul_comm, Nat.mul_one]
      have h7 := Nat.le_mul_of_pos_left p hpos
      omega
    · intro h
      have h7 := Nat.le_mul_of_pos_left p hpos
      have h8 : p * q + t + 1 = P * p := by omega
      have h9 : q = P - 1 := by
        by_cases e2 : q + 1 = P
        · omega
        · exfalso
          have h10 := Nat.mul_le_mul_left p (show q + 2 ≤ P by omega)
          rw [Nat.mul_add, Nat.mul_comm p P] at h10
          omega
      refine ⟨?_, h9⟩
      have h11 := Nat.mul_sub p P 1
      rw [h9, h11, Nat.mul_comm p P, Nat.mul_one] at h8
      omega

/-- The whole rows before m. -/
def wholeU (p m : Nat) : List Nat := (List.range m).filter (whole p)
theorem wholeU_succ (p m : Nat) : wholeU p (m + 1) = wholeU p m ++ (if whole p m then [m] else []) := by
  unfold wholeU
  rw [List.range_succ, List.filter_append]
  cases h : whole p m <;> simp [h]
theorem wholeU_one (p : Nat) (hp : 2 ≤ p) : wholeU p 1 = [0] := by rw [wholeU_succ, whole_low (by omega)]; rfl
theorem wholeU_part {p j d : Nat} (hp : 2 ≤ p) (h1 : 1 ≤ d) (h2 : d < p) : ∀ r, r < p ^ j → wholeU p (d * p ^ j + r) = wholeU p (d * p ^ j)
  | 0, _ => rfl
  | r + 1, h => by
    rw [← Nat.add_assoc, wholeU_succ, wholeU_part hp h1 h2 r (by omega), whole_block hp j d r h1 h2 (by omega), decide_eq_false (by omega)]
    simp
theorem wholeU_block {p j d : Nat} (hp : 2 ≤ p) (h1 : 1 ≤ d) (h2 : d < p) : wholeU p (d * p ^ j + p ^ j) = wholeU p (d * p ^ j) ++ [d * p ^ j + p ^ j - 1] := by
  have hpos : 0 < p ^ j := Nat.pow_pos (by omega)
  have e : d * p ^ j + p ^ j = d * p ^ j + (p ^ j - 1) + 1 := by omega
  rw [e, wholeU_succ, wholeU_part hp h1 h2 _ (by omega), whole_block hp j d _ h1 h2 (by omega), decide_eq_true rfl, if_pos rfl, Nat.add_sub_cancel]
/-- .. up to a row. -/
def wholeR (p row m : Nat) : List Nat := wholeU p (min m (row + 1))
theorem wholeR_in {p j d row : Nat} (hp : 2 ≤ p) (h1 : 1 ≤ d) (h2 : d < p) (h : d * p ^ j + p ^ j - 1 ≤ row) : wholeR p row (d * p ^ j + p ^ j) = wholeR p row (d * p ^ j) ++ [d * p ^ j + p ^ j - 1] := by
  have hpos : 0 < p ^ j := Nat.pow_pos (by omega)
  unfold wholeR
  rw [Nat.min_eq_left (by omega), Nat.min_eq_left (by omega), wholeU_block hp h1 h2]
theorem wholeR_out {p j d row : Nat} (hp : 2 ≤ p) (h1 : 1 ≤ d) (h2 : d < p) (h : ¬ d * p ^ j + p ^ j - 1 ≤ row) : wholeR p row (d * p ^ j + p ^ j) = wholeR p row (d * p ^ j) := by
  unfold wholeR
  rw [Nat.min_eq_right (by omega)]
  by_cases h3 : d * p ^ j ≤ row + 1
  · rw [Nat.min_eq_left h3]
    obtain ⟨r, hr⟩ : ∃ r, row + 1 = d * p ^ j + r := ⟨row + 1 - d * p ^ j, by omega⟩
    rw [hr, wholeU_part hp h1 h2 r (by omega)]
  · rw [Nat.min_eq_right (by omega)]
theorem wholeR_end (p row m : Nat) (h : row + 1 ≤ m) : wholeR p row m = wholeU p (row + 1) := by unfold wholeR; rw [Nat.min_eq_right h]
theorem wholeU_mem {p m n : Nat} : n ∈ wholeU p m ↔ n < m ∧ whole p n = true := by unfold wholeU; rw [List.mem_filter, List.mem_range]
theorem wholeU_rising (p m : Nat) : (wholeU p m).Pairwise (· < ·) := List.Pairwise.filter _ List.pairwise_lt_range
theorem wholeU_len (p : Nat) : ∀ m, (wholeU p m).length ≤ m
  | 0 => by simp [wholeU]
  | m + 1 => by rw [wholeU_succ, List.length_append]; have := wholeU_len p m; split <;> simp <;> omega
end Go.Proofs.Ytjghhmgnbcabdaa
