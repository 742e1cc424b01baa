/-
  Plain mathematics of digits: the digits of a number from the lowest one on, their sum, their product one more each, carries, what is under a number and how many. Nothing of the program.
-/
import Derived.Test.YtlkcdcmmcjkedaaMath
namespace Go.Proofs.Ytlkcdcmmcjkedaa
open Go.RowKit

/-- The digits of n in base b, from the lowest one on. -/
def digs (b n : Nat) : List Nat := if _h : 2 ≤ b ∧ 0 < n then n % b :: digs b (n / b) else []
termination_by n
decreasing_by exact Nat.div_lt_self _h.2 _h.1
/-- The digits of x and y side by side. -/
def pairs (b x y : Nat) : List (Nat × Nat) := if _h : 2 ≤ b ∧ 0 < x + y then (x % b, y % b) :: pairs b (x / b) (y / b) else []
termination_by x + y
decreasing_by
  rcases Nat.eq_zero_or_pos x with hx | hx
  · subst hx; have := Nat.div_lt_self (n := y) (k := b) (by omega) _h.1; simp; omega
  · have h1 := Nat.div_lt_self (n := x) (k := b) hx _h.1; have h2 := Nat.div_le_self y b; omega

theorem digs_zero (b : Nat) : digs b 0 = [] := by rw [digs, dif_neg (by omega)]
theorem digs_pos {b n : Nat} (hb : 2 ≤ b) (hn : 0 < n) : digs b n = n % b :: digs b (n / b) := by rw [digs, dif_pos ⟨hb, hn⟩]
theorem pairs_zero (b : Nat) : pairs b 0 0 = [] := by rw [pairs, dif_neg (by omega)]
theorem pairs_pos {b x y : Nat} (hb : 2 ≤ b) (hn : 0 < x + y) : pairs b x y = (x % b, y % b) :: pairs b (x / b) (y / b) := by rw [pairs, dif_pos ⟨hb, hn⟩]

/-- Numbers added; numbers, one more each, multiplied. -/
def sumL : List Nat → Nat
  | [] => 0
  | x :: r => x + sumL r
def mulL : List Nat → Nat
  | [] => 1
  | x :: r => (x + 1) * mulL r
theorem sumL_app : ∀ (p q : List Nat), sumL (p ++ q) = sumL p + sumL q
  | [], q => by simp [sumL]
  | x :: p, q => by simp [sumL, sumL_app p q]; omega
theorem mulL_app : ∀ (p q : List Nat), mulL (p ++ q) = mulL p * mulL q
  | [], q => by simp [mulL]
  | x :: p, q => by simp [mulL, mulL_app p q, Nat.mul_assoc]
theorem sumL_snoc (p : List Nat) (x : Nat) : sumL (p ++ [x]) = sumL p + x := by rw [sumL_app]; simp [sumL]
theorem mulL_snoc (p : List Nat) (x : Nat) : mulL (p ++ [x]) = mulL p * (x + 1) := by rw [mulL_app]; simp [mulL]
theorem mulL_pos : ∀ p : List Nat, 1 ≤ mulL p
  | [] => Nat.le_refl _
  | x :: p => by have := mulL_pos p; simp only [mulL]; exact Nat.le_trans this (Nat.le_mul_of_pos_left _ (by omega))

/-- Strong induction on a number that is divided. -/
theorem div_ind {b : Nat} (hb : 2 ≤ b) {p : Nat → Prop} (h0 : p 0) (h1 : ∀ n, 0 < n → p (n / b) → p n) (n : Nat) : p n := by
  induction n using Nat.strongRecOn with
  | ind n ih =>
    rcases Nat.eq_zero_or_pos n with h | h
    · subst h; exact h0
    · exact h1 n h (ih _ (Nat.div_lt_self h hb))
theorem div_ind2 {b : Nat} (hb : 2 ≤ b) {p : Nat → Nat → Prop} (h0 : p 0 0) (h1 : ∀ x y, 0 < x + y → p (x / b) (y / b) → p x y) (x y : Nat) : p x y := by
  obtain ⟨s, hs⟩ : ∃ s, s = x + y := ⟨_, rfl⟩
  induction s using Nat.strongRecOn generalizing x y with
  | ind s ih =>
    rcases Nat.eq_zero_or_pos (x + y) with h | h
    · obtain ⟨rfl, rfl⟩ : x = 0 ∧ y = 0 := by omega
      exact h0
    · refine h1 x y h (ih (x / b + y / b) ?_ _ _ rfl)
      have e1 := Nat.div_le_self x b
      have e2 := Nat.div_le_self y b
      rcases Nat.eq_zero_or_pos x with hx | hx
      · have := Nat.div_lt_self (n := y) (k := b) (by omega) hb; omega
      · have := Nat.div_lt_self (n := x) (k := b) hx hb; omega

theorem div_mod (b n : Nat) : b * (n / b) + n % b = n := Nat.div_add_mod n b
theorem two_mul_le {b q : Nat} (hb : 2 ≤ b) : 2 * q ≤ b * q := Nat.mul_le_mul_right q hb

theorem digs_lt {b : Nat} (hb : 2 ≤ b) (n : Nat) : ∀ d ∈ digs b n, d < b := by
  refine div_ind hb (p := fun n => ∀ d ∈ digs b n, d < b) (by rw [digs_zero]; simp) (fun n hn ih => ?_) n
  rw [digs_pos hb hn]
  intro d hd
  rcases List.mem_cons.1 hd with rfl | h
  · exact Nat.mod_lt _ (by omega)
  · exact ih d h
theorem sum_le {b : Nat} (hb : 2 ≤ b) (n : Nat) : sumL (digs b n) ≤ n := by
  refine div_ind hb (p := fun n => sumL (digs b n) ≤ n) (by rw [digs_zero]; exact Nat.le_refl _) (fun n hn ih => ?_) n
  rw [digs_pos hb hn]
  have := div_mod b n
  have := two_mul_le (q := n / b) hb
  simp only [sumL]; omega
theorem mul_le {b : Nat} (hb : 2 ≤ b) (n : Nat) : mulL (digs b n) ≤ n + 1 := by
  refine div_ind hb (p := fun n => mulL (digs b n) ≤ n + 1) (by rw [digs_zero]; exact Nat.le_refl _) (fun n hn ih => ?_) n
  rw [digs_pos hb hn]
  have h1 := div_mod b n
  have h2 : n % b + 1 ≤ b := Nat.mod_lt _ (by omega)
  have h3 := Nat.mul_le_mul_left (n % b + 1) ih
  have h4 := Nat.mul_le_mul_right (n / b) h2
  simp only [mulL]
  rw [Nat.mul_add, Nat.mul_one] at h3
  omega
theorem mul_two {b n : Nat} (hb : 2 ≤ b) (hn : 0 < n) : 2 ≤ mulL (digs b n) := by
  refine div_ind hb (p := fun n => 0 < n → 2 ≤ mulL (digs b n)) (fun h => by omega) (fun n hn ih _ => ?_) n hn
  rw [digs_pos hb hn]
  simp only [mulL]
  have hp := mulL_pos (digs b (n / b))
  rcases Nat.eq_zero_or_pos (n / b) with h | h
  · have := div_mod b n
    rw [h] at this
    exact Nat.le_trans (show 2 ≤ n % b + 1 by omega) (Nat.le_mul_of_pos_right _ hp)
  · exact Nat.le_trans (ih h) (Nat.le_mul_of_pos_left _ (by omega))
theorem len_le {b : Nat} (hb : 2 ≤ b) (n : Nat) : (digs b n).length ≤ n := by
  refine div_ind hb (p := fun n => (digs b n).length ≤ n) (by rw [digs_zero]; exact Nat.le_refl _) (fun n hn ih => ?_) n
  rw [digs_pos hb hn]
  have := Nat.div_lt_self hn hb
  simp only [List.length_cons]; omega
theorem pairs_len {b : Nat} (hb : 2 ≤ b) (x y : Nat) : (pairs b x y).length ≤ x + y := by
  refine div_ind2 hb (p := fun x y => (pairs b x y).length ≤ x + y) (by rw [pairs_zero]; exact Nat.le_refl _) (fun x y hn ih => ?_) x y
  rw [pairs_pos hb hn]
  have e1 := Nat.div_le_self x b
  have e2 := Nat.div_le_self y b
  simp only [List.length_cons]
  rcases Nat.eq_zero_or_pos x with hx | hx
  · have := Nat.div_lt_self (n := y) (k := b) (by omega) hb; omega
  · have := Nat.div_lt_self (n := x) (k := b) hx hb; omega

/-- Digits leave what the number leaves, by the base less 1. -/
theorem sum_mod {b : Nat} (hb : 2 ≤ b) (n : Nat) : ∃ q, n = sumL (digs b n) + (b - 1) * q := by
  refine div_ind hb (p := fun n => ∃ q, n = sumL (digs b n) + (b - 1) * q) ⟨0, by rw [digs_zero]; rfl⟩ (fun n hn ih => ?_) n
  obtain ⟨q, hq⟩ := ih
  refine ⟨n / b + q, ?_⟩
  rw [digs_pos hb hn]
  simp only [sumL]
  have h1 := div_mod b n
  obtain ⟨c, rfl⟩ : ∃ c, b = c + 1 := ⟨b - 1, by omega⟩
  rw [Nat.add_sub_cancel] at *
  rw [Nat.mul_add]
  rw [Nat.add_mul, Nat.one_mul] at h1
  omega
theorem sum_mod_eq {b : Nat} (hb : 2 ≤ b) (n : Nat) : sumL (digs b n) % (b - 1) = n % (b - 1) := by
  obtain ⟨q, hq⟩ := sum_mod hb n
  conv => rhs; rw [hq]
  rw [Nat.add_mul_mod_self_left]
theorem sum_times {b : Nat} (hb : 2 ≤ b) (n : Nat) : sumL (digs b (n * b)) = sumL (digs b n) := by
  rcases Nat.eq_zero_or_pos n with h | h
  · subst h; rw [Nat.zero_mul]
  · rw [digs_pos hb (Nat.mul_pos h (by omega)), Nat.mul_mod_left, Nat.mul_div_cancel _ (by omega)]; simp [sumL]

/-- Carries: how many, and which one goes on. -/
def carL (b : Nat) : Nat → List (Nat × Nat) → Nat
  | _, [] => 0
  | c, p :: r => (p.1 + p.2 + c) / b + carL b ((p.1 + p.2 + c) / b) r
def goesOn (b : Nat) : Nat → List (Nat × Nat) → Nat
  | c, [] => c
  | c, p :: r => goesOn b ((p.1 + p.2 + c) / b) r
theorem goesOn_snoc (b : Nat) : ∀ (c : Nat) (p : List (Nat × Nat)) (x : Nat × Nat), goesOn b c (p ++ [x]) = (x.1 + x.2 + goesOn b c p) / b
  | c, [], x => rfl
  | c, y :: p, x => by simp only [List.cons_append, goesOn]; exact goesOn_snoc b _ p x
theorem carL_snoc (b : Nat) : ∀ (c : Nat) (p : List (Nat × Nat)) (x : Nat × Nat), carL b c (p ++ [x]) = carL b c p + (x.1 + x.2 + goesOn b c p) / b
  | c, [], x => by simp [carL, goesOn]
  | c, y :: p, x => by simp only [List.cons_append, carL, goesOn]; rw [carL_snoc b _ p x]; omega
theorem one_carry {b x y c : Nat} (hx : x < b) (hy : y < b) (hc : c ≤ 1) : (x + y + c) / b ≤ 1 := by
  have : (x + y + c) / b < 2 := Nat.div_lt_of_lt_mul (by omega)
  omega
theorem goesOn_le {b : Nat} : ∀ (c : Nat) (p : List (Nat × Nat)), c ≤ 1 → (∀ x ∈ p, x.1 < b ∧ x.2 < b) → goesOn b c p ≤ 1
  | c, [], hc, _ => hc
  | c, x :: p, hc, h => goesOn_le _ p (one_carry (h x (by simp)).1 (h x (by simp)).2 hc) (fun y hy => h y (by simp [hy]))
theorem carL_le {b : Nat} : ∀ (c : Nat) (p : List (Nat × Nat)), c ≤ 1 → (∀ x ∈ p, x.1 < b ∧ x.2 < b) → carL b c p ≤ p.length
  | c, [], _, _ => Nat.le_refl _
  | c, x :: p, hc, h => by
    have h1 := one_carry (h x (by simp)).1 (h x (by simp)).2 hc
    have h2 := carL_le _ p h1 (fun y hy => h y (by simp [hy]))
    simp only [carL, List.length_cons]; omega
theorem pairs_lt {b : Nat} (hb : 2 ≤ b) (x y : Nat) : ∀ p ∈ pairs b x y, p.1 < b ∧ p.2 < b := by
  refine div_ind2 hb (p := fun x y => ∀ p ∈ pairs b x y, p.1 < b ∧ p.2 < b) (by rw [pairs_zero]; simp) (fun x y hn ih => ?_) x y
  rw [pairs_pos hb hn]
  intro d hd
  rcases List.mem_cons.1 hd with rfl | h
  · exact ⟨Nat.mod_lt _ (by omega), Nat.mod_lt _ (by omega)⟩
  · exact ih d h

/-- What is added at one place. -/
theorem place {b x y c : Nat} (hb : 2 ≤ b) : (x + y + c) % b = (x % b + y % b + c) % b ∧ (x + y + c) / b = x / b + y / b + (x % b + y % b + c) / b := by
  have hx := div_mod b x
  have hy := div_mod b y
  have he : x + y + c = (x % b + y % b + c) + b * (x / b + y / b) := by rw [Nat.mul_add]; omega
  constructor
  · rw [he, Nat.add_mul_mod_self_left]
  · rw [he, Nat.add_mul_div_left _ _ (by omega)]; omega
/-- Carries are what digits lose. -/
theorem carries {b : Nat} (hb : 2 ≤ b) (x y : Nat) : ∀ c, c ≤ 1 → (b - 1) * carL b c (pairs b x y) + sumL (digs b (x + y + c)) = sumL (digs b x) + sumL (digs b y) + c := by
  refine div_ind2 hb (p := fun x y => ∀ c, c ≤ 1 → (b - 1) * carL b c (pairs b x y) + sumL (digs b (x + y + c)) = sumL (digs b x) + sumL (digs b y) + c) ?_ (fun x y hn ih c hc => ?_) x y
  · intro c hc
    rw [pairs_zero, digs_zero]
    rcases Nat.eq_zero_or_pos c with h | h
    · subst h; rw [digs_zero]; rfl
    · obtain rfl : c = 1 := by omega
      rw [digs_pos hb (by omega), show (0 + 0 + 1) / b = 0 by exact Nat.div_eq_of_lt (by omega), digs_zero, show (0 + 0 + 1) % b = 1 by exact Nat.mod_eq_of_lt (by omega)]; rfl
  · rw [pairs_pos hb hn]
    have hsx : ∀ n, sumL (digs b n) = n % b + sumL (digs b (n / b)) := fun n => by
      rcases Nat.eq_zero_or_pos n with h | h
      · subst h; simp [digs_zero, sumL]
      · rw [digs_pos hb h]; rfl
    rw [hsx (x + y + c), hsx x, hsx y, (place (x := x) (y := y) (c := c) hb).1, (place (x := x) (y := y) (c := c) hb).2]
    simp only [carL]
    have hx := Nat.mod_lt x (show 0 < b by omega)
    have hy := Nat.mod_lt y (show 0 < b by omega)
    have h1 := one_carry hx hy hc
    have h2 := ih _ h1
    have h3 := div_mod b (x % b + y % b + c)
    generalize (x % b + y % b + c) / b = d at *
    generalize (x % b + y % b + c) % b = e at *
    rw [Nat.mul_add]
    rcases (show d = 0 ∨ d = 1 by omega) with rfl | rfl
    · omega
    · rw [Nat.mul_one] at *; omega
theorem carL_swap (b : Nat) : ∀ (c : Nat) (p : List (Nat × Nat)), carL b c (p.map fun x => (x.2, x.1)) = carL b c p
  | c, [] => rfl
  | c, x :: p => by simp only [List.map_cons, carL]; rw [Nat.add_comm x.2 x.1, carL_swap b _ p]
theorem pairs_swap {b : Nat} (hb : 2 ≤ b) (x y : Nat) : pairs b y x = (pairs b x y).map fun x => (x.2, x.1) := by
  refine div_ind2 hb (p := fun x y => pairs b y x = (pairs b x y).map fun x => (x.2, x.1)) (by rw [pairs_zero]; rfl) (fun x y hn ih => ?_) x y
  rw [pairs_pos hb hn, pairs_pos hb (show 0 < y + x by omega), ih]; rfl

/-- Each digit at most the one above it. -/
def und (b x y : Nat) : Bool := (pairs b x y).all fun p => decide (p.1 ≤ p.2)
theorem und_zero (b : Nat) : und b 0 0 = true := by unfold und; rw [pairs_zero]; rfl
theorem und_step {b : Nat} (hb : 2 ≤ b) (x y : Nat) : und b x y = (decide (x % b ≤ y % b) && und b (x / b) (y / b)) := by
  rcases Nat.eq_zero_or_pos (x + y) with h | h
  · obtain ⟨rfl, rfl⟩ : x = 0 ∧ y = 0 := by omega
    simp [und_zero]
  · unfold und; rw [pairs_pos hb h]; rfl
theorem und_none {b : Nat} (hb : 2 ≤ b) (y : Nat) : und b 0 y = true := by
  refine div_ind hb (p := fun y => und b 0 y = true) (und_zero b) (fun y hn ih => ?_) y
  rw [und_step hb, Nat.zero_div, ih]; simp
theorem und_le {b : Nat} (hb : 2 ≤ b) (x y : Nat) : und b x y = true → x ≤ y := by
  refine div_ind2 hb (p := fun x y => und b x y = true → x ≤ y) (fun _ => Nat.le_refl _) (fun x y hn ih h => ?_) x y
  rw [und_step hb, Bool.and_eq_true, decide_eq_true_eq] at h
  have h1 := ih h.2
  have h2 := div_mod b x
  have h3 := div_mod b y
  have h4 := Nat.mul_le_mul_left b h1
  omega
theorem und_same {b : Nat} (hb : 2 ≤ b) (x : Nat) : und b x x = true := by
  refine div_ind hb (p := fun x => und b x x = true) (und_zero b) (fun x hn ih => ?_) x
  rw [und_step hb, ih]; simp
/-- Nothing is carried where what is under is added to the rest. -/
theorem und_carries {b : Nat} (hb : 2 ≤ b) (x z : Nat) : und b x (x + z) = true ↔ carL b 0 (pairs b x z) = 0 := by
  refine div_ind2 hb (p := fun x z => und b x (x + z) = true ↔ carL b 0 (pairs b x z) = 0) ?_ (fun x z hn ih => ?_) x z
  · rw [pairs_zero, und_zero]; simp [carL]
  · rw [pairs_pos hb hn, und_step hb]
    have hp := place (b := b) (x := x) (y := z) (c := 0) hb
    rw [Nat.add_zero, Nat.add_zero] at hp
    rw [hp.1, hp.2]
    simp only [carL, Nat.add_zero]
    have hx := Nat.mod_lt x (show 0 < b by omega)
    have hy := Nat.mod_lt z (show 0 < b by omega)
    by_cases hc : x % b + z % b < b
    · rw [Nat.div_eq_of_lt hc, Nat.mod_eq_of_lt hc, Nat.add_zero, Nat.zero_add, ← ih]
      simp
    · have h1 : (x % b + z % b) / b = 1 := by
        have h2 : (x % b + z % b) / b < 2 := Nat.div_lt_of_lt_mul (by omega)
        have h3 : 1 ≤ (x % b + z % b) / b := (Nat.le_div_iff_mul_le (by omega)).2 (by omega)
        omega
      have h2 := div_mod b (x % b + z % b)
      rw [h1] at h2
      constructor
      · intro h
        rw [Bool.and_eq_true, decide_eq_true_eq] at h
        omega
      · intro h; omega
theorem und_sums {b : Nat} (hb : 2 ≤ b) (x y : Nat) : und b x y = true ↔ x ≤ y ∧ sumL (digs b x) + sumL (digs b (y - x)) = sumL (digs b y) := by
  constructor
  · intro h
    have hle := und_le hb x y h
    refine ⟨hle, ?_⟩
    have hc := carries hb x (y - x) 0 (by omega)
    have he : x + (y - x) = y := by omega
    rw [(und_carries hb x (y - x)).1 (by rw [he]; exact h), Nat.add_zero, he] at hc
    omega
  · rintro ⟨hle, hs⟩
    have hc := carries hb x (y - x) 0 (by omega)
    have he : x + (y - x) = y := by omega
    rw [Nat.add_zero, he] at hc
    have h0 : (b - 1) * carL b 0 (pairs b x (y - x)) = 0 := by omega
    have h1 : carL b 0 (pairs b x (y - x)) = 0 := by
      rcases Nat.mul_eq_zero.1 h0 with h | h
      · omega
      · exact h
    have := (und_carries hb x (y - x)).2 h1
    rwa [he] at this

/-- How many of the first m numbers are under n. -/
def undUp (b n : Nat) : Nat → Nat
  | 0 => 0
  | m + 1 => undUp b n m + (if und b m n then 1 else 0)
theorem undUp_le (b n : Nat) : ∀ m, undUp b n m ≤ m
  | 0 => Nat.le_refl _
  | m + 1 => by have := undUp_le b n m; simp only [undUp]; split <;> omega
theorem undUp_stable {b : Nat} (hb : 2 ≤ b) (n : Nat) : ∀ j, undUp b n (n + 1 + j) = undUp b n (n + 1)
  | 0 => rfl
  | j + 1 => by
    show undUp b n (n + 1 + j) + _ = _
    rw [undUp_stable hb n j, if_neg]
    · rfl
    · intro h; exact absurd (und_le hb _ _ h) (by show ¬ (n + 1 + j ≤ n); omega)
theorem undUp_part {b : Nat} (hb : 2 ≤ b) (n m : Nat) : ∀ j, j ≤ b → undUp b n (b * m + j) = undUp b n (b * m) + (if und b m (n / b) then min j (n % b + 1) else 0)
  | 0, _ => by simp
  | j + 1, h => by
    show undUp b n (b * m + j) + (if und b (b * m + j) n then 1 else 0) = _
    have h1 : (b * m + j) % b = j := by rw [Nat.mul_add_mod]; exact Nat.mod_eq_of_lt (by omega)
    have h2 : (b * m + j) / b = m := by rw [Nat.mul_add_div (by omega), Nat.div_eq_of_lt (by omega)]; rfl
    rw [undUp_part hb n m j (by omega), und_step hb (b * m + j) n, h1, h2]
    cases hu : und b m (n / b)
    · simp
    · by_cases hj : j ≤ n % b
      · simp [hj]; omega
      · simp [hj]; omega
theorem undUp_times {b : Nat} (hb : 2 ≤ b) (n : Nat) : ∀ m, undUp b n (b * m) = (n % b + 1) * undUp b (n / b) m
  | 0 => by simp [undUp]
  | m + 1 => by
    rw [Nat.mul_succ, undUp_part hb n m b (Nat.le_refl _), undUp_times hb n m]
    have := Nat.mod_lt n (show 0 < b by omega)
    simp only [undUp]
    cases und b m (n / b)
    · simp
    · simp only [if_true]; rw [Nat.mul_add, Nat.mul_one, Nat.min_eq_right (by omega)]
/-- Numbers under a number are counted. -/
theorem undUp_all {b : Nat} (hb : 2 ≤ b) (n : Nat) : undUp b n (n + 1) = mulL (digs b n) := by
  refine div_ind hb (p := fun n => undUp b n (n + 1) = mulL (digs b n)) ?_ (fun n hn ih => ?_) n
  · rw [digs_zero]; simp [undUp, und_zero, mulL]
  · rw [digs_pos hb hn]
    have h1 := div_mod b n
    have h2 := Nat.mod_lt n (show 0 < b by omega)
    have h3 : b * (n / b + 1) = n + 1 + (b - 1 - n % b) := by rw [Nat.mul_add, Nat.mul_one]; omega
    rw [← undUp_stable hb n (b - 1 - n % b), ← h3, undUp_times hb, ih]; rfl

/-- What is made of the digits from place k on. -/
def fromP (b : Nat) : List Nat → Nat
  | [] => 0
  | x :: r => x + b * fromP b r
theorem fromP_digs {b : Nat} (hb : 2 ≤ b) (n : Nat) : fromP b (digs b n) = n := by
  refine div_ind hb (p := fun n => fromP b (digs b n) = n) (by rw [digs_zero]; rfl) (fun n hn ih => ?_) n
  rw [digs_pos hb hn]
  have := div_mod b n
  simp only [fromP]; rw [ih]; omega
theorem fromP_drop (b : Nat) : ∀ (l : List Nat) (k : Nat) (h : k < l.length), fromP b (l.drop k) = fromP b (l.drop (k + 1)) * b + l[k]
  | [], k, h => by simp at h
  | x :: l, 0, h => by simp [fromP, Nat.mul_comm]; omega
  | x :: l, k + 1, h => by simpa using fromP_drop b l k (by simpa using h)
theorem fromP_le {b : Nat} (hb : 1 ≤ b) : ∀ (l : List Nat) (k : Nat), fromP b (l.drop k) ≤ fromP b l
  | [], k => by simp
  | x :: l, 0 => by simp
  | x :: l, k + 1 => by
    have h := fromP_le hb l k
    simp only [List.drop_succ_cons, fromP]
    have := Nat.le_mul_of_pos_left (fromP b l) hb
    omega
theorem digs_last {b : Nat} (hb : 2 ≤ b) (n : Nat) (hn : 0 < n) : ∃ h : (digs b n).length - 1 < (digs b n).length, 0 < (digs b n)[(digs b n).length - 1] := by
  refine div_ind hb (p := fun n => 0 < n → ∃ h : (digs b n).length - 1 < (digs b n).length, 0 < (digs b n)[(digs b n).length - 1]) (fun h => by omega) (fun n hn ih _ => ?_) n hn
  have hd := digs_pos hb hn
  generalize digs b n = D at hd
  subst hd
  rcases Nat.eq_zero_or_pos (n / b) with h | h
  · have := div_mod b n
    rw [h] at this
    rw [h, digs_zero]
    exact ⟨by simp, by simp; omega⟩
  · obtain ⟨h1, h2⟩ := ih h
    refine ⟨by simp, ?_⟩
    simp only [List.length_cons, Nat.add_sub_cancel]
    rw [List.getElem_cons]
    rw [dif_neg (by omega)]
    exact h2
end Go.Proofs.Ytlkcdcmmcjkedaa
