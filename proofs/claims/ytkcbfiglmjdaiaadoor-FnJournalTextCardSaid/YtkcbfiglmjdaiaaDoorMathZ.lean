/-
  Plain mathematics of the triangle: cells 'bin n k' by sums of the two above, rows, sums of slopes, heaps and turns. Nothing of the program.
-/
import Derived.WalkKit
import Derived.Laws.Concat
import Derived.Laws.Strings2
namespace Go.Proofs.YtkcbfiglmjdaiaaDoor
open Go.RowKit

/-- A fact kept out of the walk's sight. -/
theorem hide {p : Prop} (h : p) : Hid p := h

/-- The cell of row n at place k: the sum of the two above. -/
def bin : Nat → Nat → Nat
  | _, 0 => 1
  | 0, _ + 1 => 0
  | n + 1, k + 1 => bin n k + bin n (k + 1)

theorem bin_zero (n : Nat) : bin n 0 = 1 := by cases n <;> rfl
theorem bin_succ (n k : Nat) : bin (n + 1) (k + 1) = bin n k + bin n (k + 1) := rfl
theorem bin_over : ∀ (n k : Nat), n < k → bin n k = 0
  | 0, k + 1, _ => rfl
  | n + 1, k + 1, h => by rw [bin_succ, bin_over n k (by omega), bin_over n (k + 1) (by omega)]
theorem bin_self : ∀ n : Nat, bin n n = 1
  | 0 => rfl
  | n + 1 => by rw [bin_succ, bin_self n, bin_over n (n + 1) (by omega)]
theorem bin_le : ∀ (n k : Nat), bin n k ≤ 2 ^ n
  | n, 0 => by rw [bin_zero]; exact Nat.one_le_two_pow
  | 0, k + 1 => by simp [bin]
  | n + 1, k + 1 => by rw [bin_succ]; have h1 := bin_le n k; have h2 := bin_le n (k + 1); rw [Nat.pow_succ]; omega
theorem bin_small (n k : Nat) (h : n ≤ 61) : bin n k ≤ 2305843009213693952 :=
  Nat.le_trans (bin_le n k) (Nat.le_trans (Nat.pow_le_pow_right (by omega) h) (by decide))

/-- The row n of the triangle. -/
def rowN (n : Nat) : List Int := (List.range (n + 1)).map fun k => (bin n k : Int)
/-- The first k cells of row n. -/
def rowP (n k : Nat) : List Int := (List.range k).map fun i => (bin n i : Int)
/-- What lies in the variable 'out' when j rows have been made. -/
def outSt : Nat → List Int
  | 0 => []
  | j + 1 => rowN j

theorem rowN_len (n : Nat) : (rowN n).length = n + 1 := by simp [rowN]
theorem rowP_len (n k : Nat) : (rowP n k).length = k := by simp [rowP]
theorem outSt_len (j : Nat) : (outSt j).length = j := by cases j <;> simp [outSt, rowN]
theorem rowP_snoc (n k : Nat) : rowP n (k + 1) = rowP n k ++ [(bin n k : Int)] := by simp [rowP, List.range_succ]
theorem rowP_full (n : Nat) : rowP n (n + 1) = rowN n := rfl
theorem rowP_one (n : Nat) : rowP n 1 = [1] := by simp [rowP, bin_zero]
theorem rowP_last (n : Nat) : rowP n n ++ [1] = rowN n := by rw [← rowP_full, rowP_snoc, bin_self]; rfl
theorem outSt_get (j k : Nat) (h : k < j) : (outSt j)[k]? = some (bin (j - 1) k : Int) := by
  cases j with
  | zero => omega
  | succ j => simp only [outSt, rowN]; rw [List.getElem?_map, List.getElem?_range (by omega)]; rfl
theorem bin_sum (j k : Nat) (hk : 0 < k) (hj : k < j) : bin (j - 1) (k - 1) + bin (j - 1) k = bin j k := by
  cases j with
  | zero => omega
  | succ j => cases k with
    | zero => omega
    | succ k => rw [bin_succ]; rfl

/-- One way for the rest: so many things of the first heap, the others of the second one. -/
def vterm (a b c k : Nat) : Nat := if k ≤ c then bin a k * bin b (c - k) else 0
/-- The first n of these, added. -/
def vs (a b c : Nat) : Nat → Nat
  | 0 => 0
  | n + 1 => vs a b c n + vterm a b c n
theorem vs_stable (a b c m : Nat) (h : ∀ k, m ≤ k → vterm a b c k = 0) : ∀ n, m ≤ n → vs a b c n = vs a b c m
  | 0, hn => by obtain rfl : m = 0 := by omega
                rfl
  | n + 1, hn => by
    by_cases e : m = n + 1
    · rw [e]
    · show vs a b c n + vterm a b c n = _
      rw [vs_stable a b c m h n (by omega), h n (by omega)]; rfl
theorem vterm_over (a b c k : Nat) (h : a < k ∨ c < k) : vterm a b c k = 0 := by
  unfold vterm
  split
  · rcases h with h | h
    · rw [bin_over a k h, Nat.zero_mul]
    · omega
  · rfl
theorem vs_same (a b c : Nat) : vs a b c (a + 1) = vs a b c (c + 1) := by
  rcases Nat.le_total a c with h | h
  · exact (vs_stable a b c (a + 1) (fun k hk => vterm_over _ _ _ _ (.inl (by omega))) (c + 1) (by omega)).symm
  · exact vs_stable a b c (c + 1) (fun k hk => vterm_over _ _ _ _ (.inr (by omega))) (a + 1) (by omega)
theorem vs_step (a b c : Nat) : ∀ n, vs (a + 1) b (c + 1) (n + 1) = vs a b (c + 1) (n + 1) + vs a b c n
  | 0 => by simp [vs, vterm, bin_zero]
  | n + 1 => by
    show vs (a + 1) b (c + 1) (n + 1) + vterm (a + 1) b (c + 1) (n + 1) = vs a b (c + 1) (n + 1) + vterm a b (c + 1) (n + 1) + (vs a b c n + vterm a b c n)
    rw [vs_step a b c n]
    have : vterm (a + 1) b (c + 1) (n + 1) = vterm a b (c + 1) (n + 1) + vterm a b c n := by
      unfold vterm
      by_cases h : n ≤ c
      · rw [if_pos (by omega), if_pos (by omega), if_pos h, bin_succ, show c + 1 - (n + 1) = c - n by omega, Nat.add_mul]; omega
      · rw [if_neg (by omega), if_neg (by omega), if_neg h]
    omega
/-- Two heaps are one. -/
theorem heaps : ∀ (a b c : Nat), vs a b c (c + 1) = bin (a + b) c
  | 0, b, c => by
    rw [vs_stable 0 b c 1 (fun k hk => vterm_over _ _ _ _ (.inl (by omega))) (c + 1) (by omega)]
    simp [vs, vterm, bin_zero]
  | a + 1, b, 0 => by simp [vs, vterm, bin_zero]
  | a + 1, b, c + 1 => by
    rw [vs_step, heaps a b (c + 1), heaps a b c, show a + 1 + b = (a + b) + 1 by omega, bin_succ]; omega
theorem vs_mono (a b c : Nat) : ∀ m n, m ≤ n → vs a b c m ≤ vs a b c n
  | m, 0, h => by obtain rfl : m = 0 := by omega
                  exact Nat.le_refl _
  | m, n + 1, h => by
    by_cases e : m = n + 1
    · rw [e]; exact Nat.le_refl _
    · exact Nat.le_trans (vs_mono a b c m n (by omega)) (Nat.le_add_right _ _)
theorem vs_le (a b c n : Nat) : vs a b c n ≤ bin (a + b) c := by
  rcases Nat.le_total n (c + 1) with h | h
  · rw [← heaps]; exact vs_mono _ _ _ _ _ h
  · rw [vs_stable a b c (c + 1) (fun k hk => vterm_over _ _ _ _ (.inr (by omega))) n h, heaps]; exact Nat.le_refl _
theorem vs_small (a b c n : Nat) (ha : a ≤ 30) (hb : b ≤ 30) : vs a b c n ≤ 2305843009213693952 := Nat.le_trans (vs_le a b c n) (bin_small _ _ (by omega))
theorem prod_small (a b k m : Nat) (ha : a ≤ 30) (hb : b ≤ 30) : bin a k * bin b m ≤ 1152921504606846976 := by
  have h1 : bin a k ≤ 2 ^ 30 := Nat.le_trans (bin_le a k) (Nat.pow_le_pow_right (by omega) ha)
  have h2 : bin b m ≤ 2 ^ 30 := Nat.le_trans (bin_le b m) (Nat.pow_le_pow_right (by omega) hb)
  exact Nat.le_trans (Nat.mul_le_mul h1 h2) (by decide)

/-- The sign of a place. -/
def sg (k : Nat) : Int := if k % 2 = 0 then 1 else -1
theorem sg_succ (k : Nat) : sg (k + 1) = - sg k := by unfold sg; split <;> split <;> omega
theorem sg_even {k : Nat} (h : k % 2 = 0) : sg k = 1 := if_pos h
theorem sg_odd {k : Nat} (h : ¬ k % 2 = 0) : sg k = -1 := if_neg h
/-- The first k cells of row r with signs that take turns, added. -/
def ts (r : Nat) : Nat → Int
  | 0 => 0
  | k + 1 => ts r k + sg k * bin r k
theorem ts_succ (r : Nat) : ∀ k, ts (r + 1) (k + 1) = sg k * bin r k
  | 0 => by simp [ts, bin_zero]
  | k + 1 => by
    show ts (r + 1) (k + 1) + sg (k + 1) * bin (r + 1) (k + 1) = _
    rw [ts_succ r k, bin_succ, sg_succ]
    rw [Int.natCast_add, Int.mul_add, Int.neg_mul, Int.neg_mul]; omega
theorem ts_zero : ∀ k, ts 0 (k + 1) = 1
  | 0 => by simp [ts, sg, bin_zero]
  | k + 1 => by
    show ts 0 (k + 1) + sg (k + 1) * bin 0 (k + 1) = _
    rw [ts_zero k, bin_over 0 (k + 1) (by omega)]; simp
theorem ts_small (r k : Nat) (h : r ≤ 60) : -2305843009213693952 ≤ ts r k ∧ ts r k ≤ 2305843009213693952 := by
  cases k with
  | zero => simp [ts]
  | succ k => cases r with
    | zero => rw [ts_zero]; omega
    | succ r =>
      rw [ts_succ]
      have := bin_small r k (by omega)
      unfold sg
      split <;> omega

/-- A cell times its place is the row times the cell before in the row before. -/
theorem absorb : ∀ (n k : Nat), bin (n + 1) (k + 1) * (k + 1) = (n + 1) * bin n k
  | 0, 0 => rfl
  | 0, k + 1 => by rw [bin_over (0 + 1) (k + 1 + 1) (by omega), bin_over 0 (k + 1) (by omega)]; simp
  | m + 1, 0 => by
    have h := absorb m 0
    rw [bin_zero] at *
    rw [bin_succ, bin_zero]; omega
  | m + 1, j + 1 => by
    have h1 := absorb m (j + 1)
    have h2 := absorb m j
    rw [bin_succ (m + 1) (j + 1), Nat.add_mul, h1]
    have h3 : bin (m + 1) (j + 1) * (j + 1 + 1) = bin (m + 1) (j + 1) * (j + 1) + bin (m + 1) (j + 1) := by rw [Nat.mul_add, Nat.mul_one]
    rw [h3, h2]
    have h4 : (m + 1 + 1) * bin (m + 1) (j + 1) = (m + 1) * bin (m + 1) (j + 1) + bin (m + 1) (j + 1) := by rw [Nat.add_mul, Nat.one_mul]
    have h5 : (m + 1) * bin (m + 1) (j + 1) = (m + 1) * bin m j + (m + 1) * bin m (j + 1) := by rw [bin_succ m j, Nat.mul_add]
    omega
/-- Rows look the same from both ends. -/
theorem bin_ends : ∀ (n a b : Nat), a + b = n → bin n a = bin n b
  | 0, a, b, h => by obtain rfl : a = 0 := by omega
                     obtain rfl : b = 0 := by omega
                     rfl
  | n + 1, 0, b, h => by obtain rfl : b = n + 1 := by omega
                         rw [bin_zero, bin_self]
  | n + 1, a + 1, 0, h => by obtain rfl : a = n := by omega
                             rw [bin_zero, bin_self]
  | n + 1, a + 1, b + 1, h => by
    rw [bin_succ, bin_succ, bin_ends n a (b + 1) (by omega), bin_ends n (a + 1) b (by omega)]; omega
/-- The first k cells of row n together. -/
def psum (n : Nat) : Nat → Nat
  | 0 => 0
  | k + 1 => psum n k + bin n k
theorem psum_step (n : Nat) : ∀ k, psum (n + 1) (k + 1) = psum n (k + 1) + psum n k
  | 0 => by simp [psum, bin_zero]
  | k + 1 => by
    show psum (n + 1) (k + 1) + bin (n + 1) (k + 1) = psum n (k + 1) + bin n (k + 1) + (psum n k + bin n k)
    rw [psum_step n k, bin_succ]; omega
theorem psum_row : ∀ n, psum n (n + 1) = 2 ^ n
  | 0 => rfl
  | n + 1 => by
    rw [psum_step, show psum n (n + 1 + 1) = psum n (n + 1) + bin n (n + 1) from rfl, bin_over n (n + 1) (by omega), psum_row n, Nat.pow_succ]; omega
theorem psum_mono (n : Nat) : ∀ j k, j ≤ k → psum n j ≤ psum n k
  | j, 0, h => by obtain rfl : j = 0 := by omega
                  exact Nat.le_refl _
  | j, k + 1, h => by
    by_cases e : j = k + 1
    · rw [e]; exact Nat.le_refl _
    · exact Nat.le_trans (psum_mono n j k (by omega)) (Nat.le_add_right _ _)
theorem psum_small (n k : Nat) (h : n ≤ 60) (hk : k ≤ n + 1) : psum n k ≤ 1152921504606846976 :=
  Nat.le_trans (psum_mono n k (n + 1) hk) (by rw [psum_row]; exact Nat.le_trans (Nat.pow_le_pow_right (by omega) h) (by decide))
end Go.Proofs.YtkcbfiglmjdaiaaDoor
/-
  Plain mathematics of desks: texts of numbers and of deeds, journals. Nothing of the program.
-/
namespace Go.Proofs.YtkcbfiglmjdaiaaDoor

/-- The digits of a number, in decimal. -/
def decF : Nat → Nat → List Nat
  | 0, n => [48 + n % 10]
  | f + 1, n => if n < 10 then [48 + n] else decF f (n / 10) ++ [48 + n % 10]
/-- The number of a text of one to nine digits, without leading zeros. -/
def digL : List Nat → Nat → Option Nat
  | [], n => some n
  | c :: r, n => if 48 ≤ c ∧ c ≤ 57 then digL r (10 * n + (c - 48)) else none
def digT (s : List Nat) : Option Nat := if 1 ≤ s.length ∧ s.length ≤ 9 ∧ ¬ (1 < s.length ∧ s.getD 0 0 = 48) then digL s 0 else none
/-- What stands between the bytes sep. -/
def cutL (sep : Nat) : List Nat → List Nat → List (List Nat)
  | line, [] => [line]
  | line, c :: r => if c = sep then line :: cutL sep [] r else cutL sep (line ++ [c]) r
def cutT (sep : Nat) (s : List Nat) : List (List Nat) := cutL sep [] s

/-- The text of a deed. -/
def deedT (k n : Int) : List Nat :=
  if k = 0 ∧ 0 ≤ n ∧ n ≤ 99 then [102, 108, 105, 112, 32] ++ decF 20 n.toNat
  else if k = 1 ∧ 0 ≤ n ∧ n ≤ 9 then [112, 117, 116, 32] ++ decF 20 n.toNat
  else if k = 2 ∧ n = 0 then [117, 110, 100, 101, 114]
  else if k = 3 ∧ n = 0 then [116, 117, 114, 110]
  else if k = 4 ∧ n = 0 then [114, 111, 117, 110, 100]
  else if k = 5 ∧ n = 0 then [98, 97, 99, 107]
  else []
/-- The number of the second word, -1 if it is none. -/
def secI (s : List Nat) : Int := match digT ((cutT 32 s).getD 1 []) with | some n => n | none => -1
/-- The deeds that a text may be. -/
def candD (s : List Nat) : List (Int × Int) := [(2, 0), (3, 0), (4, 0), (5, 0)] ++ (if (cutT 32 s).length = 2 then [(0, secI s), (1, secI s)] else [])
/-- The deed of a text. -/
def readD (s : List Nat) : Option (Int × Int) := (candD s).find? fun a => decide (s ≠ []) && decide (deedT a.1 a.2 = s)

theorem readD_text {s : List Nat} {a : Int × Int} (h : readD s = some a) : s ≠ [] ∧ deedT a.1 a.2 = s := by
  have := List.find?_some h
  simpa using this
/-- The deeds that have a text. -/
def isD (k n : Int) : Prop := (k = 0 ∧ 0 ≤ n ∧ n ≤ 99) ∨ (k = 1 ∧ 0 ≤ n ∧ n ≤ 9) ∨ (n = 0 ∧ (k = 2 ∨ k = 3 ∨ k = 4 ∨ k = 5))
theorem deedT_is {k n : Int} (h : deedT k n ≠ []) : isD k n := by
  unfold deedT at h
  unfold isD
  split at h
  · exact .inl (by assumption)
  split at h
  · exact .inr (.inl (by assumption))
  split at h
  · exact .inr (.inr (by omega))
  split at h
  · exact .inr (.inr (by omega))
  split at h
  · exact .inr (.inr (by omega))
  split at h
  · exact .inr (.inr (by omega))
  · exact absurd rfl h
/-- All deeds that have a text, by number. -/
def nthD (i : Nat) : Int × Int := if i < 100 then (0, i) else if i < 110 then (1, ((i - 100 : Nat) : Int)) else (((i - 108 : Nat) : Int), 0)
theorem isD_nth {k n : Int} (h : isD k n) : ∃ i, i < 114 ∧ nthD i = (k, n) := by
  rcases h with ⟨rfl, h1, h2⟩ | ⟨rfl, h1, h2⟩ | ⟨rfl, rfl | rfl | rfl | rfl⟩
  · exact ⟨n.toNat, by omega, by unfold nthD; rw [if_pos (by omega)]; simp; omega⟩
  · exact ⟨100 + n.toNat, by omega, by unfold nthD; rw [if_neg (by omega), if_pos (by omega)]; simp; omega⟩
  · exact ⟨110, by omega, rfl⟩
  · exact ⟨111, by omega, rfl⟩
  · exact ⟨112, by omega, rfl⟩
  · exact ⟨113, by omega, rfl⟩
/-- A text as it must be: not empty, of bytes that are no newline, at most eight of them, its end no space, and read as the deed. -/
def okD (i : Nat) : Bool :=
  let a := nthD i
  let s := deedT a.1 a.2
  decide (s ≠ []) && s.all (fun c => decide (c < 256 ∧ c ≠ 10)) && decide (s.length ≤ 8) && decide (s.getLast? ≠ some 32) && decide (readD s = some a)
set_option maxRecDepth 100000 in
theorem okD_all : ((List.range 114).all okD) = true := by decide +kernel
theorem deed_ok {k n : Int} (h : isD k n) : deedT k n ≠ [] ∧ (∀ c ∈ deedT k n, c < 256 ∧ c ≠ 10) ∧ (deedT k n).length ≤ 8 ∧ (deedT k n).getLast? ≠ some 32 ∧ readD (deedT k n) = some (k, n) := by
  obtain ⟨i, hi, he⟩ := isD_nth h
  have h1 := List.all_eq_true.1 okD_all i (List.mem_range.2 hi)
  unfold okD at h1
  rw [he] at h1
  simp only [Bool.and_eq_true, decide_eq_true_eq, List.all_eq_true] at h1
  exact ⟨h1.1.1.1.1, h1.1.1.1.2, h1.1.1.2, h1.1.2, h1.2⟩
theorem read_of_text {k n : Int} (h : deedT k n ≠ []) : readD (deedT k n) = some (k, n) := (deed_ok (deedT_is h)).2.2.2.2
theorem deed_len (k n : Int) : (deedT k n).length ≤ 8 := by
  by_cases h : deedT k n = []
  · rw [h]; simp
  · exact (deed_ok (deedT_is h)).2.2.1
theorem deed_byte (k n : Int) : ∀ c ∈ deedT k n, c < 256 ∧ c ≠ 10 := by
  by_cases h : deedT k n = []
  · rw [h]; simp
  · exact (deed_ok (deedT_is h)).2.1
/-- With a space behind it a text is no deed's. -/
theorem read_space (s : List Nat) : readD (s ++ [32]) = none := by
  cases h : readD (s ++ [32]) with
  | none => rfl
  | some a =>
    obtain ⟨h1, h2⟩ := readD_text h
    have h3 := (deed_ok (deedT_is (k := a.1) (n := a.2) (by rw [h2]; exact h1))).2.2.2.1
    rw [h2] at h3
    simp at h3

/-- The deeds of the lines with which a text begins, the beginning of the first line known; and how many bytes these lines have. -/
def jrL : List Nat → List Nat → List (Int × Int) × Nat
  | _, [] => ([], 0)
  | line, c :: r => if c = 10 then (match readD line with
      | some a => (a :: (jrL [] r).1, line.length + 1 + (jrL [] r).2)
      | none => ([], 0)) else jrL (line ++ [c]) r
def jrT (s : List Nat) : List (Int × Int) × Nat := jrL [] s
/-- The text of a journal. -/
def jtL : List (Int × Int) → List Nat
  | [] => []
  | a :: r => deedT a.1 a.2 ++ [10] ++ jtL r
def jtT (L : List (Int × Int)) : List Nat := if (∀ a ∈ L, deedT a.1 a.2 ≠ []) then jtL L else []
theorem jrL_deed {a : Int × Int} {line r : List Nat} (h : readD line = some a) : jrL line (10 :: r) = (a :: (jrL [] r).1, line.length + 1 + (jrL [] r).2) := by
  rw [jrL, if_pos rfl, h]
theorem jrL_none {line r : List Nat} (h : readD line = none) : jrL line (10 :: r) = ([], 0) := by
  rw [jrL, if_pos rfl, h]
theorem jrL_other {c : Nat} {line r : List Nat} (h : c ≠ 10) : jrL line (c :: r) = jrL (line ++ [c]) r := by
  rw [jrL, if_neg h]
theorem jrL_line : ∀ (t line r : List Nat), (∀ c ∈ t, c ≠ 10) → jrL line (t ++ r) = jrL (line ++ t) r
  | [], line, r, _ => by simp
  | c :: t, line, r, h => by
    rw [List.cons_append, jrL_other (h c (by simp)), jrL_line t _ r (fun x hx => h x (by simp [hx]))]
    simp
theorem jr_of_jt : ∀ L : List (Int × Int), (∀ a ∈ L, deedT a.1 a.2 ≠ []) → jrL [] (jtL L) = (L, (jtL L).length)
  | [], _ => rfl
  | a :: L, h => by
    have ha := h a (by simp)
    have ih := jr_of_jt L (fun x hx => h x (by simp [hx]))
    unfold jtL
    rw [List.append_assoc, jrL_line _ _ _ (fun c hc => (deed_byte a.1 a.2 c hc).2), List.nil_append, List.singleton_append, jrL_deed (read_of_text ha), ih]
    simp
    omega
/-- What was read, written again, is the beginning of the text. -/
theorem jt_of_jr : ∀ (s line : List Nat), line ++ s.take ((jrL line s).2 - line.length) = (if (jrL line s).1 = [] then line else jtL (jrL line s).1) ∧ ((jrL line s).1 = [] → (jrL line s).2 = 0) ∧ ((jrL line s).1 ≠ [] → line.length < (jrL line s).2) ∧ (jrL line s).2 ≤ line.length + s.length ∧ ∀ a ∈ (jrL line s).1, deedT a.1 a.2 ≠ []
  | [], line => by simp [jrL]
  | c :: s, line => by
    by_cases e : c = 10
    · subst e
      cases hr : readD line with
      | none => rw [jrL_none hr]; simp
      | some a =>
        rw [jrL_deed hr]
        obtain ⟨h1, h2, h3, h4, h5⟩ := jt_of_jr s []
        obtain ⟨hne, ht⟩ := readD_text hr
        simp only [List.nil_append, List.length_nil, Nat.sub_zero] at h1 h2 h3 h4
        refine ⟨?_, by simp, by simp; omega, by simp; omega, fun x hx => ?_⟩
        · rw [if_neg (by simp)]
          simp only
          rw [show line.length + 1 + (jrL [] s).2 - line.length = (jrL [] s).2 + 1 by omega, List.take_succ_cons]
          unfold jtL
          rw [ht, List.append_assoc, List.singleton_append]
          congr 2
          rw [h1]
          split
          · rename_i e0; rw [e0]; rfl
          · rfl
        · rcases List.mem_cons.1 hx with rfl | hx
          · rw [ht]; exact hne
          · exact h5 x hx
    · rw [jrL_other e]
      obtain ⟨h1, h2, h3, h4, h5⟩ := jt_of_jr s (line ++ [c])
      rw [List.length_append, List.length_singleton] at h1 h3 h4
      refine ⟨?_, h2, fun h => by have := h3 h; omega, by simp; omega, h5⟩
      by_cases e0 : (jrL (line ++ [c]) s).1 = []
      · rw [if_pos e0, h2 e0]; simp
      · rw [if_neg e0] at h1 ⊢
        have := h3 e0
        rw [show (jrL (line ++ [c]) s).2 - line.length = (jrL (line ++ [c]) s).2 - (line.length + 1) + 1 by omega, List.take_succ_cons, ← h1]
        simp
/-- Of a beginning of the text the first deeds are read. -/
theorem jr_take : ∀ (s line : List Nat) (k : Nat), (jrL line (s.take k)).1 = (jrL line s).1.take (jrL line (s.take k)).1.length ∧ (jrL line (s.take k)).1.length ≤ (jrL line s).1.length
  | [], line, k => by simp
  | c :: s, line, 0 => by simp [jrL]
  | c :: s, line, k + 1 => by
    rw [List.take_succ_cons]
    by_cases e : c = 10
    · subst e
      cases hr : readD line with
      | none => rw [jrL_none hr, jrL_none hr]; simp
      | some a =>
        rw [jrL_deed hr, jrL_deed hr]
        obtain ⟨h1, h2⟩ := jr_take s [] k
        refine ⟨?_, by simpa using h2⟩
        simp only [List.length_cons, List.take_succ_cons]
        rw [← h1]
    · rw [jrL_other e, jrL_other e]
      exact jr_take s _ k
end Go.Proofs.YtkcbfiglmjdaiaaDoor
/-
  Plain mathematics of digits: the digits of a number from the lowest one on, their sum, their product one more each, carries, what is under a number and how many. Nothing of the program.
-/
namespace Go.Proofs.YtkcbfiglmjdaiaaDoor
open Go.RowKit

/-- The digits of n in base b, from the lowest one on. -/
def digs (b n : Nat) : List Nat := if _h : 2 ≤ b ∧ 0 < n then n % b :: digs b (n / b) else []
termination_by n
decreasing_by exact Nat.div_lt_self _h.2 _h.1
/-- The digits of x and y side by side. -/
def pairs (b x y : Nat) : List (Nat × Nat) := if _h : 2 ≤ b ∧ 0 < x + y then (x % b, y % b) :: pairs b (x / b) (y / b) else []
termination_by x + y
decreasing_by
  rcases Nat.eq_zero_or_pos x with hx | hx
  · subst hx; have := Nat.div_lt_self (n := y) (k := b) (by omega) _h.1; simp; omega
  · have h1 := Nat.div_lt_self (n := x) (k := b) hx _h.1; have h2 := Nat.div_le_self y b; omega

theorem digs_zero (b : Nat) : digs b 0 = [] := by rw [digs, dif_neg (by omega)]
theorem digs_pos {b n : Nat} (hb : 2 ≤ b) (hn : 0 < n) : digs b n = n % b :: digs b (n / b) := by rw [digs, dif_pos ⟨hb, hn⟩]
theorem pairs_zero (b : Nat) : pairs b 0 0 = [] := by rw [pairs, dif_neg (by omega)]
theorem pairs_pos {b x y : Nat} (hb : 2 ≤ b) (hn : 0 < x + y) : pairs b x y = (x % b, y % b) :: pairs b (x / b) (y / b) := by rw [pairs, dif_pos ⟨hb, hn⟩]

/-- Numbers added; numbers, one more each, multiplied. -/
def sumL : List Nat → Nat
  | [] => 0
  | x :: r => x + sumL r
def mulL : List Nat → Nat
  | [] => 1
  | x :: r => (x + 1) * mulL r
theorem sumL_app : ∀ (p q : List Nat), sumL (p ++ q) = sumL p + sumL q
  | [], q => by simp [sumL]
  | x :: p, q => by simp [sumL, sumL_app p q]; omega
theorem mulL_app : ∀ (p q : List Nat), mulL (p ++ q) = mulL p * mulL q
  | [], q => by simp [mulL]
  | x :: p, q => by simp [mulL, mulL_app p q, Nat.mul_assoc]
theorem sumL_snoc (p : List Nat) (x : Nat) : sumL (p ++ [x]) = sumL p + x := by rw [sumL_app]; simp [sumL]
theorem mulL_snoc (p : List Nat) (x : Nat) : mulL (p ++ [x]) = mulL p * (x + 1) := by rw [mulL_app]; simp [mulL]
theorem mulL_pos : ∀ p : List Nat, 1 ≤ mulL p
  | [] => Nat.le_refl _
  | x :: p => by have := mulL_pos p; simp only [mulL]; exact Nat.le_trans this (Nat.le_mul_of_pos_left _ (by omega))

/-- Strong induction on a number that is divided. -/
theorem div_ind {b : Nat} (hb : 2 ≤ b) {p : Nat → Prop} (h0 : p 0) (h1 : ∀ n, 0 < n → p (n / b) → p n) (n : Nat) : p n := by
  induction n using Nat.strongRecOn with
  | ind n ih =>
    rcases Nat.eq_zero_or_pos n with h | h
    · subst h; exact h0
    · exact h1 n h (ih _ (Nat.div_lt_self h hb))
theorem div_ind2 {b : Nat} (hb : 2 ≤ b) {p : Nat → Nat → Prop} (h0 : p 0 0) (h1 : ∀ x y, 0 < x + y → p (x / b) (y / b) → p x y) (x y : Nat) : p x y := by
  obtain ⟨s, hs⟩ : ∃ s, s = x + y := ⟨_, rfl⟩
  induction s using Nat.strongRecOn generalizing x y with
  | ind s ih =>
    rcases Nat.eq_zero_or_pos (x + y) with h | h
    · obtain ⟨rfl, rfl⟩ : x = 0 ∧ y = 0 := by omega
      exact h0
    · refine h1 x y h (ih (x / b + y / b) ?_ _ _ rfl)
      have e1 := Nat.div_le_self x b
      have e2 := Nat.div_le_self y b
      rcases Nat.eq_zero_or_pos x with hx | hx
      · have := Nat.div_lt_self (n := y) (k := b) (by omega) hb; omega
      · have := Nat.div_lt_self (n := x) (k := b) hx hb; omega

theorem div_mod (b n : Nat) : b * (n / b) + n % b = n := Nat.div_add_mod n b
theorem two_mul_le {b q : Nat} (hb : 2 ≤ b) : 2 * q ≤ b * q := Nat.mul_le_mul_right q hb

theorem digs_lt {b : Nat} (hb : 2 ≤ b) (n : Nat) : ∀ d ∈ digs b n, d < b := by
  refine div_ind hb (p := fun n => ∀ d ∈ digs b n, d < b) (by rw [digs_zero]; simp) (fun n hn ih => ?_) n
  rw [digs_pos hb hn]
  intro d hd
  rcases List.mem_cons.1 hd with rfl | h
  · exact Nat.mod_lt _ (by omega)
  · exact ih d h
theorem sum_le {b : Nat} (hb : 2 ≤ b) (n : Nat) : sumL (digs b n) ≤ n := by
  refine div_ind hb (p := fun n => sumL (digs b n) ≤ n) (by rw [digs_zero]; exact Nat.le_refl _) (fun n hn ih => ?_) n
  rw [digs_pos hb hn]
  have := div_mod b n
  have := two_mul_le (q := n / b) hb
  simp only [sumL]; omega
theorem mul_le {b : Nat} (hb : 2 ≤ b) (n : Nat) : mulL (digs b n) ≤ n + 1 := by
  refine div_ind hb (p := fun n => mulL (digs b n) ≤ n + 1) (by rw [digs_zero]; exact Nat.le_refl _) (fun n hn ih => ?_) n
  rw [digs_pos hb hn]
  have h1 := div_mod b n
  have h2 : n % b + 1 ≤ b := Nat.mod_lt _ (by omega)
  have h3 := Nat.mul_le_mul_left (n % b + 1) ih
  have h4 := Nat.mul_le_mul_right (n / b) h2
  simp only [mulL]
  rw [Nat.mul_add, Nat.mul_one] at h3
  omega
theorem mul_two {b n : Nat} (hb : 2 ≤ b) (hn : 0 < n) : 2 ≤ mulL (digs b n) := by
  refine div_ind hb (p := fun n => 0 < n → 2 ≤ mulL (digs b n)) (fun h => by omega) (fun n hn ih _ => ?_) n hn
  rw [digs_pos hb hn]
  simp only [mulL]
  have hp := mulL_pos (digs b (n / b))
  rcases Nat.eq_zero_or_pos (n / b) with h | h
  · have := div_mod b n
    rw [h] at this
    exact Nat.le_trans (show 2 ≤ n % b + 1 by omega) (Nat.le_mul_of_pos_right _ hp)
  · exact Nat.le_trans (ih h) (Nat.le_mul_of_pos_left _ (by omega))
theorem len_le {b : Nat} (hb : 2 ≤ b) (n : Nat) : (digs b n).length ≤ n := by
  refine div_ind hb (p := fun n => (digs b n).length ≤ n) (by rw [digs_zero]; exact Nat.le_refl _) (fun n hn ih => ?_) n
  rw [digs_pos hb hn]
  have := Nat.div_lt_self hn hb
  simp only [List.length_cons]; omega
theorem pairs_len {b : Nat} (hb : 2 ≤ b) (x y : Nat) : (pairs b x y).length ≤ x + y := by
  refine div_ind2 hb (p := fun x y => (pairs b x y).length ≤ x + y) (by rw [pairs_zero]; exact Nat.le_refl _) (fun x y hn ih => ?_) x y
  rw [pairs_pos hb hn]
  have e1 := Nat.div_le_self x b
  have e2 := Nat.div_le_self y b
  simp only [List.length_cons]
  rcases Nat.eq_zero_or_pos x with hx | hx
  · have := Nat.div_lt_self (n := y) (k := b) (by omega) hb; omega
  · have := Nat.div_lt_self (n := x) (k := b) hx hb; omega

/-- Digits leave what the number leaves, by the base less 1. -/
theorem sum_mod {b : Nat} (hb : 2 ≤ b) (n : Nat) : ∃ q, n = sumL (digs b n) + (b - 1) * q := by
  refine div_ind hb (p := fun n => ∃ q, n = sumL (digs b n) + (b - 1) * q) ⟨0, by rw [digs_zero]; rfl⟩ (fun n hn ih => ?_) n
  obtain ⟨q, hq⟩ := ih
  refine ⟨n / b + q, ?_⟩
  rw [digs_pos hb hn]
  simp only [sumL]
  have h1 := div_mod b n
  obtain ⟨c, rfl⟩ : ∃ c, b = c + 1 := ⟨b - 1, by omega⟩
  rw [Nat.add_sub_cancel] at *
  rw [Nat.mul_add]
  rw [Nat.add_mul, Nat.one_mul] at h1
  omega
theorem sum_mod_eq {b : Nat} (hb : 2 ≤ b) (n : Nat) : sumL (digs b n) % (b - 1) = n % (b - 1) := by
  obtain ⟨q, hq⟩ := sum_mod hb n
  conv => rhs; rw [hq]
  rw [Nat.add_mul_mod_self_left]
theorem sum_times {b : Nat} (hb : 2 ≤ b) (n : Nat) : sumL (digs b (n * b)) = sumL (digs b n) := by
  rcases Nat.eq_zero_or_pos n with h | h
  · subst h; rw [Nat.zero_mul]
  · rw [digs_pos hb (Nat.mul_pos h (by omega)), Nat.mul_mod_left, Nat.mul_div_cancel _ (by omega)]; simp [sumL]

/-- Carries: how many, and which one goes on. -/
def carL (b : Nat) : Nat → List (Nat × Nat) → Nat
  | _, [] => 0
  | c, p :: r => (p.1 + p.2 + c) / b + carL b ((p.1 + p.2 + c) / b) r
def goesOn (b : Nat) : Nat → List (Nat × Nat) → Nat
  | c, [] => c
  | c, p :: r => goesOn b ((p.1 + p.2 + c) / b) r
theorem goesOn_snoc (b : Nat) : ∀ (c : Nat) (p : List (Nat × Nat)) (x : Nat × Nat), goesOn b c (p ++ [x]) = (x.1 + x.2 + goesOn b c p) / b
  | c, [], x => rfl
  | c, y :: p, x => by simp only [List.cons_append, goesOn]; exact goesOn_snoc b _ p x
theorem carL_snoc (b : Nat) : ∀ (c : Nat) (p : List (Nat × Nat)) (x : Nat × Nat), carL b c (p ++ [x]) = carL b c p + (x.1 + x.2 + goesOn b c p) / b
  | c, [], x => by simp [carL, goesOn]
  | c, y :: p, x => by simp only [List.cons_append, carL, goesOn]; rw [carL_snoc b _ p x]; omega
theorem one_carry {b x y c : Nat} (hx : x < b) (hy : y < b) (hc : c ≤ 1) : (x + y + c) / b ≤ 1 := by
  have : (x + y + c) / b < 2 := Nat.div_lt_of_lt_mul (by omega)
  omega
theorem goesOn_le {b : Nat} : ∀ (c : Nat) (p : List (Nat × Nat)), c ≤ 1 → (∀ x ∈ p, x.1 < b ∧ x.2 < b) → goesOn b c p ≤ 1
  | c, [], hc, _ => hc
  | c, x :: p, hc, h => goesOn_le _ p (one_carry (h x (by simp)).1 (h x (by simp)).2 hc) (fun y hy => h y (by simp [hy]))
theorem carL_le {b : Nat} : ∀ (c : Nat) (p : List (Nat × Nat)), c ≤ 1 → (∀ x ∈ p, x.1 < b ∧ x.2 < b) → carL b c p ≤ p.length
  | c, [], _, _ => Nat.le_refl _
  | c, x :: p, hc, h => by
    have h1 := one_carry (h x (by simp)).1 (h x (by simp)).2 hc
    have h2 := carL_le _ p h1 (fun y hy => h y (by simp [hy]))
    simp only [carL, List.length_cons]; omega
theorem pairs_lt {b : Nat} (hb : 2 ≤ b) (x y : Nat) : ∀ p ∈ pairs b x y, p.1 < b ∧ p.2 < b := by
  refine div_ind2 hb (p := fun x y => ∀ p ∈ pairs b x y, p.1 < b ∧ p.2 < b) (by rw [pairs_zero]; simp) (fun x y hn ih => ?_) x y
  rw [pairs_pos hb hn]
  intro d hd
  rcases List.mem_cons.1 hd with rfl | h
  · exact ⟨Nat.mod_lt _ (by omega), Nat.mod_lt _ (by omega)⟩
  · exact ih d h

/-- What is added at one place. -/
theorem place {b x y c : Nat} (hb : 2 ≤ b) : (x + y + c) % b = (x % b + y % b + c) % b ∧ (x + y + c) / b = x / b + y / b + (x % b + y % b + c) / b := by
  have hx := div_mod b x
  have hy := div_mod b y
  have he : x + y + c = (x % b + y % b + c) + b * (x / b + y / b) := by rw [Nat.mul_add]; omega
  constructor
  · rw [he, Nat.add_mul_mod_self_left]
  · rw [he, Nat.add_mul_div_left _ _ (by omega)]; omega
/-- Carries are what digits lose. -/
theorem carries {b : Nat} (hb : 2 ≤ b) (x y : Nat) : ∀ c, c ≤ 1 → (b - 1) * carL b c (pairs b x y) + sumL (digs b (x + y + c)) = sumL (digs b x) + sumL (digs b y) + c := by
  refine div_ind2 hb (p := fun x y => ∀ c, c ≤ 1 → (b - 1) * carL b c (pairs b x y) + sumL (digs b (x + y + c)) = sumL (digs b x) + sumL (digs b y) + c) ?_ (fun x y hn ih c hc => ?_) x y
  · intro c hc
    rw [pairs_zero, digs_zero]
    rcases Nat.eq_zero_or_pos c with h | h
    · subst h; rw [digs_zero]; rfl
    · obtain rfl : c = 1 := by omega
      rw [digs_pos hb (by omega), show (0 + 0 + 1) / b = 0 by exact Nat.div_eq_of_lt (by omega), digs_zero, show (0 + 0 + 1) % b = 1 by exact Nat.mod_eq_of_lt (by omega)]; rfl
  · rw [pairs_pos hb hn]
    have hsx : ∀ n, sumL (digs b n) = n % b + sumL (digs b (n / b)) := fun n => by
      rcases Nat.eq_zero_or_pos n with h | h
      · subst h; simp [digs_zero, sumL]
      · rw [digs_pos hb h]; rfl
    rw [hsx (x + y + c), hsx x, hsx y, (place (x := x) (y := y) (c := c) hb).1, (place (x := x) (y := y) (c := c) hb).2]
    simp only [carL]
    have hx := Nat.mod_lt x (show 0 < b by omega)
    have hy := Nat.mod_lt y (show 0 < b by omega)
    have h1 := one_carry hx hy hc
    have h2 := ih _ h1
    have h3 := div_mod b (x % b + y % b + c)
    generalize (x % b + y % b + c) / b = d at *
    generalize (x % b + y % b + c) % b = e at *
    rw [Nat.mul_add]
    rcases (show d = 0 ∨ d = 1 by omega) with rfl | rfl
    · omega
    · rw [Nat.mul_one] at *; omega
theorem carL_swap (b : Nat) : ∀ (c : Nat) (p : List (Nat × Nat)), carL b c (p.map fun x => (x.2, x.1)) = carL b c p
  | c, [] => rfl
  | c, x :: p => by simp only [List.map_cons, carL]; rw [Nat.add_comm x.2 x.1, carL_swap b _ p]
theorem pairs_swap {b : Nat} (hb : 2 ≤ b) (x y : Nat) : pairs b y x = (pairs b x y).map fun x => (x.2, x.1) := by
  refine div_ind2 hb (p := fun x y => pairs b y x = (pairs b x y).map fun x => (x.2, x.1)) (by rw [pairs_zero]; rfl) (fun x y hn ih => ?_) x y
  rw [pairs_pos hb hn, pairs_pos hb (show 0 < y + x by omega), ih]; rfl

/-- Each digit at most the one above it. -/
def und (b x y : Nat) : Bool := (pairs b x y).all fun p => decide (p.1 ≤ p.2)
theorem und_zero (b : Nat) : und b 0 0 = true := by unfold und; rw [pairs_zero]; rfl
theorem und_step {b : Nat} (hb : 2 ≤ b) (x y : Nat) : und b x y = (decide (x % b ≤ y % b) && und b (x / b) (y / b)) := by
  rcases Nat.eq_zero_or_pos (x + y) with h | h
  · obtain ⟨rfl, rfl⟩ : x = 0 ∧ y = 0 := by omega
    simp [und_zero]
  · unfold und; rw [pairs_pos hb h]; rfl
theorem und_none {b : Nat} (hb : 2 ≤ b) (y : Nat) : und b 0 y = true := by
  refine div_ind hb (p := fun y => und b 0 y = true) (und_zero b) (fun y hn ih => ?_) y
  rw [und_step hb, Nat.zero_div, ih]; simp
theorem und_le {b : Nat} (hb : 2 ≤ b) (x y : Nat) : und b x y = true → x ≤ y := by
  refine div_ind2 hb (p := fun x y => und b x y = true → x ≤ y) (fun _ => Nat.le_refl _) (fun x y hn ih h => ?_) x y
  rw [und_step hb, Bool.and_eq_true, decide_eq_true_eq] at h
  have h1 := ih h.2
  have h2 := div_mod b x
  have h3 := div_mod b y
  have h4 := Nat.mul_le_mul_left b h1
  omega
theorem und_same {b : Nat} (hb : 2 ≤ b) (x : Nat) : und b x x = true := by
  refine div_ind hb (p := fun x => und b x x = true) (und_zero b) (fun x hn ih => ?_) x
  rw [und_step hb, ih]; simp
/-- Nothing is carried where what is under is added to the rest. -/
theorem und_carries {b : Nat} (hb : 2 ≤ b) (x z : Nat) : und b x (x + z) = true ↔ carL b 0 (pairs b x z) = 0 := by
  refine div_ind2 hb (p := fun x z => und b x (x + z) = true ↔ carL b 0 (pairs b x z) = 0) ?_ (fun x z hn ih => ?_) x z
  · rw [pairs_zero, und_zero]; simp [carL]
  · rw [pairs_pos hb hn, und_step hb]
    have hp := place (b := b) (x := x) (y := z) (c := 0) hb
    rw [Nat.add_zero, Nat.add_zero] at hp
    rw [hp.1, hp.2]
    simp only [carL, Nat.add_zero]
    have hx := Nat.mod_lt x (show 0 < b by omega)
    have hy := Nat.mod_lt z (show 0 < b by omega)
    by_cases hc : x % b + z % b < b
    · rw [Nat.div_eq_of_lt hc, Nat.mod_eq_of_lt hc, Nat.add_zero, Nat.zero_add, ← ih]
      simp
    · have h1 : (x % b + z % b) / b = 1 := by
        have h2 : (x % b + z % b) / b < 2 := Nat.div_lt_of_lt_mul (by omega)
        have h3 : 1 ≤ (x % b + z % b) / b := (Nat.le_div_iff_mul_le (by omega)).2 (by omega)
        omega
      have h2 := div_mod b (x % b + z % b)
      rw [h1] at h2
      constructor
      · intro h
        rw [Bool.and_eq_true, decide_eq_true_eq] at h
        omega
      · intro h; omega
theorem und_sums {b : Nat} (hb : 2 ≤ b) (x y : Nat) : und b x y = true ↔ x ≤ y ∧ sumL (digs b x) + sumL (digs b (y - x)) = sumL (digs b y) := by
  constructor
  · intro h
    have hle := und_le hb x y h
    refine ⟨hle, ?_⟩
    have hc := carries hb x (y - x) 0 (by omega)
    have he : x + (y - x) = y := by omega
    rw [(und_carries hb x (y - x)).1 (by rw [he]; exact h), Nat.add_zero, he] at hc
    omega
  · rintro ⟨hle, hs⟩
    have hc := carries hb x (y - x) 0 (by omega)
    have he : x + (y - x) = y := by omega
    rw [Nat.add_zero, he] at hc
    have h0 : (b - 1) * carL b 0 (pairs b x (y - x)) = 0 := by omega
    have h1 : carL b 0 (pairs b x (y - x)) = 0 := by
      rcases Nat.mul_eq_zero.1 h0 with h | h
      · omega
      · exact h
    have := (und_carries hb x (y - x)).2 h1
    rwa [he] at this

/-- How many of the first m numbers are under n. -/
def undUp (b n : Nat) : Nat → Nat
  | 0 => 0
  | m + 1 => undUp b n m + (if und b m n then 1 else 0)
theorem undUp_le (b n : Nat) : ∀ m, undUp b n m ≤ m
  | 0 => Nat.le_refl _
  | m + 1 => by have := undUp_le b n m; simp only [undUp]; split <;> omega
theorem undUp_stable {b : Nat} (hb : 2 ≤ b) (n : Nat) : ∀ j, undUp b n (n + 1 + j) = undUp b n (n + 1)
  | 0 => rfl
  | j + 1 => by
    show undUp b n (n + 1 + j) + _ = _
    rw [undUp_stable hb n j, if_neg]
    · rfl
    · intro h; exact absurd (und_le hb _ _ h) (by show ¬ (n + 1 + j ≤ n); omega)
theorem undUp_part {b : Nat} (hb : 2 ≤ b) (n m : Nat) : ∀ j, j ≤ b → undUp b n (b * m + j) = undUp b n (b * m) + (if und b m (n / b) then min j (n % b + 1) else 0)
  | 0, _ => by simp
  | j + 1, h => by
    show undUp b n (b * m + j) + (if und b (b * m + j) n then 1 else 0) = _
    have h1 : (b * m + j) % b = j := by rw [Nat.mul_add_mod]; exact Nat.mod_eq_of_lt (by omega)
    have h2 : (b * m + j) / b = m := by rw [Nat.mul_add_div (by omega), Nat.div_eq_of_lt (by omega)]; rfl
    rw [undUp_part hb n m j (by omega), und_step hb (b * m + j) n, h1, h2]
    cases hu : und b m (n / b)
    · simp
    · by_cases hj : j ≤ n % b
      · simp [hj]; omega
      · simp [hj]; omega
theorem undUp_times {b : Nat} (hb : 2 ≤ b) (n : Nat) : ∀ m, undUp b n (b * m) = (n % b + 1) * undUp b (n / b) m
  | 0 => by simp [undUp]
  | m + 1 => by
    rw [Nat.mul_succ, undUp_part hb n m b (Nat.le_refl _), undUp_times hb n m]
    have := Nat.mod_lt n (show 0 < b by omega)
    simp only [undUp]
    cases und b m (n / b)
    · simp
    · simp only [if_true]; rw [Nat.mul_add, Nat.mul_one, Nat.min_eq_right (by omega)]
/-- Numbers under a number are counted. -/
theorem undUp_all {b : Nat} (hb : 2 ≤ b) (n : Nat) : undUp b n (n + 1) = mulL (digs b n) := by
  refine div_ind hb (p := fun n => undUp b n (n + 1) = mulL (digs b n)) ?_ (fun n hn ih => ?_) n
  · rw [digs_zero]; simp [undUp, und_zero, mulL]
  · rw [digs_pos hb hn]
    have h1 := div_mod b n
    have h2 := Nat.mod_lt n (show 0 < b by omega)
    have h3 : b * (n / b + 1) = n + 1 + (b - 1 - n % b) := by rw [Nat.mul_add, Nat.mul_one]; omega
    rw [← undUp_stable hb n (b - 1 - n % b), ← h3, undUp_times hb, ih]; rfl

/-- What is made of the digits from place k on. -/
def fromP (b : Nat) : List Nat → Nat
  | [] => 0
  | x :: r => x + b * fromP b r
theorem fromP_digs {b : Nat} (hb : 2 ≤ b) (n : Nat) : fromP b (digs b n) = n := by
  refine div_ind hb (p := fun n => fromP b (digs b n) = n) (by rw [digs_zero]; rfl) (fun n hn ih => ?_) n
  rw [digs_pos hb hn]
  have := div_mod b n
  simp only [fromP]; rw [ih]; omega
theorem fromP_drop (b : Nat) : ∀ (l : List Nat) (k : Nat) (h : k < l.length), fromP b (l.drop k) = fromP b (l.drop (k + 1)) * b + l[k]
  | [], k, h => by simp at h
  | x :: l, 0, h => by simp [fromP, Nat.mul_comm]; omega
  | x :: l, k + 1, h => by simpa using fromP_drop b l k (by simpa using h)
theorem fromP_le {b : Nat} (hb : 1 ≤ b) : ∀ (l : List Nat) (k : Nat), fromP b (l.drop k) ≤ fromP b l
  | [], k => by simp
  | x :: l, 0 => by simp
  | x :: l, k + 1 => by
    have h := fromP_le hb l k
    simp only [List.drop_succ_cons, fromP]
    have := Nat.le_mul_of_pos_left (fromP b l) hb
    omega
theorem digs_last {b : Nat} (hb : 2 ≤ b) (n : Nat) (hn : 0 < n) : ∃ h : (digs b n).length - 1 < (digs b n).length, 0 < (digs b n)[(digs b n).length - 1] := by
  refine div_ind hb (p := fun n => 0 < n → ∃ h : (digs b n).length - 1 < (digs b n).length, 0 < (digs b n)[(digs b n).length - 1]) (fun h => by omega) (fun n hn ih _ => ?_) n hn
  have hd := digs_pos hb hn
  generalize digs b n = D at hd
  subst hd
  rcases Nat.eq_zero_or_pos (n / b) with h | h
  · have := div_mod b n
    rw [h] at this
    rw [h, digs_zero]
    exact ⟨by simp, by simp; omega⟩
  · obtain ⟨h1, h2⟩ := ih h
    refine ⟨by simp, ?_⟩
    simp only [List.length_cons, Nat.add_sub_cancel]
    rw [List.getElem_cons]
    rw [dif_neg (by omega)]
    exact h2
end Go.Proofs.YtkcbfiglmjdaiaaDoor
/-
  Plain mathematics of how often a prime divides: numbers, products of all numbers up to a number, cells of the triangle; by digits, by carries; and how much it may be. Nothing of the program.
-/
namespace Go.Proofs.YtkcbfiglmjdaiaaDoor
open Go.RowKit

/-- How often p divides n. -/
def val (p n : Nat) : Nat := if _h : (2 ≤ p ∧ 0 < n) ∧ n % p = 0 then val p (n / p) + 1 else 0
termination_by n
decreasing_by exact Nat.div_lt_self _h.1.2 _h.1.1
/-- What is left of n when p no longer divides it. -/
def strip (p n : Nat) : Nat := if _h : (2 ≤ p ∧ 0 < n) ∧ n % p = 0 then strip p (n / p) else n
termination_by n
decreasing_by exact Nat.div_lt_self _h.1.2 _h.1.1
/-- n by p, by its square, and so on, added. -/
def tup (p n : Nat) : Nat := if _h : 2 ≤ p ∧ 0 < n then n / p + tup p (n / p) else 0
termination_by n
decreasing_by exact Nat.div_lt_self _h.2 _h.1

theorem val_no {p n : Nat} (h : n % p ≠ 0) : val p n = 0 := by rw [val, dif_neg (fun e => h e.2)]
theorem val_yes {p n : Nat} (hp : 2 ≤ p) (hn : 0 < n) (h : n % p = 0) : val p n = val p (n / p) + 1 := by rw [val, dif_pos ⟨⟨hp, hn⟩, h⟩]
theorem strip_no {p n : Nat} (h : n % p ≠ 0) : strip p n = n := by rw [strip, dif_neg (fun e => h e.2)]
theorem strip_yes {p n : Nat} (hp : 2 ≤ p) (hn : 0 < n) (h : n % p = 0) : strip p n = strip p (n / p) := by rw [strip, dif_pos ⟨⟨hp, hn⟩, h⟩]
theorem tup_zero (p : Nat) : tup p 0 = 0 := by rw [tup, dif_neg (by omega)]
theorem tup_pos {p n : Nat} (hp : 2 ≤ p) (hn : 0 < n) : tup p n = n / p + tup p (n / p) := by rw [tup, dif_pos ⟨hp, hn⟩]
theorem tup_any {p : Nat} (hp : 2 ≤ p) (n : Nat) : tup p n = n / p + tup p (n / p) := by
  rcases Nat.eq_zero_or_pos n with h | h
  · subst h; simp [tup_zero]
  · exact tup_pos hp h
theorem div_pos_of_mod {p n : Nat} (hn : 0 < n) (h : n % p = 0) : 0 < n / p := by
  rcases Nat.eq_zero_or_pos (n / p) with e | e
  · have := div_mod p n; rw [e, h] at this; omega
  · exact e

theorem strip_val {p : Nat} (hp : 2 ≤ p) (n : Nat) : 0 < n → p ^ val p n * strip p n = n ∧ 0 < strip p n := by
  refine div_ind hp (p := fun n => 0 < n → p ^ val p n * strip p n = n ∧ 0 < strip p n) (fun h => by omega) (fun n hn ih _ => ?_) n
  by_cases h : n % p = 0
  · have h1 := ih (div_pos_of_mod hn h)
    rw [val_yes hp hn h, strip_yes hp hn h, Nat.pow_succ]
    refine ⟨?_, h1.2⟩
    have h2 := div_mod p n
    rw [h, Nat.add_zero] at h2
    calc p ^ val p (n / p) * p * strip p (n / p) = p * (p ^ val p (n / p) * strip p (n / p)) := by rw [Nat.mul_comm _ p, Nat.mul_assoc]
      _ = n := by rw [h1.1, h2]
  · rw [val_no h, strip_no h]; simp; exact hn
theorem strip_mod {p : Nat} (hp : 2 ≤ p) (n : Nat) : 0 < n → strip p n % p ≠ 0 := by
  refine div_ind hp (p := fun n => 0 < n → strip p n % p ≠ 0) (fun h => by omega) (fun n hn ih _ => ?_) n
  by_cases h : n % p = 0
  · rw [strip_yes hp hn h]; exact ih (div_pos_of_mod hn h)
  · rw [strip_no h]; exact h
theorem pow_gt {p : Nat} (hp : 2 ≤ p) : ∀ k, k + 1 ≤ p ^ k
  | 0 => by simp
  | k + 1 => by
    have h1 := pow_gt hp k
    have h2 := Nat.mul_le_mul_left (p ^ k) hp
    rw [Nat.pow_succ]; omega
theorem val_pow_le {p : Nat} (hp : 2 ≤ p) {n : Nat} (hn : 0 < n) : p ^ val p n ≤ n := by
  have h := strip_val hp n hn
  have h2 := Nat.le_mul_of_pos_right (p ^ val p n) h.2
  omega
theorem val_lt {p : Nat} (hp : 2 ≤ p) {n : Nat} (hn : 0 < n) : val p n < n := by
  have h1 := val_pow_le hp hn
  have h2 := pow_gt hp (val p n)
  omega

/-- Digits tell how often. -/
theorem legendre {p : Nat} (hp : 2 ≤ p) (n : Nat) : (p - 1) * tup p n + sumL (digs p n) = n := by
  refine div_ind hp (p := fun n => (p - 1) * tup p n + sumL (digs p n) = n) (by rw [tup_zero, digs_zero]; rfl) (fun n hn ih => ?_) n
  rw [tup_pos hp hn, digs_pos hp hn]
  simp only [sumL]
  have h1 := div_mod p n
  obtain ⟨c, rfl⟩ : ∃ c, p = c + 1 := ⟨p - 1, by omega⟩
  rw [Nat.add_sub_cancel] at *
  rw [Nat.mul_add]
  rw [Nat.add_mul, Nat.one_mul] at h1
  omega
theorem tup_le {p : Nat} (hp : 2 ≤ p) (n : Nat) : tup p n ≤ n := by
  have h1 := legendre hp n
  have h2 := Nat.le_mul_of_pos_left (tup p n) (show 0 < p - 1 by omega)
  omega
theorem succ_div_mod {p : Nat} (hp : 2 ≤ p) (n : Nat) : ((n + 1) % p = 0 ∧ (n + 1) / p = n / p + 1) ∨ ((n + 1) % p ≠ 0 ∧ (n + 1) / p = n / p) := by
  have h1 := div_mod p n
  have hm := Nat.mod_lt n (show 0 < p by omega)
  by_cases h : n % p + 1 = p
  · left
    have e : n + 1 = p * (n / p + 1) := by rw [Nat.mul_add]; omega
    constructor
    · rw [e, Nat.mul_mod_right]
    · conv => lhs; rw [e]
      rw [Nat.mul_div_cancel_left _ (by omega)]
  · right
    have e : n + 1 = p * (n / p) + (n % p + 1) := by omega
    constructor
    · rw [e, Nat.mul_add_mod, Nat.mod_eq_of_lt (show n % p + 1 < p by omega)]; omega
    · conv => lhs; rw [e]
      rw [Nat.mul_add_div (by omega), Nat.div_eq_of_lt (show n % p + 1 < p by omega), Nat.add_zero]
/-- With one number more it is as much more as p divides that. -/
theorem tup_succ {p : Nat} (hp : 2 ≤ p) (n : Nat) : tup p (n + 1) = tup p n + val p (n + 1) := by
  induction n using Nat.strongRecOn with
  | ind n ih =>
    rw [tup_any hp (n + 1), tup_any hp n]
    rcases succ_div_mod hp n with ⟨h1, h2⟩ | ⟨h1, h2⟩
    · rw [h2, val_yes hp (by omega) h1, h2]
      have hlt : n / p < n ∨ n = 0 := by
        rcases Nat.eq_zero_or_pos n with h | h
        · exact .inr h
        · exact .inl (Nat.div_lt_self h hp)
      rcases hlt with hlt | rfl
      · rw [ih _ hlt]; omega
      · rw [Nat.mod_eq_of_lt (by omega)] at h1; omega
    · rw [h2, val_no h1]; omega

/-- The six primes. -/
def prm (p : Nat) : Prop := p = 2 ∨ p = 3 ∨ p = 5 ∨ p = 7 ∨ p = 11 ∨ p = 13
instance (p : Nat) : Decidable (prm p) := by unfold prm; infer_instance
theorem prm_two {p : Nat} (h : prm p) : 2 ≤ p ∧ p ≤ 13 := by unfold prm at h; omega
def sixth : List Nat := [2, 3, 5, 7, 11, 13]
theorem prm_in {p : Nat} (h : prm p) : p ∈ sixth := by unfold prm at h; unfold sixth; simp; omega
theorem zeros_all : sixth.all (fun p => (List.range p).all fun x => (List.range p).all fun y => !(x * y % p == 0) || (x == 0 || y == 0)) = true := by decide
theorem no_zeros {p : Nat} (h : prm p) (x : Nat) (hx : x < p) (y : Nat) (hy : y < p) (hz : x * y % p = 0) : x = 0 ∨ y = 0 := by
  have h1 := List.all_eq_true.1 (List.all_eq_true.1 (List.all_eq_true.1 zeros_all p (prm_in h)) x (List.mem_range.2 hx)) y (List.mem_range.2 hy)
  simpa [hz] using h1
theorem euclid {p : Nat} (h : prm p) (x y : Nat) (hxy : x * y % p = 0) : x % p = 0 ∨ y % p = 0 := by
  have hp := prm_two h
  refine no_zeros h _ (Nat.mod_lt _ (by omega)) _ (Nat.mod_lt _ (by omega)) ?_
  rw [← Nat.mul_mod]; exact hxy
theorem val_times {p n : Nat} (hp : 2 ≤ p) (hn : 0 < n) : val p (n * p) = val p n + 1 := by
  rw [val_yes hp (Nat.mul_pos hn (by omega)) (Nat.mul_mod_left _ _), Nat.mul_div_cancel _ (by omega)]
/-- Of a product it is both together. -/
theorem val_mul {p : Nat} (h : prm p) (x y : Nat) : 0 < x → 0 < y → val p (x * y) = val p x + val p y := by
  have hp := (prm_two h).1
  revert y
  refine div_ind hp (p := fun x => ∀ y, 0 < x → 0 < y → val p (x * y) = val p x + val p y) (fun _ h => by omega) (fun x hx ihx y _ hy => ?_) x
  by_cases hxm : x % p = 0
  · have e := div_mod p x
    rw [hxm, Nat.add_zero] at e
    have h1 := ihx y (div_pos_of_mod hx hxm) hy
    rw [val_yes hp hx hxm]
    conv => lhs; rw [← e]
    rw [show p * (x / p) * y = x / p * y * p by rw [Nat.mul_comm p, Nat.mul_assoc, Nat.mul_comm p, ← Nat.mul_assoc], val_times hp (Nat.mul_pos (div_pos_of_mod hx hxm) hy), h1]
    omega
  · rw [val_no hxm]
    refine div_ind hp (p := fun y => 0 < y → val p (x * y) = 0 + val p y) (fun h => by omega) (fun y hy ih _ => ?_) y hy
    by_cases hym : y % p = 0
    · have e := div_mod p y
      rw [hym, Nat.add_zero] at e
      have h1 := ih (div_pos_of_mod hy hym)
      rw [val_yes hp hy hym]
      conv => lhs; rw [← e]
      rw [show x * (p * (y / p)) = x * (y / p) * p by rw [Nat.mul_comm p, Nat.mul_assoc], val_times hp (Nat.mul_pos hx (div_pos_of_mod hy hym)), h1]
      omega
    · rw [val_no hym, val_no (fun e => by rcases euclid h x y e with e | e; exact hxm e; exact hym e)]
theorem val_one {p : Nat} (hp : 2 ≤ p) : val p 1 = 0 := val_no (by rw [Nat.mod_eq_of_lt (by omega)]; omega)
theorem apart_all : sixth.all (fun p => sixth.all fun q => p == q || !(p % q == 0)) = true := by decide
theorem prm_apart {p q : Nat} (hp : prm p) (hq : prm q) (hne : p ≠ q) : p % q ≠ 0 := by
  have h1 := List.all_eq_true.1 (List.all_eq_true.1 apart_all p (prm_in hp)) q (prm_in hq)
  simpa [hne] using h1
/-- Divided by another prime it is as often. -/
theorem val_apart {p q n : Nat} (hp : prm p) (hq : prm q) (hne : p ≠ q) (hn : 0 < n) (h : n % p = 0) : val q (n / p) = val q n := by
  have e := div_mod p n
  rw [h, Nat.add_zero] at e
  conv => rhs; rw [← e]
  rw [val_mul hq _ _ (by have := prm_two hp; omega) (div_pos_of_mod hn h), val_no (prm_apart hp hq hne)]
  omega
theorem val_strip {p q : Nat} (hp : prm p) (hq : prm q) (hne : p ≠ q) (n : Nat) : 0 < n → val q (strip p n) = val q n := by
  have h2 := (prm_two hp).1
  refine div_ind h2 (p := fun n => 0 < n → val q (strip p n) = val q n) (fun h => by omega) (fun n hn ih _ => ?_) n
  by_cases h : n % p = 0
  · rw [strip_yes h2 hn h, ih (div_pos_of_mod hn h), val_apart hp hq hne hn h]
  · rw [strip_no h]

theorem bin_half (n k : Nat) : bin (n + 1) (k + 1) ≤ 2 ^ n := by
  rw [bin_succ, ← psum_row n]
  by_cases h : k + 2 ≤ n + 1
  · have h1 := psum_mono n (k + 2) (n + 1) h
    simp only [psum] at h1 ⊢
    omega
  · by_cases e : k = n
    · subst e
      rw [bin_over k (k + 1) (by omega)]
      simp only [psum]; omega
    · rw [bin_over n k (by omega), bin_over n (k + 1) (by omega)]; omega
theorem bin_max {n : Nat} (k : Nat) (h : n ≤ 60) : bin n k ≤ 576460752303423488 := by
  match n, k, h with
  | n, 0, _ => rw [bin_zero]; omega
  | 0, k + 1, _ => rw [bin_over 0 (k + 1) (by omega)]; omega
  | n + 1, k + 1, h => exact Nat.le_trans (bin_half n k) (Nat.le_trans (Nat.pow_le_pow_right (by omega) (show n ≤ 59 by omega)) (by decide))
theorem bin_pos : ∀ (n k : Nat), k ≤ n → 0 < bin n k
  | n, 0, _ => by rw [bin_zero]; omega
  | 0, k + 1, h => by omega
  | n + 1, k + 1, h => by rw [bin_succ]; have := bin_pos n k (by omega); omega
/-- How often a prime divides a cell. -/
theorem val_bin {p : Nat} (h : prm p) : ∀ (n k : Nat), k ≤ n → val p (bin n k) + tup p k + tup p (n - k) = tup p n
  | n, 0, _ => by rw [bin_zero, val_one (prm_two h).1, tup_zero]; simp
  | 0, k + 1, hk => by omega
  | n + 1, k + 1, hk => by
    have h1 := val_bin h n k (by omega)
    have h2 := congrArg (val p) (absorb n k)
    rw [val_mul h _ _ (bin_pos _ _ hk) (by omega), val_mul h _ _ (by omega) (bin_pos _ _ (by omega))] at h2
    rw [tup_succ (prm_two h).1 k, tup_succ (prm_two h).1 n, show n + 1 - (k + 1) = n - k by omega]
    omega

/-- Carries tell how often. -/
theorem tup_carries {p : Nat} (hp : 2 ≤ p) (x y : Nat) : tup p (x + y) = tup p x + tup p y + carL p 0 (pairs p x y) := by
  have h1 := carries hp x y 0 (by omega)
  rw [Nat.add_zero, Nat.add_zero] at h1
  have h2 := legendre hp (x + y)
  have h3 := legendre hp x
  have h4 := legendre hp y
  refine Nat.eq_of_mul_eq_mul_left (show 0 < p - 1 by omega) ?_
  rw [Nat.mul_add, Nat.mul_add]
  omega
def cars (p n k : Nat) : Nat := carL p 0 (pairs p k (n - k))
theorem tup_cars {p : Nat} (hp : 2 ≤ p) {n k : Nat} (hk : k ≤ n) : tup p n = tup p k + tup p (n - k) + cars p n k := by
  have := tup_carries hp k (n - k)
  rw [show k + (n - k) = n by omega] at this
  exact this
theorem cars_zero {p : Nat} (hp : 2 ≤ p) {n k : Nat} (hk : k ≤ n) : cars p n k = 0 ↔ und p k n = true := by
  have := und_carries hp k (n - k)
  rw [show k + (n - k) = n by omega] at this
  exact this.symm
theorem cars_bin {p : Nat} (h : prm p) {n k : Nat} (hk : k ≤ n) : val p (bin n k) = cars p n k := by
  have h1 := val_bin h n k hk
  have h2 := tup_cars (prm_two h).1 hk
  omega
/-- As many carries as the sum has room for. -/
theorem pow_car {p : Nat} (hp : 2 ≤ p) (x y : Nat) : ∀ c, c ≤ 1 → p ^ carL p c (pairs p x y) ≤ max 1 (x + y + c) := by
  refine div_ind2 hp (p := fun x y => ∀ c, c ≤ 1 → p ^ carL p c (pairs p x y) ≤ max 1 (x + y + c)) ?_ (fun x y hn ih c hc => ?_) x y
  · intro c hc; rw [pairs_zero]; simp only [carL, Nat.pow_zero]; omega
  · rw [pairs_pos hp hn]
    simp only [carL]
    have h1 := one_carry (Nat.mod_lt x (show 0 < p by omega)) (Nat.mod_lt y (show 0 < p by omega)) hc
    have h2 := ih _ h1
    have h3 := (place (x := x) (y := y) (c := c) hp).2
    have h4 := div_mod p (x + y + c)
    generalize (x % p + y % p + c) / p = d at *
    have h5 := two_mul_le (q := (x + y + c) / p) hp
    rcases (show d = 0 ∨ d = 1 by omega) with rfl | rfl
    · rw [Nat.zero_add]; omega
    · rw [Nat.add_comm 1, Nat.pow_succ]
      have h6 := Nat.mul_le_mul_right p h2
      rw [Nat.max_eq_right (Nat.le_add_left 1 _)] at h6
      rw [h3, Nat.mul_comm p] at h4
      omega
theorem pow_cars {p : Nat} (hp : 2 ≤ p) {n k : Nat} (hk : k ≤ n) (hn : 0 < n) : p ^ cars p n k ≤ n := by
  have h := pow_car hp k (n - k) 0 (by omega)
  have e : k + (n - k) + 0 = n := by omega
  rw [e, Nat.max_eq_right hn] at h
  exact h
theorem cars_lt {p : Nat} (hp : 2 ≤ p) {n k : Nat} (hk : k ≤ n) : cars p n k ≤ n := by
  have := tup_cars hp hk
  have := tup_le hp n
  omega

/-- The most often of the first m cells of row n. -/
def mostU (p n : Nat) : Nat → Nat
  | 0 => 0
  | m + 1 => max (mostU p n m) (cars p n m)
theorem mostU_ge (p n : Nat) : ∀ m k, k < m → cars p n k ≤ mostU p n m
  | 0, k, h => by omega
  | m + 1, k, h => by
    simp only [mostU]
    by_cases e : k = m
    · subst e; omega
    · have := mostU_ge p n m k (by omega); omega
theorem mostU_is (p n : Nat) : ∀ m, mostU p n m = 0 ∨ ∃ k, k < m ∧ mostU p n m = cars p n k
  | 0 => .inl rfl
  | m + 1 => by
    simp only [mostU]
    by_cases e : mostU p n m ≤ cars p n m
    · exact .inr ⟨m, by omega, by omega⟩
    · rcases mostU_is p n m with h | ⟨k, h1, h2⟩
      · omega
      · exact .inr ⟨k, by omega, by omega⟩
def most (p n : Nat) : Nat := mostU p n (n + 1)
theorem mostU_le {p : Nat} (hp : 2 ≤ p) (n m : Nat) (hm : m ≤ n + 1) : mostU p n m ≤ n := by
  rcases mostU_is p n m with h | ⟨k, h1, h2⟩
  · omega
  · rw [h2]; exact cars_lt hp (by omega)
theorem pow_most {p : Nat} (hp : 2 ≤ p) {n : Nat} (hn : 0 < n) : p ^ most p n ≤ n := by
  unfold most
  rcases mostU_is p n (n + 1) with h | ⟨k, h1, h2⟩
  · rw [h]; simp; omega
  · rw [h2]; exact pow_cars hp (by omega) hn
theorem val_most {p : Nat} (hp : 2 ≤ p) {n : Nat} (hn : 0 < n) : val p n ≤ most p n := by
  have h1 := mostU_ge p n (n + 1) 1 (by omega)
  obtain ⟨m, rfl⟩ : ∃ m, n = m + 1 := ⟨n - 1, by omega⟩
  have h2 := tup_cars hp (show 1 ≤ m + 1 by omega)
  have h3 := tup_succ hp m
  have h4 : tup p 1 = 0 := by rw [tup_pos hp (by omega), Nat.div_eq_of_lt (by omega), tup_zero]
  rw [show m + 1 - 1 = m by omega, h4] at h2
  unfold most
  omega
/-- For rows that are a power of the prime it is just that. -/
theorem most_power {p : Nat} (hp : 2 ≤ p) {n : Nat} (hn : 0 < n) (hs : strip p n ≤ 1) : p ^ most p n = n := by
  have h1 := strip_val hp n hn
  have h2 := pow_most hp hn
  have h3 := Nat.pow_le_pow_right (show 0 < p by omega) (val_most hp hn)
  have h4 : strip p n = 1 := by omega
  rw [h4, Nat.mul_one] at h1
  omega
theorem und_full {p : Nat} (hp : 2 ≤ p) : ∀ (j n k : Nat), n + 1 = p ^ j → k ≤ n → und p k n = true
  | 0, n, k, h, hk => by
    obtain ⟨rfl, rfl⟩ : n = 0 ∧ k = 0 := by simp at h; omega
    exact und_zero p
  | j + 1, n, k, h, hk => by
    have hpos : 0 < p ^ j := Nat.pow_pos (by omega)
    rw [Nat.pow_succ] at h
    have e : n = (p - 1) + p * (p ^ j - 1) := by
      rw [Nat.mul_comm p, Nat.sub_mul]
      have := Nat.le_mul_of_pos_left p hpos
      omega
    have h1 : n % p = p - 1 := by rw [e, Nat.add_mul_mod_self_left, Nat.mod_eq_of_lt (by omega)]
    have h2 : n / p = p ^ j - 1 := by rw [e, Nat.add_mul_div_left _ _ (by omega), Nat.div_eq_of_lt (by omega), Nat.zero_add]
    have h3 := Nat.mod_lt k (show 0 < p by omega)
    have h4 := Nat.div_le_div_right (c := p) hk
    rw [und_step hp, und_full hp j (n / p) (k / p) (by omega) h4, h1]
    simp; omega
/-- For rows that are one less than a power it is 0. -/
theorem most_none {p : Nat} (hp : 2 ≤ p) {n : Nat} (hs : strip p (n + 1) ≤ 1) : most p n = 0 := by
  have h1 := strip_val hp (n + 1) (by omega)
  have h4 : strip p (n + 1) = 1 := by omega
  rw [h4, Nat.mul_one] at h1
  unfold most
  rcases mostU_is p n (n + 1) with h | ⟨k, h2, h3⟩
  · exact h
  · rw [h3]; exact (cars_zero hp (by omega)).2 (und_full hp _ n k h1.1.symm (by omega))
end Go.Proofs.YtkcbfiglmjdaiaaDoor
/-
  Plain mathematics of what is left: Lucas by digits, small cells, rows that are multiplied into rows. Nothing of the program.
-/
namespace Go.Proofs.YtkcbfiglmjdaiaaDoor
open Go.RowKit

/-- Row p leaves its ends alone. -/
theorem row_prime_all : sixth.all (fun p => (List.range (p + 1)).all fun k => bin p k % p == (if k = 0 ∨ k = p then 1 else 0)) = true := by decide +kernel
theorem row_prime {p : Nat} (h : prm p) (k : Nat) : bin p k % p = if k = 0 ∨ k = p then 1 else 0 := by
  by_cases hk : k ≤ p
  · have h1 := List.all_eq_true.1 (List.all_eq_true.1 row_prime_all p (prm_in h)) k (List.mem_range.2 (by omega))
    simpa using h1
  · rw [bin_over p k (by omega), if_neg (by omega)]; exact Nat.zero_mod _
/-- p rows further down. -/
theorem bin_down {p : Nat} (h : prm p) : ∀ (m c : Nat), bin (m + p) c % p = (bin m c + if p ≤ c then bin m (c - p) else 0) % p
  | 0, c => by
    have hp := (prm_two h).1
    rw [Nat.zero_add, row_prime h c]
    by_cases h0 : c = 0
    · subst h0; rw [if_pos (.inl rfl), if_neg (by omega), bin_zero, Nat.mod_eq_of_lt (by omega)]
    · by_cases h1 : c = p
      · subst h1; rw [if_pos (.inr rfl), if_pos (Nat.le_refl _), Nat.sub_self, bin_zero, bin_over 0 c (by omega), Nat.mod_eq_of_lt (by omega)]
      · rw [if_neg (by omega), bin_over 0 c (by omega)]
        by_cases h2 : p ≤ c
        · rw [if_pos h2, bin_over 0 (c - p) (by omega)]; simp
        · rw [if_neg h2]; simp
  | m + 1, 0 => by
    have hp := (prm_two h).1
    rw [bin_zero, bin_zero, if_neg (by omega)]
  | m + 1, c + 1 => by
    have hp := (prm_two h).1
    rw [show m + 1 + p = (m + p) + 1 by omega, bin_succ, Nat.add_mod, bin_down h m c, bin_down h m (c + 1), ← Nat.add_mod, bin_succ m c]
    by_cases h1 : p ≤ c
    · rw [if_pos h1, if_pos (by omega), if_pos (by omega), show c + 1 - p = (c - p) + 1 by omega, bin_succ m (c - p)]
      congr 1 <;> omega
    · rw [if_neg h1]
      by_cases h2 : p = c + 1
      · rw [if_pos (by omega), if_pos (by omega), ← h2, Nat.sub_self, bin_zero, bin_zero]
        congr 1 <;> omega
      · rw [if_neg (by omega), if_neg (by omega)]
        congr 1 <;> omega
/-- Digits tell what is left. -/
theorem lucas {p : Nat} (h : prm p) {a b : Nat} (ha : a < p) (hb : b < p) : ∀ (n k : Nat), bin (p * n + a) (p * k + b) % p = (bin n k * bin a b) % p
  | 0, k => by
    rw [Nat.mul_zero, Nat.zero_add]
    match k with
    | 0 => rw [Nat.mul_zero, Nat.zero_add, bin_zero, Nat.one_mul]
    | k + 1 => rw [bin_over a _ (by rw [Nat.mul_succ]; omega), bin_over 0 (k + 1) (by omega), Nat.zero_mul]
  | n + 1, k => by
    rw [Nat.mul_succ, Nat.add_right_comm, bin_down h]
    match k with
    | 0 =>
      rw [Nat.mul_zero, Nat.zero_add, if_neg (by omega), Nat.add_zero]
      have := lucas h ha hb n 0
      rw [Nat.mul_zero, Nat.zero_add] at this
      rw [this, bin_zero, bin_zero]
    | k + 1 =>
      rw [if_pos (by rw [Nat.mul_succ]; omega), show p * (k + 1) + b - p = p * k + b by rw [Nat.mul_succ]; omega, Nat.add_mod, lucas h ha hb n (k + 1), lucas h ha hb n k, ← Nat.add_mod, bin_succ]
      congr 1
      rw [Nat.add_mul]; omega
theorem lucas_div {p : Nat} (h : prm p) (n k : Nat) : bin n k % p = (bin (n / p) (k / p) * bin (n % p) (k % p)) % p := by
  have hp := (prm_two h).1
  have := lucas h (Nat.mod_lt n (show 0 < p by omega)) (Nat.mod_lt k (show 0 < p by omega)) (n / p) (k / p)
  rwa [div_mod, div_mod] at this
theorem lucas_times {p : Nat} (h : prm p) (n k : Nat) : bin (n * p) (k * p) % p = bin n k % p := by
  have hp := (prm_two h).1
  have := lucas h (show 0 < p by omega) (show 0 < p by omega) n k
  rwa [Nat.add_zero, Nat.add_zero, bin_zero, Nat.mul_one, Nat.mul_comm p, Nat.mul_comm p] at this
/-- Small cells are not divided. -/
theorem small_all : sixth.all (fun p => (List.range p).all fun a => (List.range (a + 1)).all fun b => !(bin a b % p == 0)) = true := by decide +kernel
theorem small_not {p : Nat} (h : prm p) {a b : Nat} (ha : a < p) (hb : b ≤ a) : bin a b % p ≠ 0 := by
  have h1 := List.all_eq_true.1 (List.all_eq_true.1 (List.all_eq_true.1 small_all p (prm_in h)) a (List.mem_range.2 ha)) b (List.mem_range.2 (by omega))
  simpa using h1
/-- A cell is divided just if the place is not under the row. -/
theorem left_zero {p : Nat} (h : prm p) (n k : Nat) : bin n k % p = 0 ↔ und p k n = false := by
  have hp := (prm_two h).1
  refine div_ind2 hp (p := fun n k => bin n k % p = 0 ↔ und p k n = false) ?_ (fun n k _ ih => ?_) n k
  · rw [und_zero, bin_zero, Nat.mod_eq_of_lt (by omega)]; simp
  · rw [lucas_div h, und_step hp, Bool.and_eq_false_iff, decide_eq_false_iff_not, ← ih]
    have hm := Nat.mod_lt n (show 0 < p by omega)
    constructor
    · intro h0
      rcases euclid h _ _ h0 with h1 | h1
      · exact .inr h1
      · left
        intro hle
        exact small_not h hm hle h1
    · rintro (h1 | h1)
      · rw [bin_over (n % p) (k % p) (by omega), Nat.mul_zero, Nat.zero_mod]
      · rw [Nat.mul_mod, h1, Nat.zero_mul, Nat.zero_mod]

/-- A cell made of the one before it. -/
theorem bin_next (n k : Nat) : bin n (k + 1) * (k + 1) + bin n k * k = bin n k * n := by
  have h := absorb n k
  rw [bin_succ, Nat.add_mul, Nat.add_mul, Nat.one_mul, Nat.mul_add, Nat.mul_one, Nat.mul_comm n] at h
  omega
theorem bin_div (n k : Nat) : bin n k * (n - k) / (k + 1) = bin n (k + 1) := by
  have h := bin_next n k
  have h2 : bin n k * (n - k) = bin n (k + 1) * (k + 1) := by rw [Nat.mul_sub]; omega
  rw [h2, Nat.mul_div_cancel _ (by omega)]

/-- The numbers of x and y whose places are together t, multiplied, of the first m places of x. -/
def convU (x y : Nat → Nat) (t : Nat) : Nat → Nat
  | 0 => 0
  | m + 1 => convU x y t m + (if m ≤ t then x m * y (t - m) else 0)
def conv (x y : Nat → Nat) (t : Nat) : Nat := convU x y t (t + 1)
theorem convU_over (x y : Nat → Nat) (t : Nat) : ∀ j, convU x y t (t + 1 + j) = convU x y t (t + 1)
  | 0 => rfl
  | j + 1 => by
    show convU x y t (t + 1 + j) + (if t + 1 + j ≤ t then x (t + 1 + j) * y (t - (t + 1 + j)) else 0) = _
    rw [convU_over x y t j, if_neg (by omega), Nat.add_zero]
theorem convU_short (x y : Nat → Nat) (t : Nat) {n : Nat} (hx : ∀ i, n ≤ i → x i = 0) : ∀ j, convU x y t (n + j) = convU x y t n
  | 0 => rfl
  | j + 1 => by
    show convU x y t (n + j) + (if n + j ≤ t then x (n + j) * y (t - (n + j)) else 0) = _
    rw [convU_short x y t hx j, hx (n + j) (by omega)]; simp
theorem conv_of (x y : Nat → Nat) (t : Nat) {n : Nat} (hx : ∀ i, n ≤ i → x i = 0) : conv x y t = convU x y t n := by
  unfold conv
  by_cases h : t + 1 ≤ n
  · obtain ⟨j, rfl⟩ : ∃ j, n = t + 1 + j := ⟨n - (t + 1), by omega⟩
    rw [convU_over]
  · obtain ⟨j, hj⟩ : ∃ j, t + 1 = n + j := ⟨t + 1 - n, by omega⟩
    rw [hj, convU_short x y t hx]
/-- A sum from the other end. -/
def sumF (f : Nat → Nat) : Nat → Nat
  | 0 => 0
  | m + 1 => sumF f m + f m
theorem sumF_first (f : Nat → Nat) : ∀ m, sumF f (m + 1) = f 0 + sumF (fun i => f (i + 1)) m
  | 0 => by simp [sumF]
  | m + 1 => by
    show sumF f (m + 1) + f (m + 1) = _
    rw [sumF_first f m]
    simp only [sumF]; omega
theorem sumF_congr {f g : Nat → Nat} : ∀ m, (∀ i, i < m → f i = g i) → sumF f m = sumF g m
  | 0, _ => rfl
  | m + 1, h => by simp only [sumF]; rw [sumF_congr m (fun i hi => h i (by omega)), h m (by omega)]
theorem sumF_back : ∀ (m : Nat) (f : Nat → Nat), sumF (fun i => f (m - 1 - i)) m = sumF f m
  | 0, _ => rfl
  | m + 1, f => by
    rw [sumF_first]
    simp only [sumF]
    rw [show m + 1 - 1 - 0 = m by omega, ← sumF_back m f]
    rw [sumF_congr m (fun i hi => by rw [show m + 1 - 1 - (i + 1) = m - 1 - i by omega])]
    omega
theorem convU_sum (x y : Nat → Nat) (t : Nat) : ∀ m, m ≤ t + 1 → convU x y t m = sumF (fun i => x i * y (t - i)) m
  | 0, _ => rfl
  | m + 1, h => by simp only [convU, sumF]; rw [convU_sum x y t m (by omega), if_pos (by omega)]
theorem conv_swap (x y : Nat → Nat) (t : Nat) : conv x y t = conv y x t := by
  unfold conv
  rw [convU_sum x y t _ (Nat.le_refl _), convU_sum y x t _ (Nat.le_refl _), ← sumF_back (t + 1) (fun i => y i * x (t - i))]
  refine sumF_congr _ (fun i hi => ?_)
  show x i * y (t - i) = y (t + 1 - 1 - i) * x (t - (t + 1 - 1 - i))
  rw [show t + 1 - 1 - i = t - i by omega, show t - (t - i) = i by omega, Nat.mul_comm]
/-- Rows are multiplied into rows. -/
theorem convU_bin (a b t : Nat) : ∀ m, convU (bin a) (bin b) t m = vs a b t m
  | 0 => rfl
  | m + 1 => by
    show convU (bin a) (bin b) t m + _ = vs a b t m + vterm a b t m
    rw [convU_bin a b t m]; rfl
theorem conv_bin (a b t : Nat) : conv (bin a) (bin b) t = bin (a + b) t := by
  unfold conv
  rw [convU_bin, heaps]
theorem convU_mod (x y : Nat → Nat) (t q : Nat) : ∀ m, convU (fun i => x i % q) (fun i => y i % q) t m % q = convU x y t m % q
  | 0 => rfl
  | m + 1 => by
    simp only [convU]
    rw [Nat.add_mod, convU_mod x y t q m, Nat.add_mod (convU x y t m)]
    split
    · rw [← Nat.mul_mod]
    · rfl
theorem conv_mod (x y : Nat → Nat) (t q : Nat) : conv (fun i => x i % q) (fun i => y i % q) t % q = conv x y t % q := convU_mod x y t q _
theorem conv_one (x y : Nat → Nat) (h0 : y 0 = 1) (h : ∀ i, 0 < i → y i = 0) (t : Nat) : conv x y t = x t := by
  rw [conv_swap, conv_of y x t (n := 1) (fun i hi => h i (by omega))]
  simp [convU, h0]
theorem convU_le {x y : Nat → Nat} {q : Nat} (hx : ∀ i, x i ≤ q) (hy : ∀ i, y i ≤ q) (t : Nat) : ∀ m, convU x y t m ≤ m * (q * q)
  | 0 => by simp [convU]
  | m + 1 => by
    have h1 := convU_le hx hy t m
    have h2 := Nat.mul_le_mul (hx m) (hy (t - m))
    simp only [convU]
    rw [Nat.add_mul, Nat.one_mul]
    split <;> omega
end Go.Proofs.YtkcbfiglmjdaiaaDoor
/-
  Plain mathematics of what is left: small cells multiplied digit by digit; rows of what is left; rows multiplied number by number. Nothing of the program.
-/
namespace Go.Proofs.YtkcbfiglmjdaiaaDoor
open Go.RowKit

/-- The cells of all pairs of digits, multiplied. -/
def prodL : List (Nat × Nat) → Nat
  | [] => 1
  | x :: l => bin x.1 x.2 * prodL l
theorem prodL_snoc : ∀ (p : List (Nat × Nat)) (x : Nat × Nat), prodL (p ++ [x]) = prodL p * bin x.1 x.2
  | [], x => by simp [prodL]
  | y :: p, x => by simp only [List.cons_append, prodL]; rw [prodL_snoc p x, Nat.mul_assoc]
theorem prodL_left {p : Nat} (h : prm p) (n k : Nat) : prodL (pairs p n k) % p = bin n k % p := by
  have hp := (prm_two h).1
  refine div_ind2 hp (p := fun n k => prodL (pairs p n k) % p = bin n k % p) ?_ (fun n k hnk ih => ?_) n k
  · rw [pairs_zero]; rfl
  · rw [pairs_pos hp hnk, lucas_div h]
    simp only [prodL]
    rw [Nat.mul_comm, Nat.mul_mod, ih, ← Nat.mul_mod]
theorem prodL_step {p : Nat} (pre : List (Nat × Nat)) (x : Nat × Nat) : prodL pre % p * (bin x.1 x.2 % p) % p = prodL (pre ++ [x]) % p := by
  rw [prodL_snoc, ← Nat.mul_mod]

/-- What is left of a row's first cells, and of the whole row. -/
def leftN (q n k : Nat) : Nat := bin n k % q
def rowLP (q n k : Nat) : List Int := (List.range k).map fun i => (leftN q n i : Int)
def rowLN (q n : Nat) : List Int := rowLP q n (n + 1)
/-- The row before row j: nothing before row 0. -/
def outL (q : Nat) : Nat → List Int
  | 0 => []
  | j + 1 => rowLN q j
theorem leftN_lt {q : Nat} (hq : 2 ≤ q) (n k : Nat) : leftN q n k < q := Nat.mod_lt _ (by omega)
theorem leftN_zero {q : Nat} (hq : 2 ≤ q) (n : Nat) : leftN q n 0 = 1 := by unfold leftN; rw [bin_zero, Nat.mod_eq_of_lt (by omega)]
theorem leftN_self {q : Nat} (hq : 2 ≤ q) (n : Nat) : leftN q n n = 1 := by unfold leftN; rw [bin_self, Nat.mod_eq_of_lt (by omega)]
theorem leftN_over (q n k : Nat) (h : n < k) : leftN q n k = 0 := by unfold leftN; rw [bin_over n k h, Nat.zero_mod]
theorem leftN_sum (q j k : Nat) (hk : 0 < k) (hj : k < j) : (leftN q (j - 1) (k - 1) + leftN q (j - 1) k) % q = leftN q j k := by
  unfold leftN; rw [← Nat.add_mod, bin_sum j k hk hj]
theorem rowLP_len (q n k : Nat) : (rowLP q n k).length = k := by simp [rowLP]
theorem rowLN_len (q n : Nat) : (rowLN q n).length = n + 1 := rowLP_len _ _ _
theorem outL_len (q j : Nat) : (outL q j).length = j := by cases j <;> simp [outL, rowLN_len]
theorem rowLP_snoc (q n k : Nat) : rowLP q n (k + 1) = rowLP q n k ++ [(leftN q n k : Int)] := by simp [rowLP, List.range_succ]
theorem rowLP_one {q : Nat} (hq : 2 ≤ q) (n : Nat) : rowLP q n 1 = [1] := by simp [rowLP, leftN_zero hq]
theorem rowLP_last {q : Nat} (hq : 2 ≤ q) (n : Nat) : rowLP q n n ++ [1] = rowLN q n := by unfold rowLN; rw [rowLP_snoc, leftN_self hq]; rfl
theorem rowLP_get (q n k i : Nat) (h : i < k) : (rowLP q n k)[i]? = some (leftN q n i : Int) := by
  simp [rowLP, h]
theorem rowLP_getD (q n k i : Nat) (h : i < k) : (rowLP q n k).getD i 0 = (leftN q n i : Int) := by
  rw [List.getD, rowLP_get q n k i h]; rfl
theorem outL_get (q j k : Nat) (h : k < j) : (outL q j)[k]? = some (leftN q (j - 1) k : Int) := by
  cases j with
  | zero => omega
  | succ j => exact rowLP_get q j (j + 1) k h
/-- Adding to each cell of row j the one before it, of which what is left is kept: row j + 1; the last cell was 0. -/
theorem left_turn (q j i n : Nat) (hi : i < n) : (if 0 < i ∧ i < n then leftN q j i + leftN q j (i - 1) else leftN q j i) % q = leftN q (j + 1) i := by
  unfold leftN
  cases i with
  | zero => rw [if_neg (by omega), bin_zero, bin_zero, Nat.mod_mod]
  | succ i => rw [if_pos ⟨by omega, hi⟩, ← Nat.add_mod, bin_succ, show i + 1 - 1 = i by omega, Nat.add_comm]

/-- Rows of a power of a prime leave their ends. -/
theorem strip_ends {p : Nat} (h : prm p) : ∀ (n k : Nat), 0 < k → k < n → strip p n = 1 → bin n k % p = 0 := by
  have hp := (prm_two h).1
  intro n
  induction n using Nat.strongRecOn with
  | _ n ih =>
    intro k hk hkn hs
    by_cases hz : n % p = 0
    · rw [strip_yes hp (by omega) hz] at hs
      rw [lucas_div h, hz]
      by_cases hk0 : k % p = 0
      · have h1 := div_pos_of_mod hk hk0
        have h2 := div_mod p n
        have h3 := div_mod p k
        have h4 : k / p < n / p := by
          rw [hz] at h2
          rw [hk0] at h3
          exact Nat.lt_of_mul_lt_mul_left (a := p) (by omega)
        have := ih (n / p) (Nat.div_lt_self (by omega) hp) (k / p) h1 h4 hs
        rw [Nat.mul_mod, this, Nat.zero_mul, Nat.zero_mod]
      · rw [bin_over 0 (k % p) (by omega), Nat.mul_zero, Nat.zero_mod]
    · rw [strip_no hz] at hs; omega

/-- The sums when the first k numbers of x have been multiplied with all of y, and number k with the first j. -/
def convI (x y : Nat → Nat) (k j t : Nat) : Nat := convU x y t k + (if k ≤ t ∧ t < k + j then x k * y (t - k) else 0)
theorem convI_zero (x y : Nat → Nat) (k t : Nat) : convI x y k 0 t = convU x y t k := by unfold convI; rw [if_neg (by omega), Nat.add_zero]
theorem convI_at (x y : Nat → Nat) (k j : Nat) : convI x y k (j + 1) (k + j) = convI x y k j (k + j) + x k * y j := by
  unfold convI; rw [if_pos (by omega), if_neg (by omega), show k + j - k = j by omega]; rfl
theorem convI_other (x y : Nat → Nat) (k j t : Nat) (h : t ≠ k + j) : convI x y k (j + 1) t = convI x y k j t := by
  unfold convI
  by_cases e : k ≤ t ∧ t < k + j
  · rw [if_pos e, if_pos (by omega)]
  · rw [if_neg e, if_neg (by omega)]
theorem convI_full {x y : Nat → Nat} {m : Nat} (hy : ∀ i, m ≤ i → y i = 0) (k t : Nat) : convI x y k m t = convI x y (k + 1) 0 t := by
  rw [convI_zero]
  unfold convI
  show _ = convU x y t k + (if k ≤ t then x k * y (t - k) else 0)
  by_cases e : k ≤ t
  · rw [if_pos e]
    by_cases e2 : t < k + m
    · rw [if_pos ⟨e, e2⟩]
    · rw [if_neg (by omega), hy _ (by omega), Nat.mul_zero]
  · rw [if_neg (by omega), if_neg e]
theorem convI_le {x y : Nat → Nat} {q : Nat} (hx : ∀ i, x i ≤ q) (hy : ∀ i, y i ≤ q) (k j t : Nat) : convI x y k j t ≤ (k + 1) * (q * q) := by
  have h1 := convU_le hx hy t k
  have h2 := Nat.mul_le_mul (hx k) (hy (t - k))
  unfold convI
  rw [Nat.add_mul, Nat.one_mul]
  split <;> omega
theorem convI_start (x y : Nat → Nat) (t : Nat) : convI x y 0 0 t = 0 := by rw [convI_zero]; rfl
theorem convI_end {x y : Nat → Nat} {n : Nat} (hx : ∀ i, n ≤ i → x i = 0) (t : Nat) : convI x y n 0 t = conv x y t := by rw [convI_zero, conv_of x y t hx]
end Go.Proofs.YtkcbfiglmjdaiaaDoor
/-
  Plain mathematics of triangles of like and unlike. Nothing of the program.
-/
namespace Go.Proofs.YtkcbfiglmjdaiaaDoor
open Go.RowKit

/-- The cell at place k of the row i steps under f. -/
def st (f : Nat → Nat) : Nat → Nat → Nat
  | 0, k => f k
  | i + 1, k => (st f i k + st f i (k + 1)) % 2
theorem st_le {f : Nat → Nat} (hf : ∀ k, f k ≤ 1) : ∀ i k, st f i k ≤ 1
  | 0, k => hf k
  | i + 1, k => by simp only [st]; omega
theorem st_congr {f g : Nat → Nat} : ∀ (i k : Nat), (∀ j, k ≤ j → j ≤ k + i → f j = g j) → st f i k = st g i k
  | 0, k, h => h k (Nat.le_refl _) (Nat.le_refl _)
  | i + 1, k, h => by simp only [st]; rw [st_congr i k (fun j h1 h2 => h j h1 (by omega)), st_congr i (k + 1) (fun j h1 h2 => h j (by omega) (by omega))]
/-- Of three cells each is the sum of the two others. -/
theorem st_left {f : Nat → Nat} (hf : ∀ k, f k ≤ 1) (i k : Nat) : (st f i (k + 1) + st f (i + 1) k) % 2 = st f i k := by
  have h1 := st_le hf i k
  have h2 := st_le hf i (k + 1)
  simp only [st]; omega
theorem st_next (f : Nat → Nat) : ∀ i k, st (st f 1) i k = st f (i + 1) k
  | 0, _ => rfl
  | i + 1, k => by
    show (st (st f 1) i k + st (st f 1) i (k + 1)) % 2 = (st f (i + 1) k + st f (i + 1) (k + 1)) % 2
    rw [st_next f i k, st_next f i (k + 1)]
theorem st_sum (f g : Nat → Nat) : ∀ i k, st (fun j => (f j + g j) % 2) i k = (st f i k + st g i k) % 2 ∨ i = 0
  | 0, _ => .inr rfl
  | 1, k => .inl (by simp only [st]; omega)
  | i + 2, k => .inl (by
    rcases st_sum f g (i + 1) k with h1 | h1
    · rcases st_sum f g (i + 1) (k + 1) with h2 | h2
      · show (st _ (i + 1) k + st _ (i + 1) (k + 1)) % 2 = ((st f (i + 1) k + st f (i + 1) (k + 1)) % 2 + (st g (i + 1) k + st g (i + 1) (k + 1)) % 2) % 2
        rw [h1, h2]; omega
      · omega
    · omega)
/-- Under the row in which each cell is turned it is the same. -/
theorem st_turn {f : Nat → Nat} (hf : ∀ k, f k ≤ 1) (k : Nat) : st (fun j => 1 - f j) 1 k = st f 1 k := by
  have h1 := hf k
  have h2 := hf (k + 1)
  simp only [st]; omega
/-- From the other end. -/
theorem st_back (f : Nat → Nat) (n : Nat) : ∀ i k, i + k < n → st (fun j => f (n - 1 - j)) i k = st f i (n - 1 - i - k)
  | 0, k, _ => by simp only [st]; rw [Nat.sub_zero]
  | i + 1, k, h => by
    show (st _ i k + st _ i (k + 1)) % 2 = (st f i (n - 1 - (i + 1) - k) + st f i (n - 1 - (i + 1) - k + 1)) % 2
    rw [st_back f n i k (by omega), st_back f n i (k + 1) (by omega), show n - 1 - i - k = n - 1 - (i + 1) - k + 1 by omega, show n - 1 - i - (k + 1) = n - 1 - (i + 1) - k by omega, Nat.add_comm]
/-- The side that has the last cells of all rows; its triangle. -/
def side (f : Nat → Nat) (n j : Nat) : Nat := st f j (n - 1 - j)
theorem side_le {f : Nat → Nat} (hf : ∀ k, f k ≤ 1) (n j : Nat) : side f n j ≤ 1 := st_le hf _ _
theorem st_side {f : Nat → Nat} (hf : ∀ k, f k ≤ 1) (n : Nat) : ∀ i k, i + k < n → st (side f n) i k = st f k (n - 1 - i - k)
  | 0, k, _ => by simp only [st, side]; rw [Nat.sub_zero]
  | i + 1, k, h => by
    show (st _ i k + st _ i (k + 1)) % 2 = _
    rw [st_side hf n i k (by omega), st_side hf n i (k + 1) (by omega), show n - 1 - i - k = n - 1 - (i + 1) - k + 1 by omega, show n - 1 - i - (k + 1) = n - 1 - (i + 1) - k by omega]
    exact st_left hf k (n - 1 - (i + 1) - k)
theorem side_two {f : Nat → Nat} (hf : ∀ k, f k ≤ 1) (n j : Nat) (h : j < n) : side (side f n) n j = st f (n - 1 - j) 0 := by
  show st (side f n) j (n - 1 - j) = _
  rw [st_side hf n j (n - 1 - j) (by omega), show n - 1 - j - (n - 1 - j) = 0 by omega]
/-- Turned three times it is as before. -/
theorem side_three {f : Nat → Nat} (hf : ∀ k, f k ≤ 1) (n j : Nat) (h : j < n) : side (side (side f n) n) n j = f j := by
  have h1 := side_two (side_le hf n) n j h
  rw [h1, st_side hf n (n - 1 - j) 0 (by omega), show n - 1 - (n - 1 - j) - 0 = j by omega]; rfl

theorem sumF_add (f g : Nat → Nat) : ∀ m, sumF (fun i => f i + g i) m = sumF f m + sumF g m
  | 0 => rfl
  | m + 1 => by simp only [sumF]; rw [sumF_add f g m]; omega
/-- All cells of a triangle. -/
def tot (T : Nat → Nat → Nat) (n : Nat) : Nat := sumF (fun i => sumF (T i) (n - i)) n
theorem tot_congr {T S : Nat → Nat → Nat} (n : Nat) (h : ∀ i k, i + k < n → T i k = S i k) : tot T n = tot S n :=
  sumF_congr n fun i _ => sumF_congr (n - i) fun k _ => h i k (by omega)
theorem tot_more (A : Nat → Nat → Nat) (n : Nat) : tot A (n + 1) = tot A n + sumF (fun i => A i (n - i)) (n + 1) := by
  unfold tot
  show sumF (fun i => sumF (A i) (n + 1 - i)) n + sumF (A n) (n + 1 - n) = _ + (sumF (fun i => A i (n - i)) n + A n (n - n))
  have h : sumF (fun i => sumF (A i) (n + 1 - i)) n = sumF (fun i => sumF (A i) (n - i) + A i (n - i)) n := sumF_congr n fun i hi => by rw [show n + 1 - i = n - i + 1 by omega]; rfl
  rw [h, sumF_add, show n + 1 - n = 0 + 1 by omega, Nat.sub_self]
  show _ + (0 + A n 0) = _
  omega
theorem tot_swap (A : Nat → Nat → Nat) : ∀ n, tot (fun i k => A k i) n = tot A n
  | 0 => rfl
  | n + 1 => by
    rw [tot_more, tot_more, tot_swap A n, ← sumF_back (n + 1) (fun i => A i (n - i))]
    congr 1
    refine sumF_congr _ fun i hi => ?_
    show A (n - i) i = A (n + 1 - 1 - i) (n - (n + 1 - 1 - i))
    rw [Nat.add_sub_cancel, show n - (n - i) = i by omega]
theorem tot_back (T : Nat → Nat → Nat) (n : Nat) : tot (fun i k => T i (n - 1 - i - k)) n = tot T n :=
  sumF_congr n fun i _ => by
    rw [← sumF_back (n - i) (T i)]
    exact sumF_congr _ fun k _ => by
      show T i (n - 1 - i - k) = T i (n - i - 1 - k)
      rw [show n - 1 - i - k = n - i - 1 - k by omega]
/-- From the other end, and from the other sides, there are as many ones. -/
theorem ones_back (f : Nat → Nat) (n : Nat) : tot (st fun j => f (n - 1 - j)) n = tot (st f) n := by
  rw [tot_congr n (fun i k h => st_back f n i k h), tot_back]
theorem ones_side {f : Nat → Nat} (hf : ∀ k, f k ≤ 1) (n : Nat) : tot (st (side f n)) n = tot (st f) n := by
  rw [tot_congr n (fun i k h => st_side hf n i k h), ← tot_swap, ← tot_back (st f) n]
  exact tot_congr n fun i k _ => by rw [show n - 1 - k - i = n - 1 - i - k by omega]
theorem ones_next (f : Nat → Nat) (n : Nat) : tot (st f) (n + 1) = sumF f (n + 1) + tot (st (st f 1)) n := by
  unfold tot
  rw [sumF_first]
  show sumF f (n + 1) + _ = _
  congr 1
  refine sumF_congr n fun i _ => ?_
  rw [show n + 1 - (i + 1) = n - i by omega]
  exact sumF_congr _ fun k _ => (st_next f i k).symm

/-- The last cell: the cells that are left by 2. -/
def bsum (f : Nat → Nat) (i k : Nat) : Nat := sumF (fun j => bin i j * f (k + j)) (i + 1)
theorem bsum_next (f : Nat → Nat) (i k : Nat) : bsum f (i + 1) k = bsum f i k + bsum f i (k + 1) := by
  unfold bsum
  have h1 : sumF (fun j => bin (i + 1) j * f (k + j)) (i + 1 + 1) = bin (i + 1) 0 * f (k + 0) + sumF (fun j => bin i j * f (k + 1 + j) + bin i (j + 1) * f (k + (j + 1))) (i + 1) := by
    rw [sumF_first]
    congr 1
    exact sumF_congr _ fun j _ => by rw [bin_succ, Nat.add_mul, show k + (j + 1) = k + 1 + j by omega]
  have h2 : sumF (fun j => bin i j * f (k + j)) (i + 1 + 1) = bin i 0 * f (k + 0) + sumF (fun j => bin i (j + 1) * f (k + (j + 1))) (i + 1) := sumF_first _ _
  have h3 : sumF (fun j => bin i j * f (k + j)) (i + 1 + 1) = sumF (fun j => bin i j * f (k + j)) (i + 1) := by
    show _ + bin i (i + 1) * f (k + (i + 1)) = _
    rw [bin_over i (i + 1) (by omega), Nat.zero_mul]; rfl
  rw [h1, sumF_add, bin_zero]
  rw [bin_zero] at h2
  omega
theorem st_bsum {f : Nat → Nat} (hf : ∀ k, f k ≤ 1) : ∀ i k, st f i k = bsum f i k % 2
  | 0, k => by
    have := hf k
    show f k = (0 + 1 * f (k + 0)) % 2
    rw [Nat.add_zero]; omega
  | i + 1, k => by rw [bsum_next, Nat.add_mod, ← st_bsum hf i k, ← st_bsum hf i (k + 1)]; rfl
theorem sumF_mod (f g : Nat → Nat) : ∀ m, sumF (fun j => f j % 2 * g j) m % 2 = sumF (fun j => f j * g j) m % 2
  | 0 => rfl
  | m + 1 => by
    have h := sumF_mod f g m
    have h2 : f m % 2 * g m % 2 = f m * g m % 2 := by rw [Nat.mod_mul_mod]
    simp only [sumF]; omega
theorem last_left {f : Nat → Nat} (hf : ∀ k, f k ≤ 1) (n : Nat) : st f n 0 = sumF (fun j => leftN 2 n j * f j) (n + 1) % 2 := by
  rw [st_bsum hf]
  unfold bsum leftN
  rw [sumF_mod]
  congr 1
  exact sumF_congr _ fun j _ => by rw [Nat.zero_add]
theorem prm_2 : prm 2 := by unfold prm; omega
theorem left_und (n k : Nat) : leftN 2 n k = if und 2 k n then 1 else 0 := by
  have h1 := left_zero prm_2 n k
  have h2 := leftN_lt (q := 2) (by omega) n k
  unfold leftN at *
  cases h : und 2 k n
  · rw [h1.2 h]; rfl
  · have : bin n k % 2 ≠ 0 := fun e => by rw [h1.1 e] at h; cases h
    simp; omega
end Go.Proofs.YtkcbfiglmjdaiaaDoor
/-
  Triangles of like and unlike as bits of numbers; what is checked number by number. Nothing of the program.
-/
namespace Go.Proofs.YtkcbfiglmjdaiaaDoor
open Go.RowKit

def bitF (N k : Nat) : Nat := (N >>> k) % 2
theorem bitF_le (N k : Nat) : bitF N k ≤ 1 := by unfold bitF; omega
theorem bitF_test (N k : Nat) : bitF N k = (N.testBit k).toNat := by unfold bitF; rw [Nat.toNat_testBit, Nat.shiftRight_eq_div_pow]
def pop (N : Nat) : Nat → Nat
  | 0 => 0
  | k + 1 => pop N k + (N >>> k) % 2
theorem pop_sum (N : Nat) : ∀ k, sumF (bitF N) k = pop N k
  | 0 => rfl
  | k + 1 => by simp only [sumF, pop]; rw [pop_sum N k]; rfl
/-- The row under a row of l + 1 bits. -/
def downN (l N : Nat) : Nat := (N ^^^ (N >>> 1)) % 2 ^ l
def onesN : Nat → Nat → Nat
  | 0, _ => 0
  | l + 1, N => pop N (l + 1) + onesN l (downN l N)
theorem downN_bit (l N k : Nat) (h : k < l) : bitF (downN l N) k = st (bitF N) 1 k := by
  show _ = (bitF N k + bitF N (k + 1)) % 2
  unfold downN
  rw [bitF_test, bitF_test, bitF_test, Nat.testBit_mod_two_pow, Nat.testBit_xor, Nat.testBit_shiftRight, Nat.add_comm 1 k]
  simp only [h, decide_true, Bool.true_and]
  cases N.testBit k <;> cases N.testBit (k + 1) <;> rfl
theorem ones_bits : ∀ n N, tot (st (bitF N)) n = onesN n N
  | 0, _ => rfl
  | n + 1, N => by
    rw [ones_next, pop_sum]
    show pop N (n + 1) + _ = pop N (n + 1) + onesN n (downN n N)
    rw [← ones_bits n (downN n N)]
    congr 1
    exact tot_congr n fun i k h => st_congr i k fun j _ h2 => (downN_bit n N j (by omega)).symm
/-- A row as a number. -/
def numF (f : Nat → Nat) : Nat → Nat
  | 0 => 0
  | n + 1 => numF f n + f n * 2 ^ n
theorem numF_lt {f : Nat → Nat} (hf : ∀ k, f k ≤ 1) : ∀ n, numF f n < 2 ^ n
  | 0 => Nat.zero_lt_one
  | n + 1 => by
    have h1 := numF_lt hf n
    have h2 := Nat.mul_le_mul_right (2 ^ n) (hf n)
    simp only [numF]; rw [Nat.pow_succ]; omega
theorem numF_bit {f : Nat → Nat} (hf : ∀ k, f k ≤ 1) : ∀ n k, k < n → bitF (numF f n) k = f k
  | n + 1, k, h => by
    have h1 := numF_lt hf n
    have h2 := hf n
    show ((numF f n + f n * 2 ^ n) >>> k) % 2 = f k
    rw [Nat.shiftRight_eq_div_pow]
    by_cases e : k = n
    · subst e
      rw [Nat.add_mul_div_right _ _ (Nat.pow_pos (by omega)), Nat.div_eq_of_lt h1]; omega
    · have h3 := numF_bit hf n k (by omega)
      unfold bitF at h3
      rw [Nat.shiftRight_eq_div_pow] at h3
      have h4 : f n * 2 ^ n = 2 * (f n * 2 ^ (n - k - 1)) * 2 ^ k := by
        rw [Nat.mul_assoc, Nat.mul_assoc, ← Nat.pow_add, ← Nat.mul_assoc, Nat.mul_comm 2, Nat.mul_assoc, ← Nat.pow_succ']
        congr 2; omega
      rw [h4, Nat.add_mul_div_right _ _ (Nat.pow_pos (by omega)), Nat.add_mul_mod_self_left]; exact h3
theorem ones_num {f : Nat → Nat} (hf : ∀ k, f k ≤ 1) (n : Nat) : tot (st f) n = onesN n (numF f n) := by
  rw [← ones_bits]
  exact tot_congr n fun i k h => st_congr i k fun j _ h2 => (numF_bit hf n j (by omega)).symm

def allB (p : Nat → Bool) : Nat → Bool
  | 0 => true
  | n + 1 => p n && allB p n
theorem allB_of {p : Nat → Bool} : ∀ {n : Nat}, allB p n = true → ∀ k, k < n → p k = true
  | n + 1, h, k, hk => by
    simp only [allB, Bool.and_eq_true] at h
    by_cases e : k = n
    · subst e; exact h.1
    · exact allB_of h.2 k (by omega)
def cntB (p : Nat → Bool) : Nat → Nat
  | 0 => 0
  | n + 1 => cntB p n + (if p n then 1 else 0)
/-- How many rows of c bits have triangles with as many ones as noughts; of the first m. -/
def balU (c m : Nat) : Nat := cntB (fun N => 4 * onesN c N == c * (c + 1)) m
def balanced (c : Nat) : Nat := balU c (2 ^ c)
theorem cntB_le (p : Nat → Bool) : ∀ n, cntB p n ≤ n
  | 0 => Nat.le_refl _
  | n + 1 => by have := cntB_le p n; simp only [cntB]; split <;> omega
theorem cntB_none {p : Nat → Bool} (h : ∀ k, p k = false) : ∀ n, cntB p n = 0
  | 0 => rfl
  | n + 1 => by simp only [cntB]; rw [cntB_none h n, h n]; rfl
theorem cntB_pos {p : Nat → Bool} {k : Nat} (h : p k = true) : ∀ n, k < n → 0 < cntB p n
  | n + 1, hk => by
    simp only [cntB]
    by_cases e : k = n
    · subst e; rw [if_pos h]; omega
    · have := cntB_pos h n (by omega); omega

set_option maxRecDepth 100000 in
theorem few_all : allB (fun n => allB (fun N => Nat.ble (3 * onesN n N) (n * (n + 1) + 2)) (2 ^ n)) 13 = true := by decide +kernel
/-- There are at most two ones for each three cells, rounded up. -/
theorem few_ones {f : Nat → Nat} (hf : ∀ k, f k ≤ 1) {n : Nat} (h : n ≤ 12) : 3 * tot (st f) n ≤ n * (n + 1) + 2 := by
  rw [ones_num hf]
  exact Nat.le_of_ble_eq_true (allB_of (allB_of few_all n (by omega)) _ (numF_lt hf n))
theorem balanced_three : balanced 3 = 4 := by decide +kernel
theorem balanced_four : balanced 4 = 6 := by decide +kernel
/-- There are some exactly for sides that leave 0 or 3 divided by 4. -/
theorem balanced_some {c : Nat} (h1 : 1 ≤ c) (h2 : c ≤ 12) : 0 < balanced c ↔ c % 4 = 0 ∨ c % 4 = 3 := by
  have hw : ∀ N, N < 2 ^ c → (4 * onesN c N == c * (c + 1)) = true → 0 < balanced c := fun N h h' => cntB_pos (p := fun N => 4 * onesN c N == c * (c + 1)) h' (2 ^ c) h
  have hn : (∀ N, (4 * onesN c N == c * (c + 1)) = false) → balanced c = 0 := fun h => cntB_none h _
  rcases (show c = 1 ∨ c = 2 ∨ c = 3 ∨ c = 4 ∨ c = 5 ∨ c = 6 ∨ c = 7 ∨ c = 8 ∨ c = 9 ∨ c = 10 ∨ c = 11 ∨ c = 12 by omega) with rfl | rfl | rfl | rfl | rfl | rfl | rfl | rfl | rfl | rfl | rfl | rfl
  · rw [hn (fun N => by rw [beq_eq_false_iff_ne]; omega)]; simp
  · rw [hn (fun N => by rw [beq_eq_false_iff_ne]; omega)]; simp
  · exact ⟨fun _ => by decide, fun _ => hw 1 (by decide) (by decide +kernel)⟩
  · exact ⟨fun _ => by decide, fun _ => hw 2 (by decide) (by decide +kernel)⟩
  · rw [hn (fun N => by rw [beq_eq_false_iff_ne]; omega)]; simp
  · rw [hn (fun N => by rw [beq_eq_false_iff_ne]; omega)]; simp
  · exact ⟨fun _ => by decide, fun _ => hw 9 (by decide) (by decide +kernel)⟩
  · exact ⟨fun _ => by decide, fun _ => hw 11 (by decide) (by decide +kernel)⟩
  · rw [hn (fun N => by rw [beq_eq_false_iff_ne]; omega)]; simp
  · rw [hn (fun N => by rw [beq_eq_false_iff_ne]; omega)]; simp
  · exact ⟨fun _ => by decide, fun _ => hw 75 (by decide) (by decide +kernel)⟩
  · exact ⟨fun _ => by decide, fun _ => hw 73 (by decide) (by decide +kernel)⟩
end Go.Proofs.YtkcbfiglmjdaiaaDoor
/-
  The values of the functions of chapter 1 at every argument.
-/
namespace Go.Proofs.YtkcbfiglmjdaiaaDoor
open Go.RowKit

def cellV (row place : Int) : Int := if row < 0 ∨ 60 < row ∨ place < 0 then -1 else (bin row.toNat place.toNat : Int)
theorem cellV_bad {row place : Int} (h : row < 0 ∨ 60 < row ∨ place < 0) : cellV row place = -1 := by unfold cellV; rw [if_pos h]
theorem cellV_nat {r k : Nat} (h : r ≤ 60) : cellV r k = bin r k := by unfold cellV; rw [if_neg (by omega)]; simp

theorem ret_int {k : IntKind} {a b : Int} (h : a = b) : Ending.returned (.int k a) = .returned (.int k b) := by rw [h]
end Go.Proofs.YtkcbfiglmjdaiaaDoor
/-
  The values of the functions of chapter 3 at every argument.
-/
namespace Go.Proofs.YtkcbfiglmjdaiaaDoor
open Go.RowKit

theorem tmod_n (n b : Nat) : Int.tmod (n : Int) (b : Int) = ((n % b : Nat) : Int) := by rw [Int.tmod_eq_emod_of_nonneg (by omega)]; rfl
theorem tdiv_n (n b : Nat) : Int.tdiv (n : Int) (b : Int) = ((n / b : Nat) : Int) := by rw [Int.tdiv_eq_ediv_of_nonneg (by omega)]; rfl

def prmI (p : Int) : Bool := decide (p = 2 ∨ p = 3 ∨ p = 5 ∨ p = 7 ∨ p = 11 ∨ p = 13)
theorem prmI_nat (p : Nat) : prmI p = true ↔ prm p := by unfold prmI prm; simp; omega
theorem prmI_t {p : Int} (h : prmI p = true) : ∃ P : Nat, p = P ∧ prm P := by
  refine ⟨p.toNat, ?_, ?_⟩
  · unfold prmI at h; simp at h; omega
  · unfold prmI at h; unfold prm; simp at h; omega

def timesV (n p : Int) : Int := if n < 1 ∨ 1000000000000000000 < n ∨ prmI p = false then -1 else (val p.toNat n.toNat : Int)
def allV (n p : Int) : Int := if n < 0 ∨ 999999999 < n ∨ prmI p = false then -1 else (tup p.toNat n.toNat : Int)
def cellTV (row place p : Int) : Int := if row < 0 ∨ 499999999 < row ∨ place < 0 ∨ row < place ∨ prmI p = false then -1 else (cars p.toNat row.toNat place.toNat : Int)
def mostV (row p : Int) : Int := if row < 1 ∨ 300 < row ∨ prmI p = false then -1 else (most p.toNat row.toNat : Int)
theorem timesV_bad {n p : Int} (h : n < 1 ∨ 1000000000000000000 < n ∨ prmI p = false) : timesV n p = -1 := if_pos h
theorem allV_bad {n p : Int} (h : n < 0 ∨ 999999999 < n ∨ prmI p = false) : allV n p = -1 := if_pos h
theorem cellTV_bad {row place p : Int} (h : row < 0 ∨ 499999999 < row ∨ place < 0 ∨ row < place ∨ prmI p = false) : cellTV row place p = -1 := if_pos h
theorem mostV_bad {row p : Int} (h : row < 1 ∨ 300 < row ∨ prmI p = false) : mostV row p = -1 := if_pos h
theorem prmI_ok {p : Nat} (h : prm p) : prmI p = true := (prmI_nat p).2 h
theorem timesV_nat {n p : Nat} (h1 : 1 ≤ n) (h2 : n ≤ 1000000000000000000) (h3 : prm p) : timesV n p = val p n := by
  unfold timesV; rw [if_neg (by rw [prmI_ok h3]; simp; omega)]; simp
theorem allV_nat {n p : Nat} (h2 : n ≤ 999999999) (h3 : prm p) : allV n p = tup p n := by
  unfold allV; rw [if_neg (by rw [prmI_ok h3]; simp; omega)]; simp
theorem cellTV_nat {n k p : Nat} (h2 : n ≤ 499999999) (hk : k ≤ n) (h3 : prm p) : cellTV n k p = cars p n k := by
  unfold cellTV; rw [if_neg (by rw [prmI_ok h3]; simp; omega)]; simp
theorem mostV_nat {n p : Nat} (h1 : 1 ≤ n) (h2 : n ≤ 300) (h3 : prm p) : mostV n p = most p n := by
  unfold mostV; rw [if_neg (by rw [prmI_ok h3]; simp; omega)]; simp
end Go.Proofs.YtkcbfiglmjdaiaaDoor
/-
  The values of the functions of chapter 4 at every argument.
-/
namespace Go.Proofs.YtkcbfiglmjdaiaaDoor
open Go.RowKit

def badL (row place p : Int) : Prop := row < 0 ∨ 999999999 < row ∨ place < 0 ∨ 999999999 < place ∨ prmI p = false
instance (row place p : Int) : Decidable (badL row place p) := by unfold badL; infer_instance
def leftV (row place p : Int) : Int := if badL row place p then -1 else ((bin row.toNat place.toNat % p.toNat : Nat) : Int)
theorem leftV_bad {row place p : Int} (h : badL row place p) : leftV row place p = -1 := if_pos h
theorem leftV_nat {n k p : Nat} (h1 : n ≤ 999999999) (h2 : k ≤ 999999999) (h3 : prm p) : leftV n k p = ((bin n k % p : Nat) : Int) := by
  unfold leftV; rw [if_neg (by unfold badL; rw [prmI_ok h3]; simp; omega)]; rfl

def badR (row q : Int) : Prop := row < 0 ∨ 300 < row ∨ q < 2 ∨ 1000 < q
instance (row q : Int) : Decidable (badR row q) := by unfold badR; infer_instance
def rowLV (row q : Int) : List Int := if badR row q then [] else rowLN q.toNat row.toNat
theorem rowLV_bad {row q : Int} (h : badR row q) : rowLV row q = [] := if_pos h
theorem rowLV_nat {n q : Nat} (h1 : n ≤ 300) (h2 : 2 ≤ q) (h3 : q ≤ 1000) : rowLV n q = rowLN q n := by
  unfold rowLV; rw [if_neg (by unfold badR; omega)]; simp
theorem rowLV_len (row q : Int) : (rowLV row q).length ≤ 301 := by
  unfold rowLV; split
  · simp
  · rename_i h; unfold badR at h; rw [rowLN_len]; omega

/-- A row of numbers that may be multiplied. -/
def rowOk (xs : List Int) (q : Int) : Bool := decide (1 ≤ xs.length ∧ xs.length ≤ 300) && xs.all (fun x => decide (0 ≤ x ∧ x < q))
def natL (xs : List Int) (i : Nat) : Nat := (xs.getD i 0).toNat
def okT (xs ys : List Int) (q : Int) : Bool := decide (2 ≤ q ∧ q ≤ 1000) && (rowOk xs q && rowOk ys q)
def timesLN (q : Nat) (xs ys : List Int) : List Int := (List.range (xs.length + ys.length - 1)).map fun t => ((conv (natL xs) (natL ys) t % q : Nat) : Int)
def timesLV (xs ys : List Int) (q : Int) : List Int := if okT xs ys q = true then timesLN q.toNat xs ys else []
theorem rowOk_at {xs : List Int} {q : Int} (h : rowOk xs q = true) {i : Nat} (hi : i < xs.length) : 0 ≤ xs.getD i 0 ∧ xs.getD i 0 < q := by
  unfold rowOk at h
  rw [Bool.and_eq_true, List.all_eq_true] at h
  have := h.2 (xs.getD i 0) (by rw [List.getD, List.getElem?_eq_getElem hi]; simp)
  simpa using this
theorem rowOk_len {xs : List Int} {q : Int} (h : rowOk xs q = true) : 1 ≤ xs.length ∧ xs.length ≤ 300 := by
  unfold rowOk at h
  rw [Bool.and_eq_true] at h
  simpa using h.1
theorem rowOk_of {xs : List Int} {q : Int} (h1 : 1 ≤ xs.length) (h2 : xs.length ≤ 300) (h : ∀ i, i < xs.length → 0 ≤ xs.getD i 0 ∧ xs.getD i 0 < q) : rowOk xs q = true := by
  unfold rowOk
  rw [Bool.and_eq_true, List.all_eq_true]
  refine ⟨by simp; omega, fun x hx => ?_⟩
  obtain ⟨i, hi, rfl⟩ := List.mem_iff_getElem.1 hx
  have := h i hi
  rw [List.getD, List.getElem?_eq_getElem hi] at this
  simpa using this
theorem rowOk_not {xs : List Int} {q : Int} {i : Nat} (hi : i < xs.length) (h : xs.getD i 0 < 0 ∨ q ≤ xs.getD i 0) : rowOk xs q = false := by
  cases e : rowOk xs q with
  | false => rfl
  | true => have := rowOk_at e hi; omega
theorem rowOk_short {xs : List Int} {q : Int} (h : xs.length < 1 ∨ 300 < xs.length) : rowOk xs q = false := by
  cases e : rowOk xs q with
  | false => rfl
  | true => have := rowOk_len e; omega
theorem natL_at {xs : List Int} {q : Int} (h : rowOk xs q = true) {i : Nat} (hi : i < xs.length) : ((natL xs i : Nat) : Int) = xs.getD i 0 ∧ (natL xs i : Int) < q := by
  have := rowOk_at h hi
  unfold natL; omega
theorem natL_over (xs : List Int) (i : Nat) (h : xs.length ≤ i) : natL xs i = 0 := by
  unfold natL; rw [List.getD, List.getElem?_eq_none h]; rfl
theorem natL_le {xs : List Int} {q : Nat} (h : rowOk xs q = true) (i : Nat) : natL xs i ≤ q := by
  by_cases hi : i < xs.length
  · have := (natL_at h hi).2; omega
  · rw [natL_over xs i (by omega)]; omega
theorem timesLN_len (q : Nat) (xs ys : List Int) : (timesLN q xs ys).length = xs.length + ys.length - 1 := by simp [timesLN]
theorem timesLN_getD (q : Nat) (xs ys : List Int) (t : Nat) (h : t < xs.length + ys.length - 1) : (timesLN q xs ys).getD t 0 = ((conv (natL xs) (natL ys) t % q : Nat) : Int) := by
  simp [timesLN, List.getD, h]
theorem timesLV_len (xs ys : List Int) (q : Int) : (timesLV xs ys q).length ≤ 599 := by
  unfold timesLV; split
  · rename_i h
    unfold okT at h
    simp only [Bool.and_eq_true] at h
    have h1 := rowOk_len h.2.1
    have h2 := rowOk_len h.2.2
    rw [timesLN_len]; omega
  · simp
end Go.Proofs.YtkcbfiglmjdaiaaDoor
/-
  The values of the functions of chapter 9 at every argument.
-/
namespace Go.Proofs.YtkcbfiglmjdaiaaDoor
open Go.RowKit

/-- A row of one to twelve cells, each of which is 0 or 1. -/
def sideB (xs : List Int) : Bool := decide (1 ≤ xs.length ∧ xs.length ≤ 12) && xs.all (fun x => decide (0 ≤ x ∧ x ≤ 1))
theorem sideB_len {xs : List Int} (h : sideB xs = true) : 1 ≤ xs.length ∧ xs.length ≤ 12 := by
  unfold sideB at h
  rw [Bool.and_eq_true] at h
  simpa using h.1
theorem sideB_at {xs : List Int} (h : sideB xs = true) {i : Nat} (hi : i < xs.length) : 0 ≤ xs.getD i 0 ∧ xs.getD i 0 ≤ 1 := by
  unfold sideB at h
  rw [Bool.and_eq_true, List.all_eq_true] at h
  have := h.2 (xs.getD i 0) (by rw [List.getD, List.getElem?_eq_getElem hi]; simp)
  simpa using this
theorem sideB_of {xs : List Int} (h1 : 1 ≤ xs.length) (h2 : xs.length ≤ 12) (h : ∀ i, i < xs.length → 0 ≤ xs.getD i 0 ∧ xs.getD i 0 ≤ 1) : sideB xs = true := by
  unfold sideB
  rw [Bool.and_eq_true, List.all_eq_true]
  refine ⟨by simp; omega, fun x hx => ?_⟩
  obtain ⟨i, hi, rfl⟩ := List.mem_iff_getElem.1 hx
  have := h i hi
  rw [List.getD, List.getElem?_eq_getElem hi] at this
  simpa using this
theorem sideB_short {xs : List Int} (h : xs.length < 1 ∨ 12 < xs.length) : sideB xs = false := by
  cases e : sideB xs with
  | false => rfl
  | true => have := sideB_len e; omega
theorem sideB_not {xs : List Int} {i : Nat} (hi : i < xs.length) (h : xs.getD i 0 < 0 ∨ 1 < xs.getD i 0) : sideB xs = false := by
  cases e : sideB xs with
  | false => rfl
  | true => have := sideB_at e hi; omega
theorem side_bit {xs : List Int} (h : sideB xs = true) (i : Nat) : natL xs i ≤ 1 := by
  by_cases hi : i < xs.length
  · have := sideB_at h hi; unfold natL; omega
  · rw [natL_over xs i (by omega)]; omega
theorem side_get {xs : List Int} (h : sideB xs = true) {i : Nat} (hi : i < xs.length) : xs.getD i 0 = (natL xs i : Int) := by
  have := sideB_at h hi; unfold natL; omega

/-- The first n cells of the row i steps under f. -/
def stL (f : Nat → Nat) (i n : Nat) : List Int := (List.range n).map fun k => (st f i k : Int)
theorem stL_len (f : Nat → Nat) (i n : Nat) : (stL f i n).length = n := by simp [stL]
theorem stL_getD (f : Nat → Nat) (i n k : Nat) (h : k < n) : (stL f i n).getD k 0 = (st f i k : Int) := by simp [stL, List.getD, h]
theorem stL_nat (f : Nat → Nat) (i n k : Nat) (h : k < n) : natL (stL f i n) k = st f i k := by unfold natL; rw [stL_getD f i n k h]; rfl
theorem stL_snoc (f : Nat → Nat) (i n : Nat) : stL f i (n + 1) = stL f i n ++ [(st f i n : Int)] := by simp [stL, List.range_succ]
theorem stL_zero {xs : List Int} (h : sideB xs = true) : stL (natL xs) 0 xs.length = xs := by
  apply List.ext_getElem?
  intro k
  by_cases hk : k < xs.length
  · have h1 := side_get h hk
    rw [List.getD, List.getElem?_eq_getElem hk, Option.getD_some] at h1
    unfold stL
    rw [List.getElem?_map, List.getElem?_range hk, List.getElem?_eq_getElem hk, h1]; rfl
  · rw [List.getElem?_eq_none (by rw [stL_len]; omega), List.getElem?_eq_none (by omega)]
theorem stL_side {f : Nat → Nat} (hf : ∀ k, f k ≤ 1) (i n : Nat) (h1 : 1 ≤ n) (h2 : n ≤ 12) : sideB (stL f i n) = true :=
  sideB_of (by rw [stL_len]; exact h1) (by rw [stL_len]; exact h2) (fun k hk => by
    rw [stL_len] at hk
    rw [stL_getD f i n k hk]
    have := st_le hf i k
    omega)
theorem stL_next (f : Nat → Nat) (i n : Nat) : stL (natL (stL f i (n + 1))) 1 n = stL f (i + 1) n := by
  unfold stL
  refine List.map_congr_left fun k hk => ?_
  have hk' := List.mem_range.1 hk
  have h1 := stL_nat f i (n + 1) k (by omega)
  have h2 := stL_nat f i (n + 1) (k + 1) (by omega)
  unfold stL at h1 h2
  simp only [st]
  rw [h1, h2]

def undrV (xs : List Int) : List Int := if sideB xs = true then stL (natL xs) 1 (xs.length - 1) else []
def rowsV (xs : List Int) : List (List Int) := if sideB xs = true then (List.range xs.length).map fun i => stL (natL xs) i (xs.length - i) else []
def onesV (xs : List Int) : Int := if sideB xs = true then (tot (st (natL xs)) xs.length : Int) else -1
def endV (xs : List Int) : Int := if sideB xs = true then (st (natL xs) (xs.length - 1) 0 : Int) else -1
def turnV (xs : List Int) : List Int := if sideB xs = true then (List.range xs.length).map fun j => (side (natL xs) xs.length j : Int) else []
def balV (c : Int) : Int := if c < 1 ∨ 12 < c then -1 else (balanced c.toNat : Int)
theorem undrV_no {xs : List Int} (h : sideB xs = false) : undrV xs = [] := by unfold undrV; rw [h]; rfl
theorem rowsV_no {xs : List Int} (h : sideB xs = false) : rowsV xs = [] := by unfold rowsV; rw [h]; rfl
theorem onesV_no {xs : List Int} (h : sideB xs = false) : onesV xs = -1 := by unfold onesV; rw [h]; rfl
theorem endV_no {xs : List Int} (h : sideB xs = false) : endV xs = -1 := by unfold endV; rw [h]; rfl
theorem turnV_no {xs : List Int} (h : sideB xs = false) : turnV xs = [] := by unfold turnV; rw [h]; rfl
theorem undrV_yes {xs : List Int} (h : sideB xs = true) : undrV xs = stL (natL xs) 1 (xs.length - 1) := if_pos h
theorem rowsV_yes {xs : List Int} (h : sideB xs = true) : rowsV xs = (List.range xs.length).map fun i => stL (natL xs) i (xs.length - i) := if_pos h
theorem onesV_yes {xs : List Int} (h : sideB xs = true) : onesV xs = (tot (st (natL xs)) xs.length : Int) := if_pos h
theorem endV_yes {xs : List Int} (h : sideB xs = true) : endV xs = (st (natL xs) (xs.length - 1) 0 : Int) := if_pos h
theorem turnV_yes {xs : List Int} (h : sideB xs = true) : turnV xs = (List.range xs.length).map fun j => (side (natL xs) xs.length j : Int) := if_pos h
theorem balV_bad {c : Int} (h : c < 1 ∨ 12 < c) : balV c = -1 := if_pos h
theorem balV_nat {c : Nat} (h1 : 1 ≤ c) (h2 : c ≤ 12) : balV c = balanced c := by unfold balV; rw [if_neg (by omega)]; rfl
theorem undrV_len (xs : List Int) : (undrV xs).length ≤ 11 := by
  unfold undrV; split
  · rename_i h; have := sideB_len h; rw [stL_len]; omega
  · simp
theorem turnV_len (xs : List Int) : (turnV xs).length ≤ 12 := by
  unfold turnV; split
  · rename_i h; have := sideB_len h; simp; omega
  · simp
theorem rowsV_len (xs : List Int) : (rowsV xs).length ≤ 12 := by
  unfold rowsV; split
  · rename_i h; have := sideB_len h; simp; omega
  · simp
/-- All cells of the first i rows. -/
def totU (f : Nat → Nat) (n : Nat) : Nat → Nat
  | 0 => 0
  | i + 1 => totU f n i + sumF (st f i) (n - i)
theorem totU_all (f : Nat → Nat) (n : Nat) : totU f n n = tot (st f) n := by
  have h : ∀ m, totU f n m = sumF (fun i => sumF (st f i) (n - i)) m := fun m => by
    induction m with
    | zero => rfl
    | succ m ih => show totU f n m + _ = _ + _; rw [ih]
  exact h n
theorem sumF_bit {f : Nat → Nat} (hf : ∀ k, f k ≤ 1) : ∀ m, sumF f m ≤ m
  | 0 => Nat.le_refl _
  | m + 1 => by have := sumF_bit hf m; have := hf m; simp only [sumF]; omega
theorem totU_le {f : Nat → Nat} (hf : ∀ k, f k ≤ 1) {n : Nat} (hn : n ≤ 12) : ∀ i, i ≤ n → totU f n i ≤ i * 12
  | 0, _ => Nat.le_refl _
  | i + 1, h => by
    have h1 := totU_le hf hn i (by omega)
    have h2 := sumF_bit (st_le hf i) (n - i)
    show totU f n i + sumF (st f i) (n - i) ≤ _
    omega
/-- The last cell: the cells that are under. -/
def lastU (f : Nat → Nat) (m : Nat) : Nat → Nat
  | 0 => 0
  | k + 1 => lastU f m k + (if und 2 k m = true then f k else 0)
theorem lastU_all {f : Nat → Nat} (hf : ∀ k, f k ≤ 1) (m : Nat) : lastU f m (m + 1) % 2 = st f m 0 := by
  rw [last_left hf]
  congr 1
  have h : ∀ j, lastU f m j = sumF (fun j => leftN 2 m j * f j) j := fun j => by
    induction j with
    | zero => rfl
    | succ j ih =>
      show lastU f m j + _ = sumF _ j + leftN 2 m j * f j
      rw [ih, left_und]
      cases und 2 j m <;> simp
  exact h (m + 1)
theorem lastU_le {f : Nat → Nat} (hf : ∀ k, f k ≤ 1) (m : Nat) : ∀ k, lastU f m k ≤ k
  | 0 => Nat.le_refl _
  | k + 1 => by
    have h1 := lastU_le hf m k
    have h2 := hf k
    show lastU f m k + _ ≤ _
    split <;> omega
end Go.Proofs.YtkcbfiglmjdaiaaDoor
/-
  Plain mathematics of rounds of differences in a ring: a ring of n numbers is a function that comes again every n places. Nothing of the program.
-/
namespace Go.Proofs.YtkcbfiglmjdaiaaDoor
open Go.RowKit

def ad (a b : Nat) : Nat := (a - b) + (b - a)
theorem ad_max (a b : Nat) : ad a b = max a b - min a b := by unfold ad; omega
/-- A round; so many rounds. -/
def dF (f : Nat → Nat) : Nat → Nat := fun k => ad (f k) (f (k + 1))
def dR (f : Nat → Nat) : Nat → Nat → Nat
  | 0 => f
  | r + 1 => dF (dR f r)
def per (n : Nat) (f : Nat → Nat) : Prop := ∀ k, f (k + n) = f k
theorem dR_front (f : Nat → Nat) : ∀ r, dR (dF f) r = dR f (r + 1)
  | 0 => rfl
  | r + 1 => by show dF (dR (dF f) r) = _; rw [dR_front f r]; rfl
theorem dR_add (f : Nat → Nat) (r : Nat) : ∀ s, dR (dR f r) s = dR f (r + s)
  | 0 => rfl
  | s + 1 => by show dF (dR (dR f r) s) = _; rw [dR_add f r s]; rfl
theorem per_dF {n : Nat} {f : Nat → Nat} (h : per n f) : per n (dF f) := fun k => by
  show ad (f (k + n)) (f (k + n + 1)) = ad (f k) (f (k + 1))
  rw [h k, show k + n + 1 = k + 1 + n by omega, h (k + 1)]
theorem per_dR {n : Nat} {f : Nat → Nat} (h : per n f) : ∀ r, per n (dR f r)
  | 0 => h
  | r + 1 => per_dF (per_dR h r)
theorem per_times {n : Nat} {f : Nat → Nat} (h : per n f) (k : Nat) : ∀ j, f (k + n * j) = f k
  | 0 => rfl
  | j + 1 => by rw [Nat.mul_succ, ← Nat.add_assoc, h, per_times h k j]
theorem per_mod {n : Nat} {f : Nat → Nat} (h : per n f) (k : Nat) : f (k % n) = f k := by
  have h1 := per_times h (k % n) (k / n)
  rw [Nat.mod_add_div] at h1
  exact h1.symm
theorem per_eq {n : Nat} {f g : Nat → Nat} (hn : 0 < n) (hf : per n f) (hg : per n g) (h : ∀ k, k < n → f k = g k) : f = g := by
  funext k
  rw [← per_mod hf k, ← per_mod hg k, h _ (Nat.mod_lt _ hn)]
theorem dF_le {f : Nat → Nat} {M : Nat} (h : ∀ k, f k ≤ M) (k : Nat) : dF f k ≤ M := by
  have h1 := h k
  have h2 := h (k + 1)
  show ad _ _ ≤ M
  unfold ad; omega
theorem dR_le {f : Nat → Nat} {M : Nat} (h : ∀ k, f k ≤ M) : ∀ r k, dR f r k ≤ M
  | 0 => h
  | r + 1 => fun k => dF_le (dR_le h r) k
theorem ad_times (c a b : Nat) : ad (c * a) (c * b) = c * ad a b := by unfold ad; rw [Nat.mul_add, Nat.mul_sub, Nat.mul_sub]
theorem dR_times (c : Nat) (f : Nat → Nat) : ∀ r, dR (fun k => c * f k) r = fun k => c * dR f r k
  | 0 => rfl
  | r + 1 => by
    show dF (dR (fun k => c * f k) r) = _
    rw [dR_times c f r]
    funext k
    exact ad_times c _ _
theorem dR_zero : ∀ r, dR (fun _ => 0) r = fun _ => 0
  | 0 => rfl
  | r + 1 => by show dF (dR _ r) = _; rw [dR_zero r]; rfl
/-- Moved on by one place. -/
theorem dR_moved (f : Nat → Nat) : ∀ r, dR (fun k => f (k + 1)) r = fun k => dR f r (k + 1)
  | 0 => rfl
  | r + 1 => by show dF (dR _ r) = _; rw [dR_moved f r]; rfl
/-- All together are even. -/
theorem dF_even {n : Nat} {f : Nat → Nat} (h : per n f) : sumF (dF f) n % 2 = 0 := by
  have h1 : ∀ m, (sumF (dF f) m + f 0 + f m) % 2 = 0 := fun m => by
    induction m with
    | zero => simp only [sumF]; omega
    | succ m ih =>
      have : dF f m = ad (f m) (f (m + 1)) := rfl
      simp only [sumF]
      rw [this]
      unfold ad; omega
  have h2 := h1 n
  have h3 := h 0
  rw [Nat.zero_add] at h3
  omega
/-- Divided by 2 rounds are sums. -/
theorem dR_mod (f : Nat → Nat) : ∀ r k, dR f r k % 2 = st (fun j => f j % 2) r k
  | 0, _ => rfl
  | r + 1, k => by
    have h1 := dR_mod f r k
    have h2 := dR_mod f r (k + 1)
    show ad _ _ % 2 = (st _ r k + st _ r (k + 1)) % 2
    rw [← h1, ← h2]
    unfold ad; omega
theorem dR_bits {f : Nat → Nat} (h : ∀ k, f k ≤ 1) (r k : Nat) : dR f r k = st f r k := by
  have h1 := dR_mod f r k
  have h2 := dR_le h r k
  rw [Nat.mod_eq_of_lt (by omega)] at h1
  rw [h1]
  exact st_congr r k fun j _ _ => by have := h j; show f j % 2 = f j; omega
theorem st_shift (f : Nat → Nat) : ∀ i k m, st (fun j => f (m + j)) i k = st f i (m + k)
  | 0, _, _ => rfl
  | i + 1, k, m => by show (st _ i k + st _ i (k + 1)) % 2 = (st f i (m + k) + st f i (m + k + 1)) % 2; rw [st_shift f i k m, st_shift f i (k + 1) m]; rfl
/-- As many rounds at once, told by the triangle. -/
theorem st_row {f : Nat → Nat} (h : ∀ k, f k ≤ 1) (r k : Nat) : st f r k = sumF (fun j => leftN 2 r j * f (k + j)) (r + 1) % 2 := by
  rw [← last_left (f := fun j => f (k + j)) (fun j => h _), st_shift]; rfl
theorem sumF_none {f : Nat → Nat} : ∀ m, (∀ i, i < m → f i = 0) → sumF f m = 0
  | 0, _ => rfl
  | m + 1, h => by simp only [sumF]; rw [sumF_none m (fun i hi => h i (by omega)), h m (by omega)]
/-- For a power of 2 each number is told by the one there and by the one so many places further on. -/
theorem st_power {f : Nat → Nat} (h : ∀ k, f k ≤ 1) {r : Nat} (hr : strip 2 r = 1) (h0 : 0 < r) (k : Nat) : st f r k = (f k + f (k + r)) % 2 := by
  rw [st_row h]
  obtain ⟨m, rfl⟩ : ∃ m, r = m + 1 := ⟨r - 1, by omega⟩
  rw [sumF_first]
  simp only [sumF]
  rw [sumF_none m (fun i hi => by rw [show leftN 2 (m + 1) (i + 1) = 0 from strip_ends prm_2 (m + 1) (i + 1) (by omega) (by omega) hr, Nat.zero_mul]), leftN_zero (by omega), leftN_self (by omega), Nat.one_mul, Nat.one_mul, Nat.zero_add, Nat.add_zero]
theorem strip_eight : strip 2 8 = 1 := by decide +kernel
theorem dR_eight {f : Nat → Nat} (h : per 8 f) (k : Nat) : dR f 8 k % 2 = 0 := by
  rw [dR_mod, st_power (fun j => by show f j % 2 ≤ 1; omega) strip_eight (by omega)]
  show (f k % 2 + f (k + 8) % 2) % 2 = 0
  rw [h k]; omega
/-- Rings of 1, 2, 4 or 8 numbers end. -/
theorem dR_ends : ∀ (j : Nat) (f : Nat → Nat), per 8 f → (∀ k, f k < 2 ^ j) → ∀ k, dR f (8 * j) k = 0
  | 0, f, _, h, k => by have := h k; rw [Nat.pow_zero] at this; show f k = 0; omega
  | j + 1, f, hp, h, k => by
    have h2 : ∀ k, f k ≤ 2 ^ (j + 1) - 1 := fun k => by have := h k; omega
    have h3 := dR_le h2 8
    have h4 : dR f 8 = fun k => 2 * (dR f 8 k / 2) := by
      funext i
      have := dR_eight hp i
      omega
    rw [show 8 * (j + 1) = 8 + 8 * j by omega, ← dR_add, h4, dR_times]
    show 2 * dR _ (8 * j) k = 0
    rw [dR_ends j (fun k => dR f 8 k / 2) (fun i => by show dR f 8 (i + 8) / 2 = _; rw [per_dR hp 8 i]) (fun i => by
      have h5 := h3 i
      have h6 : 0 < 2 ^ j := Nat.pow_pos (by omega)
      rw [Nat.pow_succ] at h5
      show dR f 8 i / 2 < 2 ^ j
      omega) k]
theorem per_eight {n : Nat} {f : Nat → Nat} (h : per n f) (hn : n = 1 ∨ n = 2 ∨ n = 4 ∨ n = 8) : per 8 f := fun k => by
  rcases hn with rfl | rfl | rfl | rfl
  · exact per_times h k 8
  · exact per_times h k 4
  · exact per_times h k 2
  · exact h k
theorem dR_done {f : Nat → Nat} {r : Nat} (h : ∀ k, dR f r k = 0) (s : Nat) (k : Nat) : dR f (r + s) k = 0 := by
  rw [← dR_add, show dR f r = fun _ => 0 from funext h, dR_zero]

/-- Where the greatest number still comes after L rounds, L + 1 numbers beside each other are 0 or it. -/
theorem ring_block {M : Nat} (hM : 0 < M) : ∀ (L : Nat) (g : Nat → Nat), (∀ k, g k ≤ M) → (∃ k, dR g L k = M) → ∃ a, (∀ i, i ≤ L → g (a + i) = 0 ∨ g (a + i) = M) ∧ ∃ i, i ≤ L ∧ g (a + i) = M
  | 0, g, _, ⟨k, hk⟩ => ⟨k, fun i hi => by obtain rfl : i = 0 := by omega
                                           exact .inr hk, 0, Nat.le_refl _, hk⟩
  | L + 1, g, hg, ⟨k, hk⟩ => by
    rw [← dR_front] at hk
    obtain ⟨a, h1, i0, hi0, h2⟩ := ring_block hM L (dF g) (dF_le hg) ⟨k, hk⟩
    have hd : ∀ i, dF g (a + i) = ad (g (a + i)) (g (a + (i + 1))) := fun i => rfl
    rw [hd] at h2
    have hup : ∀ j, i0 + 1 + j ≤ L + 1 → g (a + (i0 + 1 + j)) = 0 ∨ g (a + (i0 + 1 + j)) = M := fun j => by
      induction j with
      | zero => intro _; have := hg (a + i0); have := hg (a + (i0 + 1)); unfold ad at h2; rw [Nat.add_zero]; omega
      | succ j ih =>
        intro hj
        have h3 := ih (by omega)
        have h4 := h1 (i0 + 1 + j) (by omega)
        rw [hd] at h4
        have := hg (a + (i0 + 1 + j + 1))
        rw [show i0 + 1 + (j + 1) = i0 + 1 + j + 1 by omega]
        unfold ad at h4; omega
    have hdn : ∀ j, j ≤ i0 → g (a + (i0 - j)) = 0 ∨ g (a + (i0 - j)) = M := fun j => by
      induction j with
      | zero => intro _; have := hg (a + i0); have := hg (a + (i0 + 1)); unfold ad at h2; rw [Nat.sub_zero]; omega
      | succ j ih =>
        intro hj
        have h3 := ih (by omega)
        have h4 := h1 (i0 - (j + 1)) (by omega)
        rw [hd, show i0 - (j + 1) + 1 = i0 - j by omega] at h4
        have := hg (a + (i0 - (j + 1)))
        unfold ad at h4; omega
    refine ⟨a, fun i hi => ?_, ?_⟩
    · by_cases e : i ≤ i0
      · have := hdn (i0 - i) (by omega)
        rw [show i0 - (i0 - i) = i by omega] at this
        exact this
      · have := hup (i - i0 - 1) (by omega)
        rw [show i0 + 1 + (i - i0 - 1) = i by omega] at this
        exact this
    · have h5 := hg (a + i0)
      have h6 := hg (a + (i0 + 1))
      by_cases e : g (a + i0) = M
      · exact ⟨i0, by omega, e⟩
      · exact ⟨i0 + 1, by omega, by unfold ad at h2; omega⟩
theorem dR_again {y : Nat → Nat} {b : Nat} (h : dR y b = y) : ∀ j, dR y (b * j) = y
  | 0 => rfl
  | j + 1 => by rw [Nat.mul_succ, ← dR_add, dR_again h j, h]
/-- A ring that comes again has 0 and one other number alone. -/
theorem ring_two {n b M : Nat} {y : Nat → Nat} (hn : 0 < n) (hp : per n y) (hb : 0 < b) (h : dR y b = y) (hM : ∀ k, y k ≤ M) (hmax : ∃ k, y k = M) (k : Nat) : y k = 0 ∨ y k = M := by
  by_cases h0 : M = 0
  · have := hM k; omega
  · have hex : ∃ k, dR y n k = M := by
      refine Classical.byContradiction fun hno => ?_
      have hlow : ∀ k, dR y n k ≤ M - 1 := fun k => by
        have h1 := dR_le hM n k
        have h2 : dR y n k ≠ M := fun e => hno ⟨k, e⟩
        omega
      obtain ⟨k0, hk0⟩ := hmax
      have h3 : n ≤ b * n := Nat.le_mul_of_pos_left n hb
      have h4 := dR_le hlow (b * n - n) k0
      rw [dR_add, show n + (b * n - n) = b * n by omega, dR_again h n, hk0] at h4
      omega
    obtain ⟨a, h1, _⟩ := ring_block (by omega) n y hM hex
    have h2 : ∃ i, i ≤ n ∧ (a + i) % n = k % n := by
      refine ⟨(k % n + n - a % n) % n, Nat.le_of_lt (Nat.mod_lt _ hn), ?_⟩
      have h3 := Nat.mod_lt a hn
      have h4 := Nat.mod_lt k hn
      have h5 := Nat.div_add_mod a n
      rw [Nat.add_mod, Nat.mod_mod]
      by_cases e : a % n ≤ k % n
      · rw [show k % n + n - a % n = k % n - a % n + n by omega, Nat.add_mod_right, Nat.mod_eq_of_lt (show k % n - a % n < n by omega), show a % n + (k % n - a % n) = k % n by omega, Nat.mod_mod]
      · rw [Nat.mod_eq_of_lt (show k % n + n - a % n < n by omega), show a % n + (k % n + n - a % n) = k % n + n by omega, Nat.add_mod_right, Nat.mod_mod]
    obtain ⟨i, hi, he⟩ := h2
    rw [← per_mod hp k, ← he, per_mod hp]
    exact h1 i hi
/-- If it ends, it comes again one round behind the end, one round earlier. -/
theorem ring_end {f : Nat → Nat} {e r b : Nat} (hz : dR f e = fun _ => 0) (hfirst : ∀ s, s < e → dR f s ≠ fun _ => 0) (hb : 1 ≤ b) (hbr : b ≤ r) (h : dR f r = dR f (r - b))
    (hr : ∀ s c, s < r → 1 ≤ c → c ≤ s → dR f s ≠ dR f (s - c)) : r = e + 1 ∧ b = 1 := by
  have hz1 : dR f (e + 1) = fun _ => 0 := by show dF (dR f e) = _; rw [hz]; rfl
  have hle : r ≤ e + 1 := by
    refine Nat.le_of_not_lt fun hlt => hr (e + 1) 1 hlt (Nat.le_refl _) (by omega) ?_
    rw [Nat.add_sub_cancel, hz, hz1]
  -- the ring r - b comes again and again, and so it is noughts
  have hy : dR (dR f (r - b)) b = dR f (r - b) := by rw [dR_add, show r - b + b = r by omega, h]
  have hzero : dR f (r - b) = fun _ => 0 := by
    have h1 := dR_again hy e
    rw [dR_add] at h1
    have h2 : e ≤ r - b + b * e := Nat.le_trans (Nat.le_mul_of_pos_left e hb) (Nat.le_add_left _ _)
    rw [← h1, show r - b + b * e = e + (r - b + b * e - e) by omega]
    funext k
    exact dR_done (fun k => by rw [hz]) _ k
  have hge : e ≤ r - b := Nat.le_of_not_lt fun hlt => hfirst _ hlt hzero
  omega
end Go.Proofs.YtkcbfiglmjdaiaaDoor
/-
  The values of the functions of chapter 10 at every argument.
-/
namespace Go.Proofs.YtkcbfiglmjdaiaaDoor
open Go.RowKit

/-- A ring of one to eight numbers from 0 to 100. -/
def ringB (xs : List Int) : Bool := decide (1 ≤ xs.length ∧ xs.length ≤ 8) && xs.all (fun x => decide (0 ≤ x ∧ x ≤ 100))
theorem ringB_len {xs : List Int} (h : ringB xs = true) : 1 ≤ xs.length ∧ xs.length ≤ 8 := by
  unfold ringB at h
  rw [Bool.and_eq_true] at h
  simpa using h.1
theorem ringB_at {xs : List Int} (h : ringB xs = true) {i : Nat} (hi : i < xs.length) : 0 ≤ xs.getD i 0 ∧ xs.getD i 0 ≤ 100 := by
  unfold ringB at h
  rw [Bool.and_eq_true, List.all_eq_true] at h
  have := h.2 (xs.getD i 0) (by rw [List.getD, List.getElem?_eq_getElem hi]; simp)
  simpa using this
theorem ringB_of {xs : List Int} (h1 : 1 ≤ xs.length) (h2 : xs.length ≤ 8) (h : ∀ i, i < xs.length → 0 ≤ xs.getD i 0 ∧ xs.getD i 0 ≤ 100) : ringB xs = true := by
  unfold ringB
  rw [Bool.and_eq_true, List.all_eq_true]
  refine ⟨by simp; omega, fun x hx => ?_⟩
  obtain ⟨i, hi, rfl⟩ := List.mem_iff_getElem.1 hx
  have := h i hi
  rw [List.getD, List.getElem?_eq_getElem hi] at this
  simpa using this
theorem ringB_short {xs : List Int} (h : xs.length < 1 ∨ 8 < xs.length) : ringB xs = false := by
  cases e : ringB xs with
  | false => rfl
  | true => have := ringB_len e; omega
theorem ringB_not {xs : List Int} {i : Nat} (hi : i < xs.length) (h : xs.getD i 0 < 0 ∨ 100 < xs.getD i 0) : ringB xs = false := by
  cases e : ringB xs with
  | false => rfl
  | true => have := ringB_at e hi; omega

/-- The ring as a function that comes again; the first n numbers of a function. -/
def ringF (xs : List Int) : Nat → Nat := fun k => natL xs (k % xs.length)
def rgL (f : Nat → Nat) (n : Nat) : List Int := (List.range n).map fun k => (f k : Int)
theorem rgL_len (f : Nat → Nat) (n : Nat) : (rgL f n).length = n := by simp [rgL]
theorem rgL_getD (f : Nat → Nat) (n k : Nat) (h : k < n) : (rgL f n).getD k 0 = (f k : Int) := by simp [rgL, List.getD, h]
theorem rgL_snoc (f : Nat → Nat) (n : Nat) : rgL f (n + 1) = rgL f n ++ [(f n : Int)] := by simp [rgL, List.range_succ]
theorem rgL_congr {f g : Nat → Nat} (n : Nat) (h : ∀ k, k < n → f k = g k) : rgL f n = rgL g n := by
  unfold rgL
  exact List.map_congr_left fun k hk => by rw [h k (List.mem_range.1 hk)]
theorem ringF_le {xs : List Int} (h : ringB xs = true) (k : Nat) : ringF xs k ≤ 100 := by
  have hl := ringB_len h
  have := ringB_at h (Nat.mod_lt k (show 0 < xs.length by omega))
  unfold ringF natL; omega
theorem ringF_per {xs : List Int} : per xs.length (ringF xs) := fun k => by unfold ringF; rw [Nat.add_mod_right]
theorem ringF_get {xs : List Int} (h : ringB xs = true) {k : Nat} (hk : k < xs.length) : xs.getD k 0 = (ringF xs k : Int) := by
  have := ringB_at h hk
  unfold ringF natL
  rw [Nat.mod_eq_of_lt hk]; omega
theorem rgL_self {xs : List Int} (h : ringB xs = true) : rgL (ringF xs) xs.length = xs := by
  apply List.ext_getElem?
  intro k
  by_cases hk : k < xs.length
  · have h1 := ringF_get h hk
    rw [List.getD, List.getElem?_eq_getElem hk, Option.getD_some] at h1
    unfold rgL
    rw [List.getElem?_map, List.getElem?_range hk, List.getElem?_eq_getElem hk, h1]; rfl
  · rw [List.getElem?_eq_none (by rw [rgL_len]; omega), List.getElem?_eq_none (by omega)]
theorem rgL_ring {f : Nat → Nat} (hf : ∀ k, f k ≤ 100) (n : Nat) (h1 : 1 ≤ n) (h2 : n ≤ 8) : ringB (rgL f n) = true :=
  ringB_of (by rw [rgL_len]; exact h1) (by rw [rgL_len]; exact h2) (fun k hk => by
    rw [rgL_len] at hk
    rw [rgL_getD f n k hk]
    have := hf k
    omega)
theorem ringF_rgL {f : Nat → Nat} {n : Nat} (hn : 0 < n) (hp : per n f) : ringF (rgL f n) = f := by
  refine per_eq hn (by have := ringF_per (xs := rgL f n); rwa [rgL_len] at this) hp fun k hk => ?_
  unfold ringF natL
  rw [rgL_len, Nat.mod_eq_of_lt hk, rgL_getD f n k hk]; rfl

def roundV (xs : List Int) : List Int := if ringB xs = true then rgL (dF (ringF xs)) xs.length else []
theorem roundV_no {xs : List Int} (h : ringB xs = false) : roundV xs = [] := by unfold roundV; rw [h]; rfl
theorem roundV_yes {xs : List Int} (h : ringB xs = true) : roundV xs = rgL (dF (ringF xs)) xs.length := if_pos h
theorem roundV_rgL {f : Nat → Nat} {n : Nat} (hf : ∀ k, f k ≤ 100) (h1 : 1 ≤ n) (h2 : n ≤ 8) (hp : per n f) : roundV (rgL f n) = rgL (dF f) n := by
  rw [roundV_yes (rgL_ring hf n h1 h2), ringF_rgL (by omega) hp, rgL_len]
theorem roundV_len (xs : List Int) : (roundV xs).length ≤ 8 := by
  unfold roundV; split
  · rename_i h; have := ringB_len h; rw [rgL_len]; omega
  · simp
def roundsV (xs : List Int) (r : Int) : List Int := if ringB xs = true ∧ 0 ≤ r ∧ r ≤ 2000 then rgL (dR (ringF xs) r.toNat) xs.length else []
theorem roundsV_no {xs : List Int} {r : Int} (h : ringB xs = false ∨ r < 0 ∨ 2000 < r) : roundsV xs r = [] := by
  unfold roundsV
  rw [if_neg]
  rintro ⟨h1, h2, h3⟩
  rcases h with h | h | h
  · rw [h1] at h; cases h
  · omega
  · omega
theorem roundsV_nat {xs : List Int} (h : ringB xs = true) {r : Nat} (hr : r ≤ 2000) : roundsV xs r = rgL (dR (ringF xs) r) xs.length := by
  unfold roundsV; rw [if_pos ⟨h, by omega, by omega⟩]; rfl
theorem roundsV_len (xs : List Int) (r : Int) : (roundsV xs r).length ≤ 8 := by
  unfold roundsV; split
  · rename_i h; have := ringB_len h.1; rw [rgL_len]; omega
  · simp

/-- The first number below m of which p holds. -/
def firstI (p : Nat → Bool) : Nat → Option Nat
  | 0 => none
  | m + 1 => match firstI p m with
    | some i => some i
    | none => if p m then some m else none
theorem firstI_none {p : Nat → Bool} : ∀ {m : Nat}, firstI p m = none ↔ ∀ i, i < m → p i = false
  | 0 => by simp [firstI]
  | m + 1 => by
    unfold firstI
    cases h : firstI p m with
    | some i =>
      have h1 : ¬ ∀ i, i < m → p i = false := fun h2 => by rw [firstI_none.2 h2] at h; cases h
      simp only [reduceCtorEq, false_iff]
      intro h2; exact h1 fun i hi => h2 i (by omega)
    | none =>
      have h1 := firstI_none.1 h
      cases hp : p m with
      | true => simp only [if_true, reduceCtorEq, false_iff]; intro h2; have := h2 m (by omega); rw [hp] at this; cases this
      | false =>
        simp only [Bool.false_eq_true, if_false, true_iff]
        intro i hi
        by_cases e : i = m
        · subst e; exact hp
        · exact h1 i (by omega)
theorem firstI_some {p : Nat → Bool} {i : Nat} : ∀ {m : Nat}, firstI p m = some i ↔ i < m ∧ p i = true ∧ ∀ j, j < i → p j = false
  | 0 => by simp [firstI]
  | m + 1 => by
    unfold firstI
    cases h : firstI p m with
    | some k =>
      have h1 := firstI_some.1 h
      constructor
      · intro e; injection e with e; subst e; exact ⟨by omega, h1.2⟩
      · rintro ⟨h2, h3, h4⟩
        rcases Nat.lt_trichotomy k i with h5 | h5 | h5
        · have := h4 k h5; rw [h1.2.1] at this; cases this
        · rw [h5]
        · have := h1.2.2 i h5; rw [h3] at this; cases this
    | none =>
      have h1 := firstI_none.1 h
      cases hp : p m with
      | true =>
        simp only [if_true]
        constructor
        · intro e; injection e with e; subst e; exact ⟨by omega, hp, h1⟩
        · rintro ⟨h2, h3, h4⟩
          have : ¬ i < m := fun h5 => by have := h1 i h5; rw [h3] at this; cases this
          rw [show m = i by omega]
      | false =>
        simp only [Bool.false_eq_true, if_false, reduceCtorEq, false_iff]
        rintro ⟨h2, h3, h4⟩
        by_cases e : i = m
        · subst e; rw [h3] at hp; cases hp
        · have := h1 i (by omega); rw [h3] at this; cases this
/-- All numbers are 0 after r rounds. -/
def zeroB (f : Nat → Nat) (n r : Nat) : Bool := (List.range n).all fun k => dR f r k == 0
theorem zeroB_iff {f : Nat → Nat} {n r : Nat} : zeroB f n r = true ↔ ∀ k, k < n → dR f r k = 0 := by
  unfold zeroB; rw [List.all_eq_true]
  exact ⟨fun h k hk => by have := h k (List.mem_range.2 hk); simpa using this, fun h k hk => by have := h k (List.mem_range.1 hk); simpa using this⟩
def endN (xs : List Int) : Option Nat := if ringB xs = true then firstI (zeroB (ringF xs) xs.length) 2001 else none
def endI (xs : List Int) : Int := match endN xs with | some r => r | none => -1
def endB (xs : List Int) : Bool := (endN xs).isSome
/-- What is so many rounds later is what was so many rounds earlier. -/
def sameB (f : Nat → Nat) (n r k : Nat) : Bool := (List.range n).all fun j => dR f k j == dR f r j
theorem sameB_iff {f : Nat → Nat} {n r k : Nat} : sameB f n r k = true ↔ ∀ j, j < n → dR f k j = dR f r j := by
  unfold sameB; rw [List.all_eq_true]
  exact ⟨fun h k hk => by have := h k (List.mem_range.2 hk); simpa using this, fun h k hk => by have := h k (List.mem_range.1 hk); simpa using this⟩
/-- How many rounds earlier, first: from the round before on. -/
def backI (f : Nat → Nat) (n r : Nat) : Option Nat := firstI (fun i => sameB f n r (r - 1 - i)) r
def againN (xs : List Int) : Option Nat := if ringB xs = true then firstI (fun r => (backI (ringF xs) xs.length r).isSome) 2001 else none
def bitsV (xs : List Int) (r : Int) : List Int := if ringB xs = true ∧ (0 ≤ r ∧ r ≤ 300) ∧ xs.all (fun x => decide (x ≤ 1)) = true then rgL (st (ringF xs) r.toNat) xs.length else []
end Go.Proofs.YtkcbfiglmjdaiaaDoor
/-
  The values of the functions of chapter 12 at every argument: desks as rows.
-/
namespace Go.Proofs.YtkcbfiglmjdaiaaDoor

/-- A desk: its row, and those of before. -/
abbrev Dk := List Int × List (List Int)
def deskB (d : Dk) : Bool := d.2.all sideB && (sideB d.1 && decide (d.2.length ≤ 8))
theorem deskB_is {d : Dk} : deskB d = true ↔ (∀ r ∈ d.2, sideB r = true) ∧ sideB d.1 = true ∧ d.2.length ≤ 8 := by
  unfold deskB
  simp only [Bool.and_eq_true, List.all_eq_true, decide_eq_true_eq]
def newV (xs : List Int) : Dk := if sideB xs = true then (xs, []) else ([], [])
def flipV (row : List Int) (n : Nat) : List Int := row.set n (1 - row.getD n 0)
/-- What a deed makes of a row, none if it cannot be done. -/
def madeV (row : List Int) (k n : Int) : List Int :=
  if k = 0 ∧ 0 ≤ n ∧ n ≤ (row.length : Int) - 1 then flipV row n.toNat
  else if k = 1 ∧ 0 ≤ n ∧ n ≤ 1 ∧ (row.length : Int) < 12 then row ++ [n]
  else if k = 2 ∧ n = 0 then undrV row
  else if k = 3 ∧ n = 0 then turnV row
  else if k = 4 ∧ n = 0 then roundV row
  else []
def pastV (past : List (List Int)) (row : List Int) : List (List Int) := if past.length < 8 then past ++ [row] else (past ++ [row]).tail
def pstV (past : List (List Int)) : List Int := past.getD (past.length - 1) []
def doV (d : Dk) (k n : Int) : Dk × Bool :=
  if deskB d = true then
    (if k = 5 ∧ n = 0 ∧ 0 < d.2.length then ((pstV d.2, d.2.take (d.2.length - 1)), true)
    else if madeV d.1 k n = [] ∨ madeV d.1 k n = d.1 then (d, false)
    else ((madeV d.1 k n, pastV d.2 d.1), true))
  else (([], []), false)
theorem doV_no {d : Dk} (h : deskB d = false) (k n : Int) : doV d k n = (([], []), false) := by unfold doV; rw [h]; rfl

/-! The triangle's other sides. -/
theorem turnV_of {f : Nat → Nat} (hf : ∀ k, f k ≤ 1) {n : Nat} (h1 : 1 ≤ n) (h2 : n ≤ 12) : turnV (stL f 0 n) = stL (side f n) 0 n := by
  rw [turnV_yes (stL_side hf 0 n h1 h2), stL_len]
  unfold stL
  refine List.map_congr_left fun j hj => ?_
  have hj' := List.mem_range.1 hj
  congr 1
  show side _ n j = side f n j
  unfold side
  exact st_congr _ _ (fun i _ h => stL_nat f 0 n i (by omega))
theorem onesV_of {f : Nat → Nat} (hf : ∀ k, f k ≤ 1) {n : Nat} (h1 : 1 ≤ n) (h2 : n ≤ 12) : onesV (stL f 0 n) = (tot (st f) n : Nat) := by
  rw [onesV_yes (stL_side hf 0 n h1 h2), stL_len]
  congr 1
  exact tot_congr n (fun i k h => st_congr _ _ (fun j _ hj => stL_nat f 0 n j (by omega)))
theorem turnV_side {xs : List Int} (h : sideB xs = true) : sideB (turnV xs) = true := by
  have hl := sideB_len h
  have e := turnV_of (side_bit h) hl.1 hl.2
  rw [stL_zero h] at e
  rw [e]
  exact stL_side (side_le (side_bit h) _) 0 _ hl.1 hl.2
theorem turnV_ones {xs : List Int} (h : sideB xs = true) : onesV (turnV xs) = onesV xs := by
  have hl := sideB_len h
  have hf := side_bit h
  have e := turnV_of hf hl.1 hl.2
  rw [stL_zero h] at e
  rw [e, onesV_of (side_le hf _) hl.1 hl.2, ones_side hf, onesV_yes h]
theorem turnV_three {xs : List Int} (h : sideB xs = true) : turnV (turnV (turnV xs)) = xs := by
  have hl := sideB_len h
  have hf := side_bit h
  have e := turnV_of hf hl.1 hl.2
  rw [stL_zero h] at e
  rw [e, turnV_of (side_le hf _) hl.1 hl.2, turnV_of (side_le (side_le hf _) _) hl.1 hl.2]
  conv => rhs; rw [← stL_zero h]
  unfold stL
  refine List.map_congr_left fun j hj => ?_
  show ((side (side (side (natL xs) xs.length) xs.length) xs.length j : Nat) : Int) = (natL xs j : Int)
  rw [side_three hf _ j (List.mem_range.1 hj)]

/-! What a deed makes is a row of noughts and ones. -/
theorem flip_side {row : List Int} (h : sideB row = true) {n : Nat} (hn : n < row.length) : sideB (flipV row n) = true := by
  have hl := sideB_len h
  refine sideB_of (by unfold flipV; rw [List.length_set]; exact hl.1) (by unfold flipV; rw [List.length_set]; exact hl.2) fun i hi => ?_
  unfold flipV at hi ⊢
  rw [List.length_set] at hi
  have h1 := sideB_at h hi
  have h2 := sideB_at h hn
  rw [List.getD, List.getElem?_set]
  by_cases e : n = i
  · subst e
    rw [if_pos rfl, if_pos hn, Option.getD_some]
    omega
  · rw [if_neg e]
    exact h1
theorem put_side {row : List Int} (h : sideB row = true) {n : Int} (h0 : 0 ≤ n) (h1 : n ≤ 1) (hl : row.length < 12) : sideB (row ++ [n]) = true := by
  have hs := sideB_len h
  refine sideB_of (by simp) (by simp; omega) fun i hi => ?_
  by_cases e : i < row.length
  · rw [List.getD, List.getElem?_append_left e]
    exact sideB_at h e
  · have : i = row.length := by simp at hi; omega
    subst this
    rw [List.getD, List.getElem?_append_right (Nat.le_refl _), Nat.sub_self]
    exact ⟨h0, h1⟩
theorem undr_side {row : List Int} (h : sideB row = true) (hne : undrV row ≠ []) : sideB (undrV row) = true := by
  have hl := sideB_len h
  rw [undrV_yes h] at hne ⊢
  by_cases e : row.length - 1 = 0
  · rw [e] at hne; exact absurd rfl hne
  · exact stL_side (side_bit h) 1 _ (by omega) (by omega)
theorem round_side {row : List Int} (h : sideB row = true) (hne : roundV row ≠ []) : sideB (roundV row) = true := by
  have hl := sideB_len h
  cases hr : ringB row with
  | false => rw [roundV_no hr] at hne; exact absurd rfl hne
  | true =>
    have hr8 := ringB_len hr
    rw [roundV_yes hr]
    have hb : ∀ k, ringF row k ≤ 1 := fun k => by
      have := side_bit h (k % row.length)
      unfold ringF; exact this
    refine sideB_of (by rw [rgL_len]; omega) (by rw [rgL_len]; omega) fun i hi => ?_
    rw [rgL_len] at hi
    rw [rgL_getD _ _ _ hi]
    have := dF_le hb i
    omega
theorem made_side {row : List Int} (h : sideB row = true) (k n : Int) (hne : madeV row k n ≠ []) : sideB (madeV row k n) = true := by
  have hl := sideB_len h
  unfold madeV at hne ⊢
  split
  · exact flip_side h (by omega)
  split
  · exact put_side h (by omega) (by omega) (by omega)
  split
  · rename_i h1 h2 h3
    rw [if_neg h1, if_neg h2, if_pos h3] at hne
    exact undr_side h hne
  split
  · exact turnV_side h
  split
  · rename_i h1 h2 h3 h4 h5
    rw [if_neg h1, if_neg h2, if_neg h3, if_neg h4, if_pos h5] at hne
    exact round_side h hne
  · rename_i h1 h2 h3 h4 h5
    rw [if_neg h1, if_neg h2, if_neg h3, if_neg h4, if_neg h5] at hne
    exact absurd rfl hne
theorem past_len (past : List (List Int)) (row : List Int) (h : past.length ≤ 8) : (pastV past row).length ≤ 8 := by
  unfold pastV
  split
  · simp; omega
  · simp; omega
theorem past_mem {past : List (List Int)} {row r : List Int} (h : r ∈ pastV past row) : r ∈ past ∨ r = row := by
  unfold pastV at h
  split at h
  · rcases List.mem_append.1 h with h | h
    · exact .inl h
    · exact .inr (by simpa using h)
  · rcases List.mem_append.1 (List.mem_of_mem_tail h) with h | h
    · exact .inl h
    · exact .inr (by simpa using h)
theorem pstV_mem {past : List (List Int)} (h : 0 < past.length) : pstV past ∈ past := by
  unfold pstV
  rw [List.getD, List.getElem?_eq_getElem (by omega), Option.getD_some]
  exact List.getElem_mem _

/-- A deed leads to a desk. -/
theorem do_desk {d : Dk} (h : deskB d = true) (k n : Int) : deskB (doV d k n).1 = true := by
  obtain ⟨h1, h2, h3⟩ := deskB_is.1 h
  unfold doV
  rw [if_pos h]
  split
  · rename_i hb
    exact deskB_is.2 ⟨fun r hr => h1 r (List.mem_of_mem_take hr), h1 _ (pstV_mem hb.2.2), by simp; omega⟩
  split
  · exact h
  · rename_i hb hm
    exact deskB_is.2 ⟨fun r hr => by
      rcases past_mem hr with hr | rfl
      · exact h1 r hr
      · exact h2, made_side h2 k n (fun e => hm (.inl e)), past_len _ _ h3⟩
theorem do_not {d : Dk} (h : deskB d = true) {k n : Int} (hd : (doV d k n).2 = false) : (doV d k n).1 = d := by
  unfold doV at hd ⊢
  rw [if_pos h] at hd ⊢
  split at hd
  · cases hd
  · rename_i h1
    rw [if_neg h1]
    split at hd
    · rename_i h2
      rw [if_pos h2]
    · cases hd
/-- What was done can be undone. -/
theorem do_back {d : Dk} (h : deskB d = true) {k n : Int} (hd : (doV d k n).2 = true) (hk : k ≠ 5) (hp : d.2.length < 8) : doV (doV d k n).1 5 0 = (d, true) := by
  have hx := do_desk h k n
  have e : (doV d k n).1 = (madeV d.1 k n, d.2 ++ [d.1]) := by
    unfold doV at hd ⊢
    rw [if_pos h] at hd ⊢
    split at hd
    · rename_i h1; exact absurd h1.1 hk
    · rename_i h1
      rw [if_neg h1]
      split at hd
      · cases hd
      · rename_i h2
        rw [if_neg h2]
        unfold pastV
        rw [if_pos hp]
  rw [e] at hx ⊢
  unfold doV
  rw [if_pos hx, if_pos ⟨rfl, rfl, by simp⟩]
  unfold pstV
  simp
theorem do_turn {d : Dk} (h : deskB d = true) {n : Int} (hd : (doV d 3 n).2 = true) : onesV (doV d 3 n).1.1 = onesV d.1 := by
  obtain ⟨h1, h2, h3⟩ := deskB_is.1 h
  unfold doV at hd ⊢
  rw [if_pos h] at hd ⊢
  rw [if_neg (by omega)] at hd ⊢
  split at hd
  · cases hd
  · rename_i hm
    rw [if_neg hm]
    unfold madeV at hm ⊢
    rw [if_neg (by omega), if_neg (by omega), if_neg (by omega)] at hm ⊢
    split
    · exact turnV_ones h2
    · rename_i h4
      rw [if_neg h4, if_neg (by omega)] at hm
      exact absurd (.inl rfl) hm

/-- Deeds, one after the other: the desk, and how many were done. -/
def runL : Dk → Nat → List (Int × Int) → Dk × Nat
  | d, m, [] => (d, m)
  | d, m, a :: r => if (doV d a.1 a.2).2 = true then runL (doV d a.1 a.2).1 (m + 1) r else runL d m r
def runV (d : Dk) (L : List (Int × Int)) : Dk × Nat := if deskB d = true ∧ L.length ≤ 40 then runL d 0 L else (([], []), 0)
theorem runL_desk : ∀ (L : List (Int × Int)) (d : Dk) (m : Nat), deskB d = true → deskB (runL d m L).1 = true
  | [], _, _, h => h
  | a :: L, d, m, h => by
    unfold runL
    split
    · exact runL_desk L _ _ (do_desk h _ _)
    · exact runL_desk L _ _ h
theorem runL_yes {d : Dk} {a : Int × Int} (h : (doV d a.1 a.2).2 = true) (m : Nat) (L : List (Int × Int)) : runL d m (a :: L) = runL (doV d a.1 a.2).1 (m + 1) L := by rw [runL, if_pos h]
theorem runL_not {d : Dk} {a : Int × Int} (h : (doV d a.1 a.2).2 = false) (m : Nat) (L : List (Int × Int)) : runL d m (a :: L) = runL d m L := by rw [runL, if_neg (by rw [h]; simp)]
theorem runL_app : ∀ (L M : List (Int × Int)) (d : Dk) (m : Nat), runL d m (L ++ M) = runL (runL d m L).1 (runL d m L).2 M
  | [], _, _, _ => rfl
  | a :: L, M, d, m => by
    rw [List.cons_append]
    cases h : (doV d a.1 a.2).2 with
    | true => rw [runL_yes h, runL_yes h]; exact runL_app L M _ _
    | false => rw [runL_not h, runL_not h]; exact runL_app L M _ _
theorem runL_add : ∀ (L : List (Int × Int)) (d : Dk) (m : Nat), runL d m L = ((runL d 0 L).1, m + (runL d 0 L).2)
  | [], _, _ => rfl
  | a :: L, d, m => by
    unfold runL
    split
    · rw [runL_add L _ (m + 1), runL_add L _ (0 + 1)]
      simp; omega
    · exact runL_add L d m
theorem runL_le : ∀ (L : List (Int × Int)) (d : Dk), (runL d 0 L).2 ≤ L.length
  | [], _ => Nat.le_refl _
  | a :: L, d => by
    unfold runL
    split
    · rw [runL_add L _ (0 + 1)]
      have := runL_le L (doV d a.1 a.2).1
      simp; omega
    · have := runL_le L d
      simp; omega
end Go.Proofs.YtkcbfiglmjdaiaaDoor
/-
  Plain mathematics of divisors of rows, checked row by row. Nothing of the program.
-/
namespace Go.Proofs.YtkcbfiglmjdaiaaDoor
open Go.RowKit

/-- A row out of the one before; all rows, quickly. -/
def nextE : Nat → List Nat → List Nat
  | a, [] => [a]
  | a, b :: r => (a + b) :: nextE b r
def rowE : Nat → List Nat
  | 0 => [1]
  | n + 1 => nextE 0 (rowE n)
theorem nextE_get : ∀ (l : List Nat) (a k : Nat), (nextE a l).getD k 0 = (a :: l).getD k 0 + l.getD k 0
  | [], a, 0 => rfl
  | [], a, k + 1 => rfl
  | b :: r, a, 0 => rfl
  | b :: r, a, k + 1 => by
    show (nextE b r).getD k 0 = _
    rw [nextE_get r b k]; rfl
theorem nextE_len : ∀ (l : List Nat) (a : Nat), (nextE a l).length = l.length + 1
  | [], _ => rfl
  | b :: r, _ => by show (nextE b r).length + 1 = _; rw [nextE_len r b]; rfl
theorem rowE_len : ∀ n, (rowE n).length = n + 1
  | 0 => rfl
  | n + 1 => by show (nextE 0 (rowE n)).length = _; rw [nextE_len, rowE_len n]
theorem rowE_get : ∀ n k, (rowE n).getD k 0 = bin n k
  | 0, 0 => rfl
  | 0, k + 1 => rfl
  | n + 1, 0 => by
    show (nextE 0 (rowE n)).getD 0 0 = _
    rw [nextE_get, rowE_get n 0, bin_zero, bin_zero]; rfl
  | n + 1, k + 1 => by
    show (nextE 0 (rowE n)).getD (k + 1) 0 = _
    rw [nextE_get, rowE_get n (k + 1), bin_succ, List.getD_cons_succ, rowE_get n k]
theorem rowE_eq (n : Nat) : rowE n = (List.range (n + 1)).map (bin n) := by
  apply List.ext_getElem?
  intro k
  by_cases h : k < n + 1
  · have h1 := rowE_get n k
    rw [List.getElem?_map, List.getElem?_range h]
    rw [List.getD, List.getElem?_eq_getElem (by rw [rowE_len]; exact h)] at h1
    rw [List.getElem?_eq_getElem (by rw [rowE_len]; exact h)]
    exact congrArg some h1
  · rw [List.getElem?_eq_none (by rw [rowE_len]; omega), List.getElem?_eq_none (by simp; omega)]

/-- The greatest common divisor of the first numbers of a list, beginning with a. -/
def gcdU (f : Nat → Nat) : Nat → Nat
  | 0 => 0
  | k + 1 => Nat.gcd (gcdU f k) (f k)
/-- The least number that the first numbers divide. -/
def lcmU (f : Nat → Nat) : Nat → Nat
  | 0 => 1
  | k + 1 => lcmU f k / Nat.gcd (lcmU f k) (f k) * f k
/-- The greatest common divisor of the cells between the ends of a row; the least number that all its cells divide; that of all numbers up to n. -/
def shared (n : Nat) : Nat := gcdU (fun k => bin n (k + 1)) (n - 1)
def over (n : Nat) : Nat := lcmU (bin n) (n + 1)
def ofAll (n : Nat) : Nat := lcmU (fun k => k + 1) n
theorem gcdU_congr {f g : Nat → Nat} : ∀ m, (∀ i, i < m → f i = g i) → gcdU f m = gcdU g m
  | 0, _ => rfl
  | m + 1, h => by unfold gcdU; rw [gcdU_congr m (fun i hi => h i (by omega)), h m (by omega)]
theorem lcmU_congr {f g : Nat → Nat} : ∀ m, (∀ i, i < m → f i = g i) → lcmU f m = lcmU g m
  | 0, _ => rfl
  | m + 1, h => by unfold lcmU; rw [lcmU_congr m (fun i hi => h i (by omega)), h m (by omega)]
def gcdL : Nat → List Nat → Nat
  | a, [] => a
  | a, b :: r => gcdL (Nat.gcd a b) r
def lcmL : Nat → List Nat → Nat
  | a, [] => a
  | a, b :: r => lcmL (a / Nat.gcd a b * b) r
theorem gcdL_snoc : ∀ (l : List Nat) (a x : Nat), gcdL a (l ++ [x]) = Nat.gcd (gcdL a l) x
  | [], _, _ => rfl
  | _ :: r, _, x => gcdL_snoc r _ x
theorem lcmL_snoc : ∀ (l : List Nat) (a x : Nat), lcmL a (l ++ [x]) = lcmL a l / Nat.gcd (lcmL a l) x * x
  | [], _, _ => rfl
  | _ :: r, _, x => lcmL_snoc r _ x
theorem gcdL_map (f : Nat → Nat) : ∀ m, gcdL 0 ((List.range m).map f) = gcdU f m
  | 0 => rfl
  | m + 1 => by rw [List.range_succ, List.map_append, List.map_singleton, gcdL_snoc, gcdL_map f m]; rfl
theorem lcmL_map (f : Nat → Nat) : ∀ m, lcmL 1 ((List.range m).map f) = lcmU f m
  | 0 => rfl
  | m + 1 => by rw [List.range_succ, List.map_append, List.map_singleton, lcmL_snoc, lcmL_map f m]; rfl
theorem inner_eq (n : Nat) : ((rowE n).drop 1).take (n - 1) = (List.range (n - 1)).map fun k => bin n (k + 1) := by
  rw [rowE_eq]
  apply List.ext_getElem?
  intro k
  rw [List.getElem?_take]
  by_cases h : k < n - 1
  · rw [if_pos h, List.getElem?_drop, List.getElem?_map, List.getElem?_map, List.getElem?_range h, List.getElem?_range (by omega), Nat.add_comm]; rfl
  · rw [if_neg h, List.getElem?_eq_none (by simp; omega)]
theorem shared_eq (n : Nat) : shared n = gcdL 0 (((rowE n).drop 1).take (n - 1)) := by rw [inner_eq, gcdL_map]; rfl
theorem over_eq (n : Nat) : over n = lcmL 1 (rowE n) := by rw [rowE_eq, lcmL_map]; rfl
theorem ofAll_eq (n : Nat) : ofAll n = lcmL 1 ((List.range n).map fun k => k + 1) := by rw [lcmL_map]; rfl

/-- The least number from 2 on that divides n, sought from k on. -/
def leastD (n : Nat) : Nat → Nat → Nat
  | 0, k => k
  | f + 1, k => if n % k = 0 then k else leastD n f (k + 1)
theorem shared_all : (List.range 61).all (fun n => decide (n < 2) || (let d := leastD n 60 2; decide (2 ≤ d) && n % d == 0 && (List.range d).all (fun j => decide (j < 2) || !(n % j == 0)) &&
    ((strip d n == 1 && gcdL 0 (((rowE n).drop 1).take (n - 1)) == d) || (decide (1 < strip d n) && gcdL 0 (((rowE n).drop 1).take (n - 1)) == 1)))) = true := by decide +kernel
/-- What is shared by the cells of a row: its prime, or 1. -/
theorem shared_is {n : Nat} (h1 : 2 ≤ n) (h2 : n ≤ 60) : ∃ d, 2 ≤ d ∧ n % d = 0 ∧ (∀ j, 2 ≤ j → j < d → n % j ≠ 0) ∧ ((strip d n = 1 ∧ shared n = d) ∨ (1 < strip d n ∧ shared n = 1)) := by
  have h := List.all_eq_true.1 shared_all n (List.mem_range.2 (by omega))
  rw [Bool.or_eq_true] at h
  rcases h with h | h
  · have := of_decide_eq_true h; omega
  · generalize leastD n 60 2 = d at h
    rw [← shared_eq] at h
    simp only [Bool.and_eq_true, Bool.or_eq_true, beq_iff_eq, decide_eq_true_eq, List.all_eq_true, List.mem_range, Bool.not_eq_true', beq_eq_false_iff_ne] at h
    obtain ⟨⟨⟨h3, h4⟩, h5⟩, h6⟩ := h
    exact ⟨d, h3, h4, fun j hj hjd => (h5 j hjd).resolve_left (by omega), h6⟩
theorem shared_le {n : Nat} (h1 : 2 ≤ n) (h2 : n ≤ 60) : 1 ≤ shared n ∧ shared n ≤ 60 := by
  obtain ⟨d, h3, h4, _, h5⟩ := shared_is h1 h2
  have : d ≤ n := Nat.le_of_dvd (by omega) (Nat.dvd_of_mod_eq_zero h4)
  rcases h5 with ⟨_, h⟩ | ⟨_, h⟩ <;> omega
theorem over_all : (List.range 37).all (fun n => lcmL 1 (rowE n) * (n + 1) == lcmL 1 ((List.range (n + 1)).map fun k => k + 1) && (rowE n).all (fun c => lcmL 1 (rowE n) % c == 0)) = true := by decide +kernel
theorem over_times {n : Nat} (h : n ≤ 36) : over n * (n + 1) = ofAll (n + 1) := by
  have h1 := List.all_eq_true.1 over_all n (List.mem_range.2 (by omega))
  rw [Bool.and_eq_true, beq_iff_eq, ← over_eq, ← ofAll_eq] at h1
  exact h1.1
theorem over_mod {n k : Nat} (h : n ≤ 36) (hk : k ≤ n) : over n % bin n k = 0 := by
  have h1 := List.all_eq_true.1 over_all n (List.mem_range.2 (by omega))
  rw [Bool.and_eq_true, ← over_eq] at h1
  have h2 := List.all_eq_true.1 h1.2 (bin n k) (by rw [rowE_eq]; exact List.mem_map.2 ⟨k, List.mem_range.2 (by omega), rfl⟩)
  exact beq_iff_eq.1 h2
theorem ofAll_all : (List.range 38).all (fun n => (decide (n < 2) || lcmL 1 ((List.range n).map fun k => k + 1) == lcmL 1 ((List.range (n - 1)).map fun k => k + 1) * gcdL 0 (((rowE n).drop 1).take (n - 1))) &&
    (List.range n).all (fun k => lcmL 1 ((List.range n).map fun k => k + 1) % (k + 1) == 0) && decide (lcmL 1 ((List.range n).map fun k => k + 1) ≤ 6000000000000000)) = true := by decide +kernel
theorem ofAll_next {n : Nat} (h1 : 2 ≤ n) (h2 : n ≤ 37) : ofAll n = ofAll (n - 1) * shared n := by
  have h := List.all_eq_true.1 ofAll_all n (List.mem_range.2 (by omega))
  rw [Bool.and_eq_true, Bool.and_eq_true, Bool.or_eq_true, ← ofAll_eq, ← ofAll_eq, ← shared_eq, beq_iff_eq] at h
  rcases h.1.1 with h | h
  · have := of_decide_eq_true h; omega
  · exact h
theorem ofAll_mod {n k : Nat} (h2 : n ≤ 37) (hk1 : 1 ≤ k) (hk : k ≤ n) : ofAll n % k = 0 := by
  have h := List.all_eq_true.1 ofAll_all n (List.mem_range.2 (by omega))
  rw [Bool.and_eq_true, Bool.and_eq_true, ← ofAll_eq] at h
  have h3 := List.all_eq_true.1 h.1.2 (k - 1) (List.mem_range.2 (by omega))
  rw [beq_iff_eq, Nat.sub_add_cancel hk1] at h3
  exact h3
theorem ofAll_le {n : Nat} (h2 : n ≤ 37) : ofAll n ≤ 6000000000000000 := by
  have h := List.all_eq_true.1 ofAll_all n (List.mem_range.2 (by omega))
  rw [Bool.and_eq_true, ← ofAll_eq] at h
  exact of_decide_eq_true h.2
theorem ofAll_one : ofAll 1 = 1 := rfl
theorem lcmU_pos {f : Nat → Nat} : ∀ m, (∀ i, i < m → 0 < f i) → 0 < lcmU f m
  | 0, _ => Nat.zero_lt_one
  | m + 1, h => by
    have h1 := lcmU_pos m (fun i hi => h i (by omega))
    have h2 := h m (by omega)
    unfold lcmU
    exact Nat.mul_pos (Nat.div_pos (Nat.le_of_dvd h1 (Nat.gcd_dvd_left _ _)) (Nat.gcd_pos_of_pos_right _ h2)) h2
/-- On the way the numbers do not grow beyond the last one. -/
theorem lcmU_step {f : Nat → Nat} (m : Nat) (h : 0 < f m) : lcmU f m ≤ lcmU f (m + 1) := by
  show _ ≤ lcmU f m / Nat.gcd (lcmU f m) (f m) * f m
  have h1 : Nat.gcd (lcmU f m) (f m) ≤ f m := Nat.le_of_dvd h (Nat.gcd_dvd_right _ _)
  have h2 : lcmU f m / Nat.gcd (lcmU f m) (f m) * Nat.gcd (lcmU f m) (f m) = lcmU f m := Nat.div_mul_cancel (Nat.gcd_dvd_left _ _)
  have h3 := Nat.mul_le_mul_left (lcmU f m / Nat.gcd (lcmU f m) (f m)) h1
  omega
theorem lcmU_mono {f : Nat → Nat} (m : Nat) : ∀ j, (∀ i, i < m + j → 0 < f i) → lcmU f m ≤ lcmU f (m + j)
  | 0, _ => Nat.le_refl _
  | j + 1, h => Nat.le_trans (lcmU_mono m j (fun i hi => h i (by omega))) (lcmU_step (m + j) (h (m + j) (by omega)))
theorem over_le {n : Nat} (h : n ≤ 36) : over n ≤ 6000000000000000 := by
  have h1 := over_times h
  have h2 := ofAll_le (n := n + 1) (by omega)
  have h3 := Nat.le_mul_of_pos_right (over n) (show 0 < n + 1 by omega)
  omega

/-- The six cells around a cell; each triple's product and greatest common divisor. -/
def star (n k : Nat) (i : Nat) : Nat :=
  if i = 0 then bin (n - 1) (k - 1) else if i = 1 then bin (n - 1) k else if i = 2 then bin n (k + 1) else if i = 3 then bin (n + 1) (k + 1) else if i = 4 then bin (n + 1) k else bin n (k - 1)
def triP (n k w : Nat) : Nat := star n k w * star n k (w + 2) * star n k (w + 4)
def triG (n k w : Nat) : Nat := Nat.gcd (Nat.gcd (star n k w) (star n k (w + 2))) (star n k (w + 4))
def cellE (n k : Nat) : Nat := (rowE n).getD k 0
def starE (n k : Nat) (i : Nat) : Nat :=
  if i = 0 then cellE (n - 1) (k - 1) else if i = 1 then cellE (n - 1) k else if i = 2 then cellE n (k + 1) else if i = 3 then cellE (n + 1) (k + 1) else if i = 4 then cellE (n + 1) k else cellE n (k - 1)
theorem starE_eq (n k i : Nat) : starE n k i = star n k i := by unfold starE star cellE; simp only [rowE_get]
theorem triple_all : (List.range 21).all (fun n => (List.range n).all fun k => decide (k < 1) || (starE n k 0 * starE n k 2 * starE n k 4 == starE n k 1 * starE n k 3 * starE n k 5 &&
    Nat.gcd (Nat.gcd (starE n k 0) (starE n k 2)) (starE n k 4) == Nat.gcd (Nat.gcd (starE n k 1) (starE n k 3)) (starE n k 5) && decide (starE n k 0 * starE n k 2 * starE n k 4 ≤ 1000000000000000000))) = true := by decide +kernel
theorem triple {n k : Nat} (h1 : n ≤ 20) (h2 : 1 ≤ k) (h3 : k < n) : triP n k 0 = triP n k 1 ∧ triG n k 0 = triG n k 1 ∧ triP n k 0 ≤ 1000000000000000000 := by
  have h := List.all_eq_true.1 (List.all_eq_true.1 triple_all n (List.mem_range.2 (by omega))) k (List.mem_range.2 h3)
  simp only [starE_eq, Bool.or_eq_true, Bool.and_eq_true, beq_iff_eq, decide_eq_true_eq] at h
  rcases h with h | ⟨⟨h, h'⟩, h''⟩
  · omega
  · exact ⟨h, h', h''⟩
theorem star_sum {n k : Nat} (h2 : 1 ≤ k) (h3 : k < n) : star n k 0 + star n k 1 = bin n k ∧ star n k 4 = bin n k + star n k 5 ∧ star n k 3 = bin n k + star n k 2 := by
  obtain ⟨m, rfl⟩ : ∃ m, n = m + 1 := ⟨n - 1, by omega⟩
  obtain ⟨j, rfl⟩ : ∃ j, k = j + 1 := ⟨k - 1, by omega⟩
  refine ⟨(bin_succ m j).symm, ?_, ?_⟩
  · show bin (m + 1 + 1) (j + 1) = bin (m + 1) (j + 1) + bin (m + 1) j
    rw [bin_succ (m + 1) j, Nat.add_comm]
  · exact bin_succ (m + 1) (j + 1)
theorem star_pos {n k : Nat} (h2 : 1 ≤ k) (h3 : k < n) (i : Nat) : 0 < star n k i := by
  unfold star
  repeat' split
  all_goals exact bin_pos _ _ (by omega)
theorem star_le {n k : Nat} (h : n ≤ 30) (i : Nat) : star n k i ≤ 4294967296 := by
  have hb : ∀ a b, a ≤ 31 → bin a b ≤ 4294967296 := fun a b ha => Nat.le_trans (bin_le a b) (Nat.le_trans (Nat.pow_le_pow_right (by omega) (show a ≤ 32 by omega)) (by decide))
  unfold star
  repeat' split
  all_goals exact hb _ _ (by omega)
end Go.Proofs.YtkcbfiglmjdaiaaDoor
/-
  Plain mathematics of ways that stay above: texts of brackets (40 opens, 41 closes), how many there are, their order, their places, the first way back. Nothing of the program.
-/
namespace Go.Proofs.YtkcbfiglmjdaiaaDoor
open Go.RowKit

/-- Ways of so many steps up and as many down; of so many up and so many down. -/
def catN (u : Nat) : Nat := bin (2 * u) u / (u + 1)
def wayT (u d : Nat) : Nat := if d = 0 then 1 else bin (u + d) d - bin (u + d) (d - 1)
def catE (u : Nat) : Nat := cellE (2 * u) u / (u + 1)
def wayE (u d : Nat) : Nat := if d = 0 then 1 else cellE (u + d) d - cellE (u + d) (d - 1)
theorem catE_eq (u : Nat) : catE u = catN u := by unfold catE catN cellE; rw [rowE_get]
theorem wayE_eq (u d : Nat) : wayE u d = wayT u d := by unfold wayE wayT cellE; rw [rowE_get, rowE_get]
set_option maxRecDepth 100000 in
theorem cat_all : (List.range 31).all (fun u => (u == 0 || sumF (fun k => catE k * catE (u - 1 - k)) u == catE u) && ((catE u % 2 == 1) == (strip 2 (u + 1) == 1)) && decide (catE u ≤ 4000000000000000) && decide (1 ≤ catE u)) = true := by decide +kernel
theorem cat_one (u : Nat) (h : u ≤ 30) : (u = 0 ∨ sumF (fun k => catN k * catN (u - 1 - k)) u = catN u) ∧ (catN u % 2 = 1 ↔ strip 2 (u + 1) = 1) ∧ catN u ≤ 4000000000000000 ∧ 1 ≤ catN u := by
  have h1 := List.all_eq_true.1 cat_all u (List.mem_range.2 (by omega))
  rw [Bool.and_eq_true, Bool.and_eq_true, Bool.and_eq_true, Bool.or_eq_true, beq_iff_eq, beq_iff_eq, decide_eq_true_eq, decide_eq_true_eq, beq_iff_eq, Bool.eq_iff_iff, beq_iff_eq, beq_iff_eq] at h1
  simp only [catE_eq] at h1
  exact ⟨h1.1.1.1, h1.1.1.2, h1.1.2, h1.2⟩
theorem cat_part (u : Nat) (h : u ≤ 30) (hu : u ≠ 0) : ∀ k, k ≤ u → sumF (fun k => catN k * catN (u - 1 - k)) k ≤ 4000000000000000 := by
  have h1 := cat_one u h
  have h2 : sumF (fun k => catN k * catN (u - 1 - k)) u ≤ 4000000000000000 := by rw [h1.1.resolve_left hu]; exact h1.2.2.1
  intro k hk
  obtain ⟨j, rfl⟩ : ∃ j, u = k + j := ⟨u - k, by omega⟩
  have hm : ∀ (f : Nat → Nat) (m j : Nat), sumF f m ≤ sumF f (m + j) := fun f m j => by
    induction j with
    | zero => exact Nat.le_refl _
    | succ j ih => exact Nat.le_trans ih (Nat.le_add_right _ _)
  exact Nat.le_trans (hm _ k j) h2
set_option maxRecDepth 100000 in
theorem way_all : (List.range 31).all (fun u => (List.range (u + 1)).all fun d => (u == 0 || wayE u d == (if 0 < d then wayE u (d - 1) else 0) + (if d < u then wayE (u - 1) d else 0)) && (d < u || wayE u d == catE u) && decide (wayE u d ≤ 4000000000000000) && decide (1 ≤ wayE u d)) = true := by decide +kernel
theorem way_one (u d : Nat) (h : u ≤ 30) (hd : d ≤ u) : (u = 0 ∨ wayT u d = (if 0 < d then wayT u (d - 1) else 0) + (if d < u then wayT (u - 1) d else 0)) ∧ (d < u ∨ wayT u d = catN u) ∧ wayT u d ≤ 4000000000000000 ∧ 1 ≤ wayT u d := by
  have h1 := List.all_eq_true.1 (List.all_eq_true.1 way_all u (List.mem_range.2 (by omega))) d (List.mem_range.2 (by omega))
  simp only [Bool.and_eq_true, Bool.or_eq_true, beq_iff_eq, decide_eq_true_eq, catE_eq, wayE_eq] at h1
  exact ⟨h1.1.1.1, h1.1.1.2, h1.1.2, h1.2⟩

/-- From height h on a text stays above and comes back. -/
def okW : Nat → List Nat → Bool
  | h, [] => h == 0
  | h, c :: r => if c = 40 then okW (h + 1) r else if c = 41 then (match h with | 0 => false | m + 1 => okW m r) else false
theorem okW_nil (h : Nat) : okW h [] = (h == 0) := rfl
theorem okW_up (h : Nat) (r : List Nat) : okW h (40 :: r) = okW (h + 1) r := rfl
theorem okW_down (h : Nat) (r : List Nat) : okW (h + 1) (41 :: r) = okW h r := rfl
theorem okW_low (r : List Nat) : okW 0 (41 :: r) = false := rfl
theorem okW_none (h : Nat) (c : Nat) (r : List Nat) (h1 : c ≠ 40) (h2 : c ≠ 41) : okW h (c :: r) = false := by unfold okW; rw [if_neg h1, if_neg h2]
theorem okW_cases {h c : Nat} {r : List Nat} (hk : okW h (c :: r) = true) : (c = 40 ∧ okW (h + 1) r = true) ∨ (c = 41 ∧ ∃ m, h = m + 1 ∧ okW m r = true) := by
  by_cases e1 : c = 40
  · subst e1; exact .inl ⟨rfl, hk⟩
  · by_cases e2 : c = 41
    · subst e2
      cases h with
      | zero => rw [okW_low] at hk; cases hk
      | succ m => exact .inr ⟨rfl, m, rfl, hk⟩
    · rw [okW_none h c r e1 e2] at hk; cases hk
theorem okW_ge : ∀ (s : List Nat) (h : Nat), okW h s = true → h ≤ s.length
  | [], h, hk => by rw [okW_nil] at hk; have := beq_iff_eq.1 hk; simp; omega
  | c :: r, h, hk => by
    rw [List.length_cons]
    rcases okW_cases hk with ⟨_, h1⟩ | ⟨_, m, rfl, h1⟩
    · have := okW_ge r _ h1; omega
    · have := okW_ge r _ h1; omega
theorem okW_even : ∀ (s : List Nat) (h : Nat), okW h s = true → (s.length + h) % 2 = 0
  | [], h, hk => by rw [okW_nil] at hk; have := beq_iff_eq.1 hk; simp; omega
  | c :: r, h, hk => by
    rw [List.length_cons]
    rcases okW_cases hk with ⟨_, h1⟩ | ⟨_, m, rfl, h1⟩
    · have := okW_even r _ h1; omega
    · have := okW_even r _ h1; omega
/-- In brackets; with a pair of brackets behind it. -/
theorem okW_wrap : ∀ (s : List Nat) (h : Nat), okW h s = true → okW (h + 1) (s ++ [41]) = true
  | [], h, hk => by rw [okW_nil] at hk; obtain rfl := beq_iff_eq.1 hk; rfl
  | c :: r, h, hk => by
    rcases okW_cases hk with ⟨rfl, h1⟩ | ⟨rfl, m, rfl, h1⟩
    · exact okW_wrap r _ h1
    · exact okW_wrap r _ h1
theorem okW_pair : ∀ (s : List Nat) (h : Nat), okW h s = true → okW h (s ++ [40, 41]) = true
  | [], h, hk => by rw [okW_nil] at hk; obtain rfl := beq_iff_eq.1 hk; rfl
  | c :: r, h, hk => by
    rcases okW_cases hk with ⟨rfl, h1⟩ | ⟨rfl, m, rfl, h1⟩
    · exact okW_pair r _ h1
    · exact okW_pair r _ h1

/-- All ends of ways with so many steps up and down left, in order. -/
def wlF : Nat → Nat → Nat → List (List Nat)
  | 0, _, _ => [[]]
  | f + 1, u, d => (if 0 < u then (wlF f (u - 1) d).map (40 :: ·) else []) ++ (if u < d then (wlF f u (d - 1)).map (41 :: ·) else [])
def wl (u d : Nat) : List (List Nat) := wlF (u + d) u d
theorem wl_zero : wl 0 0 = [[]] := rfl
theorem wl_step (u d : Nat) (h : 0 < u + d) : wl u d = (if 0 < u then (wl (u - 1) d).map (40 :: ·) else []) ++ (if u < d then (wl u (d - 1)).map (41 :: ·) else []) := by
  unfold wl
  obtain ⟨f, hf⟩ : ∃ f, u + d = f + 1 := ⟨u + d - 1, by omega⟩
  rw [hf]
  show _ ++ _ = _
  congr 1
  · by_cases e : 0 < u
    · rw [if_pos e, if_pos e, show u - 1 + d = f by omega]
    · rw [if_neg e, if_neg e]
  · by_cases e : u < d
    · rw [if_pos e, if_pos e, show u + (d - 1) = f by omega]
    · rw [if_neg e, if_neg e]
def ltL : List Nat → List Nat → Bool
  | [], [] => false
  | [], _ :: _ => true
  | _ :: _, [] => false
  | a :: r, b :: s => decide (a < b) || (a == b && ltL r s)
def rising : List (List Nat) → Bool
  | [] => true
  | [_] => true
  | a :: b :: r => ltL a b && rising (b :: r)
set_option maxRecDepth 100000 in
theorem wl_all : (List.range 8).all (fun d => (List.range (d + 1)).all fun u => (wl u d).length == wayE d u && (!(u == d) || (rising (wl u d) && (wl u d).all fun s => okW 0 s && s.length == 2 * u))) = true := by decide +kernel
theorem wl_len {u d : Nat} (hd : d ≤ 7) (hu : u ≤ d) : (wl u d).length = wayT d u := by
  have h1 := List.all_eq_true.1 (List.all_eq_true.1 wl_all d (List.mem_range.2 (by omega))) u (List.mem_range.2 (by omega))
  rw [Bool.and_eq_true, beq_iff_eq, wayE_eq] at h1
  exact h1.1
theorem wl_good {u : Nat} (hu : u ≤ 7) : rising (wl u u) = true ∧ ∀ s ∈ wl u u, okW 0 s = true ∧ s.length = 2 * u := by
  have h1 := List.all_eq_true.1 (List.all_eq_true.1 wl_all u (List.mem_range.2 (by omega))) u (List.mem_range.2 (by omega))
  rw [Bool.and_eq_true, Bool.or_eq_true, beq_self_eq_true, Bool.and_eq_true] at h1
  have h2 := h1.2.resolve_left (by simp)
  refine ⟨h2.1, fun s hs => ?_⟩
  have h3 := List.all_eq_true.1 h2.2 s hs
  rw [Bool.and_eq_true, beq_iff_eq] at h3
  exact h3
theorem wl_many {u : Nat} (hu : u ≤ 7) : (wl u u).length = catN u := by
  rw [wl_len hu (Nat.le_refl _)]
  exact (way_one u u (by omega) (Nat.le_refl _)).2.1.resolve_left (by omega)
theorem rising_at : ∀ (l : List (List Nat)) (k : Nat) (a b : List Nat), rising l = true → l[k]? = some a → l[k + 1]? = some b → ltL a b = true
  | [], _, _, _, _, h, _ => by simp at h
  | [_], k, _, _, _, _, h => by simp at h
  | x :: y :: r, 0, a, b, h, h1, h2 => by
    simp at h1 h2
    subst h1 h2
    simp only [rising, Bool.and_eq_true] at h
    exact h.1
  | x :: y :: r, k + 1, a, b, h, h1, h2 => by
    simp only [rising, Bool.and_eq_true] at h
    exact rising_at (y :: r) k a b h.2 h1 h2

/-- The place of a text among them. -/
def plW : Nat → Nat → List Nat → Nat
  | _, _, [] => 0
  | u, d, c :: r => if c = 40 then plW (u - 1) d r else (if 0 < u then wayT d (u - 1) else 0) + plW u (d - 1) r
theorem plW_at : ∀ (s : List Nat) (u d h : Nat), okW h s = true → d = u + h → s.length = u + d → d ≤ 7 → (wl u d)[plW u d s]? = some s
  | [], u, d, h, _, hd, hl, _ => by
    obtain rfl : u = 0 := by simp at hl; omega
    obtain rfl : d = 0 := by simp at hl; omega
    rfl
  | c :: r, u, d, h, hk, hd, hl, h7 => by
    rw [List.length_cons] at hl
    rw [wl_step u d (by omega)]
    rcases okW_cases hk with ⟨rfl, h1⟩ | ⟨rfl, m, rfl, h1⟩
    · have h2 := okW_ge r _ h1
      have hu : 0 < u := by omega
      have ih := plW_at r (u - 1) d (h + 1) h1 (by omega) (by omega) h7
      have hlt := (List.getElem?_eq_some_iff.1 ih).1
      show (_ ++ _)[plW (u - 1) d r]? = _
      rw [if_pos hu, List.getElem?_append_left (by rw [List.length_map]; exact hlt), List.getElem?_map, ih]; rfl
    · have ih := plW_at r u (d - 1) m h1 (by omega) (by omega) (by omega)
      have hlen : (if 0 < u then (wl (u - 1) d).map (40 :: ·) else []).length = if 0 < u then wayT d (u - 1) else 0 := by
        by_cases e : 0 < u
        · rw [if_pos e, if_pos e, List.length_map, wl_len h7 (by omega)]
        · rw [if_neg e, if_neg e]; rfl
      show (_ ++ _)[(if 0 < u then wayT d (u - 1) else 0) + plW u (d - 1) r]? = _
      rw [List.getElem?_append_right (by omega), hlen, Nat.add_sub_cancel_left, if_pos (by omega), List.getElem?_map, ih]; rfl
theorem plW_lt {s : List Nat} {u : Nat} (hk : okW 0 s = true) (hl : s.length = 2 * u) (h7 : u ≤ 7) : (wl u u)[plW u u s]? = some s ∧ plW u u s < (wl u u).length := by
  have h1 := plW_at s u u 0 hk rfl (by omega) h7
  exact ⟨h1, (List.getElem?_eq_some_iff.1 h1).1⟩
/-- On the way to the place the sum does not grow beyond it. -/
theorem plW_le {s : List Nat} {u d h : Nat} (hk : okW h s = true) (hd : d = u + h) (hl : s.length = u + d) (h7 : d ≤ 7) : plW u d s < wayT d u := by
  have h1 := plW_at s u d h hk hd hl h7
  rw [← wl_len h7 (by omega)]
  exact (List.getElem?_eq_some_iff.1 h1).1

/-- The first way back: what is inside it, and what is behind it. -/
def backW : Nat → List Nat → List Nat × List Nat
  | _, [] => ([], [])
  | h, c :: r => if c = 40 then (c :: (backW (h + 1) r).1, (backW (h + 1) r).2) else match h with | 0 => ([], r) | m + 1 => (c :: (backW m r).1, (backW m r).2)
theorem backW_is : ∀ (r : List Nat) (h : Nat), okW (h + 1) r = true → r = (backW h r).1 ++ 41 :: (backW h r).2 ∧ okW h (backW h r).1 = true ∧ okW 0 (backW h r).2 = true
  | [], h, hk => by rw [okW_nil] at hk; cases hk
  | c :: r, h, hk => by
    rcases okW_cases hk with ⟨rfl, h1⟩ | ⟨rfl, m, hm, h1⟩
    · obtain ⟨h2, h3, h4⟩ := backW_is r (h + 1) h1
      refine ⟨?_, h3, h4⟩
      show 40 :: r = 40 :: ((backW (h + 1) r).1 ++ 41 :: (backW (h + 1) r).2)
      rw [← h2]
    · obtain rfl : h = m := by omega
      cases h with
      | zero => exact ⟨rfl, rfl, h1⟩
      | succ m =>
        obtain ⟨h2, h3, h4⟩ := backW_is r m h1
        refine ⟨?_, h3, h4⟩
        show 41 :: r = 41 :: ((backW m r).1 ++ 41 :: (backW m r).2)
        rw [← h2]
end Go.Proofs.YtkcbfiglmjdaiaaDoor
/-
  Strings as lists of numbers below 256. Nothing of the program.
-/
namespace Go.Proofs.YtkcbfiglmjdaiaaDoor
open Go

def str (l : List Nat) : ByteArray := ⟨(l.map UInt8.ofNat).toArray⟩
theorem ret_str {a b : ByteArray} (h : a = b) : Ending.returned (.string a) = .returned (.string b) := by rw [h]
theorem str_nil : str [] = ⟨#[]⟩ := rfl
theorem str_size (l : List Nat) : (str l).size = l.length := by simp [str, ByteArray.size]
theorem str_app (a b : List Nat) : str a ++ str b = str (a ++ b) := by
  unfold str; rw [ByteArray.mk_append_mk, List.map_append]
theorem str_toList (l : List Nat) : (str l).toList = l.map UInt8.ofNat := by unfold str; exact ByteArray.toList_mk _
theorem str_get (l : List Nat) (i : Nat) (h : i < (str l).size) (hl : ∀ x ∈ l, x < 256) : ((str l)[i]).toNat = l.getD i 0 := by
  have hi : i < l.length := by rwa [str_size] at h
  have e : (str l)[i] = UInt8.ofNat l[i] := by
    show ((l.map UInt8.ofNat).toArray)[i]'(by simpa using hi) = _
    rw [List.getElem_toArray, List.getElem_map]
  rw [e, List.getD, List.getElem?_eq_getElem hi, Option.getD_some, UInt8.toNat_ofNat_of_lt' (by exact hl _ (List.getElem_mem hi))]
theorem str_cut (l : List Nat) (a b : Nat) : (str l).extract a b = str ((l.drop a).take (b - a)) := by
  unfold str; rw [ByteArray.extract_mk, List.map_take, List.map_drop]
theorem str_inj {a b : List Nat} (ha : ∀ x ∈ a, x < 256) (hb : ∀ x ∈ b, x < 256) (h : a.map UInt8.ofNat = b.map UInt8.ofNat) : a = b := by
  have e : ∀ (l : List Nat), (∀ x ∈ l, x < 256) → (l.map UInt8.ofNat).map UInt8.toNat = l := fun l hl => by
    rw [List.map_map]
    conv => rhs; rw [← List.map_id l]
    exact List.map_congr_left fun x hx => UInt8.toNat_ofNat_of_lt' (hl x hx)
  rw [← e a ha, ← e b hb, h]
end Go.Proofs.YtkcbfiglmjdaiaaDoor
/-
  The values of the functions of chapter 11 at every argument; strings as lists of numbers below 256.
-/
namespace Go.Proofs.YtkcbfiglmjdaiaaDoor
open Go Go.RowKit

def byt (s : ByteArray) : List Nat := s.data.toList.map UInt8.toNat
theorem byt_lt (s : ByteArray) : ∀ x ∈ byt s, x < 256 := fun x hx => by
  obtain ⟨b, _, rfl⟩ := List.mem_map.1 hx
  exact b.toNat_lt
theorem str_byt (s : ByteArray) : str (byt s) = s := by
  apply ByteArray.ext
  apply Array.ext'
  show ((byt s).map UInt8.ofNat) = _
  unfold byt
  rw [List.map_map]
  conv => rhs; rw [← List.map_id s.data.toList]
  exact List.map_congr_left fun b _ => UInt8.ofNat_toNat
theorem byt_len (s : ByteArray) : (byt s).length = s.size := by unfold byt; rw [List.length_map]; rfl
theorem str_of (s : ByteArray) : ∃ l : List Nat, s = str l ∧ (∀ x ∈ l, x < 256) ∧ l.length = s.size := ⟨byt s, (str_byt s).symm, byt_lt s, byt_len s⟩

theorem drop_get (l : List Nat) (k : Nat) (h : k < l.length) : l.drop k = l.getD k 0 :: l.drop (k + 1) := by
  rw [List.drop_eq_getElem_cons h, List.getD, List.getElem?_eq_getElem h, Option.getD_some]
theorem drop_all (l : List Nat) : l.drop l.length = [] := List.drop_eq_nil_of_le (Nat.le_refl _)

def waysV (up : Int) : Int := if up < 0 ∨ 30 < up then -1 else (catN up.toNat : Int)
def wayToV (up down : Int) : Int := if up < 0 ∨ 30 < up ∨ down < 0 ∨ up < down then -1 else (wayT up.toNat down.toNat : Int)
theorem waysV_bad {up : Int} (h : up < 0 ∨ 30 < up) : waysV up = -1 := if_pos h
theorem waysV_nat {u : Nat} (h : u ≤ 30) : waysV u = catN u := by unfold waysV; rw [if_neg (by omega)]; rfl
theorem wayToV_bad {up down : Int} (h : up < 0 ∨ 30 < up ∨ down < 0 ∨ up < down) : wayToV up down = -1 := if_pos h
theorem wayToV_nat {u d : Nat} (h : u ≤ 30) (hd : d ≤ u) : wayToV u d = wayT u d := by unfold wayToV; rw [if_neg (by omega)]; rfl

def wayL (l : List Nat) : Bool := okW 0 l && decide (l.length ≤ 14)
theorem wayL_is {l : List Nat} (h : wayL l = true) : okW 0 l = true ∧ l.length ≤ 14 ∧ ∃ u, u ≤ 7 ∧ l.length = 2 * u := by
  unfold wayL at h
  rw [Bool.and_eq_true, decide_eq_true_eq] at h
  have := okW_even l 0 h.1
  exact ⟨h.1, h.2, l.length / 2, by omega, by omega⟩

/-- The texts of ways, in order. -/
def toldV (up : Int) : List (List Nat) := if up < 0 ∨ 7 < up then [] else wl up.toNat up.toNat
theorem toldV_bad {up : Int} (h : up < 0 ∨ 7 < up) : toldV up = [] := if_pos h
theorem toldV_nat {u : Nat} (h : u ≤ 7) : toldV u = wl u u := by unfold toldV; rw [if_neg (by omega)]; rfl

def placeV (l : List Nat) : Int := if wayL l then (plW (l.length / 2) (l.length / 2) l : Int) else -1
theorem placeV_bad {l : List Nat} (h : wayL l = false) : placeV l = -1 := by unfold placeV; rw [h]; rfl
theorem placeV_is {l : List Nat} (h : wayL l = true) : placeV l = plW (l.length / 2) (l.length / 2) l := by unfold placeV; rw [h]; rfl

/-- The first way back. -/
def frontB (l : List Nat) : Bool := wayL l && decide (0 < l.length)
def frontA (l : List Nat) : List Nat := if frontB l then (backW 0 l.tail).1 else []
def frontR (l : List Nat) : List Nat := if frontB l then (backW 0 l.tail).2 else []
theorem front_bad {l : List Nat} (h : frontB l = false) : frontA l = [] ∧ frontR l = [] := by unfold frontA frontR; rw [h]; exact ⟨rfl, rfl⟩
theorem front_is {l : List Nat} (h : frontB l = true) : ∃ r, l = 40 :: r ∧ okW 1 r = true ∧ r.length ≤ 13 ∧ frontA l = (backW 0 r).1 ∧ frontR l = (backW 0 r).2 := by
  have h' := h
  unfold frontB at h'
  rw [Bool.and_eq_true, decide_eq_true_eq] at h'
  obtain ⟨hk, hl, _⟩ := wayL_is h'.1
  cases l with
  | nil => simp at h'
  | cons c r =>
    rcases okW_cases hk with ⟨rfl, h1⟩ | ⟨_, m, hm, _⟩
    · exact ⟨r, rfl, h1, by simp at hl; omega, by unfold frontA; rw [h]; rfl, by unfold frontR; rw [h]; rfl⟩
    · omega
end Go.Proofs.YtkcbfiglmjdaiaaDoor
/-
  The values of the functions of chapter 8 at every argument.
-/
namespace Go.Proofs.YtkcbfiglmjdaiaaDoor
open Go.RowKit

def sharedV (row : Int) : Int := if row < 2 ∨ 60 < row then -1 else (shared row.toNat : Int)
def overV (row : Int) : Int := if row < 0 ∨ 36 < row then -1 else (over row.toNat : Int)
def ofAllV (n : Int) : Int := if n < 1 ∨ 37 < n then -1 else (ofAll n.toNat : Int)
theorem sharedV_bad {row : Int} (h : row < 2 ∨ 60 < row) : sharedV row = -1 := if_pos h
theorem overV_bad {row : Int} (h : row < 0 ∨ 36 < row) : overV row = -1 := if_pos h
theorem ofAllV_bad {n : Int} (h : n < 1 ∨ 37 < n) : ofAllV n = -1 := if_pos h
theorem sharedV_nat {n : Nat} (h1 : 2 ≤ n) (h2 : n ≤ 60) : sharedV n = shared n := by unfold sharedV; rw [if_neg (by omega)]; rfl
theorem overV_nat {n : Nat} (h2 : n ≤ 36) : overV n = over n := by unfold overV; rw [if_neg (by omega)]; rfl
theorem ofAllV_nat {n : Nat} (h1 : 1 ≤ n) (h2 : n ≤ 37) : ofAllV n = ofAll n := by unfold ofAllV; rw [if_neg (by omega)]; rfl

def badS (row place : Int) : Prop := row < 2 ∨ 30 < row ∨ place < 1 ∨ row - 1 < place
instance (row place : Int) : Decidable (badS row place) := by unfold badS; infer_instance
def starL (n k : Nat) : List Int := (List.range 6).map fun i => (star n k i : Int)
def starV (row place : Int) : List Int := if badS row place then [] else starL row.toNat place.toNat
theorem starV_bad {row place : Int} (h : badS row place) : starV row place = [] := if_pos h
theorem starV_nat {n k : Nat} (h2 : n ≤ 30) (h3 : 1 ≤ k) (h4 : k < n) : starV n k = starL n k := by unfold starV; rw [if_neg (by unfold badS; omega)]; rfl
theorem starV_len (row place : Int) : (starV row place).length ≤ 6 := by
  unfold starV; split
  · simp
  · simp [starL]
theorem badS_nat {row place : Int} (h : ¬ badS row place) : ∃ n k : Nat, row = n ∧ place = k ∧ n ≤ 30 ∧ 1 ≤ k ∧ k < n := by
  unfold badS at h
  exact ⟨row.toNat, place.toNat, by omega, by omega, by omega, by omega, by omega⟩
theorem starL_lit (n k : Nat) : starL n k = [(star n k 0 : Int), (star n k 1 : Int), (star n k 2 : Int), (star n k 3 : Int), (star n k 4 : Int), (star n k 5 : Int)] := rfl

def badT8 (row place which : Int) : Prop := badS row place ∨ 20 < row ∨ which < 0 ∨ 1 < which
instance (row place which : Int) : Decidable (badT8 row place which) := by unfold badT8; infer_instance
def tripN (row place which : Int) : Int := if badT8 row place which then -1 else (triP row.toNat place.toNat which.toNat : Int)
def tripD (row place which : Int) : Int := if badT8 row place which then -1 else (triG row.toNat place.toNat which.toNat : Int)
def tripB (row place which : Int) : Bool := !decide (badT8 row place which)
theorem badT8_nat {row place which : Int} (h : ¬ badT8 row place which) : ∃ n k w : Nat, row = n ∧ place = k ∧ which = w ∧ n ≤ 20 ∧ 1 ≤ k ∧ k < n ∧ w ≤ 1 := by
  unfold badT8 badS at h
  exact ⟨row.toNat, place.toNat, which.toNat, by omega, by omega, by omega, by omega, by omega, by omega, by omega⟩
theorem not_badT8 {n k w : Nat} (h1 : n ≤ 20) (h2 : 1 ≤ k) (h3 : k < n) (h4 : w ≤ 1) : ¬ badT8 n k w := by unfold badT8 badS; omega
theorem tripN_nat {n k w : Nat} (h1 : n ≤ 20) (h2 : 1 ≤ k) (h3 : k < n) (h4 : w ≤ 1) : tripN n k w = triP n k w := by unfold tripN; rw [if_neg (not_badT8 h1 h2 h3 h4)]; rfl
theorem tripD_nat {n k w : Nat} (h1 : n ≤ 20) (h2 : 1 ≤ k) (h3 : k < n) (h4 : w ≤ 1) : tripD n k w = triG n k w := by unfold tripD; rw [if_neg (not_badT8 h1 h2 h3 h4)]; rfl
theorem tripB_nat {n k w : Nat} (h1 : n ≤ 20) (h2 : 1 ≤ k) (h3 : k < n) (h4 : w ≤ 1) : tripB n k w = true := by unfold tripB; rw [decide_eq_false (not_badT8 h1 h2 h3 h4)]; rfl
theorem trip_bad {row place which : Int} (h : badT8 row place which) : tripN row place which = -1 ∧ tripD row place which = -1 ∧ tripB row place which = false :=
  ⟨if_pos h, if_pos h, by unfold tripB; rw [decide_eq_true h]; rfl⟩
theorem triP_le {n k w : Nat} (h1 : n ≤ 20) (h2 : 1 ≤ k) (h3 : k < n) (h4 : w ≤ 1) : triP n k w ≤ 1000000000000000000 := by
  have h := triple h1 h2 h3
  rcases (show w = 0 ∨ w = 1 by omega) with rfl | rfl
  · exact h.2.2
  · rw [← h.1]; exact h.2.2
end Go.Proofs.YtkcbfiglmjdaiaaDoor
/-
  Plain mathematics of cells that are left: rows up to a row, whole rows. Nothing of the program.
-/
namespace Go.Proofs.YtkcbfiglmjdaiaaDoor
open Go.RowKit

/-- How many cells of row n a prime does not divide. -/
def keep (p n : Nat) : Nat := mulL (digs p n)
/-- .. of all rows before n. -/
def keepU (p : Nat) : Nat → Nat
  | 0 => 0
  | n + 1 => keepU p n + keep p n
def tri (n : Nat) : Nat := n * (n + 1) / 2
theorem tri_succ (n : Nat) : tri (n + 1) = tri n + (n + 1) := by
  unfold tri
  have h : (n + 1) * (n + 1 + 1) = n * (n + 1) + (n + 1) * 2 := by rw [Nat.mul_comm n, ← Nat.mul_add]
  rw [h, Nat.add_mul_div_right _ _ (by omega)]
theorem keep_zero (p : Nat) : keep p 0 = 1 := by unfold keep; rw [digs_zero]; rfl
theorem keep_any {p : Nat} (hp : 2 ≤ p) (n : Nat) : keep p n = (n % p + 1) * keep p (n / p) := by
  rcases Nat.eq_zero_or_pos n with h | h
  · subst h; simp [keep_zero]
  · unfold keep; rw [digs_pos hp h]; rfl
theorem keep_at {p m d : Nat} (hp : 2 ≤ p) (hd : d < p) : keep p (p * m + d) = (d + 1) * keep p m := by
  rw [keep_any hp, Nat.mul_add_mod, Nat.mod_eq_of_lt hd, Nat.mul_add_div (by omega), Nat.div_eq_of_lt hd]; rfl
theorem keep_times {p : Nat} (hp : 2 ≤ p) (n : Nat) : keep p (n * p) = keep p n := by
  have h := keep_at (m := n) (d := 0) hp (by omega)
  rw [Nat.add_zero, Nat.zero_add, Nat.one_mul, Nat.mul_comm] at h
  exact h
theorem keep_le {p : Nat} (hp : 2 ≤ p) (n : Nat) : keep p n ≤ n + 1 := mul_le hp n
theorem keep_pos (p n : Nat) : 1 ≤ keep p n := mulL_pos _
theorem keepU_part {p : Nat} (hp : 2 ≤ p) (m : Nat) : ∀ d, d ≤ p → keepU p (p * m + d) = keepU p (p * m) + tri d * keep p m
  | 0, _ => by simp [tri]
  | d + 1, h => by
    show keepU p (p * m + d) + keep p (p * m + d) = _
    rw [keepU_part hp m d (by omega), keep_at hp (by omega), tri_succ, Nat.add_mul (tri d)]; omega
theorem keepU_times {p : Nat} (hp : 2 ≤ p) : ∀ m, keepU p (p * m) = tri p * keepU p m
  | 0 => by simp [keepU]
  | m + 1 => by
    rw [Nat.mul_succ, keepU_part hp m p (Nat.le_refl _), keepU_times hp m]
    simp only [keepU]
    rw [Nat.mul_add]
/-- Rows up to a row, by its lowest digit. -/
theorem keepU_any {p : Nat} (hp : 2 ≤ p) (n : Nat) : keepU p n = tri p * keepU p (n / p) + tri (n % p) * keep p (n / p) := by
  have h := keepU_part hp (n / p) (n % p) (Nat.le_of_lt (Nat.mod_lt _ (by omega)))
  rw [div_mod] at h
  rw [h, keepU_times hp]
theorem keepU_one {p : Nat} (hp : 2 ≤ p) : keepU p p = tri p := by
  have h := keepU_times hp 1
  rw [Nat.mul_one] at h
  rw [h]
  show tri p * (0 + keep p 0) = tri p
  rw [keep_zero]; omega
theorem keepU_two {p : Nat} (hp : 2 ≤ p) : keepU p (p * p) = tri p * tri p := by rw [keepU_times hp, keepU_one hp]
theorem keepU_le {p : Nat} (hp : 2 ≤ p) : ∀ n, keepU p n ≤ tri n
  | 0 => by simp [keepU]
  | n + 1 => by have := keepU_le hp n; have := keep_le hp n; rw [tri_succ]; simp only [keepU]; omega

/-- The same from the highest digit on: what the digits from place k on make. -/
def upL (p : Nat) : List Nat → Nat
  | [] => 0
  | d :: r => tri p * upL p r + tri d * mulL r
theorem upL_digs {p : Nat} (hp : 2 ≤ p) (n : Nat) : upL p (digs p n) = keepU p n := by
  refine div_ind hp (p := fun n => upL p (digs p n) = keepU p n) (by rw [digs_zero]; rfl) (fun n hn ih => ?_) n
  rw [digs_pos hp hn, keepU_any hp n]
  simp only [upL]
  rw [ih]; rfl
/-- What the digits from place k on add, each place its power of half of p and one more. -/
def addF (p : Nat) (l : List Nat) (k : Nat) : Nat := tri (l.getD k 0) * mulL (l.drop (k + 1)) * tri p ^ k
def addU (p : Nat) (l : List Nat) : Nat → Nat
  | 0 => 0
  | k + 1 => addU p l k + addF p l k
theorem addU_cons (p d : Nat) (r : List Nat) : ∀ k, addU p (d :: r) (k + 1) = tri p * addU p r k + tri d * mulL r
  | 0 => by simp [addU, addF]
  | k + 1 => by
    show addU p (d :: r) (k + 1) + addF p (d :: r) (k + 1) = tri p * (addU p r k + addF p r k) + _
    rw [addU_cons p d r k, Nat.mul_add]
    have h : addF p (d :: r) (k + 1) = tri p * addF p r k := by
      unfold addF
      rw [List.drop_succ_cons, List.getD_cons_succ, Nat.pow_succ, Nat.mul_comm (tri p), Nat.mul_assoc, Nat.mul_assoc, Nat.mul_assoc]
    rw [h]; omega
theorem addU_upL (p : Nat) : ∀ l : List Nat, addU p l l.length = upL p l
  | [] => rfl
  | d :: r => by rw [List.length_cons, addU_cons, addU_upL p r]; rfl
theorem addU_mono (p : Nat) (l : List Nat) : ∀ j k, j ≤ k → addU p l j ≤ addU p l k
  | j, 0, h => by obtain rfl : j = 0 := by omega
                  exact Nat.le_refl _
  | j, k + 1, h => by
    by_cases e : j = k + 1
    · rw [e]; exact Nat.le_refl _
    · exact Nat.le_trans (addU_mono p l j k (by omega)) (Nat.le_add_right _ _)

/-- A whole row: all its digits but the highest one are one less than p. -/
def whole (p n : Nat) : Bool := if _h : 2 ≤ p ∧ p ≤ n then n % p == p - 1 && whole p (n / p) else true
termination_by n
decreasing_by exact Nat.div_lt_self (by omega) _h.1
theorem whole_low {p n : Nat} (h : n < p) : whole p n = true := by rw [whole, dif_neg (by omega)]
theorem whole_high {p n : Nat} (hp : 2 ≤ p) (h : p ≤ n) : whole p n = (n % p == p - 1 && whole p (n / p)) := by rw [whole, dif_pos ⟨hp, h⟩]
/-- It holds exactly if as many cells are left as the row has. -/
theorem whole_keep {p : Nat} (hp : 2 ≤ p) (n : Nat) : whole p n = true ↔ keep p n = n + 1 := by
  refine div_ind hp (p := fun n => whole p n = true ↔ keep p n = n + 1) (by rw [whole_low (by omega), keep_zero]; simp) (fun n _ ih => ?_) n
  by_cases hlt : n < p
  · rw [whole_low hlt, keep_any hp, Nat.div_eq_of_lt hlt, Nat.mod_eq_of_lt hlt, keep_zero]; simp
  · have hle : p ≤ n := by omega
    rw [whole_high hp hle, Bool.and_eq_true, beq_iff_eq, ih, keep_any hp n]
    have h1 := div_mod p n
    have h2 := Nat.mod_lt n (show 0 < p by omega)
    have h3 := keep_le hp (n / p)
    have h4 : 0 < n / p := Nat.div_pos hle (by omega)
    generalize keep p (n / p) = s at *
    generalize n / p = q at *
    generalize n % p = r at *
    constructor
    · rintro ⟨hr, hs⟩
      rw [hs, hr, Nat.sub_add_cancel (by omega), Nat.mul_add]; omega
    · intro h
      have h5 := Nat.mul_le_mul_left (r + 1) h3
      rw [h, Nat.mul_add, Nat.mul_one, Nat.add_mul, Nat.one_mul] at h5
      have hr : r = p - 1 := by
        by_cases e : r = p - 1
        · exact e
        · exfalso
          have h6 := Nat.mul_le_mul_right q (show r + 2 ≤ p by omega)
          rw [Nat.add_mul] at h6
          omega
      refine ⟨hr, ?_⟩
      have h7 : r + 1 = p := by omega
      rw [h7] at h
      have h8 : p * s = p * (q + 1) := by rw [Nat.mul_add]; omega
      exact Nat.eq_of_mul_eq_mul_left (by omega) h8
theorem whole_power {p : Nat} (hp : 2 ≤ p) : ∀ j n, n + 1 = p ^ j → whole p n = true
  | 0, n, h => whole_low (by simp at h; omega)
  | j + 1, n, h => by
    have hpos : 0 < p ^ j := Nat.pow_pos (by omega)
    rw [Nat.pow_succ] at h
    have e : n = (p - 1) + p * (p ^ j - 1) := by
      rw [Nat.mul_comm p, Nat.sub_mul]
      have := Nat.le_mul_of_pos_left p hpos
      omega
    by_cases hlt : n < p
    · exact whole_low hlt
    · have h1 : n % p = p - 1 := by rw [e, Nat.add_mul_mod_self_left, Nat.mod_eq_of_lt (by omega)]
      have h2 : n / p = p ^ j - 1 := by rw [e, Nat.add_mul_div_left _ _ (by omega), Nat.div_eq_of_lt (by omega), Nat.zero_add]
      rw [whole_high hp (by omega), h1, whole_power hp j (n / p) (by omega)]; simp

/-- Between a power and the next one the whole rows are those all of whose lower digits are one less than p. -/
theorem whole_block {p : Nat} (hp : 2 ≤ p) : ∀ (j d r : Nat), 1 ≤ d → d < p → r < p ^ j → whole p (d * p ^ j + r) = decide (r = p ^ j - 1)
  | 0, d, r, h1, h2, h3 => by
    obtain rfl : r = 0 := by simp at h3; omega
    rw [Nat.pow_zero, Nat.mul_one, Nat.add_zero, whole_low h2]; rfl
  | j + 1, d, r, h1, h2, h3 => by
    have hpos : 0 < p ^ j := Nat.pow_pos (by omega)
    have hr := div_mod p r
    have hm := Nat.mod_lt r (show 0 < p by omega)
    have hq : r / p < p ^ j := Nat.div_lt_of_lt_mul (by rw [Nat.mul_comm, ← Nat.pow_succ]; exact h3)
    have e : d * p ^ (j + 1) + r = p * (d * p ^ j + r / p) + r % p := by
      rw [Nat.pow_succ, Nat.mul_add, ← Nat.mul_assoc, Nat.mul_comm (d * p ^ j) p]; omega
    have hge : p ≤ d * p ^ (j + 1) + r := by
      have h4 : 1 ≤ d * p ^ j + r / p := Nat.le_trans (Nat.mul_pos h1 hpos) (Nat.le_add_right _ _)
      have h5 := Nat.mul_le_mul_left p h4
      rw [e]; omega
    rw [whole_high hp hge, e, Nat.mul_add_mod, Nat.mod_eq_of_lt hm, Nat.mul_add_div (by omega), Nat.div_eq_of_lt hm, Nat.add_zero, whole_block hp j d (r / p) h1 h2 hq]
    rw [Bool.eq_iff_iff, Bool.and_eq_true, beq_iff_eq, decide_eq_true_eq, decide_eq_true_eq, Nat.pow_succ]
    generalize p ^ j = P at *
    generalize r / p = q at *
    generalize r % p = t at *
    constructor
    · rintro ⟨rfl, rfl⟩
      have h6 : p * (P - 1) = P * p - p := by rw [Nat.mul_sub, Nat.mul_comm, Nat.mul_one]
      have h7 := Nat.le_mul_of_pos_left p hpos
      omega
    · intro h
      have h7 := Nat.le_mul_of_pos_left p hpos
      have h8 : p * q + t + 1 = P * p := by omega
      have h9 : q = P - 1 := by
        by_cases e2 : q + 1 = P
        · omega
        · exfalso
          have h10 := Nat.mul_le_mul_left p (show q + 2 ≤ P by omega)
          rw [Nat.mul_add, Nat.mul_comm p P] at h10
          omega
      refine ⟨?_, h9⟩
      have h11 := Nat.mul_sub p P 1
      rw [h9, h11, Nat.mul_comm p P, Nat.mul_one] at h8
      omega

/-- The whole rows before m. -/
def wholeU (p m : Nat) : List Nat := (List.range m).filter (whole p)
theorem wholeU_succ (p m : Nat) : wholeU p (m + 1) = wholeU p m ++ (if whole p m then [m] else []) := by
  unfold wholeU
  rw [List.range_succ, List.filter_append]
  cases h : whole p m <;> simp [h]
theorem wholeU_one (p : Nat) (hp : 2 ≤ p) : wholeU p 1 = [0] := by rw [wholeU_succ, whole_low (by omega)]; rfl
theorem wholeU_part {p j d : Nat} (hp : 2 ≤ p) (h1 : 1 ≤ d) (h2 : d < p) : ∀ r, r < p ^ j → wholeU p (d * p ^ j + r) = wholeU p (d * p ^ j)
  | 0, _ => rfl
  | r + 1, h => by
    rw [← Nat.add_assoc, wholeU_succ, wholeU_part hp h1 h2 r (by omega), whole_block hp j d r h1 h2 (by omega), decide_eq_false (by omega)]
    simp
theorem wholeU_block {p j d : Nat} (hp : 2 ≤ p) (h1 : 1 ≤ d) (h2 : d < p) : wholeU p (d * p ^ j + p ^ j) = wholeU p (d * p ^ j) ++ [d * p ^ j + p ^ j - 1] := by
  have hpos : 0 < p ^ j := Nat.pow_pos (by omega)
  have e : d * p ^ j + p ^ j = d * p ^ j + (p ^ j - 1) + 1 := by omega
  rw [e, wholeU_succ, wholeU_part hp h1 h2 _ (by omega), whole_block hp j d _ h1 h2 (by omega), decide_eq_true rfl, if_pos rfl, Nat.add_sub_cancel]
/-- .. up to a row. -/
def wholeR (p row m : Nat) : List Nat := wholeU p (min m (row + 1))
theorem wholeR_in {p j d row : Nat} (hp : 2 ≤ p) (h1 : 1 ≤ d) (h2 : d < p) (h : d * p ^ j + p ^ j - 1 ≤ row) : wholeR p row (d * p ^ j + p ^ j) = wholeR p row (d * p ^ j) ++ [d * p ^ j + p ^ j - 1] := by
  have hpos : 0 < p ^ j := Nat.pow_pos (by omega)
  unfold wholeR
  rw [Nat.min_eq_left (by omega), Nat.min_eq_left (by omega), wholeU_block hp h1 h2]
theorem wholeR_out {p j d row : Nat} (hp : 2 ≤ p) (h1 : 1 ≤ d) (h2 : d < p) (h : ¬ d * p ^ j + p ^ j - 1 ≤ row) : wholeR p row (d * p ^ j + p ^ j) = wholeR p row (d * p ^ j) := by
  unfold wholeR
  rw [Nat.min_eq_right (by omega)]
  by_cases h3 : d * p ^ j ≤ row + 1
  · rw [Nat.min_eq_left h3]
    obtain ⟨r, hr⟩ : ∃ r, row + 1 = d * p ^ j + r := ⟨row + 1 - d * p ^ j, by omega⟩
    rw [hr, wholeU_part hp h1 h2 r (by omega)]
  · rw [Nat.min_eq_right (by omega)]
theorem wholeR_end (p row m : Nat) (h : row + 1 ≤ m) : wholeR p row m = wholeU p (row + 1) := by unfold wholeR; rw [Nat.min_eq_right h]
theorem wholeU_mem {p m n : Nat} : n ∈ wholeU p m ↔ n < m ∧ whole p n = true := by unfold wholeU; rw [List.mem_filter, List.mem_range]
theorem wholeU_rising (p m : Nat) : (wholeU p m).Pairwise (· < ·) := List.Pairwise.filter _ List.pairwise_lt_range
theorem wholeU_len (p : Nat) : ∀ m, (wholeU p m).length ≤ m
  | 0 => by simp [wholeU]
  | m + 1 => by rw [wholeU_succ, List.length_append]; have := wholeU_len p m; split <;> simp <;> omega
end Go.Proofs.YtkcbfiglmjdaiaaDoor
/-
  The values of the functions of chapter 2 at every argument.
-/
namespace Go.Proofs.YtkcbfiglmjdaiaaDoor
open Go.RowKit

def bad1 (n b : Int) : Prop := n < 0 ∨ 999999999 < n ∨ b < 2 ∨ 16 < b
def bad2 (x y b : Int) : Prop := x < 0 ∨ 499999999 < x ∨ y < 0 ∨ 499999999 < y ∨ b < 2 ∨ 16 < b
def bad3 (x y b : Int) : Prop := x < 0 ∨ 999999999 < x ∨ y < 0 ∨ 999999999 < y ∨ b < 2 ∨ 16 < b
instance (n b : Int) : Decidable (bad1 n b) := by unfold bad1; infer_instance
instance (x y b : Int) : Decidable (bad2 x y b) := by unfold bad2; infer_instance
instance (x y b : Int) : Decidable (bad3 x y b) := by unfold bad3; infer_instance

def digitsV (n b : Int) : List Int := if bad1 n b then [] else (digs b.toNat n.toNat).map fun (d : Nat) => (d : Int)
def sumV (n b : Int) : Int := if bad1 n b then -1 else (sumL (digs b.toNat n.toNat) : Int)
def carriesV (x y b : Int) : Int := if bad2 x y b then -1 else (carL b.toNat 0 (pairs b.toNat x.toNat y.toNat) : Int)
def underV (x y b : Int) : Bool := if bad3 x y b then false else und b.toNat x.toNat y.toNat
def countV (n b : Int) : Int := if bad1 n b then -1 else (mulL (digs b.toNat n.toNat) : Int)
theorem digitsV_bad {n b : Int} (h : bad1 n b) : digitsV n b = [] := if_pos h
theorem sumV_bad {n b : Int} (h : bad1 n b) : sumV n b = -1 := if_pos h
theorem carriesV_bad {x y b : Int} (h : bad2 x y b) : carriesV x y b = -1 := if_pos h
theorem underV_bad {x y b : Int} (h : bad3 x y b) : underV x y b = false := if_pos h
theorem countV_bad {n b : Int} (h : bad1 n b) : countV n b = -1 := if_pos h
theorem digitsV_nat {n b : Nat} (h1 : n ≤ 999999999) (h2 : 2 ≤ b) (h3 : b ≤ 16) : digitsV n b = (digs b n).map fun (d : Nat) => (d : Int) := by
  unfold digitsV; rw [if_neg (by unfold bad1; omega)]; simp
theorem sumV_nat {n b : Nat} (h1 : n ≤ 999999999) (h2 : 2 ≤ b) (h3 : b ≤ 16) : sumV n b = sumL (digs b n) := by
  unfold sumV; rw [if_neg (by unfold bad1; omega)]; simp
theorem countV_nat {n b : Nat} (h1 : n ≤ 999999999) (h2 : 2 ≤ b) (h3 : b ≤ 16) : countV n b = mulL (digs b n) := by
  unfold countV; rw [if_neg (by unfold bad1; omega)]; simp
theorem carriesV_nat {x y b : Nat} (h1 : x ≤ 499999999) (h1' : y ≤ 499999999) (h2 : 2 ≤ b) (h3 : b ≤ 16) : carriesV x y b = carL b 0 (pairs b x y) := by
  unfold carriesV; rw [if_neg (by unfold bad2; omega)]; simp
theorem underV_nat {x y b : Nat} (h1 : x ≤ 999999999) (h1' : y ≤ 999999999) (h2 : 2 ≤ b) (h3 : b ≤ 16) : underV x y b = und b x y := by
  unfold underV; rw [if_neg (by unfold bad3; omega)]; simp

theorem digitsV_len (n b : Int) : (digitsV n b).length ≤ 999999999 := by
  unfold digitsV
  split
  · simp
  · rename_i h
    unfold bad1 at h
    rw [List.length_map]
    have := len_le (b := b.toNat) (by omega) n.toNat
    omega
end Go.Proofs.YtkcbfiglmjdaiaaDoor
/-
  The values of the functions of chapter 5 at every argument.
-/
namespace Go.Proofs.YtkcbfiglmjdaiaaDoor
open Go.RowKit

def badK (row p : Int) : Prop := row < 0 ∨ 999999999 < row ∨ prmI p = false
instance (row p : Int) : Decidable (badK row p) := by unfold badK; infer_instance
def keepV (row p : Int) : Int := if badK row p then -1 else (keep p.toNat row.toNat : Int)
def keepUV (row p : Int) : Int := if badK row p then -1 else (keepU p.toNat row.toNat : Int)
def wholeV (row p : Int) : Bool := if badK row p then false else whole p.toNat row.toNat
def wholeL (p n : Nat) : List Int := (wholeU p n).map fun (k : Nat) => (k : Int)
def wholeUV (row p : Int) : List Int := if badK row p then [] else wholeL p.toNat (row.toNat + 1)
theorem keepV_bad {row p : Int} (h : badK row p) : keepV row p = -1 := if_pos h
theorem keepUV_bad {row p : Int} (h : badK row p) : keepUV row p = -1 := if_pos h
theorem wholeV_bad {row p : Int} (h : badK row p) : wholeV row p = false := if_pos h
theorem wholeUV_bad {row p : Int} (h : badK row p) : wholeUV row p = [] := if_pos h
theorem badK_not {n p : Nat} (h1 : n ≤ 999999999) (h3 : prm p) : ¬ badK n p := by unfold badK; rw [prmI_ok h3]; simp; omega
theorem badK_nat {row p : Int} (h : ¬ badK row p) : ∃ n P : Nat, row = n ∧ p = P ∧ n ≤ 999999999 ∧ prm P := by
  unfold badK at h
  obtain ⟨P, rfl, hP⟩ := prmI_t (p := p) (by cases e : prmI p; exact absurd (.inr (.inr e)) h; rfl)
  exact ⟨row.toNat, P, by omega, rfl, by omega, hP⟩
theorem keepV_nat {n p : Nat} (h1 : n ≤ 999999999) (h3 : prm p) : keepV n p = keep p n := by unfold keepV; rw [if_neg (badK_not h1 h3)]; simp
theorem keepUV_nat {n p : Nat} (h1 : n ≤ 999999999) (h3 : prm p) : keepUV n p = keepU p n := by unfold keepUV; rw [if_neg (badK_not h1 h3)]; simp
theorem wholeV_nat {n p : Nat} (h1 : n ≤ 999999999) (h3 : prm p) : wholeV n p = whole p n := by unfold wholeV; rw [if_neg (badK_not h1 h3)]; simp
theorem wholeUV_nat {n p : Nat} (h1 : n ≤ 999999999) (h3 : prm p) : wholeUV n p = wholeL p (n + 1) := by unfold wholeUV; rw [if_neg (badK_not h1 h3)]; simp
/-- As many as CountUnder tells. -/
theorem keepV_count {n p : Nat} (h1 : n ≤ 999999999) (h3 : prm p) : countV n p = keepV n p := by
  have := prm_two h3
  rw [keepV_nat h1 h3, countV_nat h1 (by omega) (by omega)]; rfl
theorem wholeL_len (p n : Nat) : (wholeL p n).length = (wholeU p n).length := by simp [wholeL]
theorem wholeL_le (p n : Nat) : (wholeL p n).length ≤ n := by rw [wholeL_len]; exact wholeU_len p n
theorem wholeUV_len (row p : Int) : (wholeUV row p).length ≤ 1000000000 := by
  unfold wholeUV
  split
  · simp
  · rename_i h
    have := wholeL_le p.toNat (row.toNat + 1)
    unfold badK at h
    omega

/-- How many cells of a row are not divided, counted from the first one on. -/
def cntL (p n : Nat) : Nat → Nat
  | 0 => 0
  | k + 1 => cntL p n k + (if leftN p n k = 0 then 0 else 1)
theorem cntL_und {p : Nat} (h : prm p) (n : Nat) : ∀ k, cntL p n k = undUp p n k
  | 0 => rfl
  | k + 1 => by
    show cntL p n k + _ = undUp p n k + _
    rw [cntL_und h n k]
    have hz := left_zero h n k
    unfold leftN
    by_cases e : bin n k % p = 0
    · rw [if_pos e, hz.1 e]; rfl
    · have e2 : und p k n = true := by cases e3 : und p k n; exact absurd (hz.2 e3) e; rfl
      rw [if_neg e, e2]; rfl
theorem cntL_all {p : Nat} (h : prm p) (n : Nat) : cntL p n (n + 1) = keep p n := by rw [cntL_und h, undUp_all (prm_two h).1]; rfl
theorem cntL_le (p n : Nat) : ∀ k, cntL p n k ≤ k
  | 0 => Nat.le_refl _
  | k + 1 => by have := cntL_le p n k; unfold cntL; split <;> omega
/-- For 2: two to the power of the sum of the digits. -/
theorem keep_bits (n : Nat) : keep 2 n = 2 ^ sumL (digs 2 n) := by
  refine div_ind (b := 2) (by omega) (p := fun n => keep 2 n = 2 ^ sumL (digs 2 n)) (by rw [keep_zero, digs_zero]; rfl) (fun n hn ih => ?_) n
  rw [keep_any (by omega), digs_pos (by omega) hn, ih]
  simp only [sumL]
  rw [Nat.pow_add]
  rcases (show n % 2 = 0 ∨ n % 2 = 1 by omega) with e | e
  all_goals rw [e]
/-- How many whole rows there are before m, counted one by one. -/
theorem wholeU_count (p m : Nat) : (wholeU p (m + 1)).length = (wholeU p m).length + (if whole p m = true then 1 else 0) := by
  rw [wholeU_succ, List.length_append]; split <;> rfl
end Go.Proofs.YtkcbfiglmjdaiaaDoor
/-
  The values of lines that are said at a desk.
-/
namespace Go.Proofs.YtkcbfiglmjdaiaaDoor

def decI (n : Int) : List Nat := decF 20 n.toNat
/-- A number, or none if it is less than 0. -/
def toldI (n : Int) : List Nat := if n < 0 then [110, 111, 110, 101] else decI n
def whatT : List Nat := [119, 104, 97, 116]
def rowTx (xs : List Int) : List Nat := xs.flatMap decI
/-- The answer to a question of a word and numbers. -/
def askV (word : List Nat) (ns : List Int) : List Nat :=
  if word = [99, 101, 108, 108] ∧ ns.length = 2 then toldI (cellV (ns.getD 0 0) (ns.getD 1 0))
  else if word = [115, 104, 97, 114, 101, 100] ∧ ns.length = 1 then toldI (sharedV (ns.getD 0 0))
  else if word = [119, 97, 121, 115] ∧ ns.length = 1 then toldI (waysV (ns.getD 0 0))
  else if word = [107, 101, 112, 116] ∧ ns.length = 2 then toldI (keepV (ns.getD 0 0) (ns.getD 1 0))
  else if word = [108, 101, 102, 116] ∧ ns.length = 3 then toldI (leftV (ns.getD 0 0) (ns.getD 1 0) (ns.getD 2 0))
  else if word = [111, 102, 116, 101, 110] ∧ ns.length = 3 then toldI (cellTV (ns.getD 0 0) (ns.getD 1 0) (ns.getD 2 0))
  else if word = [99, 97, 114, 114, 105, 101, 115] ∧ ns.length = 3 then toldI (carriesV (ns.getD 0 0) (ns.getD 1 0) (ns.getD 2 0))
  else whatT
/-- The numbers of words, if each is one. -/
def numsL : List (List Nat) → Option (List Int)
  | [] => some []
  | w :: r => match digT w with
    | none => none
    | some n => match numsL r with
      | none => none
      | some ns => some ((n : Int) :: ns)
def wordsV (s : List Nat) : List Nat := match numsL (cutT 32 s).tail with
  | none => whatT
  | some ns => askV ((cutT 32 s).getD 0 []) ns
/-- The answer to a line that is no deed's. -/
def qaV (row : List Int) (s : List Nat) : List Nat :=
  if s = [114, 111, 119] then rowTx row
  else if s = [111, 110, 101, 115] then decI (onesV row)
  else if s = [108, 97, 115, 116] then decI (endV row)
  else if s = [101, 110, 100] then (if endB row = true then decI (endI row) else [110, 111, 110, 101])
  else if s = [98, 97, 108, 97, 110, 99, 101, 100] then (if 4 * onesV row = (row.length : Int) * ((row.length : Int) + 1) then [121, 101, 115] else [110, 111])
  else wordsV s
def lineV (d : Dk) (s : List Nat) : Dk × List Nat :=
  if deskB d = true then (match readD s with
    | some a => ((doV d a.1 a.2).1, if (doV d a.1 a.2).2 = true then [111, 107] else [110, 111, 116])
    | none => (d, qaV d.1 s))
  else (([], []), [])
theorem lineV_no {d : Dk} (h : deskB d = false) (s : List Nat) : lineV d s = (([], []), []) := by unfold lineV; rw [h]; rfl
theorem lineV_deed {d : Dk} (h : deskB d = true) {s : List Nat} {a : Int × Int} (hr : readD s = some a) : lineV d s = ((doV d a.1 a.2).1, if (doV d a.1 a.2).2 = true then [111, 107] else [110, 111, 116]) := by
  unfold lineV; rw [if_pos h, hr]
theorem lineV_ask {d : Dk} (h : deskB d = true) {s : List Nat} (hr : readD s = none) : lineV d s = (d, qaV d.1 s) := by
  unfold lineV; rw [if_pos h, hr]
theorem decF_ne : ∀ f n, decF f n ≠ []
  | 0, _ => by simp [decF]
  | f + 1, n => by unfold decF; split <;> simp
theorem toldI_ne (n : Int) : toldI n ≠ [] := by
  unfold toldI
  split
  · simp
  · exact decF_ne _ _
theorem askV_ne (w : List Nat) (ns : List Int) : askV w ns ≠ [] := by
  unfold askV
  repeat' split
  all_goals first | exact toldI_ne _ | (unfold whatT; simp)
theorem wordsV_ne (s : List Nat) : wordsV s ≠ [] := by
  unfold wordsV
  split
  · unfold whatT; simp
  · exact askV_ne _ _
theorem qaV_ne {row : List Int} (h : 1 ≤ row.length) (s : List Nat) : qaV row s ≠ [] := by
  unfold qaV
  split
  · unfold rowTx
    cases row with
    | nil => simp at h
    | cons x r =>
      rw [List.flatMap_cons]
      have := decF_ne 20 x.toNat
      intro e
      exact this (List.append_eq_nil_iff.1 e).1
  split
  · exact decF_ne _ _
  split
  · exact decF_ne _ _
  split
  · split
    · exact decF_ne _ _
    · simp
  split
  · split <;> simp
  · exact wordsV_ne s
theorem line_desk {d : Dk} (h : deskB d = true) (s : List Nat) : deskB (lineV d s).1 = true := by
  cases hr : readD s with
  | none => rw [lineV_ask h hr]; exact h
  | some a => rw [lineV_deed h hr]; exact do_desk h _ _
theorem line_ne {d : Dk} (h : deskB d = true) (s : List Nat) : (lineV d s).2 ≠ [] := by
  have hs := sideB_len (deskB_is.1 h).2.1
  cases hr : readD s with
  | none => rw [lineV_ask h hr]; exact qaV_ne hs.1 s
  | some a =>
    rw [lineV_deed h hr]
    simp only
    split <;> simp
theorem line_same {d : Dk} (h : deskB d = true) (s : List Nat) : (lineV d s).2 = [111, 107] ∨ (lineV d s).1 = d := by
  cases hr : readD s with
  | none => rw [lineV_ask h hr]; exact .inr rfl
  | some a =>
    rw [lineV_deed h hr]
    cases hd : (doV d a.1 a.2).2 with
    | true => exact .inl rfl
    | false => exact .inr (do_not h hd)
theorem line_empty {d : Dk} (h : deskB d = true) : lineV d [] = (d, whatT) := by
  rw [lineV_ask h (by decide +kernel)]
  rfl
theorem line_cell {d : Dk} (h : deskB d = true) : lineV d [99, 101, 108, 108, 32, 52, 32, 50] = (d, [54]) := by
  rw [lineV_ask h (by decide +kernel)]
  rfl

/-- Lines, one after the other: the desk, and the answers. -/
def sayL : Dk → List (List Nat) → Dk × List (List Nat)
  | d, [] => (d, [])
  | d, s :: r => ((sayL (lineV d s).1 r).1, (lineV d s).2 :: (sayL (lineV d s).1 r).2)
def sayV (d : Dk) (L : List (List Nat)) : Dk × List (List Nat) := if deskB d = true ∧ L.length ≤ 40 then sayL d L else (([], []), [])
theorem sayL_len : ∀ (L : List (List Nat)) (d : Dk), (sayL d L).2.length = L.length
  | [], _ => rfl
  | s :: L, d => by unfold sayL; simp [sayL_len L]
theorem sayL_desk : ∀ (L : List (List Nat)) (d : Dk), deskB d = true → deskB (sayL d L).1 = true
  | [], _, h => h
  | s :: L, d, h => by unfold sayL; exact sayL_desk L _ (line_desk h s)
theorem sayL_ne : ∀ (L : List (List Nat)) (d : Dk), deskB d = true → ∀ t ∈ (sayL d L).2, t ≠ []
  | [], _, _, t, ht => by simp [sayL] at ht
  | s :: L, d, h, t, ht => by
    unfold sayL at ht
    rcases List.mem_cons.1 ht with rfl | ht
    · exact line_ne h s
    · exact sayL_ne L _ (line_desk h s) t ht
theorem sayL_app : ∀ (L M : List (List Nat)) (d : Dk), sayL d (L ++ M) = ((sayL (sayL d L).1 M).1, (sayL d L).2 ++ (sayL (sayL d L).1 M).2)
  | [], _, _ => rfl
  | s :: L, M, d => by
    rw [List.cons_append]
    conv => lhs; unfold sayL
    rw [sayL_app L M]
    simp [sayL]
/-- Deeds said line by line lead to where they lead. -/
theorem say_run : ∀ (L : List (Int × Int)) (d : Dk), deskB d = true → (∀ a ∈ L, deedT a.1 a.2 ≠ []) → (sayL d (L.map fun a => deedT a.1 a.2)).1 = (runL d 0 L).1
  | [], _, _, _ => rfl
  | a :: L, d, h, hL => by
    rw [List.map_cons]
    unfold sayL
    rw [lineV_deed h (read_of_text (hL a (by simp)))]
    simp only
    cases hd : (doV d a.1 a.2).2 with
    | true =>
      rw [runL_yes hd, runL_add L _ (0 + 1)]
      exact say_run L _ (do_desk h _ _) (fun x hx => hL x (by simp [hx]))
    | false =>
      rw [runL_not hd, do_not h hd]
      exact say_run L _ h (fun x hx => hL x (by simp [hx]))
def turnT : List Nat := [116, 117, 114, 110]
theorem line_turn {d : Dk} (h : deskB d = true) : (lineV d turnT).1.1 = turnV d.1 := by
  rw [lineV_deed (a := (3, 0)) h (by decide +kernel)]
  have hs := (deskB_is.1 h).2.1
  have hm : madeV d.1 3 0 = turnV d.1 := by
    unfold madeV
    rw [if_neg (by omega), if_neg (by omega), if_neg (by omega), if_pos ⟨rfl, rfl⟩]
  show (doV d 3 0).1.1 = turnV d.1
  unfold doV
  rw [if_pos h, if_neg (by omega), hm]
  split
  · rename_i he
    rcases he with he | he
    · have := sideB_len (turnV_side hs)
      rw [he] at this; simp at this
    · exact he.symm
  · rfl
/-- Three turns are none. -/
theorem say_turns {d : Dk} (h : deskB d = true) : (sayL d [turnT, turnT, turnT]).1.1 = d.1 := by
  have h1 := line_desk h turnT
  have h2 := line_desk h1 turnT
  show (lineV (lineV (lineV d turnT).1 turnT).1 turnT).1.1 = d.1
  rw [line_turn h2, line_turn h1, line_turn h]
  exact turnV_three (deskB_is.1 h).2.1
end Go.Proofs.YtkcbfiglmjdaiaaDoor
