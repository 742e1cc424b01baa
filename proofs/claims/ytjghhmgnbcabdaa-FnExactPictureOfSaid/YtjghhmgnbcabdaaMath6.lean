/-
  Plain mathematics of pictures: marks, triangles within, gaps between. Nothing of the program.
-/
import Derived.Test.YtjghhmgnbcabdaaVals5
namespace Go.Proofs.Ytjghhmgnbcabdaa
open Go.RowKit

theorem leftN_mirror (q n k : Nat) (h : k ≤ n) : leftN q n (n - k) = leftN q n k := by
  unfold leftN; rw [bin_ends n (n - k) k (by omega)]
/-- Each cell of the first rows stands for a triangle. -/
theorem leftN_block {p : Nat} (h : prm p) (a b n k : Nat) (hn : n < p) (hk : k < p) : leftN p (a * p + n) (b * p + k) = leftN p a b * leftN p n k % p := by
  unfold leftN
  rw [Nat.mul_comm a, Nat.mul_comm b, lucas h hn hk, Nat.mul_mod]
/-- Between triangles all is divided. -/
theorem leftN_gap {p : Nat} (h : prm p) (a b n k : Nat) (hn : n < p) (hk : k < p) (hnk : n < k) : leftN p (a * p + n) (b * p + k) = 0 := by
  rw [leftN_block h a b n k hn hk, leftN_over p n k hnk, Nat.mul_zero, Nat.zero_mod]
theorem leftN_prime {p : Nat} (h : prm p) (n k : Nat) : leftN p n k < p := leftN_lt (prm_two h).1 n k
theorem leftN_und {p : Nat} (h : prm p) (n k : Nat) : leftN p n k = 0 ↔ und p k n = false := left_zero h n k

/-- The mark's byte. -/
def markB (l : Nat) : Nat := if l = 0 then 46 else if l ≤ 9 then 48 + l else 87 + l
theorem markB_all : (List.range 13).all (fun l => decide (markB l < 128) && !(markB l == 10) && (markB l == 46) == (l == 0)) = true := by decide
theorem markB_ne {l : Nat} (h : l < 13) : markB l ≠ 10 ∧ (markB l = 46 ↔ l = 0) ∧ markB l < 128 := by
  have h1 := List.all_eq_true.1 markB_all l (List.mem_range.2 h)
  rw [Bool.and_eq_true, Bool.and_eq_true, decide_eq_true_eq, Bool.not_eq_true', beq_eq_false_iff_ne, beq_iff_eq] at h1
  obtain ⟨⟨h2, h3⟩, h4⟩ := h1
  refine ⟨h3, ?_, h2⟩
  rw [Bool.eq_iff_iff, beq_iff_eq, beq_iff_eq] at h4
  exact h4
/-- The first k marks of a row; a row and its newline; the first rows. -/
def marksP (p n k : Nat) : List Nat := (List.range k).map fun i => markB (leftN p n i)
def lineP (p n : Nat) : List Nat := marksP p n (n + 1) ++ [10]
def picP (p : Nat) : Nat → List Nat
  | 0 => []
  | n + 1 => picP p n ++ lineP p n
theorem marksP_snoc (p n k : Nat) : marksP p n (k + 1) = marksP p n k ++ [markB (leftN p n k)] := by simp [marksP, List.range_succ]
theorem marksP_len (p n k : Nat) : (marksP p n k).length = k := by simp [marksP]
theorem picP_len (p : Nat) : ∀ n, (picP p n).length = n * (n + 1) / 2 + n
  | 0 => rfl
  | n + 1 => by
    show (picP p n ++ lineP p n).length = _
    have := tri_succ n
    unfold tri at this
    rw [List.length_append, picP_len p n, lineP, List.length_append, marksP_len, this, List.length_singleton]
    omega
/-- Newlines of a text, and marks but points. -/
def endsL : List Nat → Nat
  | [] => 0
  | c :: r => (if c = 10 then 1 else 0) + endsL r
def dotsL : List Nat → Nat
  | [] => 0
  | c :: r => (if c = 10 then 0 else if c = 46 then 0 else 1) + dotsL r
theorem endsL_app : ∀ (a b : List Nat), endsL (a ++ b) = endsL a + endsL b
  | [], b => by simp [endsL]
  | c :: r, b => by simp only [List.cons_append, endsL]; rw [endsL_app r b]; omega
theorem dotsL_app : ∀ (a b : List Nat), dotsL (a ++ b) = dotsL a + dotsL b
  | [], b => by simp [dotsL]
  | c :: r, b => by simp only [List.cons_append, dotsL]; rw [dotsL_app r b]; omega
theorem endsL_marks {p : Nat} (h : prm p) (n : Nat) : ∀ k, endsL (marksP p n k) = 0
  | 0 => rfl
  | k + 1 => by
    have h1 := prm_two h
    have h2 := leftN_prime h n k
    rw [marksP_snoc, endsL_app, endsL_marks h n k]
    simp only [endsL]
    rw [if_neg (markB_ne (by omega)).1]
theorem dotsL_marks {p : Nat} (h : prm p) (n : Nat) : ∀ k, dotsL (marksP p n k) = cntL p n k
  | 0 => rfl
  | k + 1 => by
    have h1 := prm_two h
    have h2 := leftN_prime h n k
    have h3 := markB_ne (l := leftN p n k) (by omega)
    rw [marksP_snoc, dotsL_app, dotsL_marks h n k]
    simp only [dotsL, cntL]
    rw [if_neg h3.1]
    by_cases e : leftN p n k = 0
    · rw [if_pos (h3.2.1.2 e), if_pos e]
    · rw [if_neg (fun x => e (h3.2.1.1 x)), if_neg e]
theorem endsL_pic {p : Nat} (h : prm p) : ∀ n, endsL (picP p n) = n
  | 0 => rfl
  | n + 1 => by
    show endsL (picP p n ++ lineP p n) = _
    rw [endsL_app, endsL_pic h n, lineP, endsL_app, endsL_marks h]
    simp [endsL]
/-- There are as many marks as cells are left. -/
theorem dotsL_pic {p : Nat} (h : prm p) : ∀ n, dotsL (picP p n) = keepU p n
  | 0 => rfl
  | n + 1 => by
    show dotsL (picP p n ++ lineP p n) = _
    rw [dotsL_app, dotsL_pic h n, lineP, dotsL_app, dotsL_marks h, cntL_all h]
    simp [dotsL, keepU]
theorem endsL_drop (l : List Nat) (k : Nat) (h : k < l.length) : endsL (l.drop k) = (if l[k] = 10 then 1 else 0) + endsL (l.drop (k + 1)) := by
  rw [List.drop_eq_getElem_cons h]; rfl
theorem dotsL_drop (l : List Nat) (k : Nat) (h : k < l.length) : dotsL (l.drop k) = (if l[k] = 10 then 0 else if l[k] = 46 then 0 else 1) + dotsL (l.drop (k + 1)) := by
  rw [List.drop_eq_getElem_cons h]; rfl
end Go.Proofs.Ytjghhmgnbcabdaa
