/-
  The middle cell of a row that is twice a number leaves 2 divided by 4 if the number is a power of two, else 0: checked row by row. Nothing of the program.
-/
import Derived.Test.YtehmobcfbifocaaNum7
namespace Go.Proofs.Ytehmobcfbifocaa

/-- The odd part. -/
def oddP : Nat → Nat → Nat
  | 0, n => n
  | f + 1, n => if n % 2 = 0 then oddP f (n / 2) else n
def tMid (n : Nat) (row : List Nat) : Bool := decide (n % 2 = 1) || decide (n / 2 < 1) || decide (150 < n / 2) || (row.getD (n / 2) 0 % 4 == if oddP 8 (n / 2) = 1 then 2 else 0)
theorem mid_all : chk tMid 301 0 [1] = true := by decide +kernel
theorem mid_fact {n : Nat} (h1 : 1 ≤ n) (h2 : n ≤ 150) : bin (2 * n) n % 4 = if oddP 8 n = 1 then 2 else 0 := by
  have h := chk_all tMid 301 0 mid_all (2 * n) (by omega) (by omega)
  unfold tMid at h
  rw [show 2 * n / 2 = n by omega, decide_eq_false (by omega), decide_eq_false (by omega), decide_eq_false (by omega), rows_get] at h
  simpa using h
end Go.Proofs.Ytehmobcfbifocaa
