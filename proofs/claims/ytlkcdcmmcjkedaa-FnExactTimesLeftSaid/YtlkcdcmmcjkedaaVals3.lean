/-
  The values of the functions of chapter 3 at every argument.
-/
import Derived.Test.YtlkcdcmmcjkedaaMath3
import Derived.Test.YtlkcdcmmcjkedaaVals
namespace Go.Proofs.Ytlkcdcmmcjkedaa
open Go.RowKit

theorem tmod_n (n b : Nat) : Int.tmod (n : Int) (b : Int) = ((n % b : Nat) : Int) := by rw [Int.tmod_eq_emod_of_nonneg (by omega)]; rfl
theorem tdiv_n (n b : Nat) : Int.tdiv (n : Int) (b : Int) = ((n / b : Nat) : Int) := by rw [Int.tdiv_eq_ediv_of_nonneg (by omega)]; rfl

def prmI (p : Int) : Bool := decide (p = 2 ∨ p = 3 ∨ p = 5 ∨ p = 7 ∨ p = 11 ∨ p = 13)
theorem prmI_nat (p : Nat) : prmI p = true ↔ prm p := by unfold prmI prm; simp; omega
theorem prmI_t {p : Int} (h : prmI p = true) : ∃ P : Nat, p = P ∧ prm P := by
  refine ⟨p.toNat, ?_, ?_⟩
  · unfold prmI at h; simp at h; omega
  · unfold prmI at h; unfold prm; simp at h; omega

def timesV (n p : Int) : Int := if n < 1 ∨ 1000000000000000000 < n ∨ prmI p = false then -1 else (val p.toNat n.toNat : Int)
def allV (n p : Int) : Int := if n < 0 ∨ 999999999 < n ∨ prmI p = false then -1 else (tup p.toNat n.toNat : Int)
def cellTV (row place p : Int) : Int := if row < 0 ∨ 499999999 < row ∨ place < 0 ∨ row < place ∨ prmI p = false then -1 else (cars p.toNat row.toNat place.toNat : Int)
def mostV (row p : Int) : Int := if row < 1 ∨ 300 < row ∨ prmI p = false then -1 else (most p.toNat row.toNat : Int)
theorem timesV_bad {n p : Int} (h : n < 1 ∨ 1000000000000000000 < n ∨ prmI p = false) : timesV n p = -1 := if_pos h
theorem allV_bad {n p : Int} (h : n < 0 ∨ 999999999 < n ∨ prmI p = false) : allV n p = -1 := if_pos h
theorem cellTV_bad {row place p : Int} (h : row < 0 ∨ 499999999 < row ∨ place < 0 ∨ row < place ∨ prmI p = false) : cellTV row place p = -1 := if_pos h
theorem mostV_bad {row p : Int} (h : row < 1 ∨ 300 < row ∨ prmI p = false) : mostV row p = -1 := if_pos h
theorem prmI_ok {p : Nat} (h : prm p) : prmI p = true := (prmI_nat p).2 h
theorem timesV_nat {n p : Nat} (h1 : 1 ≤ n) (h2 : n ≤ 1000000000000000000) (h3 : prm p) : timesV n p = val p n := by
  unfold timesV; rw [if_neg (by rw [prmI_ok h3]; simp; omega)]; simp
theorem allV_nat {n p : Nat} (h2 : n ≤ 999999999) (h3 : prm p) : allV n p = tup p n := by
  unfold allV; rw [if_neg (by rw [prmI_ok h3]; simp; omega)]; simp
theorem cellTV_nat {n k p : Nat} (h2 : n ≤ 499999999) (hk : k ≤ n) (h3 : prm p) : cellTV n k p = cars p n k := by
  unfold cellTV; rw [if_neg (by rw [prmI_ok h3]; simp; omega)]; simp
theorem mostV_nat {n p : Nat} (h1 : 1 ≤ n) (h2 : n ≤ 300) (h3 : prm p) : mostV n p = most p n := by
  unfold mostV; rw [if_neg (by rw [prmI_ok h3]; simp; omega)]; simp
end Go.Proofs.Ytlkcdcmmcjkedaa
