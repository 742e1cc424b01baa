/-
  The values of the functions of chapter 8 at every argument.
-/
import Derived.Test.YtenkodofhacglaaMath8
import Derived.Test.YtenkodofhacglaaVals
import Derived.Test.YtenkodofhacglaaVals3
namespace Go.Proofs.Ytenkodofhacglaa
open Go.RowKit

def sharedV (row : Int) : Int := if row < 2 ∨ 60 < row then -1 else (shared row.toNat : Int)
def overV (row : Int) : Int := if row < 0 ∨ 36 < row then -1 else (over row.toNat : Int)
def ofAllV (n : Int) : Int := if n < 1 ∨ 37 < n then -1 else (ofAll n.toNat : Int)
theorem sharedV_bad {row : Int} (h : row < 2 ∨ 60 < row) : sharedV row = -1 := if_pos h
theorem overV_bad {row : Int} (h : row < 0 ∨ 36 < row) : overV row = -1 := if_pos h
theorem ofAllV_bad {n : Int} (h : n < 1 ∨ 37 < n) : ofAllV n = -1 := if_pos h
theorem sharedV_nat {n : Nat} (h1 : 2 ≤ n) (h2 : n ≤ 60) : sharedV n = shared n := by unfold sharedV; rw [if_neg (by omega)]; rfl
theorem overV_nat {n : Nat} (h2 : n ≤ 36) : overV n = over n := by unfold overV; rw [if_neg (by omega)]; rfl
theorem ofAllV_nat {n : Nat} (h1 : 1 ≤ n) (h2 : n ≤ 37) : ofAllV n = ofAll n := by unfold ofAllV; rw [if_neg (by omega)]; rfl

def badS (row place : Int) : Prop := row < 2 ∨ 30 < row ∨ place < 1 ∨ row - 1 < place
instance (row place : Int) : Decidable (badS row place) := by unfold badS; infer_instance
def starL (n k : Nat) : List Int := (List.range 6).map fun i => (star n k i : Int)
def starV (row place : Int) : List Int := if badS row place then [] else starL row.toNat place.toNat
theorem starV_bad {row place : Int} (h : badS row place) : starV row place = [] := if_pos h
theorem starV_nat {n k : Nat} (h2 : n ≤ 30) (h3 : 1 ≤ k) (h4 : k < n) : starV n k = starL n k := by unfold starV; rw [if_neg (by unfold badS; omega)]; rfl
theorem starV_len (row place : Int) : (starV row place).length ≤ 6 := by
  unfold starV; split
  · simp
  · simp [starL]
theorem badS_nat {row place : Int} (h : ¬ badS row place) : ∃ n k : Nat, row = n ∧ place = k ∧ n ≤ 30 ∧ 1 ≤ k ∧ k < n := by
  unfold badS at h
  exact ⟨row.toNat, place.toNat, by omega, by omega, by omega, by omega, by omega⟩
theorem starL_lit (n k : Nat) : starL n k = [(star n k 0 : Int), (star n k 1 : Int), (star n k 2 : Int), (star n k 3 : Int), (star n k 4 : Int), (star n k 5 : Int)] := rfl

def badT8 (row place which : Int) : Prop := badS row place ∨ 20 < row ∨ which < 0 ∨ 1 < which
instance (row place which : Int) : Decidable (badT8 row place which) := by unfold badT8; infer_instance
def tripN (row place which : Int) : Int := if badT8 row place which then -1 else (triP row.toNat place.toNat which.toNat : Int)
def tripD (row place which : Int) : Int := if badT8 row place which then -1 else (triG row.toNat place.toNat which.toNat : Int)
def tripB (row place which : Int) : Bool := !decide (badT8 row place which)
theorem badT8_nat {row place which : Int} (h : ¬ badT8 row place which) : ∃ n k w : Nat, row = n ∧ place = k ∧ which = w ∧ n ≤ 20 ∧ 1 ≤ k ∧ k < n ∧ w ≤ 1 := by
  unfold badT8 badS at h
  exact ⟨row.toNat, place.toNat, which.toNat, by omega, by omega, by omega, by omega, by omega, by omega, by omega⟩
theorem not_badT8 {n k w : Nat} (h1 : n ≤ 20) (h2 : 1 ≤ k) (h3 : k < n) (h4 : w ≤ 1) : ¬ badT8 n k w := by unfold badT8 badS; omega
theorem tripN_nat {n k w : Nat} (h1 : n ≤ 20) (h2 : 1 ≤ k) (h3 : k < n) (h4 : w ≤ 1) : tripN n k w = triP n k w := by unfold tripN; rw [if_neg (not_badT8 h1 h2 h3 h4)]; rfl
theorem tripD_nat {n k w : Nat} (h1 : n ≤ 20) (h2 : 1 ≤ k) (h3 : k < n) (h4 : w ≤ 1) : tripD n k w = triG n k w := by unfold tripD; rw [if_neg (not_badT8 h1 h2 h3 h4)]; rfl
theorem tripB_nat {n k w : Nat} (h1 : n ≤ 20) (h2 : 1 ≤ k) (h3 : k < n) (h4 : w ≤ 1) : tripB n k w = true := by unfold tripB; rw [decide_eq_false (not_badT8 h1 h2 h3 h4)]; rfl
theorem trip_bad {row place which : Int} (h : badT8 row place which) : tripN row place which = -1 ∧ tripD row place which = -1 ∧ tripB row place which = false :=
  ⟨if_pos h, if_pos h, by unfold tripB; rw [decide_eq_true h]; rfl⟩
theorem triP_le {n k w : Nat} (h1 : n ≤ 20) (h2 : 1 ≤ k) (h3 : k < n) (h4 : w ≤ 1) : triP n k w ≤ 1000000000000000000 := by
  have h := triple h1 h2 h3
  rcases (show w = 0 ∨ w = 1 by omega) with rfl | rfl
  · exact h.2.2
  · rw [← h.1]; exact h.2.2
end Go.Proofs.Ytenkodofhacglaa
