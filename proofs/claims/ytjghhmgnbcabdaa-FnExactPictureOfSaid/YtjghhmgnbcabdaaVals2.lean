/-
  The values of the functions of chapter 2 at every argument.
-/
import Derived.Test.YtjghhmgnbcabdaaMath2
import Derived.Test.YtjghhmgnbcabdaaVals
namespace Go.Proofs.Ytjghhmgnbcabdaa
open Go.RowKit

def bad1 (n b : Int) : Prop := n < 0 ∨ 999999999 < n ∨ b < 2 ∨ 16 < b
def bad2 (x y b : Int) : Prop := x < 0 ∨ 499999999 < x ∨ y < 0 ∨ 499999999 < y ∨ b < 2 ∨ 16 < b
def bad3 (x y b : Int) : Prop := x < 0 ∨ 999999999 < x ∨ y < 0 ∨ 999999999 < y ∨ b < 2 ∨ 16 < b
instance (n b : Int) : Decidable (bad1 n b) := by unfold bad1; infer_instance
instance (x y b : Int) : Decidable (bad2 x y b) := by unfold bad2; infer_instance
instance (x y b : Int) : Decidable (bad3 x y b) := by unfold bad3; infer_instance

def digitsV (n b : Int) : List Int := if bad1 n b then [] else (digs b.toNat n.toNat).map fun (d : Nat) => (d : Int)
def sumV (n b : Int) : Int := if bad1 n b then -1 else (sumL (digs b.toNat n.toNat) : Int)
def carriesV (x y b : Int) : Int := if bad2 x y b then -1 else (carL b.toNat 0 (pairs b.toNat x.toNat y.toNat) : Int)
def underV (x y b : Int) : Bool := if bad3 x y b then false else und b.toNat x.toNat y.toNat
def countV (n b : Int) : Int := if bad1 n b then -1 else (mulL (digs b.toNat n.toNat) : Int)
theorem digitsV_bad {n b : Int} (h : bad1 n b) : digitsV n b = [] := if_pos h
theorem sumV_bad {n b : Int} (h : bad1 n b) : sumV n b = -1 := if_pos h
theorem carriesV_bad {x y b : Int} (h : bad2 x y b) : carriesV x y b = -1 := if_pos h
theorem underV_bad {x y b : Int} (h : bad3 x y b) : underV x y b = false := if_pos h
theorem countV_bad {n b : Int} (h : bad1 n b) : countV n b = -1 := if_pos h
theorem digitsV_nat {n b : Nat} (h1 : n ≤ 999999999) (h2 : 2 ≤ b) (h3 : b ≤ 16) : digitsV n b = (digs b n).map fun (d : Nat) => (d : Int) := by
  unfold digitsV; rw [if_neg (by unfold bad1; omega)]; simp
theorem sumV_nat {n b : Nat} (h1 : n ≤ 999999999) (h2 : 2 ≤ b) (h3 : b ≤ 16) : sumV n b = sumL (digs b n) := by
  unfold sumV; rw [if_neg (by unfold bad1; omega)]; simp
theorem countV_nat {n b : Nat} (h1 : n ≤ 999999999) (h2 : 2 ≤ b) (h3 : b ≤ 16) : countV n b = mulL (digs b n) := by
  unfold countV; rw [if_neg (by unfold bad1; omega)]; simp
theorem carriesV_nat {x y b : Nat} (h1 : x ≤ 499999999) (h1' : y ≤ 499999999) (h2 : 2 ≤ b) (h3 : b ≤ 16) : carriesV x y b = carL b 0 (pairs b x y) := by
  unfold carriesV; rw [if_neg (by unfold bad2; omega)]; simp
theorem underV_nat {x y b : Nat} (h1 : x ≤ 999999999) (h1' : y ≤ 999999999) (h2 : 2 ≤ b) (h3 : b ≤ 16) : underV x y b = und b x y := by
  unfold underV; rw [if_neg (by unfold bad3; omega)]; simp

theorem digitsV_len (n b : Int) : (digitsV n b).length ≤ 999999999 := by
  unfold digitsV
  split
  · simp
  · rename_i h
    unfold bad1 at h
    rw [List.length_map]
    have := len_le (b := b.toNat) (by omega) n.toNat
    omega
end Go.Proofs.Ytjghhmgnbcabdaa
