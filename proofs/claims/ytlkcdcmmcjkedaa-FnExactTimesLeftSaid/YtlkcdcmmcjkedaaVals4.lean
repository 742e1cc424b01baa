/-
  The values of the functions of chapter 4 at every argument.
-/
import Derived.Test.YtlkcdcmmcjkedaaMath4b
import Derived.Test.YtlkcdcmmcjkedaaVals3
namespace Go.Proofs.Ytlkcdcmmcjkedaa
open Go.RowKit

def badL (row place p : Int) : Prop := row < 0 ∨ 999999999 < row ∨ place < 0 ∨ 999999999 < place ∨ prmI p = false
instance (row place p : Int) : Decidable (badL row place p) := by unfold badL; infer_instance
def leftV (row place p : Int) : Int := if badL row place p then -1 else ((bin row.toNat place.toNat % p.toNat : Nat) : Int)
theorem leftV_bad {row place p : Int} (h : badL row place p) : leftV row place p = -1 := if_pos h
theorem leftV_nat {n k p : Nat} (h1 : n ≤ 999999999) (h2 : k ≤ 999999999) (h3 : prm p) : leftV n k p = ((bin n k % p : Nat) : Int) := by
  unfold leftV; rw [if_neg (by unfold badL; rw [prmI_ok h3]; simp; omega)]; rfl

def badR (row q : Int) : Prop := row < 0 ∨ 300 < row ∨ q < 2 ∨ 1000 < q
instance (row q : Int) : Decidable (badR row q) := by unfold badR; infer_instance
def rowLV (row q : Int) : List Int := if badR row q then [] else rowLN q.toNat row.toNat
theorem rowLV_bad {row q : Int} (h : badR row q) : rowLV row q = [] := if_pos h
theorem rowLV_nat {n q : Nat} (h1 : n ≤ 300) (h2 : 2 ≤ q) (h3 : q ≤ 1000) : rowLV n q = rowLN q n := by
  unfold rowLV; rw [if_neg (by unfold badR; omega)]; simp
theorem rowLV_len (row q : Int) : (rowLV row q).length ≤ 301 := by
  unfold rowLV; split
  · simp
  · rename_i h; unfold badR at h; rw [rowLN_len]; omega

/-- A row of numbers that may be multiplied. -/
def rowOk (xs : List Int) (q : Int) : Bool := decide (1 ≤ xs.length ∧ xs.length ≤ 300) && xs.all (fun x => decide (0 ≤ x ∧ x < q))
def natL (xs : List Int) (i : Nat) : Nat := (xs.getD i 0).toNat
def okT (xs ys : List Int) (q : Int) : Bool := decide (2 ≤ q ∧ q ≤ 1000) && (rowOk xs q && rowOk ys q)
def timesLN (q : Nat) (xs ys : List Int) : List Int := (List.range (xs.length + ys.length - 1)).map fun t => ((conv (natL xs) (natL ys) t % q : Nat) : Int)
def timesLV (xs ys : List Int) (q : Int) : List Int := if okT xs ys q = true then timesLN q.toNat xs ys else []
theorem rowOk_at {xs : List Int} {q : Int} (h : rowOk xs q = true) {i : Nat} (hi : i < xs.length) : 0 ≤ xs.getD i 0 ∧ xs.getD i 0 < q := by
  unfold rowOk at h
  rw [Bool.and_eq_true, List.all_eq_true] at h
  have := h.2 (xs.getD i 0) (by rw [List.getD, List.getElem?_eq_getElem hi]; simp)
  simpa using this
theorem rowOk_len {xs : List Int} {q : Int} (h : rowOk xs q = true) : 1 ≤ xs.length ∧ xs.length ≤ 300 := by
  unfold rowOk at h
  rw [Bool.and_eq_true] at h
  simpa using h.1
theorem rowOk_of {xs : List Int} {q : Int} (h1 : 1 ≤ xs.length) (h2 : xs.length ≤ 300) (h : ∀ i, i < xs.length → 0 ≤ xs.getD i 0 ∧ xs.getD i 0 < q) : rowOk xs q = true := by
  unfold rowOk
  rw [Bool.and_eq_true, List.all_eq_true]
  refine ⟨by simp; omega, fun x hx => ?_⟩
  obtain ⟨i, hi, rfl⟩ := List.mem_iff_getElem.1 hx
  have := h i hi
  rw [List.getD, List.getElem?_eq_getElem hi] at this
  simpa using this
theorem rowOk_not {xs : List Int} {q : Int} {i : Nat} (hi : i < xs.length) (h : xs.getD i 0 < 0 ∨ q ≤ xs.getD i 0) : rowOk xs q = false := by
  cases e : rowOk xs q with
  | false => rfl
  | true => have := rowOk_at e hi; omega
theorem rowOk_short {xs : List Int} {q : Int} (h : xs.length < 1 ∨ 300 < xs.length) : rowOk xs q = false := by
  cases e : rowOk xs q with
  | false => rfl
  | true => have := rowOk_len e; omega
theorem natL_at {xs : List Int} {q : Int} (h : rowOk xs q = true) {i : Nat} (hi : i < xs.length) : ((natL xs i : Nat) : Int) = xs.getD i 0 ∧ (natL xs i : Int) < q := by
  have := rowOk_at h hi
  unfold natL; omega
theorem natL_over (xs : List Int) (i : Nat) (h : xs.length ≤ i) : natL xs i = 0 := by
  unfold natL; rw [List.getD, List.getElem?_eq_none h]; rfl
theorem natL_le {xs : List Int} {q : Nat} (h : rowOk xs q = true) (i : Nat) : natL xs i ≤ q := by
  by_cases hi : i < xs.length
  · have := (natL_at h hi).2; omega
  · rw [natL_over xs i (by omega)]; omega
theorem timesLN_len (q : Nat) (xs ys : List Int) : (timesLN q xs ys).length = xs.length + ys.length - 1 := by simp [timesLN]
theorem timesLN_getD (q : Nat) (xs ys : List Int) (t : Nat) (h : t < xs.length + ys.length - 1) : (timesLN q xs ys).getD t 0 = ((conv (natL xs) (natL ys) t % q : Nat) : Int) := by
  simp [timesLN, List.getD, h]
theorem timesLV_len (xs ys : List Int) (q : Int) : (timesLV xs ys q).length ≤ 599 := by
  unfold timesLV; split
  · rename_i h
    unfold okT at h
    simp only [Bool.and_eq_true] at h
    have h1 := rowOk_len h.2.1
    have h2 := rowOk_len h.2.2
    rw [timesLN_len]; omega
  · simp
end Go.Proofs.Ytlkcdcmmcjkedaa
