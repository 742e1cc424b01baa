/-
  The values of the functions of chapter 5 at every argument.
-/
import Derived.Test.YtjghhmgnbcabdaaMath5
import Derived.Test.YtjghhmgnbcabdaaMath4b
import Derived.Test.YtjghhmgnbcabdaaVals3
import Derived.Test.YtjghhmgnbcabdaaVals2
namespace Go.Proofs.Ytjghhmgnbcabdaa
open Go.RowKit

def badK (row p : Int) : Prop := row < 0 ∨ 999999999 < row ∨ prmI p = false
instance (row p : Int) : Decidable (badK row p) := by unfold badK; infer_instance
def keepV (row p : Int) : Int := if badK row p then -1 else (keep p.toNat row.toNat : Int)
def keepUV (row p : Int) : Int := if badK row p then -1 else (keepU p.toNat row.toNat : Int)
def wholeV (row p : Int) : Bool := if badK row p then false else whole p.toNat row.toNat
def wholeL (p n : Nat) : List Int := (wholeU p n).map fun (k : Nat) => (k : Int)
def wholeUV (row p : Int) : List Int := if badK row p then [] else wholeL p.toNat (row.toNat + 1)
theorem keepV_bad {row p : Int} (h : badK row p) : keepV row p = -1 := if_pos h
theorem keepUV_bad {row p : Int} (h : badK row p) : keepUV row p = -1 := if_pos h
theorem wholeV_bad {row p : Int} (h : badK row p) : wholeV row p = false := if_pos h
theorem wholeUV_bad {row p : Int} (h : badK row p) : wholeUV row p = [] := if_pos h
theorem badK_not {n p : Nat} (h1 : n ≤ 999999999) (h3 : prm p) : ¬ badK n p := by unfold badK; rw [prmI_ok h3]; simp; omega
theorem badK_nat {row p : Int} (h : ¬ badK row p) : ∃ n P : Nat, row = n ∧ p = P ∧ n ≤ 999999999 ∧ prm P := by
  unfold badK at h
  obtain ⟨P, rfl, hP⟩ := prmI_t (p := p) (by cases e : prmI p; exact absurd (.inr (.inr e)) h; rfl)
  exact ⟨row.toNat, P, by omega, rfl, by omega, hP⟩
theorem keepV_nat {n p : Nat} (h1 : n ≤ 999999999) (h3 : prm p) : keepV n p = keep p n := by unfold keepV; rw [if_neg (badK_not h1 h3)]; simp
theorem keepUV_nat {n p : Nat} (h1 : n ≤ 999999999) (h3 : prm p) : keepUV n p = keepU p n := by unfold keepUV; rw [if_neg (badK_not h1 h3)]; simp
theorem wholeV_nat {n p : Nat} (h1 : n ≤ 999999999) (h3 : prm p) : wholeV n p = whole p n := by unfold wholeV; rw [if_neg (badK_not h1 h3)]; simp
theorem wholeUV_nat {n p : Nat} (h1 : n ≤ 999999999) (h3 : prm p) : wholeUV n p = wholeL p (n + 1) := by unfold wholeUV; rw [if_neg (badK_not h1 h3)]; simp
/-- As many as CountUnder tells. -/
theorem keepV_count {n p : Nat} (h1 : n ≤ 999999999) (h3 : prm p) : countV n p = keepV n p := by
  have := prm_two h3
  rw [keepV_nat h1 h3, countV_nat h1 (by omega) (by omega)]; rfl
theorem wholeL_len (p n : Nat) : (wholeL p n).length = (wholeU p n).length := by simp [wholeL]
theorem wholeL_le (p n : Nat) : (wholeL p n).length ≤ n := by rw [wholeL_len]; exact wholeU_len p n
theorem wholeUV_len (row p : Int) : (wholeUV row p).length ≤ 1000000000 := by
  unfold wholeUV
  split
  · simp
  · rename_i h
    have := wholeL_le p.toNat (row.toNat + 1)
    unfold badK at h
    omega

/-- How many cells of a row are not divided, counted from the first one on. -/
def cntL (p n : Nat) : Nat → Nat
  | 0 => 0
  | k + 1 => cntL p n k + (if leftN p n k = 0 then 0 else 1)
theorem cntL_und {p : Nat} (h : prm p) (n : Nat) : ∀ k, cntL p n k = undUp p n k
  | 0 => rfl
  | k + 1 => by
    show cntL p n k + _ = undUp p n k + _
    rw [cntL_und h n k]
    have hz := left_zero h n k
    unfold leftN
    by_cases e : bin n k % p = 0
    · rw [if_pos e, hz.1 e]; rfl
    · have e2 : und p k n = true := by cases e3 : und p k n; exact absurd (hz.2 e3) e; rfl
      rw [if_neg e, e2]; rfl
theorem cntL_all {p : Nat} (h : prm p) (n : Nat) : cntL p n (n + 1) = keep p n := by rw [cntL_und h, undUp_all (prm_two h).1]; rfl
theorem cntL_le (p n : Nat) : ∀ k, cntL p n k ≤ k
  | 0 => Nat.le_refl _
  | k + 1 => by have := cntL_le p n k; unfold cntL; split <;> omega
/-- For 2: two to the power of the sum of the digits. -/
theorem keep_bits (n : Nat) : keep 2 n = 2 ^ sumL (digs 2 n) := by
  refine div_ind (b := 2) (by omega) (p := fun n => keep 2 n = 2 ^ sumL (digs 2 n)) (by rw [keep_zero, digs_zero]; rfl) (fun n hn ih => ?_) n
  rw [keep_any (by omega), digs_pos (by omega) hn, ih]
  simp only [sumL]
  rw [Nat.pow_add]
  rcases (show n % 2 = 0 ∨ n % 2 = 1 by omega) with e | e
  all_goals rw [e]
/-- How many whole rows there are before m, counted one by one. -/
theorem wholeU_count (p m : Nat) : (wholeU p (m + 1)).length = (wholeU p m).length + (if whole p m = true then 1 else 0) := by
  rw [wholeU_succ, List.length_append]; split <;> rfl
end Go.Proofs.Ytjghhmgnbcabdaa
