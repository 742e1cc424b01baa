/-
  The values of the functions of chapter 6 at every argument.
-/
import Derived.Test.YtjghhmgnbcabdaaMath6
import Derived.Test.YtjghhmgnbcabdaaStr
namespace Go.Proofs.Ytjghhmgnbcabdaa
open Go.RowKit

def badM (row place p : Int) : Prop := row < 0 ∨ 999999999 < row ∨ place < 0 ∨ row < place ∨ prmI p = false
instance (row place p : Int) : Decidable (badM row place p) := by unfold badM; infer_instance
def markL (row place p : Int) : List Nat := if badM row place p then [] else [markB (leftN p.toNat row.toNat place.toNat)]
theorem markL_bad {row place p : Int} (h : badM row place p) : markL row place p = [] := if_pos h
theorem badM_nat {row place p : Int} (h : ¬ badM row place p) : ∃ n k P : Nat, row = n ∧ place = k ∧ p = P ∧ n ≤ 999999999 ∧ k ≤ n ∧ prm P := by
  unfold badM at h
  obtain ⟨P, rfl, hP⟩ := prmI_t (p := p) (by cases e : prmI p; exact absurd (.inr (.inr (.inr (.inr e)))) h; rfl)
  exact ⟨row.toNat, place.toNat, P, by omega, by omega, rfl, by omega, by omega, hP⟩
theorem markL_nat {n k p : Nat} (h1 : n ≤ 999999999) (h2 : k ≤ n) (h3 : prm p) : markL n k p = [markB (leftN p n k)] := by
  unfold markL; rw [if_neg (by unfold badM; rw [prmI_ok h3]; simp; omega)]; rfl
def badP (rows p : Int) : Prop := rows < 1 ∨ 64 < rows ∨ prmI p = false
instance (rows p : Int) : Decidable (badP rows p) := by unfold badP; infer_instance
def picL (rows p : Int) : List Nat := if badP rows p then [] else picP p.toNat rows.toNat
theorem picL_bad {rows p : Int} (h : badP rows p) : picL rows p = [] := if_pos h
theorem badP_nat {rows p : Int} (h : ¬ badP rows p) : ∃ n P : Nat, rows = n ∧ p = P ∧ 1 ≤ n ∧ n ≤ 64 ∧ prm P := by
  unfold badP at h
  obtain ⟨P, rfl, hP⟩ := prmI_t (p := p) (by cases e : prmI p; exact absurd (.inr (.inr e)) h; rfl)
  exact ⟨rows.toNat, P, by omega, rfl, by omega, by omega, hP⟩
theorem picL_nat {n p : Nat} (h0 : 1 ≤ n) (h1 : n ≤ 64) (h3 : prm p) : picL n p = picP p n := by
  unfold picL; rw [if_neg (by unfold badP; rw [prmI_ok h3]; simp; omega)]; rfl

def triOk (P row place times rows : Nat) : Bool := decide (∀ n, n < rows → ∀ k, k < n + 1 → leftN P (row + n) (place + k) = times * leftN P n k % P)
def gapOk (P row place rows : Nat) : Bool := decide (∀ n, n < rows → ∀ k, k < rows → n ≤ k → leftN P (row + n) (place + k) = 0)
def badT (row place rows times p : Int) : Prop := prmI p = false ∨ rows < 1 ∨ 64 < rows ∨ times < 0 ∨ p - 1 < times ∨ row < 0 ∨ 100000 < row ∨ place < 0 ∨ row < place
instance (row place rows times p : Int) : Decidable (badT row place rows times p) := by unfold badT; infer_instance
def triV (row place rows times p : Int) : Bool := if badT row place rows times p then false else triOk p.toNat row.toNat place.toNat times.toNat rows.toNat
theorem triV_bad {row place rows times p : Int} (h : badT row place rows times p) : triV row place rows times p = false := if_pos h
theorem badT_nat {row place rows times p : Int} (h : ¬ badT row place rows times p) : ∃ n k m t P : Nat, row = n ∧ place = k ∧ rows = m ∧ times = t ∧ p = P ∧ n ≤ 100000 ∧ k ≤ n ∧ 1 ≤ m ∧ m ≤ 64 ∧ t < P ∧ prm P := by
  unfold badT at h
  obtain ⟨P, rfl, hP⟩ := prmI_t (p := p) (by cases e : prmI p; exact absurd (.inl e) h; rfl)
  exact ⟨row.toNat, place.toNat, rows.toNat, times.toNat, P, by omega, by omega, by omega, by omega, rfl, by omega, by omega, by omega, by omega, by omega, hP⟩
theorem triV_nat {n k m t p : Nat} (h1 : n ≤ 100000) (h2 : k ≤ n) (h4 : 1 ≤ m) (h5 : m ≤ 64) (h6 : t < p) (h3 : prm p) : triV n k m t p = triOk p n k t m := by
  unfold triV; rw [if_neg (by unfold badT; rw [prmI_ok h3]; simp; omega)]; rfl
def badG (row place rows p : Int) : Prop := prmI p = false ∨ rows < 1 ∨ 64 < rows ∨ row < 0 ∨ 100000 < row ∨ place < 0 ∨ row < place
instance (row place rows p : Int) : Decidable (badG row place rows p) := by unfold badG; infer_instance
def gapV (row place rows p : Int) : Bool := if badG row place rows p then false else gapOk p.toNat row.toNat place.toNat rows.toNat
theorem gapV_bad {row place rows p : Int} (h : badG row place rows p) : gapV row place rows p = false := if_pos h
theorem badG_nat {row place rows p : Int} (h : ¬ badG row place rows p) : ∃ n k m P : Nat, row = n ∧ place = k ∧ rows = m ∧ p = P ∧ n ≤ 100000 ∧ k ≤ n ∧ 1 ≤ m ∧ m ≤ 64 ∧ prm P := by
  unfold badG at h
  obtain ⟨P, rfl, hP⟩ := prmI_t (p := p) (by cases e : prmI p; exact absurd (.inl e) h; rfl)
  exact ⟨row.toNat, place.toNat, rows.toNat, P, by omega, by omega, by omega, rfl, by omega, by omega, by omega, by omega, hP⟩
theorem gapV_nat {n k m p : Nat} (h1 : n ≤ 100000) (h2 : k ≤ n) (h4 : 1 ≤ m) (h5 : m ≤ 64) (h3 : prm p) : gapV n k m p = gapOk p n k m := by
  unfold gapV; rw [if_neg (by unfold badG; rw [prmI_ok h3]; simp; omega)]; rfl

/-- Each cell of the first rows stands for a triangle of as many rows as the prime. -/
theorem triOk_block {p : Nat} (h : prm p) (a b : Nat) : triOk p (a * p) (b * p) (leftN p a b) p = true := by
  unfold triOk
  rw [decide_eq_true_eq]
  intro n hn k hk
  exact leftN_block h a b n k hn (by omega)
/-- Between two of them all is divided. -/
theorem gapOk_block {p : Nat} (h : prm p) (a b : Nat) : gapOk p (a * p) (b * p + 1) (p - 1) = true := by
  unfold gapOk
  rw [decide_eq_true_eq]
  intro n hn k hk hnk
  rw [Nat.add_assoc]
  exact leftN_gap h a b n (1 + k) (by omega) (by omega) (by omega)
theorem marksP_lt {p : Nat} (h : prm p) (n k : Nat) : ∀ x ∈ marksP p n k, x < 128 := by
  intro x hx
  unfold marksP at hx
  rw [List.mem_map] at hx
  obtain ⟨i, _, rfl⟩ := hx
  have h1 := prm_two h
  have h2 := leftN_prime h n i
  exact (markB_ne (by omega)).2.2
theorem lineP_lt {p : Nat} (h : prm p) (n : Nat) : ∀ x ∈ lineP p n, x < 128 := by
  intro x hx
  unfold lineP at hx
  rw [List.mem_append] at hx
  rcases hx with hx | hx
  · exact marksP_lt h n _ x hx
  · simp at hx; omega
theorem picP_lt {p : Nat} (h : prm p) : ∀ n, ∀ x ∈ picP p n, x < 128
  | 0, x, hx => by cases hx
  | n + 1, x, hx => by
    have hx' : x ∈ picP p n ++ lineP p n := hx
    rw [List.mem_append] at hx'
    rcases hx' with hx | hx
    · exact picP_lt h n x hx
    · exact lineP_lt h n x hx
theorem picP_len_le (p n : Nat) (h : n ≤ 64) : (picP p n).length ≤ 2144 := by
  rw [picP_len]
  have h1 : n * (n + 1) ≤ 64 * 65 := Nat.mul_le_mul h (by omega)
  have h2 := Nat.div_le_div_right (c := 2) h1
  omega
end Go.Proofs.Ytjghhmgnbcabdaa
