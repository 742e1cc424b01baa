/-
  The model's PlaceOf and FirstBack: for every argument what they hand back.
-/
import Derived.Test.YtghfmoanpgaijaaSpec11
namespace Go.Proofs.Ytghfmoanpgaijaa
open Go.RowKit

theorem plW_down (u d : Nat) (r : List Nat) : plW u d (41 :: r) = (if 0 < u then wayT d (u - 1) else 0) + plW u (d - 1) r := rfl
theorem plW_up (u d : Nat) (r : List Nat) : plW u d (40 :: r) = plW (u - 1) d r := rfl

theorem cut_front (r : List Nat) (j : Nat) : ((40 :: r).drop 1).take (j + 1 - 1) = r.take j := by rw [Nat.add_sub_cancel]; rfl

/-- Where the loop is: at the beginning, or behind the first bracket with j bytes read. -/
def FrAt (r : List Nat) (k high : Nat) : Prop :=
  (k = 0 ∧ high = 0) ∨ ∃ j h, k = j + 1 ∧ high = h + 1 ∧ j ≤ r.length ∧ h ≤ j ∧ okW (h + 1) (r.drop j) = true ∧ backW 0 r = (r.take j ++ (backW h (r.drop j)).1, (backW h (r.drop j)).2)

theorem fr_first (r : List Nat) (h : okW 1 r = true) : FrAt r 1 1 := .inr ⟨0, 0, rfl, rfl, Nat.zero_le _, Nat.le_refl _, by simpa using h, by simp⟩
theorem fr_up {r : List Nat} {j h : Nat} (hj : j < r.length) (hc : r.getD j 0 = 40) (hb : backW 0 r = (r.take j ++ (backW h (r.drop j)).1, (backW h (r.drop j)).2)) :
    backW 0 r = (r.take (j + 1) ++ (backW (h + 1) (r.drop (j + 1))).1, (backW (h + 1) (r.drop (j + 1))).2) := by
  rw [drop_get r j hj, hc] at hb
  rw [hb]
  have ht : r.take (j + 1) = r.take j ++ [40] := by
    rw [List.take_add_one, List.getElem?_eq_getElem hj]
    have : r[j] = 40 := by rw [← hc, List.getD, List.getElem?_eq_getElem hj, Option.getD_some]
    rw [this]; rfl
  rw [ht, List.append_assoc]; rfl
theorem fr_down {r : List Nat} {j m : Nat} (hj : j < r.length) (hc : r.getD j 0 = 41) (hb : backW 0 r = (r.take j ++ (backW (m + 1) (r.drop j)).1, (backW (m + 1) (r.drop j)).2)) :
    backW 0 r = (r.take (j + 1) ++ (backW m (r.drop (j + 1))).1, (backW m (r.drop (j + 1))).2) := by
  rw [drop_get r j hj, hc] at hb
  rw [hb]
  have ht : r.take (j + 1) = r.take j ++ [41] := by
    rw [List.take_add_one, List.getElem?_eq_getElem hj]
    have : r[j] = 41 := by rw [← hc, List.getD, List.getElem?_eq_getElem hj, Option.getD_some]
    rw [this]; rfl
  rw [ht, List.append_assoc]; rfl
theorem fr_end {r : List Nat} {j : Nat} (hj : j < r.length) (hc : r.getD j 0 = 41) (hb : backW 0 r = (r.take j ++ (backW 0 (r.drop j)).1, (backW 0 (r.drop j)).2)) :
    backW 0 r = (r.take j, r.drop (j + 1)) := by
  rw [drop_get r j hj, hc] at hb
  rw [hb]
  show (r.take j ++ [], r.drop (j + 1)) = _
  rw [List.append_nil]

end Go.Proofs.Ytghfmoanpgaijaa
