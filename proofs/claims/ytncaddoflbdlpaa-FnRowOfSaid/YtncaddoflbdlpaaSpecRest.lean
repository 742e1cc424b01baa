/-
  The model's SlopeOf, HeapsOf and TurnsOf: for every argument what they hand back.
-/
import Derived.Test.YtncaddoflbdlpaaSpecCell
namespace Go.Proofs.Ytncaddoflbdlpaa
open Go.RowKit

def slopeV (row place : Int) : Int := if row < 0 ∨ 59 < row ∨ place < 0 ∨ 60 < place then -1 else (bin (row.toNat + 1) (place.toNat + 1) : Int)
theorem slopeV_bad {row place : Int} (h : row < 0 ∨ 59 < row ∨ place < 0 ∨ 60 < place) : slopeV row place = -1 := by unfold slopeV; rw [if_pos h]
theorem slopeV_nat {r k : Nat} (h : r ≤ 59) (hk : k ≤ 60) : slopeV r k = bin (r + 1) (k + 1) := by unfold slopeV; rw [if_neg (by omega)]; simp
def heapsV (a b c : Int) : Int := if a < 0 ∨ 30 < a ∨ b < 0 ∨ 30 < b ∨ c < 0 ∨ 60 < c then -1 else (bin (a.toNat + b.toNat) c.toNat : Int)
theorem heapsV_bad {a b c : Int} (h : a < 0 ∨ 30 < a ∨ b < 0 ∨ 30 < b ∨ c < 0 ∨ 60 < c) : heapsV a b c = -1 := by unfold heapsV; rw [if_pos h]
theorem heapsV_nat {a b c : Nat} (h1 : a ≤ 30) (h2 : b ≤ 30) (h3 : c ≤ 60) : heapsV a b c = vs a b c (c + 1) := by unfold heapsV; rw [if_neg (by omega), heaps]; simp
def turnsV (row place : Int) : Int := if row < 0 ∨ 60 < row ∨ place < 0 ∨ 60 < place then 0 else ts row.toNat (place.toNat + 1)
def turnsB (row place : Int) : Bool := if row < 0 ∨ 60 < row ∨ place < 0 ∨ 60 < place then false else true
theorem turnsV_bad {row place : Int} (h : row < 0 ∨ 60 < row ∨ place < 0 ∨ 60 < place) : turnsV row place = 0 ∧ turnsB row place = false := by unfold turnsV turnsB; rw [if_pos h, if_pos h]; exact ⟨rfl, rfl⟩
theorem turnsV_nat {r k : Nat} (h : r ≤ 60) (hk : k ≤ 60) : turnsV r k = ts r (k + 1) ∧ turnsB r k = true := by unfold turnsV turnsB; rw [if_neg (by omega), if_neg (by omega)]; simp

theorem specSlope_bad (row place : Int) (w : World) (h : row < 0 ∨ 59 < row ∨ place < 0 ∨ 60 < place) : Calls Try.prog 23 #[.int .i64 row, .int .i64 place] w fun e w' =>
    e = .returned (.int .i64 (-1)) ∧ Below w.heap.size w w' := by
  by_cases h1 : row < 0 ∨ 59 < row
  all_goals
    go_enter Try.func23, Try.ntmps23
    go_wp2_with (first | (go_at_call 39; refine (l1In_t _ _ _ _ (by omega) (by omega)).mono ?_; rintro e w' ⟨rfl, rfl⟩) | (go_at_call 39; refine (l1In_f _ _ _ _ (by omega)).mono ?_; rintro e w' ⟨rfl, rfl⟩))
    go_ret
    exact ⟨rfl, Below.refl _ _⟩

set_option maxHeartbeats 400000 in
theorem specSlope_ok (r p : Nat) (hr : r ≤ 59) (hp : p ≤ 60) (w : World) : Calls Try.prog 23 #[.int .i64 r, .int .i64 p] w fun e w' =>
    e = .returned (.int .i64 (bin (r + 1) (p + 1))) ∧ Below w.heap.size w w' := by
  go_enter Try.func23, Try.ntmps23
  go_wp2_with (go_at_call 39; refine (l1In_t _ _ _ _ (by omega) (by omega)).mono ?_; rintro e w' ⟨rfl, rfl⟩)
  go_loopw [5, 6] (fun s n wr => ∃ j : Nat, j ≤ r + 1 ∧ n = .int .i64 j ∧ s = .int .i64 (bin j (p + 1)) ∧ Below w.heap.size w wr) (fun _ n _ => r + 1 - (intOf n).toNat)
  case atStart => exact ⟨0, by omega, rfl, rfl, Below.refl _ _⟩
  case round =>
    obtain ⟨j, hj, rfl, rfl, hB⟩ := hrel
    have hs := bin_small j (p + 1) (by omega)
    by_cases hjr : j ≤ r
    · have hs2 := bin_small j p (by omega)
      have hv := hide (cellV_nat (r := j) (k := p) (by omega))
      go_wp2_with (go_at_call 20; refine (specCell _ _ _).mono ?_; rw [hv.out]; rintro e w1 ⟨rfl, hB1⟩)
      go_roundw
      case rel => exact ⟨j + 1, by omega, by go_num, by rw [bin_succ]; go_num, hB.trans (hB1.mono hB.size)⟩
      case measure => simp [intOf]; omega
    · obtain rfl : j = r + 1 := by omega
      go_wp2
      go_ret
      exact ⟨rfl, hB⟩

theorem specHeaps_bad (a b c : Int) (w : World) (h : a < 0 ∨ 30 < a ∨ b < 0 ∨ 30 < b ∨ c < 0 ∨ 60 < c) : Calls Try.prog 26 #[.int .i64 a, .int .i64 b, .int .i64 c] w fun e w' =>
    e = .returned (.int .i64 (-1)) ∧ Below w.heap.size w w' := by
  by_cases h1 : a < 0 ∨ 30 < a
  case' neg => by_cases h2 : b < 0 ∨ 30 < b
  all_goals
    go_enter Try.func26, Try.ntmps26
    go_wp2_with (first | (go_at_call 39; refine (l1In_t _ _ _ _ (by omega) (by omega)).mono ?_; rintro e w' ⟨rfl, rfl⟩) | (go_at_call 39; refine (l1In_f _ _ _ _ (by omega)).mono ?_; rintro e w' ⟨rfl, rfl⟩))
    go_ret
    exact ⟨rfl, Below.refl _ _⟩

set_option maxHeartbeats 400000 in
theorem specHeaps_ok (a b c : Nat) (ha : a ≤ 30) (hb : b ≤ 30) (hc : c ≤ 60) (w : World) : Calls Try.prog 26 #[.int .i64 a, .int .i64 b, .int .i64 c] w fun e w' =>
    e = .returned (.int .i64 (vs a b c (c + 1))) ∧ Below w.heap.size w w' := by
  go_enter Try.func26, Try.ntmps26
  go_wp2_with (go_at_call 39; refine (l1In_t _ _ _ _ (by omega) (by omega)).mono ?_; rintro e w' ⟨rfl, rfl⟩)
  go_loopw [7, 8] (fun s n wr => ∃ j : Nat, j ≤ c + 1 ∧ n = .int .i64 j ∧ s = .int .i64 (vs a b c j) ∧ Below w.heap.size w wr) (fun _ n _ => c + 1 - (intOf n).toNat)
  case atStart => exact ⟨0, by omega, rfl, rfl, Below.refl _ _⟩
  case round =>
    obtain ⟨j, hj, rfl, rfl, hB⟩ := hrel
    have hs := vs_small a b c j ha hb
    by_cases hjr : j ≤ c
    · have hp := prod_small a b j (c - j) ha hb
      have hv1 := hide (cellV_nat (r := a) (k := j) (by omega))
      have hv2 := hide (show cellV b ((c : Int) - j) = bin b (c - j) by rw [show (c : Int) - j = ((c - j : Nat) : Int) by omega]; exact cellV_nat (by omega))
      have hst := hide (show vs a b c (j + 1) = vs a b c j + bin a j * bin b (c - j) by rw [vs, vterm, if_pos hjr])
      go_wp2_with (first | (go_at_call 20; (with_reducible refine (specCell a j _).mono ?_); rw [hv1.out]; rintro e w1 ⟨rfl, hB1⟩) | (go_at_call 20; (with_reducible refine (specCell b ((c : Int) - j) _).mono ?_); rw [hv2.out]; rintro e w2 ⟨rfl, hB2⟩))
      go_roundw
      case rel => exact ⟨j + 1, by omega, by go_num, by rw [hst.out]; go_num, (hB.trans (hB1.mono hB.size)).trans (hB2.mono (Nat.le_trans hB.size hB1.size))⟩
      case measure => simp [intOf]; omega
    · obtain rfl : j = c + 1 := by omega
      go_wp2
      go_ret
      exact ⟨rfl, hB⟩

theorem specTurns_bad (row place : Int) (w : World) (h : row < 0 ∨ 60 < row ∨ place < 0 ∨ 60 < place) : Calls Try.prog 29 #[.int .i64 row, .int .i64 place] w fun e w' =>
    e = .returned (.tuple #[.int .i64 0, .bool false]) ∧ Below w.heap.size w w' := by
  by_cases h1 : row < 0 ∨ 60 < row
  all_goals
    go_enter Try.func29, Try.ntmps29
    go_wp2_with (first | (go_at_call 39; refine (l1In_t _ _ _ _ (by omega) (by omega)).mono ?_; rintro e w' ⟨rfl, rfl⟩) | (go_at_call 39; refine (l1In_f _ _ _ _ (by omega)).mono ?_; rintro e w' ⟨rfl, rfl⟩))
    go_ret2
    exact ⟨rfl, Below.refl _ _⟩

set_option maxHeartbeats 400000 in
theorem specTurns_ok (r p : Nat) (hr : r ≤ 60) (hp : p ≤ 60) (w : World) : Calls Try.prog 29 #[.int .i64 r, .int .i64 p] w fun e w' =>
    e = .returned (.tuple #[.int .i64 (ts r (p + 1)), .bool true]) ∧ Below w.heap.size w w' := by
  go_enter Try.func29, Try.ntmps29
  go_wp2_with (go_at_call 39; refine (l1In_t _ _ _ _ (by omega) (by omega)).mono ?_; rintro e w' ⟨rfl, rfl⟩)
  go_loopw [6, 7] (fun s n wr => ∃ j : Nat, j ≤ p + 1 ∧ n = .int .i64 j ∧ s = .int .i64 (ts r j) ∧ Below w.heap.size w wr) (fun _ n _ => p + 1 - (intOf n).toNat)
  case atStart => exact ⟨0, by omega, rfl, rfl, Below.refl _ _⟩
  case round =>
    obtain ⟨j, hj, rfl, rfl, hB⟩ := hrel
    have hs := ts_small r j hr
    by_cases hjr : j ≤ p
    · have hs2 := bin_small r j (by omega)
      have hv := hide (cellV_nat (r := r) (k := j) hr)
      by_cases he : j % 2 = 0
      · have hst := hide (show ts r (j + 1) = ts r j + bin r j by show ts r j + sg j * bin r j = _; rw [sg_even he]; omega)
        have he2 : ((j : Int) % 2 == 0) = true := by simp; omega
        go_wp2_with (go_at_call 20; refine (specCell _ _ _).mono ?_; rw [hv.out]; rintro e w1 ⟨rfl, hB1⟩)
        go_roundw
        case rel => exact ⟨j + 1, by omega, by go_num, by rw [hst.out], hB.trans (hB1.mono hB.size)⟩
        case measure => simp [intOf]; omega
      · have hst := hide (show ts r (j + 1) = ts r j - bin r j by show ts r j + sg j * bin r j = _; rw [sg_odd he]; omega)
        have he2 : ((j : Int) % 2 == 0) = false := by simp; omega
        go_wp2_with (go_at_call 20; refine (specCell _ _ _).mono ?_; rw [hv.out]; rintro e w1 ⟨rfl, hB1⟩)
        go_roundw
        case rel => exact ⟨j + 1, by omega, by go_num, by rw [hst.out], hB.trans (hB1.mono hB.size)⟩
        case measure => simp [intOf]; omega
    · obtain rfl : j = p + 1 := by omega
      go_wp2
      go_ret2
      exact ⟨rfl, hB⟩
end Go.Proofs.Ytncaddoflbdlpaa
