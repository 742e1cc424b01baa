/-
  The walks of the laws FnExactCellOf, FnExactSlopeOf, FnExactHeapsOf, FnExactTurnsOf and FnExactRowOf: each answers true at every argument, and nothing that was there is written.
-/
import Derived.Test.YtncaddoflbdlpaaLawKit
import Derived.Test.YtncaddoflbdlpaaImplHeaps
namespace Go.Proofs.Ytncaddoflbdlpaa
open Go.RowKit

theorem specSlope (row place : Int) (w : World) : Calls Try.prog 23 #[.int .i64 row, .int .i64 place] w fun e w' => e = .returned (.int .i64 (slopeV row place)) ∧ Below w.heap.size w w' := by
  by_cases h : row < 0 ∨ 59 < row ∨ place < 0 ∨ 60 < place
  · rw [slopeV_bad h]; exact specSlope_bad _ _ _ h
  · obtain ⟨r, rfl⟩ : ∃ r : Nat, row = r := ⟨row.toNat, by omega⟩
    obtain ⟨k, rfl⟩ : ∃ k : Nat, place = k := ⟨place.toNat, by omega⟩
    rw [slopeV_nat (by omega) (by omega)]; exact specSlope_ok r k (by omega) (by omega) w
theorem implSlope (row place : Int) (w : World) : Calls Try.prog 22 #[.int .i64 row, .int .i64 place] w fun e w' => e = .returned (.int .i64 (slopeV row place)) ∧ Below w.heap.size w w' := by
  by_cases h : row < 0 ∨ 59 < row ∨ place < 0 ∨ 60 < place
  · rw [slopeV_bad h]; exact implSlope_bad _ _ _ h
  · obtain ⟨r, rfl⟩ : ∃ r : Nat, row = r := ⟨row.toNat, by omega⟩
    obtain ⟨k, rfl⟩ : ∃ k : Nat, place = k := ⟨place.toNat, by omega⟩
    rw [slopeV_nat (by omega) (by omega)]; exact implSlope_ok r k (by omega) (by omega) w
theorem specHeaps (a b c : Int) (w : World) : Calls Try.prog 26 #[.int .i64 a, .int .i64 b, .int .i64 c] w fun e w' => e = .returned (.int .i64 (heapsV a b c)) ∧ Below w.heap.size w w' := by
  by_cases h : a < 0 ∨ 30 < a ∨ b < 0 ∨ 30 < b ∨ c < 0 ∨ 60 < c
  · rw [heapsV_bad h]; exact specHeaps_bad _ _ _ _ h
  · obtain ⟨x, rfl⟩ : ∃ r : Nat, a = r := ⟨a.toNat, by omega⟩
    obtain ⟨y, rfl⟩ : ∃ r : Nat, b = r := ⟨b.toNat, by omega⟩
    obtain ⟨z, rfl⟩ : ∃ r : Nat, c = r := ⟨c.toNat, by omega⟩
    rw [heapsV_nat (by omega) (by omega) (by omega)]; exact specHeaps_ok x y z (by omega) (by omega) (by omega) w
theorem implHeaps (a b c : Int) (w : World) : Calls Try.prog 25 #[.int .i64 a, .int .i64 b, .int .i64 c] w fun e w' => e = .returned (.int .i64 (heapsV a b c)) ∧ Below w.heap.size w w' := by
  by_cases h : a < 0 ∨ 30 < a ∨ b < 0 ∨ 30 < b ∨ c < 0 ∨ 60 < c
  · rw [heapsV_bad h]; exact implHeaps_bad _ _ _ _ h
  · obtain ⟨x, rfl⟩ : ∃ r : Nat, a = r := ⟨a.toNat, by omega⟩
    obtain ⟨y, rfl⟩ : ∃ r : Nat, b = r := ⟨b.toNat, by omega⟩
    obtain ⟨z, rfl⟩ : ∃ r : Nat, c = r := ⟨c.toNat, by omega⟩
    rw [heapsV_nat (by omega) (by omega) (by omega), ← vs_same]; exact implHeaps_ok x y z (by omega) (by omega) (by omega) w
theorem specTurns (row place : Int) (w : World) : Calls Try.prog 29 #[.int .i64 row, .int .i64 place] w fun e w' => e = .returned (.tuple #[.int .i64 (turnsV row place), .bool (turnsB row place)]) ∧ Below w.heap.size w w' := by
  by_cases h : row < 0 ∨ 60 < row ∨ place < 0 ∨ 60 < place
  · rw [(turnsV_bad h).1, (turnsV_bad h).2]; exact specTurns_bad _ _ _ h
  · obtain ⟨r, rfl⟩ : ∃ r : Nat, row = r := ⟨row.toNat, by omega⟩
    obtain ⟨k, rfl⟩ : ∃ k : Nat, place = k := ⟨place.toNat, by omega⟩
    rw [(turnsV_nat (r := r) (k := k) (by omega) (by omega)).1, (turnsV_nat (r := r) (k := k) (by omega) (by omega)).2]; exact specTurns_ok r k (by omega) (by omega) w
theorem implTurns (row place : Int) (w : World) : Calls Try.prog 28 #[.int .i64 row, .int .i64 place] w fun e w' => e = .returned (.tuple #[.int .i64 (turnsV row place), .bool (turnsB row place)]) ∧ Below w.heap.size w w' := by
  by_cases h : row < 0 ∨ 60 < row ∨ place < 0 ∨ 60 < place
  · rw [(turnsV_bad h).1, (turnsV_bad h).2]; exact implTurns_bad _ _ _ h
  · obtain ⟨r, rfl⟩ : ∃ r : Nat, row = r := ⟨row.toNat, by omega⟩
    obtain ⟨k, rfl⟩ : ∃ k : Nat, place = k := ⟨place.toNat, by omega⟩
    rw [(turnsV_nat (r := r) (k := k) (by omega) (by omega)).1, (turnsV_nat (r := r) (k := k) (by omega) (by omega)).2]; exact implTurns_ok r k (by omega) (by omega) w

theorem exactCell (a0 a1 : Int) (w : World) : Calls Try.prog 9 #[.int .i64 a0, .int .i64 a1] w fun e w' => e = .returned (.bool true) ∧ Below w.heap.size w w' := by
  go_enter Try.func9, Try.ntmps9
  go_wp2_with (first | (go_at_call 20; refine (specCell _ _ _).mono ?_; rintro e w1 ⟨rfl, hB1⟩) | (go_at_call 19; refine (implCell _ _ _).mono ?_; rintro e w2 ⟨rfl, hB2⟩))
  go_ret
  exact ⟨rfl, hB1.trans (hB2.mono hB1.size)⟩
theorem exactSlope (a0 a1 : Int) (w : World) : Calls Try.prog 10 #[.int .i64 a0, .int .i64 a1] w fun e w' => e = .returned (.bool true) ∧ Below w.heap.size w w' := by
  go_enter Try.func10, Try.ntmps10
  go_wp2_with (first | (go_at_call 23; refine (specSlope _ _ _).mono ?_; rintro e w1 ⟨rfl, hB1⟩) | (go_at_call 22; refine (implSlope _ _ _).mono ?_; rintro e w2 ⟨rfl, hB2⟩))
  go_ret
  exact ⟨rfl, hB1.trans (hB2.mono hB1.size)⟩
theorem exactHeaps (a0 a1 a2 : Int) (w : World) : Calls Try.prog 11 #[.int .i64 a0, .int .i64 a1, .int .i64 a2] w fun e w' => e = .returned (.bool true) ∧ Below w.heap.size w w' := by
  go_enter Try.func11, Try.ntmps11
  go_wp2_with (first | (go_at_call 26; refine (specHeaps _ _ _ _).mono ?_; rintro e w1 ⟨rfl, hB1⟩) | (go_at_call 25; refine (implHeaps _ _ _ _).mono ?_; rintro e w2 ⟨rfl, hB2⟩))
  go_ret
  exact ⟨rfl, hB1.trans (hB2.mono hB1.size)⟩
theorem exactTurns (a0 a1 : Int) (w : World) : Calls Try.prog 12 #[.int .i64 a0, .int .i64 a1] w fun e w' => e = .returned (.bool true) ∧ Below w.heap.size w w' := by
  go_enter Try.func12, Try.ntmps12
  go_wp2_with (first | (go_at_call 29; refine (specTurns _ _ _).mono ?_; rintro e w1 ⟨rfl, hB1⟩) | (go_at_call 28; refine (implTurns _ _ _).mono ?_; rintro e w2 ⟨rfl, hB2⟩))
  go_ret
  exact ⟨rfl, hB1.trans (hB2.mono hB1.size)⟩
end Go.Proofs.Ytncaddoflbdlpaa
