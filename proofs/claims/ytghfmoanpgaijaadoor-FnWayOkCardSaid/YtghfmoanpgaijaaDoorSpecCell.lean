/-
  The model's CellOf and SlopeOf: for every argument what they hand back.
-/
import Derived.Test.YtghfmoanpgaijaaDoorBase
import Derived.Test.YtghfmoanpgaijaaDoorMathZ
import Derived.Test.YtghfmoanpgaijaaDoorSpecRow
namespace Go.Proofs.YtghfmoanpgaijaaDoor
open Go.RowKit

set_option maxHeartbeats 400000 in
theorem specRow_out (row : Int) (h : row < 0 ∨ 60 < row) (w : World) : Calls Tryd.prog 60 #[.int .i64 row] w fun e w' =>
    ∃ v, e = .returned v ∧ w'.ownsRow w.heap.size 3 1 v 0 [] ∧ Below w.heap.size w w' := by
  by_cases h0 : 0 ≤ row
  · have h6 : ¬ row ≤ 60 := by omega
    clear h
    go_enter Tryd.func60, Tryd.ntmps60
    go_wp2
    refine wp_loop_rounds 1 ?_
    rw [rounds_succ]
    go_wp2
    go_ret
    exact ⟨_, rfl, World.ownsRow_made _ _ _ (Nat.le_refl _) (by decide) rfl, (Below.refl _ _).alloc (Nat.le_refl _) _⟩
  · clear h
    go_enter Tryd.func60, Tryd.ntmps60
    go_wp2
    refine wp_loop_rounds 1 ?_
    rw [rounds_succ]
    go_wp2
    go_ret
    exact ⟨_, rfl, World.ownsRow_made _ _ _ (Nat.le_refl _) (by decide) rfl, (Below.refl _ _).alloc (Nat.le_refl _) _⟩

theorem specCell (row place : Int) (w : World) : Calls Tryd.prog 52 #[.int .i64 row, .int .i64 place] w fun e w' =>
    e = .returned (.int .i64 (cellV row place)) ∧ Below w.heap.size w w' := by
  by_cases h1 : row < 0 ∨ 60 < row
  · have hv := hide (cellV_bad (row := row) (place := place) (by omega))
    go_enter Tryd.func52, Tryd.ntmps52
    go_wp2_with (go_at_call 34; refine (l1In_f _ _ _ _ (by assumption)).mono ?_; rintro e w' ⟨rfl, rfl⟩)
    go_ret
    exact ⟨ret_int hv.out.symm, Below.refl _ _⟩
  · by_cases h2 : place < 0
    · have hv := hide (cellV_bad (row := row) (place := place) (by omega))
      have h1a : 0 ≤ row := by omega
      have h1b : row ≤ 60 := by omega
      clear h1
      go_enter Tryd.func52, Tryd.ntmps52
      go_wp2_with (go_at_call 34; refine (l1In_t _ _ _ _ (by assumption) (by assumption)).mono ?_; rintro e w' ⟨rfl, rfl⟩)
      go_ret
      exact ⟨ret_int hv.out.symm, Below.refl _ _⟩
    · obtain ⟨r, rfl⟩ : ∃ r : Nat, row = r := ⟨row.toNat, by omega⟩
      obtain ⟨k, rfl⟩ : ∃ k : Nat, place = k := ⟨place.toNat, by omega⟩
      have h6 : r ≤ 60 := by omega
      have hv := hide (cellV_nat (k := k) h6)
      have h1a : (0 : Int) ≤ r := by omega
      have h1b : (r : Int) ≤ 60 := by omega
      clear h1
      by_cases h3 : r < k
      · have hb := hide (bin_over r k h3)
        go_enter Tryd.func52, Tryd.ntmps52
        go_wp2_with (go_at_call 34; refine (l1In_t _ _ _ _ (by assumption) (by assumption)).mono ?_; rintro e w' ⟨rfl, rfl⟩)
        go_ret
        exact ⟨ret_int (by rw [hv.out, hb.out]; rfl), Below.refl _ _⟩
      · have h4 : k < r + 1 := by omega
        go_enter Tryd.func52, Tryd.ntmps52
        go_wp2_with (first | (go_at_call 34; refine (l1In_t _ _ _ _ (by assumption) (by assumption)).mono ?_; rintro e w' ⟨rfl, rfl⟩) | (go_at_call 60; refine (specRow_in _ (by assumption) _).mono ?_; rintro e w1 ⟨v, rfl, hown, hB⟩; rw [rowN_len] at hown; obtain ⟨g, cap, rfl, hg1, hg2, hg3, hcells⟩ := owns_open hown (by omega); have hc := hcells k (.int .i64 (bin r k)) (by rw [List.getElem?_map, rowN, List.getElem?_map, List.getElem?_range h4]; rfl); clear hcells))
        go_ret
        exact ⟨ret_int hv.out.symm, hB⟩
end Go.Proofs.YtghfmoanpgaijaaDoor
