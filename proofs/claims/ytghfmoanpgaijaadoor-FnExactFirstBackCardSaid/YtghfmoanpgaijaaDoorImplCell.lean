/-
  The program's CellOf: for every argument what it hands back.
-/
import Derived.Test.YtghfmoanpgaijaaDoorImplRow
namespace Go.Proofs.YtghfmoanpgaijaaDoor
open Go.RowKit Go.Shelf
attribute [local go_sem] Oper.semAt_some

theorem cellAt_row (g j N p : Nat) (w : World) (hN : j + 1 ≤ N) (h : RowAt w g N (fun i => (bin j i : Int))) : Calls Tryd.prog 36 #[.slice (some ⟨g, 0, none⟩) (j + 1) N, .int .i64 p] w fun e w' => e = .returned (.int .i64 (bin j p)) ∧ w = w' := by
  by_cases hp : p < j + 1
  · exact cellAt_in g (j + 1) N p _ w hp (h.cell (by omega))
  · rw [bin_over j p (by omega)]; exact cellAt_out _ _ _ _ _ (.inr (by omega))

theorem implCell (row place : Int) (w : World) : Calls Tryd.prog 29 #[.int .i64 row, .int .i64 place] w fun e w' =>
    e = .returned (.int .i64 (cellV row place)) ∧ Below w.heap.size w w' := by
  by_cases h1 : row < 0 ∨ 60 < row
  · have hv := hide (cellV_bad (row := row) (place := place) (by omega))
    go_enter Tryd.func29, Tryd.ntmps29
    go_wp2_with (go_at_call 31; refine (within_f _ _ _ (by assumption)).mono ?_; rintro e w' ⟨rfl, rfl⟩)
    go_ret
    exact ⟨ret_int hv.out.symm, Below.refl _ _⟩
  · by_cases h2 : place < 0
    · have hv := hide (cellV_bad (row := row) (place := place) (by omega))
      have h1a : 0 ≤ row := by omega
      have h1b : row ≤ 60 := by omega
      clear h1
      go_enter Tryd.func29, Tryd.ntmps29
      go_wp2_with (go_at_call 31; refine (within_t _ _ _ (by assumption) (by assumption)).mono ?_; rintro e w' ⟨rfl, rfl⟩)
      go_ret
      exact ⟨ret_int hv.out.symm, Below.refl _ _⟩
    · obtain ⟨r, rfl⟩ : ∃ r : Nat, row = r := ⟨row.toNat, by omega⟩
      obtain ⟨k, rfl⟩ : ∃ k : Nat, place = k := ⟨place.toNat, by omega⟩
      have h6 : r ≤ 60 := by omega
      have hv := hide (cellV_nat (k := k) h6)
      have h1a : (0 : Int) ≤ r := by omega
      have h1b : (r : Int) ≤ 60 := by omega
      clear h1
      go_enter Tryd.func29, Tryd.ntmps29
      go_wp2_with (first | (go_at_call 31; refine (within_t _ _ _ (by assumption) (by assumption)).mono ?_; rintro e w' ⟨rfl, rfl⟩) | (go_at_call 49; refine (implRow_in _ (by assumption) _).mono ?_; rintro e w1 ⟨v, rfl, hown, hB⟩; obtain ⟨g, cap, rfl, hg1, hg2, hg3, hcells⟩ := owns_open hown (by omega); have hC : Calls Tryd.prog 36 #[.slice (some ⟨g, 0, none⟩) (r + 1) cap, .int .i64 k] w1 (fun e w' => e = .returned (.int .i64 (bin r k)) ∧ w1 = w') := (by by_cases hp : k < r + 1; exact cellAt_in g (r + 1) cap k _ w1 hp (hcells k _ (by rw [List.getElem?_map, rowN, List.getElem?_map, List.getElem?_range hp]; rfl)); rw [bin_over r k (by omega)]; exact cellAt_out _ _ _ _ _ (.inr (by omega))); clear hcells) | (go_at_call 36; refine hC.mono ?_; clear hC; rintro e w2 ⟨rfl, rfl⟩))
      go_ret
      exact ⟨ret_int hv.out.symm, hB⟩
end Go.Proofs.YtghfmoanpgaijaaDoor
