/-
  The model's RowOf: for every argument it hands back the row, or nothing.
-/
import Derived.Test.YtghfmoanpgaijaaDoorKit
namespace Go.Proofs.YtghfmoanpgaijaaDoor
open Go.RowKit

set_option maxHeartbeats 400000 in
set_option maxRecDepth 100000 in
theorem specRow_in (r : Nat) (hr : r ≤ 60) (w : World) : Calls Tryd.prog 60 #[.int .i64 r] w fun e w' =>
    ∃ v, e = .returned v ∧ w'.ownsRow w.heap.size 3 1 v (rowN r).length ((rowN r).map (Value.int .i64)) ∧ Below w.heap.size w w' := by
  have hd : decide ((r : Int) ≤ 60) = true := by simp; omega
  go_enter Tryd.func60, Tryd.ntmps60
  go_wp2
  go_loopw [3, 4] (fun out n wr => ∃ j : Nat, j ≤ r + 1 ∧ n = .int .i64 j ∧ wr.ownsRow w.heap.size 3 1 out (outSt j).length ((outSt j).map (Value.int .i64)) ∧ Below w.heap.size w wr)
    (fun _ n _ => r + 1 - (intOf n).toNat)
  case atStart => exact ⟨0, by omega, rfl, World.ownsRow_made _ _ _ (Nat.le_refl _) (by decide) rfl, (Below.refl _ _).alloc (Nat.le_refl _) _⟩
  case round =>
    obtain ⟨j, hj, rfl, hown, hB⟩ := hrel
    by_cases hjr : j ≤ r
    · have h60 : j ≤ 60 := by omega
      by_cases hj0 : j = 0
      · subst hj0
        go_wp2
        obtain ⟨wo, rfl⟩ : ∃ wo : World, wo = wr := ⟨_, rfl⟩
        go_loopw [5, 6] (fun nx k wi => nx = .slice (some ⟨wo.heap.size, 0, none⟩) 1 1 ∧ k = .int .i64 1 ∧ wi = wo.alloc (.cells #[.int .i64 1] 3)) (fun _ _ _ => 0)
        case atStart => exact ⟨rfl, rfl, rfl⟩
        case round =>
          obtain ⟨rfl, rfl, rfl⟩ := hrel
          go_wp2
          go_roundw
          case rel => exact ⟨1, by omega, rfl, ⟨rfl, .inr ⟨wo.heap.size, 1, _, rfl, hB.size, heap_alloc_new _ _, Nat.le_refl _, by decide, rfl, rfl⟩⟩, hB.alloc hB.size _⟩
          case measure => simp [intOf]
      · rw [outSt_len] at hown
        obtain ⟨g, cap, rfl, hg1, hg2, hg3, hcells⟩ := owns_open hown (by omega)
        go_wp2
        obtain ⟨wo, rfl⟩ : ∃ wo : World, wo = wr := ⟨_, rfl⟩
        go_loopw [5, 6] (fun nx k wi => ∃ i : Nat, 1 ≤ i ∧ i ≤ j ∧ k = .int .i64 i ∧ wi.ownsRow wo.heap.size 3 1 nx i ((rowP j i).map (Value.int .i64)) ∧ Below wo.heap.size wo wi)
          (fun _ k _ => j - (intOf k).toNat)
        case atStart =>
          refine ⟨1, Nat.le_refl _, by omega, rfl, ?_, (Below.refl _ _).alloc (Nat.le_refl _) _⟩
          rw [rowP_one]
          exact ⟨rfl, .inr ⟨wo.heap.size, 1, _, rfl, Nat.le_refl _, heap_alloc_new _ _, Nat.le_refl _, by decide, rfl, rfl⟩⟩
        case round =>
          obtain ⟨i, hi1, hij, rfl, hown2, hB2⟩ := hrel
          by_cases hlt : i < j
          · obtain ⟨k, rfl⟩ : ∃ k, i = k + 1 := ⟨i - 1, by omega⟩
            have hca : wr.cell? ⟨g, k + 1, none⟩ = some (.int .i64 (bin (j - 1) (k + 1))) := (hB2.cell (by exact hg2)).trans (hcells _ _ (by rw [List.getElem?_map, outSt_get _ _ hlt]; rfl))
            have hcb : wr.cell? ⟨g, k, none⟩ = some (.int .i64 (bin (j - 1) k)) := (hB2.cell (by exact hg2)).trans (hcells _ _ (by rw [List.getElem?_map, outSt_get _ _ (by omega)]; rfl))
            have hkj : k < j := by omega
            clear hcells
            go_wp2
            have hsum : ((bin (j - 1) k : Int) + bin (j - 1) (k + 1)) = bin j (k + 1) := by have := bin_sum j (k + 1) hi1 hlt; simp at this; omega
            have hsm := bin_small (j - 1) k (by omega)
            have hsm2 := bin_small (j - 1) (k + 1) (by omega)
            have hw1 : IntKind.i64.wrap (k : Int) = k := IntWalk.i64_in _ (by omega)
            have hw2 : IntKind.i64.wrap ((bin (j - 1) k : Int) + bin (j - 1) (k + 1)) = bin j (k + 1) := by rw [← hsum]; exact IntWalk.i64_in _ (by omega)
            have hw3 : ((k : Int) + 1).toNat = k + 1 := by omega
            have hw4 : (k : Int) + 1 < j := by omega
            have hw5 : (0 : Int) ≤ (k : Int) + 1 := by omega
            clear hsum
            go_region_law ((refine step_append_one (by rfl) _ _ (by rfl) wo.heap.size _ _ _ (by rfl) hown2.drew (by rfl) (by omega) (by have := hB2.size; simp; omega) ?_; intro v' w1 hown' hgrow))
            all_goals
              go_wp2
              go_roundw
              case rel => exact ⟨k + 1 + 1, by omega, by omega, by go_num, by have := hown'; rw [rowP_snoc, List.map_append]; exact this, (hB2.drew.alloc (by have := hB2.size; simp; omega) _).grown hgrow (by have := hB2.size; simp; omega) (fun b hb => (hown2.lt b hb).1)⟩
              case measure => simp [intOf]; omega
          · obtain rfl : i = j := by omega
            go_wp2_with (at_builtin; refine append_one rfl _ _ rfl wo.heap.size _ _ _ rfl hown2 rfl (by omega) (by have := hB2.size; omega) ?_; intro v' w1 hown' hgrow)
            go_roundw
            case rel =>
              refine ⟨i + 1, by omega, by go_num, ?_, ?_⟩
              · rw [outSt_len]; simpa [outSt, ← rowP_last] using owns_from hown' hB.size
              · exact (hB.trans (((hB2.alloc (by exact hB2.size) _).grown hgrow (by have := hB2.size; simp; omega) (fun b hb => (hown2.lt b hb).1)).mono hB.size))
            case measure => simp [intOf]; omega
    · obtain rfl : j = r + 1 := by omega
      go_wp2
      go_ret
      exact ⟨_, rfl, hown, hB⟩
end Go.Proofs.YtghfmoanpgaijaaDoor
