/-
  The model's CellLeft: for every argument what is left of the cell, or -1.
-/
import Derived.Test.YtehmobcfbifocaaBase
import Derived.Test.YtehmobcfbifocaaMathZ
import Derived.Test.YtehmobcfbifocaaCellsZ
namespace Go.Proofs.Ytehmobcfbifocaa
open Go.RowKit

theorem rowLN_get (q n k : Nat) (h : k < n + 1) : (rowLN q n)[k]? = some (leftN q n k : Int) := rowLP_get q n (n + 1) k h
theorem tmod_n7 (n b : Nat) : Int.tmod (n : Int) (b : Int) = ((n % b : Nat) : Int) := by rw [Int.tmod_eq_emod_of_nonneg (by omega)]; rfl
def badC (row place by' : Int) : Prop := (row < 0 ∨ 300 < row) ∨ (place < 0 ∨ row < place) ∨ (by' < 2 ∨ 100000 < by')
set_option maxHeartbeats 400000 in
theorem specCellLeft_out (row place by' : Int) (h : badC row place by') (w : World) : Calls Try.prog 15 #[.int .i64 row, .int .i64 place, .int .i64 by'] w fun e w' =>
    e = .returned (.int .i64 (-1)) ∧ w = w' := by
  unfold badC at h
  by_cases h1 : row < 0 ∨ 300 < row
  · go_enter Try.func15, Try.ntmps15
    go_wp2_with (go_at_call 34; refine (l1In_f _ _ _ _ (by omega)).mono ?_; rintro e w' ⟨rfl, rfl⟩)
    go_ret
    exact ⟨rfl, rfl⟩
  · by_cases h2 : place < 0 ∨ row < place
    · go_enter Try.func15, Try.ntmps15
      go_wp2_with (first | (go_at_call 34; refine (l1In_t _ _ _ _ (by omega) (by omega)).mono ?_; rintro e w' ⟨rfl, rfl⟩) | (go_at_call 34; refine (l1In_f _ _ _ _ (by omega)).mono ?_; rintro e w' ⟨rfl, rfl⟩))
      go_ret
      exact ⟨rfl, rfl⟩
    · go_enter Try.func15, Try.ntmps15
      go_wp2_with (first | (go_at_call 34; refine (l1In_t _ _ _ _ (by omega) (by omega)).mono ?_; rintro e w' ⟨rfl, rfl⟩) | (go_at_call 34; refine (l1In_f _ _ _ _ (by omega)).mono ?_; rintro e w' ⟨rfl, rfl⟩))
      go_ret
      exact ⟨rfl, rfl⟩

set_option maxHeartbeats 1000000 in
set_option maxRecDepth 100000 in
theorem specCellLeft_in (r p q : Nat) (hr : r ≤ 300) (hp : p ≤ r) (hq : 2 ≤ q) (hq2 : q ≤ 100000) (w : World) : Calls Try.prog 15 #[.int .i64 r, .int .i64 p, .int .i64 q] w fun e w' =>
    e = .returned (.int .i64 (leftN q r p)) ∧ Below w.heap.size w w' := by
  obtain ⟨C₀, hC₀⟩ : ∃ C : Nat, leftN q r p = C := ⟨_, rfl⟩
  rw [hC₀]
  have hCh := hide hC₀
  clear hC₀
  have hq0 : ((q : Int) == 0) = false := by simp; omega
  have hq00 : (q = 0) = False := by simp; omega
  go_enter Try.func15, Try.ntmps15
  go_wp2_with (go_at_call 34; refine (l1In_t _ _ _ _ (by omega) (by omega)).mono ?_; rintro e w' ⟨rfl, rfl⟩)
  go_loopw [7, 8] (fun out n wr => ∃ j : Nat, 1 ≤ j ∧ j ≤ r + 1 ∧ n = .int .i64 j ∧ wr.ownsRow w.heap.size 3 1 out j ((rowLN q (j - 1)).map (Value.int .i64)) ∧ Below w.heap.size w wr)
    (fun _ n _ => r + 1 - (intOf n).toNat)
  case atStart =>
    refine ⟨1, Nat.le_refl _, by omega, rfl, ?_, (Below.refl _ _).alloc (Nat.le_refl _) _⟩
    show World.ownsRow _ _ _ _ _ 1 ((rowLP q 0 1).map (Value.int .i64))
    rw [rowLP_one hq]
    exact ⟨rfl, .inr ⟨w.heap.size, 1, _, rfl, Nat.le_refl _, heap_alloc_new _ _, Nat.le_refl _, by decide, rfl, rfl⟩⟩
  case round =>
    obtain ⟨j, hj1, hj, rfl, hown, hB⟩ := hrel
    obtain ⟨g, cap, rfl, hg1, hg2, hg3, hcells⟩ := owns_open hown (by omega)
    by_cases hjr : j ≤ r
    · have h60 : j ≤ 300 := by omega
      go_wp2
      obtain ⟨wo, rfl⟩ : ∃ wo : World, wo = wr := ⟨_, rfl⟩
      go_loopw [9, 10] (fun nx k wi => ∃ i : Nat, 1 ≤ i ∧ i ≤ j ∧ k = .int .i64 i ∧ wi.ownsRow wo.heap.size 3 1 nx i ((rowLP q j i).map (Value.int .i64)) ∧ Below wo.heap.size wo wi)
        (fun _ k _ => j - (intOf k).toNat)
      case atStart =>
        refine ⟨1, Nat.le_refl _, by omega, rfl, ?_, (Below.refl _ _).alloc (Nat.le_refl _) _⟩
        rw [rowLP_one hq]
        exact ⟨rfl, .inr ⟨wo.heap.size, 1, _, rfl, Nat.le_refl _, heap_alloc_new _ _, Nat.le_refl _, by decide, rfl, rfl⟩⟩
      case round =>
        obtain ⟨i, hi1, hij, rfl, hown2, hB2⟩ := hrel
        by_cases hlt : i < j
        · obtain ⟨k, rfl⟩ : ∃ k, i = k + 1 := ⟨i - 1, by omega⟩
          have hca : wr.cell? ⟨g, k + 1, none⟩ = some (.int .i64 (leftN q (j - 1) (k + 1))) := (hB2.cell (by exact hg2)).trans (hcells _ _ (by rw [List.getElem?_map, rowLN_get _ _ _ (by omega)]; rfl))
          have hcb : wr.cell? ⟨g, k, none⟩ = some (.int .i64 (leftN q (j - 1) k)) := (hB2.cell (by exact hg2)).trans (hcells _ _ (by rw [List.getElem?_map, rowLN_get _ _ _ (by omega)]; rfl))
          have hkj : k < j := by omega
          clear hcells
          go_wp2
          have hsum := leftN_sum q j (k + 1) hi1 hlt
          rw [show k + 1 - 1 = k by omega] at hsum
          have hs1 := leftN_lt hq (j - 1) k
          have hs2 := leftN_lt hq (j - 1) (k + 1)
          have hs3 := leftN_lt hq j (k + 1)
          have hqm := tmod_n7 (leftN q (j - 1) k + leftN q (j - 1) (k + 1)) q
          rw [hsum, Int.natCast_add] at hqm
          have hsnoc := hide (rowLP_snoc q j (k + 1))
          generalize leftN q (j - 1) k = A at *
          generalize leftN q (j - 1) (k + 1) = B at *
          generalize leftN q j (k + 1) = C at *
          clear hsum
          have hw1 : IntKind.i64.wrap (k : Int) = k := IntWalk.i64_in _ (by omega)
          have hw2 : IntKind.i64.wrap ((A : Int) + B) = (A : Int) + B := IntWalk.i64_in _ (by omega)
          have hw6 : IntKind.i64.wrap (C : Int) = C := IntWalk.i64_in _ (by omega)
          have hw3 : ((k : Int) + 1).toNat = k + 1 := by omega
          have hw4 : (k : Int) + 1 < j := by omega
          have hw5 : (0 : Int) ≤ (k : Int) + 1 := by omega
          go_region_law ((refine step_append_one (by rfl) _ _ (by rfl) wo.heap.size _ _ _ (by rfl) hown2.drew (by rfl) (by omega) (by have := hB2.size; simp; omega) ?_; intro v' w1 hown' hgrow))
          all_goals
            go_wp2
            go_roundw
            case rel => exact ⟨k + 1 + 1, by omega, by omega, by go_num, by have := hown'; rw [hsnoc.out, List.map_append]; exact this, (hB2.drew.alloc (by have := hB2.size; simp; omega) _).grown hgrow (by have := hB2.size; simp; omega) (fun b hb => (hown2.lt b hb).1)⟩
            case measure => simp [intOf]; omega
        · obtain rfl : i = j := by omega
          go_wp2_with (at_builtin; refine append_one rfl _ _ rfl wo.heap.size _ _ _ rfl hown2 rfl (by omega) (by have := hB2.size; omega) ?_; intro v' w1 hown' hgrow)
          go_roundw
          case rel =>
            refine ⟨i + 1, by omega, by omega, by go_num, ?_, ?_⟩
            · have := owns_from hown' hB.size
              rw [show i + 1 - 1 = i by omega, ← rowLP_last hq, List.map_append]
              exact this
            · exact (hB.trans (((hB2.alloc (by exact hB2.size) _).grown hgrow (by have := hB2.size; simp; omega) (fun b hb => (hown2.lt b hb).1)).mono hB.size))
          case measure => simp [intOf]; omega
    · obtain rfl : j = r + 1 := by omega
      have hca : wr.cell? ⟨g, p, none⟩ = some (.int .i64 (leftN q r p)) := hcells _ _ (by rw [List.getElem?_map, rowLN_get _ _ _ (by omega)]; rfl)
      clear hcells
      have hs3 := leftN_lt hq r p
      have hqm := tmod_n7 (leftN q r p) q
      rw [Nat.mod_eq_of_lt hs3] at hqm
      rw [hCh.out] at hca hs3 hqm
      have hw6 : IntKind.i64.wrap (C₀ : Int) = C₀ := IntWalk.i64_in _ (by omega)
      go_wp2
      go_ret
      exact ⟨rfl, hB⟩
/-- The rows of sums are what is left of the cells. -/
theorem rowR_left {q : Nat} (hq : 2 ≤ q) : ∀ m o, rowR (q : Nat) m o = (leftN q m o : Nat)
  | 0, o => by
    simp only [rowR, leftN]
    cases o with
    | zero => rw [bin_zero, Nat.mod_eq_of_lt (by omega)]; rfl
    | succ o => rw [bin_over 0 (o + 1) (by omega)]; simp
  | m + 1, 0 => by
    simp only [rowR, prevOf]
    rw [rowR_left hq m 0, Int.zero_add, tmod_n7]
    unfold leftN
    rw [Nat.mod_mod, bin_zero, bin_zero]
  | m + 1, o + 1 => by
    simp only [rowR, prevOf]
    rw [rowR_left hq m o, rowR_left hq m (o + 1), ← Int.natCast_add, tmod_n7]
    unfold leftN
    rw [← Nat.add_mod, bin_succ, Nat.add_comm]
end Go.Proofs.Ytehmobcfbifocaa
