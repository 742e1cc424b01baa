/-
  The model's RowLeft: for every argument it hands back the row of what is left, or nothing.
-/
import Derived.Test.YtmnmbelmcdfcjaaBase
import Derived.Test.YtmnmbelmcdfcjaaMathZ
namespace Go.Proofs.Ytmnmbelmcdfcjaa
open Go.RowKit

set_option maxHeartbeats 400000 in
theorem specRowLeft_out (row q : Int) (h : badR row q) (w : World) : Calls Try.prog 54 #[.int .i64 row, .int .i64 q] w fun e w' =>
    ∃ v, e = .returned v ∧ w'.ownsRow w.heap.size 3 1 v 0 [] ∧ Below w.heap.size w w' := by
  unfold badR at h
  by_cases h1 : row < 0 ∨ 300 < row
  all_goals
    go_enter Try.func54, Try.ntmps54
    go_wp2_with (first | (go_at_call 42; refine (l1In_t _ _ _ _ (by omega) (by omega)).mono ?_; rintro e w' ⟨rfl, rfl⟩) | (go_at_call 42; refine (l1In_f _ _ _ _ (by omega)).mono ?_; rintro e w' ⟨rfl, rfl⟩))
    go_ret
    exact ⟨_, rfl, World.ownsRow_made _ _ _ (Nat.le_refl _) (by decide) rfl, (Below.refl _ _).alloc (Nat.le_refl _) _⟩

set_option maxHeartbeats 1000000 in
set_option maxRecDepth 100000 in
theorem specRowLeft_in (r q : Nat) (hr : r ≤ 300) (hq : 2 ≤ q) (hq2 : q ≤ 1000) (w : World) : Calls Try.prog 54 #[.int .i64 r, .int .i64 q] w fun e w' =>
    ∃ v, e = .returned v ∧ w'.ownsRow w.heap.size 3 1 v (rowLN q r).length ((rowLN q r).map (Value.int .i64)) ∧ Below w.heap.size w w' := by
  have hq0 : ((q : Int) == 0) = false := by simp; omega
  have hq00 : (q = 0) = False := by simp; omega
  go_enter Try.func54, Try.ntmps54
  go_wp2_with (go_at_call 42; refine (l1In_t _ _ _ _ (by omega) (by omega)).mono ?_; rintro e w' ⟨rfl, rfl⟩)
  go_loopw [5, 6] (fun out n wr => ∃ j : Nat, j ≤ r + 1 ∧ n = .int .i64 j ∧ wr.ownsRow w.heap.size 3 1 out (outL q j).length ((outL q j).map (Value.int .i64)) ∧ Below w.heap.size w wr)
    (fun _ n _ => r + 1 - (intOf n).toNat)
  case atStart => exact ⟨0, by omega, rfl, World.ownsRow_made _ _ _ (Nat.le_refl _) (by decide) rfl, (Below.refl _ _).alloc (Nat.le_refl _) _⟩
  case round =>
    obtain ⟨j, hj, rfl, hown, hB⟩ := hrel
    by_cases hjr : j ≤ r
    · have h60 : j ≤ 300 := by omega
      by_cases hj0 : j = 0
      · subst hj0
        go_wp2
        obtain ⟨wo, rfl⟩ : ∃ wo : World, wo = wr := ⟨_, rfl⟩
        go_loopw [7, 8] (fun nx k wi => nx = .slice (some ⟨wo.heap.size, 0, none⟩) 1 1 ∧ k = .int .i64 1 ∧ wi = wo.alloc (.cells #[.int .i64 1] 3)) (fun _ _ _ => 0)
        case atStart => exact ⟨rfl, rfl, rfl⟩
        case round =>
          obtain ⟨rfl, rfl, rfl⟩ := hrel
          go_wp2
          go_roundw
          case rel =>
            refine ⟨1, by omega, rfl, ?_, hB.alloc hB.size _⟩
            show World.ownsRow _ _ _ _ _ (rowLP q 0 1).length ((rowLP q 0 1).map (Value.int .i64))
            rw [rowLP_one hq]
            exact ⟨rfl, .inr ⟨wo.heap.size, 1, _, rfl, hB.size, heap_alloc_new _ _, Nat.le_refl _, by decide, rfl, rfl⟩⟩
          case measure => simp [intOf]
      · rw [outL_len] at hown
        obtain ⟨g, cap, rfl, hg1, hg2, hg3, hcells⟩ := owns_open hown (by omega)
        go_wp2
        obtain ⟨wo, rfl⟩ : ∃ wo : World, wo = wr := ⟨_, rfl⟩
        go_loopw [7, 8] (fun nx k wi => ∃ i : Nat, 1 ≤ i ∧ i ≤ j ∧ k = .int .i64 i ∧ wi.ownsRow wo.heap.size 3 1 nx i ((rowLP q j i).map (Value.int .i64)) ∧ Below wo.heap.size wo wi)
          (fun _ k _ => j - (intOf k).toNat)
        case atStart =>
          refine ⟨1, Nat.le_refl _, by omega, rfl, ?_, (Below.refl _ _).alloc (Nat.le_refl _) _⟩
          rw [rowLP_one hq]
          exact ⟨rfl, .inr ⟨wo.heap.size, 1, _, rfl, Nat.le_refl _, heap_alloc_new _ _, Nat.le_refl _, by decide, rfl, rfl⟩⟩
        case round =>
          obtain ⟨i, hi1, hij, rfl, hown2, hB2⟩ := hrel
          by_cases hlt : i < j
          · obtain ⟨k, rfl⟩ : ∃ k, i = k + 1 := ⟨i - 1, by omega⟩
            have hca : wr.cell? ⟨g, k + 1, none⟩ = some (.int .i64 (leftN q (j - 1) (k + 1))) := (hB2.cell (by exact hg2)).trans (hcells _ _ (by rw [List.getElem?_map, outL_get _ _ _ hlt]; rfl))
            have hcb : wr.cell? ⟨g, k, none⟩ = some (.int .i64 (leftN q (j - 1) k)) := (hB2.cell (by exact hg2)).trans (hcells _ _ (by rw [List.getElem?_map, outL_get _ _ _ (by omega)]; rfl))
            have hkj : k < j := by omega
            clear hcells
            go_wp2
            have hsum := leftN_sum q j (k + 1) hi1 hlt
            rw [show k + 1 - 1 = k by omega] at hsum
            have hs1 := leftN_lt hq (j - 1) k
            have hs2 := leftN_lt hq (j - 1) (k + 1)
            have hs3 := leftN_lt hq j (k + 1)
            have hqm := tmod_n (leftN q (j - 1) k + leftN q (j - 1) (k + 1)) q
            rw [hsum, Int.natCast_add] at hqm
            have hsnoc := hide (rowLP_snoc q j (k + 1))
            generalize leftN q (j - 1) k = A at *
            generalize leftN q (j - 1) (k + 1) = B at *
            generalize leftN q j (k + 1) = C at *
            clear hsum
            have hw1 : IntKind.i64.wrap (k : Int) = k := IntWalk.i64_in _ (by omega)
            have hw2 : IntKind.i64.wrap ((A : Int) + B) = (A : Int) + B := IntWalk.i64_in _ (by omega)
            have hw6 : IntKind.i64.wrap (C : Int) = C := IntWalk.i64_in _ (by omega)
            have hw3 : ((k : Int) + 1).toNat = k + 1 := by omega
            have hw4 : (k : Int) + 1 < j := by omega
            have hw5 : (0 : Int) ≤ (k : Int) + 1 := by omega
            go_region_law ((refine step_append_one (by rfl) _ _ (by rfl) wo.heap.size _ _ _ (by rfl) hown2.drew (by rfl) (by omega) (by have := hB2.size; simp; omega) ?_; intro v' w1 hown' hgrow))
            all_goals
              go_wp2
              go_roundw
              case rel => exact ⟨k + 1 + 1, by omega, by omega, by go_num, by have := hown'; rw [hsnoc.out, List.map_append]; exact this, (hB2.drew.alloc (by have := hB2.size; simp; omega) _).grown hgrow (by have := hB2.size; simp; omega) (fun b hb => (hown2.lt b hb).1)⟩
              case measure => simp [intOf]; omega
          · obtain rfl : i = j := by omega
            go_wp2_with (at_builtin; refine append_one rfl _ _ rfl wo.heap.size _ _ _ rfl hown2 rfl (by omega) (by have := hB2.size; omega) ?_; intro v' w1 hown' hgrow)
            go_roundw
            case rel =>
              refine ⟨i + 1, by omega, by go_num, ?_, ?_⟩
              · rw [outL_len]
                have := owns_from hown' hB.size
                rw [show outL q (i + 1) = rowLN q i from rfl, ← rowLP_last hq, List.map_append]
                exact this
              · exact (hB.trans (((hB2.alloc (by exact hB2.size) _).grown hgrow (by have := hB2.size; simp; omega) (fun b hb => (hown2.lt b hb).1)).mono hB.size))
            case measure => simp [intOf]; omega
    · obtain rfl : j = r + 1 := by omega
      go_wp2
      go_ret
      exact ⟨_, rfl, hown, hB⟩

theorem specRowLeft (row q : Int) (w : World) : Calls Try.prog 54 #[.int .i64 row, .int .i64 q] w fun e w' =>
    ∃ v, e = .returned v ∧ w'.ownsRow w.heap.size 3 1 v (rowLV row q).length ((rowLV row q).map (Value.int .i64)) ∧ Below w.heap.size w w' := by
  by_cases h : badR row q
  · rw [rowLV_bad h]; exact specRowLeft_out row q h w
  · unfold badR at h
    obtain ⟨r, rfl⟩ : ∃ r : Nat, row = r := ⟨row.toNat, by omega⟩
    obtain ⟨Q, rfl⟩ : ∃ r : Nat, q = r := ⟨q.toNat, by omega⟩
    rw [rowLV_nat (by omega) (by omega) (by omega)]
    exact specRowLeft_in r Q (by omega) (by omega) (by omega) w
end Go.Proofs.Ytmnmbelmcdfcjaa
