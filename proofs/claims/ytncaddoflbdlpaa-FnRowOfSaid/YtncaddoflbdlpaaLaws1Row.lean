/-
  The walk of the law FnRowOf: it answers true at every code, and nothing that was there is written.
-/
import Derived.Test.YtncaddoflbdlpaaExactRow
import Derived.Test.YtncaddoflbdlpaaDraw1
namespace Go.Proofs.Ytncaddoflbdlpaa
open Go.RowKit

set_option maxHeartbeats 400000 in
theorem lawRow (a0 : Option Addr) (len0 cap0 : Nat) (z0 : List Int) (w : World) (w0 : IsRow .u8 w a0 len0 cap0 z0) :
    Calls Try.prog 3 #[.slice a0 len0 cap0] w fun e w' => e = .returned (.bool true) ∧ Below w.heap.size w w' := by
  by_cases hbig : 1048576 < len0
  · go_enter Try.func3, Try.ntmps3
    go_wp2
    go_ret
    exact ⟨rfl, Below.refl _ _⟩
  · go_enter Try.func3, Try.ntmps3
    go_wp2_with fail
    go_at_call 13
    refine (drawRow w a0 len0 cap0 z0 w0).mono ?_
    rintro e w1 ⟨⟨x, hx, rfl⟩, hB1⟩
    unfold Fits at hx
    go_wp2_with fail
    go_at_call 14
    refine (implRow x _).mono ?_
    rintro e w2 ⟨v2, rfl, hown2, hB2⟩
    replace hB1 := hB1.trans (hB2.mono hB1.size)
    go_wp2_with fail
    go_at_call 16
    refine (specRow x _).mono ?_
    rintro e w3 ⟨v3, rfl, hown3, hB3⟩
    replace hB1 := hB1.trans (hB3.mono hB1.size)
    have hi2 := (Ints.of_owns hown2).below hB3
    have hi3 := Ints.of_owns hown3
    have hl := rowV_len x
    clear hown2 hown3 hB2 hB3
    go_wp2_with fail
    go_at_call 15
    refine (sameInts_in _ _ (rowV x) _ (by omega) hi2 hi3).mono ?_
    rintro e w4 ⟨rfl, hB4⟩
    replace hB1 := hB1.trans (hB4.mono hB1.size)
    have hi4 := hi2.below hB4
    clear hi2 hi3 hB4 hl
    by_cases hbad : x < 0 ∨ 60 < x
    · have he : rowV x = [] := by unfold rowV; rw [if_pos hbad]
      rw [he] at hi4
      obtain ⟨a, c, rfl⟩ : ∃ a c, v2 = .slice a 0 c := by
        rcases hi4 with ⟨a, c, rfl, _⟩ | ⟨g, cap, rfl, _⟩
        · exact ⟨_, _, rfl⟩
        · exact ⟨_, _, rfl⟩
      clear hi4
      by_cases hx0 : x < 0
      · clear hbad
        go_wp2_with (go_at_call 17; refine (alive_in _).mono ?_; rintro e w' ⟨rfl, hB'⟩; replace hB1 := hB1.trans (hB'.mono hB1.size); clear hB')
        go_ret
        exact ⟨rfl, hB1⟩
      · have hx1 : 60 < x := by omega
        clear hbad
        go_wp2_with (go_at_call 17; refine (alive_in _).mono ?_; rintro e w' ⟨rfl, hB'⟩; replace hB1 := hB1.trans (hB'.mono hB1.size); clear hB')
        go_ret
        exact ⟨rfl, hB1⟩
    · obtain ⟨r, rfl⟩ : ∃ r : Nat, x = r := ⟨x.toNat, by omega⟩
      have hr : r ≤ 60 := by omega
      have he : rowV r = rowN r := by unfold rowV; rw [if_neg hbad]; simp
      rw [he] at hi4
      obtain ⟨g, cap, rfl, hg, hcells⟩ : ∃ g cap, v2 = .slice (some ⟨g, 0, none⟩) (r + 1) cap ∧ g < w4.heap.size ∧ ∀ i, i < r + 1 → w4.cell? ⟨g, i, none⟩ = some (.int .i64 (bin r i)) := by
        rcases hi4 with ⟨_, _, _, h⟩ | ⟨g, cap, rfl, hg, hc⟩
        · have := rowN_len r; rw [h] at this; simp at this
        · rw [rowN_len] at hc ⊢
          refine ⟨g, cap, rfl, hg, fun i hi => ?_⟩
          rw [hc i hi, rowN, List.getD, List.getElem?_map, List.getElem?_range hi]; rfl
      clear hi4 hbad he
      have hl0 : ((r : Int) + 1 == 0) = false := by simp; omega
      go_wp2
      go_loopw [5, 6] (fun s i wr => ∃ k : Nat, k ≤ r + 1 ∧ i = .int .i64 k ∧ s = .int .i64 (psum r k) ∧ Below w.heap.size w wr ∧ (∀ i, i < r + 1 → wr.cell? ⟨g, i, none⟩ = some (.int .i64 (bin r i)))) (fun _ i _ => r + 1 - (intOf i).toNat)
      case atStart => exact ⟨0, by omega, rfl, rfl, hB1, hcells⟩
      case round =>
        obtain ⟨k, hk, rfl, rfl, hB, hcs⟩ := hrel
        by_cases hlt : k < r + 1
        · have h1 := hcs k hlt
          have h2 := hcs (r - k) (by omega)
          rw [bin_ends r (r - k) k (by omega)] at h2
          have hs1 := psum_small r k hr (by omega)
          have hs2 := bin_small r k (by omega)
          have hst := hide (show psum r (k + 1) = psum r k + bin r k from rfl)
          have hC := hide hcs
          clear hcs hcells
          go_wp2
          have hkr : k ≤ r := by omega
          have hw1 : IntKind.i64.wrap (r : Int) = r := IntWalk.i64_in _ (by omega)
          have hw2 : IntKind.i64.wrap ((r : Int) - k) = (r : Int) - k := IntWalk.i64_in _ (by omega)
          have hw3 : ((r : Int) - k).toNat = r - k := by omega
          have hw4 : (0 : Int) ≤ (r : Int) - k := by omega
          have hw5 : (r : Int) - k < (r : Int) + 1 := by omega
          have hw6 : (k : Int) < (r : Int) + 1 := by omega
          go_region
          all_goals
            clear hw1 hw2 hw3 hw4 hw5 hw6
            go_wp2
            go_roundw
            case rel => exact ⟨k + 1, by omega, by go_num, by rw [hst.out]; go_num, hB.drew, hC.out⟩
            case measure => simp [intOf]; omega
        · obtain rfl : k = r + 1 := by omega
          obtain ⟨T, hT⟩ : ∃ T, T = psum r (r + 1) := ⟨_, rfl⟩
          rw [← hT]
          have hpow : (2 : Int) ^ r = (T : Int) := by rw [hT, psum_row]; simp
          have hT1 := psum_small r (r + 1) hr (Nat.le_refl _)
          rw [← hT] at hT1
          clear hcs hcells hT
          go_wp2
          go_ret
          exact ⟨rfl, hB⟩
end Go.Proofs.Ytncaddoflbdlpaa
