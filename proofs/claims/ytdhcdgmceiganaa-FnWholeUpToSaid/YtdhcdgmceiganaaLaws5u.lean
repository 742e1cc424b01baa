/-
  The walk of the law FnWholeUpTo: it answers true at every code, and nothing that was there is written.
-/
import Derived.Test.YtdhcdgmceiganaaSpec5b
import Derived.Test.YtdhcdgmceiganaaImpl5
import Derived.Test.YtdhcdgmceiganaaDraw5
import Derived.Test.YtdhcdgmceiganaaLawKit
import Derived.Test.YtdhcdgmceiganaaExact5
namespace Go.Proofs.Ytdhcdgmceiganaa
open Go.RowKit

set_option maxHeartbeats 400000 in
/-- Numbers that rise are found to rise. -/
theorem ascend_in (g cap L : Nat) (d : Nat → Int) (w : World) (hL : 0 < L) (hL2 : L ≤ 1000000000) (hc : ∀ i, i < L → w.cell? ⟨g, i, none⟩ = some (.int .i64 (d i))) (hup : ∀ i, i + 1 < L → d i < d (i + 1)) (hg : g < w.heap.size) :
    Calls Try.prog 27 #[.slice (some ⟨g, 0, none⟩) L cap] w fun e w' => e = .returned (.bool true) ∧ Below w.heap.size w w' := by
  go_enter Try.func27, Try.ntmps27
  go_wp2
  go_loopw [3] (fun i wr => ∃ k : Nat, 1 ≤ k ∧ k ≤ L ∧ i = .int .i64 k ∧ Below w.heap.size w wr) (fun i _ => L - (intOf i).toNat)
  case atStart => exact ⟨1, Nat.le_refl _, by omega, rfl, Below.refl _ _⟩
  case round =>
    obtain ⟨k, hk1, hk, rfl, hB⟩ := hrel
    by_cases hlt : k < L
    · obtain ⟨j, rfl⟩ : ∃ j, k = j + 1 := ⟨k - 1, by omega⟩
      have h1 : wr.cell? ⟨g, j, none⟩ = some (.int .i64 (d j)) := (hB.cell (by exact hg)).trans (hc j (by omega))
      have h2 : wr.cell? ⟨g, j + 1, none⟩ = some (.int .i64 (d (j + 1))) := (hB.cell (by exact hg)).trans (hc (j + 1) hlt)
      have h3 := hup j hlt
      clear hc hup
      obtain ⟨y, hy⟩ : ∃ y, d j = y := ⟨_, rfl⟩
      obtain ⟨z, hz⟩ : ∃ z, d (j + 1) = z := ⟨_, rfl⟩
      rw [hy] at h1 h3
      rw [hz] at h2 h3
      clear hy hz
      have h4 : ¬ z ≤ y := by omega
      have hw1 : IntKind.i64.wrap (j : Int) = j := IntWalk.i64_in _ (by omega)
      have hw3 : ((j : Int) + 1).toNat = j + 1 := by omega
      have hw4 : (j : Int) + 1 < L := by omega
      have hw5 : (0 : Int) ≤ (j : Int) + 1 := by omega
      have hw6 : (j : Int) < L := by omega
      go_wp2
      go_region
      all_goals
        go_wp2
        go_roundw
        case rel => exact ⟨j + 1 + 1, by omega, by omega, by go_num, hB.drew⟩
        case measure => simp [intOf]; omega
    · obtain rfl : k = L := by omega
      go_wp2
      go_ret
      exact ⟨rfl, hB⟩

/-- What is asked of the whole rows, as a table. -/
theorem whole_table {P N : Nat} (hp : 2 ≤ P) : ∃ (L : Nat) (d : Nat → Nat), (wholeL P (N + 1)).length = L + 1 ∧ (∀ i, i < L + 1 → (wholeL P (N + 1)).getD i 0 = (d i : Int)) ∧ (∀ i, i < L + 1 → d i ≤ N ∧ whole P (d i) = true) ∧ (∀ i, i + 1 < L + 1 → d i < d (i + 1)) ∧ (wholeU P (N + 1)).length = L + 1 := by
  have h1 : 1 ≤ (wholeU P (N + 1)).length := by
    have := wholeU_mono P 1 (N + 1) (by omega)
    rw [wholeU_one P hp] at this
    exact this
  refine ⟨(wholeU P (N + 1)).length - 1, fun i => (wholeU P (N + 1)).getD i 0, by rw [wholeL_len]; omega, fun i hi => ?_, fun i hi => ?_, fun i hi => ?_, by omega⟩
  · have hi' : i < (wholeU P (N + 1)).length := by omega
    unfold wholeL
    simp [List.getD, hi']
  · have hi' : i < (wholeU P (N + 1)).length := by omega
    have := wholeU_mem.1 (List.getElem_mem hi')
    simp only [List.getD, List.getElem?_eq_getElem hi', Option.getD_some]
    exact ⟨by omega, this.2⟩
  · have hi' : i + 1 < (wholeU P (N + 1)).length := by omega
    have := List.pairwise_iff_getElem.1 (wholeU_rising P (N + 1)) i (i + 1) (by omega) hi' (by omega)
    simpa [List.getD, List.getElem?_eq_getElem hi', List.getElem?_eq_getElem (show i < (wholeU P (N + 1)).length by omega)] using this

set_option maxHeartbeats 1000000 in
theorem lawWholeUp (a0 : Option Addr) (len0 cap0 : Nat) (z0 : List Int) (w : World) (w0 : IsRow .u8 w a0 len0 cap0 z0) :
    Calls Try.prog 6 #[.slice a0 len0 cap0] w fun e w' => e = .returned (.bool true) ∧ Below w.heap.size w w' := by
  by_cases hbig : 1048576 < len0
  · go_enter Try.func6, Try.ntmps6
    go_wp2
    go_ret
    exact ⟨rfl, Below.refl _ _⟩
  · go_enter Try.func6, Try.ntmps6
    go_wp2_with fail
    go_at_call 23
    refine (drawWholeUp w a0 len0 cap0 z0 w0).mono ?_
    rintro e w1 ⟨⟨x, y, hx, hy, rfl⟩, hB1⟩
    go_wp2_with fail
    go_at_call 24
    refine (implWholeUp x y hy _).mono ?_
    rintro e w2 ⟨v2, rfl, hown2, hB2⟩
    replace hB1 := hB1.trans (hB2.mono hB1.size)
    go_wp2_with fail
    go_at_call 26
    refine (specWholeUp x y _).mono ?_
    rintro e w3 ⟨v3, rfl, hown3, hB3⟩
    replace hB1 := hB1.trans (hB3.mono hB1.size)
    have hi2 := (Ints.of_owns hown2).below hB3
    have hi3 := Ints.of_owns hown3
    have hl := wholeUV_len' x y
    clear hown2 hown3 hB2 hB3
    go_wp2_with fail
    go_at_call 25
    refine (sameInts_in _ _ (wholeUV x y) _ (by omega) hi2 hi3).mono ?_
    rintro e w4 ⟨rfl, hB4⟩
    replace hB1 := hB1.trans (hB4.mono hB1.size)
    have hi4 := hi2.below hB4
    clear hi2 hi3 hB4
    by_cases hbad : badK x y
    · rw [wholeUV_bad hbad] at hi4
      obtain ⟨a, c, rfl⟩ : ∃ a c, v2 = .slice a 0 c := by
        rcases hi4 with ⟨a, c, rfl, _⟩ | ⟨g, cap, rfl, _⟩
        · exact ⟨_, _, rfl⟩
        · exact ⟨_, _, rfl⟩
      clear hi4 hbad hl
      go_wp2_with (go_at_call 14; refine (alive_in _).mono ?_; rintro e w' ⟨rfl, hB'⟩; replace hB1 := hB1.trans (hB'.mono hB1.size); clear hB')
      go_ret
      exact ⟨rfl, hB1⟩
    · obtain ⟨N, P, rfl, rfl, hN, hp⟩ := badK_nat hbad
      have hPP := prm_two hp
      rw [wholeUV_nat hN hp] at hi4 hl
      obtain ⟨L, d, hL, hd, hdw, hup, hcount⟩ := whole_table (P := P) (N := N) hPP.1
      rw [hL] at hl
      obtain ⟨g, cap, rfl, hg, hcells⟩ : ∃ g cap, v2 = .slice (some ⟨g, 0, none⟩) (L + 1) cap ∧ g < w4.heap.size ∧ ∀ i, i < L + 1 → w4.cell? ⟨g, i, none⟩ = some (.int .i64 (d i : Int)) := by
        rcases hi4 with ⟨_, _, _, h⟩ | ⟨g, cap, rfl, hg, hc⟩
        · have := congrArg List.length h; rw [hL] at this; simp at this
        · rw [hL] at hc ⊢
          exact ⟨g, cap, rfl, hg, fun i hi => by rw [hc i hi, hd i hi]⟩
      have hW : ∀ (n : Nat) (v : Bool), n ≤ 999999999 → whole P n = v → ∀ w, Calls Try.prog 21 #[.int .i64 n, .int .i64 P] w fun e w' => e = .returned (.bool v) ∧ Below w.heap.size w w' := fun n v h1 h2 w => by
        have h3 := implWhole n P hy w
        rw [wholeV_nat h1 hp, h2] at h3
        exact h3
      have hl0 : ((L : Int) + 1 == 0) = false := by simp; omega
      clear hi4 hbad hd hL hx
      have hcount' := hide hcount
      clear hcount
      go_wp2
      go_loopw [6] (fun i wr => ∃ k : Nat, k ≤ L + 1 ∧ i = .int .i64 k ∧ Below w4.heap.size w4 wr) (fun i _ => L + 1 - (intOf i).toNat)
      case atStart => exact ⟨0, by omega, rfl, Below.refl _ _⟩
      case round =>
        obtain ⟨k, hk, rfl, hB⟩ := hrel
        by_cases hlt : k < L + 1
        · have hck : wr.cell? ⟨g, k, none⟩ = some (.int .i64 (d k : Int)) := (hB.cell (by exact hg)).trans (hcells k hlt)
          have hdk := hdw k hlt
          have hWk := hW (d k) true (by omega) hdk.2
          have hdN : ¬ (N : Int) < (d k : Int) := by have := hdk.1; omega
          have hki : (k : Int) < (L : Int) + 1 := by omega
          have hgr : g < wr.heap.size := Nat.lt_of_lt_of_le hg hB.size
          clear hcells hdw hup hW hdk
          generalize d k = dk at *
          go_wp2_with (go_at_call 21; (with_reducible refine (hWk _).mono ?_); rintro e w' ⟨rfl, hB'⟩; have hck' := (hB'.cell (p := ⟨g, k, none⟩) (by exact hgr)).trans hck)
          go_roundw
          case rel => exact ⟨k + 1, by omega, by go_num, hB.trans (hB'.mono hB.size)⟩
          case measure => simp [intOf]; omega
        · obtain rfl : k = L + 1 := by omega
          have hBw := hB1.trans (hB.mono hB1.size)
          have hcw : ∀ i, i < L + 1 → wr.cell? ⟨g, i, none⟩ = some (.int .i64 (d i : Int)) := fun i hi => (hB.cell (by exact hg)).trans (hcells i hi)
          have hgw : g < wr.heap.size := Nat.lt_of_lt_of_le hg hB.size
          clear hcells hdw hB1 hg hlt
          have hup' : ∀ i, i + 1 < L + 1 → ((d i : Nat) : Int) < (d (i + 1) : Nat) := fun i hi => by have := hup i hi; omega
          by_cases h3 : N ≤ 300
          · have h3i : (N : Int) ≤ 300 := by omega
            have h3j : ¬ (300 : Int) < (N : Int) := by omega
            go_wp2
            obtain ⟨wo, rfl⟩ : ∃ wo : World, wo = wr := ⟨_, rfl⟩
            clear hB hup
            go_loopw [7, 8] (fun s i wi => ∃ n : Nat, n ≤ N + 1 ∧ i = .int .i64 n ∧ s = .int .i64 ((wholeU P n).length : Nat) ∧ Below wo.heap.size wo wi) (fun _ i _ => N + 1 - (intOf i).toNat)
            case atStart => exact ⟨0, by omega, rfl, rfl, Below.refl _ _⟩
            case round =>
              obtain ⟨n, hn, rfl, rfl, hB2⟩ := hrel
              by_cases hlt : n < N + 1
              · have hni : (n : Int) ≤ (N : Int) := by omega
                have hst := wholeU_count P n
                have hle := wholeU_len P n
                cases hv : whole P n with
                | true =>
                  have hWn := hW n true (by omega) hv
                  rw [hv, if_pos rfl] at hst
                  have hst' := hide hst
                  clear hst hcw hup' hv hW
                  go_wp2_with (go_at_call 21; (with_reducible refine (hWn _).mono ?_); rintro e w' ⟨rfl, hB'⟩)
                  go_roundw
                  case rel => exact ⟨n + 1, by omega, by go_num, by rw [hst'.out]; go_num, hB2.trans (hB'.mono hB2.size)⟩
                  case measure => simp [intOf]; omega
                | false =>
                  have hWn := hW n false (by omega) hv
                  rw [hv, if_neg (by simp)] at hst
                  have hst' := hide hst
                  clear hst hcw hup' hv hW
                  go_wp2_with (go_at_call 21; (with_reducible refine (hWn _).mono ?_); rintro e w' ⟨rfl, hB'⟩)
                  go_roundw
                  case rel => exact ⟨n + 1, by omega, by go_num, by rw [hst'.out]; rfl, hB2.trans (hB'.mono hB2.size)⟩
                  case measure => simp [intOf]; omega
              · obtain rfl : n = N + 1 := by omega
                rw [hcount'.out]
                have hA := ascend_in g cap (L + 1) (fun i => ((d i : Nat) : Int)) wr (by omega) (by omega) (fun i hi => (hB2.cell (by exact hgw)).trans (hcw i hi)) hup' (Nat.lt_of_lt_of_le hgw hB2.size)
                have hBz := hBw.trans (hB2.mono hBw.size)
                have hni : ¬ (N : Int) + 1 ≤ (N : Int) := by omega
                clear hcw hup' hW hcount' hlt
                go_wp2_with (go_at_call 27; (with_reducible refine hA.mono ?_); clear hA; rintro e w' ⟨rfl, hB'⟩; replace hBz := hBz.trans (hB'.mono hBz.size); clear hB')
                go_ret
                exact ⟨rfl, hBz⟩
          · have h3i : ¬ (N : Int) ≤ 300 := by omega
            have h3j : (300 : Int) < (N : Int) := by omega
            have hA := ascend_in g cap (L + 1) (fun i => ((d i : Nat) : Int)) wr (by omega) (by omega) hcw hup' hgw
            clear hcw hup' hup hW hcount' hB
            go_wp2
            refine wp_loop_rounds 1 ?_
            rw [rounds_succ]
            go_wp2_with (go_at_call 27; (with_reducible refine hA.mono ?_); clear hA; rintro e w' ⟨rfl, hB'⟩; replace hBw := hBw.trans (hB'.mono hBw.size); clear hB')
            go_ret
            exact ⟨rfl, hBw⟩
end Go.Proofs.Ytdhcdgmceiganaa
