/-
  The walks of the laws FnStarOf and FnTripleOf: each answers true at every code, and nothing that was there is written.
-/
import Derived.Test.YtenkodofhacglaaSpec8b
import Derived.Test.YtenkodofhacglaaSpec8c
import Derived.Test.YtenkodofhacglaaImpl8
import Derived.Test.YtenkodofhacglaaDraw8
import Derived.Test.YtenkodofhacglaaLawKit
import Derived.Deep.QuietTactic
import Derived.BigQuiet
namespace Go.Proofs.Ytenkodofhacglaa
open Go.RowKit

set_option maxHeartbeats 2000000 in
theorem lawStar (a0 : Option Addr) (len0 cap0 : Nat) (z0 : List Int) (w : World) (w0 : IsRow .u8 w a0 len0 cap0 z0) :
    Calls Try.prog 6 #[.slice a0 len0 cap0] w fun e w' => e = .returned (.bool true) ∧ Below w.heap.size w w' := by
  by_cases hbig : 1048576 < len0
  · go_enter Try.func6, Try.ntmps6
    go_wp2
    go_ret
    exact ⟨rfl, Below.refl _ _⟩
  · go_enter Try.func6, Try.ntmps6
    go_wp2_with fail
    go_at_call 24
    refine (drawStar w a0 len0 cap0 z0 w0).mono ?_
    rintro e w1 ⟨⟨x, y, hx, hy, rfl⟩, hB1⟩
    go_wp2_with fail
    go_at_call 25
    refine (implStar x y _).mono ?_
    rintro e w2 ⟨v2, rfl, hown2, hB2⟩
    replace hB1 := hB1.trans (hB2.mono hB1.size)
    go_wp2_with fail
    go_at_call 27
    refine (specStar x y _).mono ?_
    rintro e w3 ⟨v3, rfl, hown3, hB3⟩
    replace hB1 := hB1.trans (hB3.mono hB1.size)
    have hi2 := (Ints.of_owns hown2).below hB3
    have hi3 := Ints.of_owns hown3
    have hl := starV_len x y
    clear hown2 hown3 hB2 hB3
    go_wp2_with fail
    go_at_call 26
    refine (sameInts_in _ _ (starV x y) _ (by omega) hi2 hi3).mono ?_
    rintro e w4 ⟨rfl, hB4⟩
    replace hB1 := hB1.trans (hB4.mono hB1.size)
    have hi4 := hi2.below hB4
    clear hi2 hi3 hB4
    by_cases hbad : badS x y
    · rw [starV_bad hbad] at hi4
      obtain ⟨a, c, rfl⟩ : ∃ a c, v2 = .slice a 0 c := by
        rcases hi4 with ⟨a, c, rfl, _⟩ | ⟨g, cap, rfl, _⟩
        · exact ⟨_, _, rfl⟩
        · exact ⟨_, _, rfl⟩
      clear hi4 hbad hl
      go_wp2_with (go_at_call 16; (with_reducible refine (alive_in _).mono ?_); rintro e w' ⟨rfl, hB'⟩; replace hB1 := hB1.trans (hB'.mono hB1.size); clear hB')
      go_ret
      exact ⟨rfl, hB1⟩
    · obtain ⟨N, K, rfl, rfl, hN, hK1, hK⟩ := badS_nat hbad
      rw [starV_nat hN hK1 hK] at hi4
      obtain ⟨g, cap, rfl, hg, hc⟩ : ∃ g cap, v2 = .slice (some ⟨g, 0, none⟩) 6 cap ∧ g < w4.heap.size ∧ ∀ i, i < 6 → w4.cell? ⟨g, i, none⟩ = some (.int .i64 (star N K i : Nat)) := by
        rcases hi4 with ⟨_, _, _, h⟩ | ⟨g, cap, rfl, hg, hc⟩
        · exact absurd h (by simp [starL])
        · refine ⟨g, cap, rfl, hg, fun i hi => ?_⟩
          rw [hc i (by simpa [starL] using hi)]
          have : (starL N K).getD i 0 = (star N K i : Nat) := by unfold starL; simp [List.getD, hi]
          rw [this]
      obtain ⟨h1, h2, h3⟩ := star_sum hK1 hK
      have hl := fun i => star_le (n := N) (k := K) hN i
      obtain ⟨C, hC⟩ : ∃ C, bin N K = C := ⟨_, rfl⟩
      have hCC : ∀ w, Calls Try.prog 28 #[.int .i64 N, .int .i64 K] w fun e w' => e = .returned (.int .i64 C) ∧ Below w.heap.size w w' := fun w => by
        have h := implCell N K w
        rwa [cellV_nat (by omega), hC] at h
      rw [hC] at h1 h2 h3
      clear hi4 hbad hx hy hC
      go_wp2_with (go_at_call 28; (with_reducible refine (hCC _).mono ?_); rintro e w5 ⟨rfl, hB'⟩; replace hB1 := hB1.trans (hB'.mono hB1.size))
      have d0 := (hB'.cell (p := ⟨g, 0, none⟩) (by exact hg)).trans (hc 0 (by omega))
      have d1 := (hB'.cell (p := ⟨g, 1, none⟩) (by exact hg)).trans (hc 1 (by omega))
      have d2 := (hB'.cell (p := ⟨g, 2, none⟩) (by exact hg)).trans (hc 2 (by omega))
      have d3 := (hB'.cell (p := ⟨g, 3, none⟩) (by exact hg)).trans (hc 3 (by omega))
      have d4 := (hB'.cell (p := ⟨g, 4, none⟩) (by exact hg)).trans (hc 4 (by omega))
      have d5 := (hB'.cell (p := ⟨g, 5, none⟩) (by exact hg)).trans (hc 5 (by omega))
      have l0 := hl 0
      have l1 := hl 1
      have l2 := hl 2
      have l3 := hl 3
      have l4 := hl 4
      have l5 := hl 5
      clear hc hl hCC hB'
      generalize star N K 0 = s0 at *
      generalize star N K 1 = s1 at *
      generalize star N K 2 = s2 at *
      generalize star N K 3 = s3 at *
      generalize star N K 4 = s4 at *
      generalize star N K 5 = s5 at *
      have i1 : (s0 : Int) + (s1 : Int) = (C : Int) := by omega
      have i2 : (C : Int) + (s5 : Int) = (s4 : Int) := by omega
      have i3 : (C : Int) + (s2 : Int) = (s3 : Int) := by omega
      have k1 : IntKind.i64.wrap (C : Int) = C := IntWalk.i64_in _ (by omega)
      have k2 : IntKind.i64.wrap (s4 : Int) = s4 := IntWalk.i64_in _ (by omega)
      have k3 : IntKind.i64.wrap (s3 : Int) = s3 := IntWalk.i64_in _ (by omega)
      clear h1 h2 h3
      go_quiet (fail)
      go_wp2
      go_ret
      exact ⟨rfl, ⟨hB1.os, hB1.tape, hB1.output, hB1.size, hB1.block⟩⟩

set_option maxHeartbeats 2000000 in
theorem lawTriple (a0 : Option Addr) (len0 cap0 : Nat) (z0 : List Int) (w : World) (w0 : IsRow .u8 w a0 len0 cap0 z0) :
    Calls Try.prog 7 #[.slice a0 len0 cap0] w fun e w' => e = .returned (.bool true) ∧ Below w.heap.size w w' := by
  by_cases hbig : 1048576 < len0
  · go_enter Try.func7, Try.ntmps7
    go_wp2
    go_ret
    exact ⟨rfl, Below.refl _ _⟩
  · go_enter Try.func7, Try.ntmps7
    go_wp2_with fail
    go_at_call 29
    refine (drawTriple w a0 len0 cap0 z0 w0).mono ?_
    rintro e w1 ⟨⟨x, y, z, hx, hy, hz, rfl⟩, hB1⟩
    by_cases hbad : badT8 x y z
    · obtain ⟨e1, e2, e3⟩ := trip_bad hbad
      have hI : ∀ w, Calls Try.prog 30 #[.int .i64 x, .int .i64 y, .int .i64 z] w fun e w' => e = .returned (.tuple #[.int .i64 (-1), .int .i64 (-1), .bool false]) ∧ Below w.heap.size w w' := fun w => by simpa only [e1, e2, e3] using implTriple8 x y z w
      have hS : ∀ w, Calls Try.prog 31 #[.int .i64 x, .int .i64 y, .int .i64 z] w fun e w' => e = .returned (.tuple #[.int .i64 (-1), .int .i64 (-1), .bool false]) ∧ Below w.heap.size w w' := fun w => by simpa only [e1, e2, e3] using specTriple8 x y z w
      clear hbad e1 e2 e3
      go_wp2_with (first | (go_at_call 30; (with_reducible refine (hI _).mono ?_); rintro e w' ⟨rfl, hB'⟩; replace hB1 := hB1.trans (hB'.mono hB1.size); clear hB') | (go_at_call 31; (with_reducible refine (hS _).mono ?_); rintro e w' ⟨rfl, hB'⟩; replace hB1 := hB1.trans (hB'.mono hB1.size); clear hB') | (go_at_call 16; (with_reducible refine (alive_in _).mono ?_); rintro e w' ⟨rfl, hB'⟩; replace hB1 := hB1.trans (hB'.mono hB1.size); clear hB'))
      go_ret
      exact ⟨rfl, hB1⟩
    · obtain ⟨N, K, W, rfl, rfl, rfl, hN, hK1, hK, hW⟩ := badT8_nat hbad
      have htr := triple hN hK1 hK
      have hW1 : ∀ V, V ≤ 1 → triP N K V = triP N K 0 ∧ triG N K V = triG N K 0 := fun V hV => by
        rcases (show V = 0 ∨ V = 1 by omega) with rfl | rfl
        · exact ⟨rfl, rfl⟩
        · exact ⟨htr.1.symm, htr.2.1.symm⟩
      obtain ⟨m, hm⟩ : ∃ m, triP N K 0 = m := ⟨_, rfl⟩
      obtain ⟨d, hd⟩ : ∃ d, triG N K 0 = d := ⟨_, rfl⟩
      have hd1 : 1 ≤ d := by
        rw [← hd]; exact Nat.gcd_pos_of_pos_right _ (star_pos hK1 hK _)
      have hdl : d ≤ 4294967296 := by
        rw [← hd]
        exact Nat.le_trans (Nat.le_of_dvd (star_pos hK1 hK _) (Nat.gcd_dvd_right _ _)) (star_le (by omega) _)
      have hdm : m % d = 0 := by
        rw [← hd, ← hm]
        have h1 : triG N K 0 ∣ star N K 4 := Nat.gcd_dvd_right _ _
        exact Nat.mod_eq_zero_of_dvd (Nat.dvd_trans h1 ⟨star N K 0 * star N K 2, by show star N K 0 * star N K (0 + 2) * star N K (0 + 4) = _; rw [Nat.mul_comm]⟩)
      have hml : m ≤ 1000000000000000000 := by rw [← hm]; exact htr.2.2
      have hI : ∀ w, Calls Try.prog 30 #[.int .i64 N, .int .i64 K, .int .i64 W] w fun e w' => e = .returned (.tuple #[.int .i64 m, .int .i64 d, .bool true]) ∧ Below w.heap.size w w' := fun w => by
        have h := implTriple8 N K W w
        rwa [tripN_nat hN hK1 hK hW, tripD_nat hN hK1 hK hW, tripB_nat hN hK1 hK hW, (hW1 W hW).1, (hW1 W hW).2, hm, hd] at h
      have hJ : ∀ w, Calls Try.prog 30 #[.int .i64 N, .int .i64 K, .int .i64 (1 - (W : Int))] w fun e w' => e = .returned (.tuple #[.int .i64 m, .int .i64 d, .bool true]) ∧ Below w.heap.size w w' := fun w => by
        have h := implTriple8 N K (1 - W : Nat) w
        rwa [tripN_nat hN hK1 hK (by omega), tripD_nat hN hK1 hK (by omega), tripB_nat hN hK1 hK (by omega), (hW1 (1 - W) (by omega)).1, (hW1 (1 - W) (by omega)).2, hm, hd, show ((1 - W : Nat) : Int) = 1 - (W : Int) by omega] at h
      have hS : ∀ w, Calls Try.prog 31 #[.int .i64 N, .int .i64 K, .int .i64 W] w fun e w' => e = .returned (.tuple #[.int .i64 m, .int .i64 d, .bool true]) ∧ Below w.heap.size w w' := fun w => by
        have h := specTriple8 N K W w
        rwa [tripN_nat hN hK1 hK hW, tripD_nat hN hK1 hK hW, tripB_nat hN hK1 hK hW, (hW1 W hW).1, (hW1 W hW).2, hm, hd] at h
      have hq := tmod_n m d
      rw [hdm] at hq
      have hd0 : ((d : Int) == 0) = false := by simp; omega
      have hdi : (1 : Int) ≤ (d : Int) := by omega
      have hdi2 : decide ((1 : Int) ≤ (d : Int)) = true := by simp; omega
      have hww : IntKind.i64.wrap (1 - (W : Int)) = 1 - (W : Int) := IntWalk.i64_in _ (by omega)
      clear hbad hx hy hz htr hW1 hm hd hdm
      go_wp2_with (first | (go_at_call 30; (with_reducible refine (hI _).mono ?_); rintro e w' ⟨rfl, hB'⟩; replace hB1 := hB1.trans (hB'.mono hB1.size); clear hB') | (go_at_call 31; (with_reducible refine (hS _).mono ?_); rintro e w' ⟨rfl, hB'⟩; replace hB1 := hB1.trans (hB'.mono hB1.size); clear hB') | (go_at_call 30; (with_reducible refine (hJ _).mono ?_); rintro e w' ⟨rfl, hB'⟩; replace hB1 := hB1.trans (hB'.mono hB1.size); clear hB'))
      go_ret
      exact ⟨rfl, hB1⟩
end Go.Proofs.Ytenkodofhacglaa
