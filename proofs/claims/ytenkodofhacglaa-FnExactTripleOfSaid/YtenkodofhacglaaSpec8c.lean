/-
  The model's TripleOf: for every argument what it hands back.
-/
import Derived.Test.YtenkodofhacglaaSpec8
import Derived.Test.YtenkodofhacglaaSpec8b
namespace Go.Proofs.Ytenkodofhacglaa
open Go.RowKit

set_option maxHeartbeats 2000000 in
theorem specTriple8 (row place which : Int) (w : World) : Calls Try.prog 31 #[.int .i64 row, .int .i64 place, .int .i64 which] w fun e w' =>
    e = .returned (.tuple #[.int .i64 (tripN row place which), .int .i64 (tripD row place which), .bool (tripB row place which)]) ∧ Below w.heap.size w w' := by
  have hSt := fun w => specStar row place w
  by_cases hbad : badT8 row place which
  · obtain ⟨e1, e2, e3⟩ := trip_bad hbad
    rw [e1, e2, e3]
    clear e1 e2 e3
    by_cases hs : badS row place
    · rw [starV_bad hs] at hSt
      have hem : ∀ w, Calls Try.prog 27 #[.int .i64 row, .int .i64 place] w fun e w' => ∃ a c, e = .returned (.slice a 0 c) ∧ Below w.heap.size w w' := fun w => (hSt w).mono fun e w' ⟨v, he, hown, hB⟩ => by
        rcases hown.2 with ⟨rfl, _⟩ | ⟨g, cap, cur, rfl, _⟩
        · exact ⟨_, _, he, hB⟩
        · exact ⟨_, _, he, hB⟩
      clear hSt hbad hs
      go_enter Try.func31, Try.ntmps31
      go_wp2_with (go_at_call 27; refine (hem _).mono ?_; rintro e w1 ⟨a, c, rfl, hB1⟩)
      go_ret3
      exact ⟨rfl, hB1⟩
    · obtain ⟨N, K, rfl, rfl, hN, hK1, hK⟩ := badS_nat hs
      rw [starV_nat hN hK1 hK] at hSt
      have hem : ∀ w, Calls Try.prog 27 #[.int .i64 N, .int .i64 K] w fun e w' => ∃ a c, e = .returned (.slice a 6 c) ∧ Below w.heap.size w w' := fun w => (hSt w).mono fun e w' ⟨v, he, hown, hB⟩ => by
        obtain ⟨g, cap, rfl, _, _, _, _⟩ := owns_open hown (by simp [starL])
        exact ⟨_, _, he, hB⟩
      unfold badT8 at hbad
      replace hbad := hbad.resolve_left hs
      clear hSt hs
      by_cases h20 : (20 : Int) < (N : Int)
      · clear hbad
        go_enter Try.func31, Try.ntmps31
        go_wp2_with (go_at_call 27; refine (hem _).mono ?_; rintro e w1 ⟨a, c, rfl, hB1⟩)
        go_ret3
        exact ⟨rfl, hB1⟩
      · go_enter Try.func31, Try.ntmps31
        go_wp2_with (first | (go_at_call 27; refine (hem _).mono ?_; rintro e w1 ⟨a, c, rfl, hB1⟩) | (go_at_call 39; refine (l1In_f _ _ _ _ (by omega)).mono ?_; rintro e w' ⟨rfl, rfl⟩))
        go_ret3
        exact ⟨rfl, hB1⟩
  · obtain ⟨N, K, W, rfl, rfl, rfl, hN, hK1, hK, hW⟩ := badT8_nat hbad
    rw [tripN_nat hN hK1 hK hW, tripD_nat hN hK1 hK hW, tripB_nat hN hK1 hK hW]
    rw [starV_nat (by omega) hK1 hK] at hSt
    have hp := triP_le hN hK1 hK hW
    have hl0 := star_le (n := N) (k := K) (by omega) W
    have hl2 := star_le (n := N) (k := K) (by omega) (W + 2)
    have hl4 := star_le (n := N) (k := K) (by omega) (W + 4)
    have hp0 := star_pos hK1 hK W
    have hp2 := star_pos hK1 hK (W + 2)
    have hp4 := star_pos hK1 hK (W + 4)
    have hem : ∀ w, Calls Try.prog 27 #[.int .i64 N, .int .i64 K] w fun e w' => ∃ g c, e = .returned (.slice (some ⟨g, 0, none⟩) 6 c) ∧ w'.cell? ⟨g, W, none⟩ = some (.int .i64 (star N K W : Nat)) ∧ w'.cell? ⟨g, W + 2, none⟩ = some (.int .i64 (star N K (W + 2) : Nat)) ∧ w'.cell? ⟨g, W + 4, none⟩ = some (.int .i64 (star N K (W + 4) : Nat)) ∧ Below w.heap.size w w' := fun w => (hSt w).mono fun e w' ⟨v, he, hown, hB⟩ => by
      obtain ⟨g, cap, rfl, _, _, _, hc⟩ := owns_open hown (by simp [starL])
      have hcc : ∀ i, i < 6 → w'.cell? ⟨g, i, none⟩ = some (.int .i64 (star N K i : Nat)) := fun i hi => hc i _ (by unfold starL; rw [List.getElem?_map, List.getElem?_map, List.getElem?_range hi]; rfl)
      exact ⟨g, cap, he, hcc W (by omega), hcc (W + 2) (by omega), hcc (W + 4) (by omega), hB⟩
    have hpe : triP N K W = star N K W * star N K (W + 2) * star N K (W + 4) := rfl
    have hge : triG N K W = Nat.gcd (Nat.gcd (star N K W) (star N K (W + 2))) (star N K (W + 4)) := rfl
    generalize triP N K W = Pn at *
    generalize triG N K W = Gn at *
    generalize star N K W = x at *
    generalize star N K (W + 2) = y at *
    generalize star N K (W + 4) = z at *
    obtain ⟨D, hD⟩ : ∃ D, x * y = D := ⟨_, rfl⟩
    have hDi : (x : Int) * (y : Int) = (D : Int) := by rw [← hD]; simp
    have hDl : D ≤ Pn := by rw [hpe, hD]; exact Nat.le_mul_of_pos_right _ hp4
    have hPi : (D : Int) * (z : Int) = (Pn : Int) := by rw [hpe, hD]; simp
    have hG1 := fun w => common_in x y (by omega) (by omega) w
    have hgl : Nat.gcd x y ≤ x := Nat.le_of_dvd hp0 (Nat.gcd_dvd_left _ _)
    have hG2 := fun w => common_in (Nat.gcd x y) z (by omega) (by omega) w
    rw [← hge] at hG2
    generalize Nat.gcd x y = g1 at *
    have hQ1 : ∀ w, Calls Try.prog 40 #[.int .i64 x, .int .i64 y] w fun e w' => e = .returned (.int .i64 (g1 : Nat)) ∧ w' = w := fun w => (hG1 w).mono fun e w' h => ⟨h.1, h.2.symm⟩
    have hQ2 : ∀ w, Calls Try.prog 40 #[.int .i64 (g1 : Nat), .int .i64 z] w fun e w' => e = .returned (.int .i64 (Gn : Nat)) ∧ w' = w := fun w => (hG2 w).mono fun e w' h => ⟨h.1, h.2.symm⟩
    have hw1 : IntKind.i64.wrap (D : Int) = D := IntWalk.i64_in _ (by omega)
    have hw2 : IntKind.i64.wrap (Pn : Int) = Pn := IntWalk.i64_in _ (by omega)
    have hWi : (W : Int) < 6 := by omega
    have hW2 : (W : Int) + 2 < 6 := by omega
    have hW4 : (W : Int) + 4 < 6 := by omega
    have hW2n : ((W : Int) + 2).toNat = W + 2 := by omega
    have hW4n : ((W : Int) + 4).toNat = W + 4 := by omega
    have h2 : (0 : Int) ≤ (W : Int) + 2 := by omega
    have h4 : (0 : Int) ≤ (W : Int) + 4 := by omega
    clear hSt hbad hpe hge hD hG1 hG2
    go_enter Try.func31, Try.ntmps31
    go_wp2_with (first | (go_at_call 27; refine (hem _).mono ?_; rintro e w1 ⟨g, c, rfl, hc0, hc2, hc4, hB1⟩) | (go_at_call 39; refine (l1In_t _ _ _ _ (by omega) (by omega)).mono ?_; rintro e w' ⟨rfl, rfl⟩))
    go_quiet ((go_at_call 40; with_reducible first | exact Calls.quiet_of_same (hQ1 _) | exact Calls.quiet_of_same (hQ2 _)))
    go_wp2
    go_ret3
    exact ⟨rfl, ⟨hB1.os, hB1.tape, hB1.output, hB1.size, hB1.block⟩⟩
end Go.Proofs.Ytenkodofhacglaa
