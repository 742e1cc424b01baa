/-
  The walk of the law FnLeftOf: it answers true at every code, and nothing that was there is written.
-/
import Derived.Test.YtfhpmpladbelaaaSpec4
import Derived.Test.YtfhpmpladbelaaaSpec4b
import Derived.Test.YtfhpmpladbelaaaLeft4
import Derived.Test.YtfhpmpladbelaaaImpl2c
import Derived.Test.YtfhpmpladbelaaaDraw4
import Derived.Test.YtfhpmpladbelaaaAlive
namespace Go.Proofs.Ytfhpmpladbelaaa
open Go.RowKit

/-- The model's row, read at one place. -/
theorem specRowLeft_at (r q k : Nat) (hr : r ≤ 300) (hq : 2 ≤ q) (hq2 : q ≤ 1000) (w : World) : Calls Try.prog 13 #[.int .i64 r, .int .i64 q] w fun e w' =>
    ∃ g cap, e = .returned (.slice (some ⟨g, 0, none⟩) (r + 1) cap) ∧ (k ≤ r → w'.cell? ⟨g, k, none⟩ = some (.int .i64 (leftN q r k))) ∧ Below w.heap.size w w' := by
  refine (specRowLeft_in r q hr hq hq2 w).mono fun e w' ⟨v, he, hown, hB⟩ => ?_
  rw [rowLN_len] at hown
  obtain ⟨g, cap, rfl, _, _, _, hc⟩ := owns_open hown (by omega)
  exact ⟨g, cap, he, fun hk => hc k _ (by unfold rowLN; rw [List.getElem?_map, rowLP_get q r (r + 1) k (by omega)]; rfl), hB⟩

set_option maxHeartbeats 4000000 in
theorem lawLeft (a0 : Option Addr) (len0 cap0 : Nat) (z0 : List Int) (w : World) (w0 : IsRow .u8 w a0 len0 cap0 z0) :
    Calls Try.prog 3 #[.slice a0 len0 cap0] w fun e w' => e = .returned (.bool true) ∧ Below w.heap.size w w' := by
  by_cases hbig : 1048576 < len0
  · go_enter Try.func3, Try.ntmps3
    go_wp2
    go_ret
    exact ⟨rfl, Below.refl _ _⟩
  · go_enter Try.func3, Try.ntmps3
    go_wp2_with fail
    go_at_call 9
    refine (drawLeft w a0 len0 cap0 z0 w0).mono ?_
    rintro e w1 ⟨⟨x, y, z, hx, hy, hz, rfl⟩, hB1⟩
    by_cases hbad : badL x y z
    · have hI : ∀ w, Calls Try.prog 10 #[.int .i64 x, .int .i64 y, .int .i64 z] w fun e w' => e = .returned (.int .i64 (-1)) ∧ Below w.heap.size w w' := fun w => by simpa [leftV_bad hbad] using implLeft x y z hz w
      have hS : ∀ w, Calls Try.prog 11 #[.int .i64 x, .int .i64 y, .int .i64 z] w fun e w' => e = .returned (.int .i64 (-1)) ∧ Below w.heap.size w w' := fun w => by simpa [leftV_bad hbad] using specLeft x y z w
      clear hbad
      go_wp2_with (first | (go_at_call 10; (with_reducible refine (hI _).mono ?_); rintro e w' ⟨rfl, hB'⟩; replace hB1 := hB1.trans (hB'.mono hB1.size); clear hB') | (go_at_call 11; (with_reducible refine (hS _).mono ?_); rintro e w' ⟨rfl, hB'⟩; replace hB1 := hB1.trans (hB'.mono hB1.size); clear hB') | (go_at_call 12; refine (alive_in _).mono ?_; rintro e w' ⟨rfl, hB'⟩; replace hB1 := hB1.trans (hB'.mono hB1.size); clear hB'))
      go_ret
      exact ⟨rfl, hB1⟩
    · unfold badL at hbad
      obtain ⟨B, rfl, hB⟩ := prmI_t (p := z) (by cases h : prmI z; exact absurd (.inr (.inr (.inr (.inr h)))) hbad; rfl)
      obtain ⟨N, rfl⟩ : ∃ r : Nat, x = r := ⟨x.toNat, by omega⟩
      obtain ⟨K, rfl⟩ : ∃ r : Nat, y = r := ⟨y.toNat, by omega⟩
      have hN : N ≤ 999999999 := by omega
      have hK : K ≤ 999999999 := by omega
      have hBB := prm_two hB
      clear hbad hx hy
      obtain ⟨m, hm⟩ : ∃ m, bin N K % B = m := ⟨_, rfl⟩
      have hI : ∀ w, Calls Try.prog 10 #[.int .i64 N, .int .i64 K, .int .i64 B] w fun e w' => e = .returned (.int .i64 m) ∧ Below w.heap.size w w' := fun w => by simpa only [leftV_nat hN hK hB, hm] using implLeft N K B hz w
      have hS : ∀ w, Calls Try.prog 11 #[.int .i64 N, .int .i64 K, .int .i64 B] w fun e w' => e = .returned (.int .i64 m) ∧ Below w.heap.size w w' := fun w => by simpa only [leftV_nat hN hK hB, hm] using specLeft N K B w
      have hml : m < B := by rw [← hm]; exact Nat.mod_lt _ (by omega)
      have hlz := left_zero hB N K
      rw [hm] at hlz
      obtain ⟨v, hv⟩ : ∃ v, und B K N = v := ⟨_, rfl⟩
      have hU : ∀ w, Calls Try.prog 14 #[.int .i64 K, .int .i64 N, .int .i64 B] w fun e w' => e = .returned (.bool v) ∧ Below w.heap.size w w' := fun w => by
        simpa [underV_nat hK hN hBB.1 (by omega), hv] using implUnder K N B w
      have hvm : ((m : Int) == 0) = !v := by
        rw [hv] at hlz
        cases v
        · simp at hlz ⊢; omega
        · simp at hlz ⊢; omega
      have hR : N ≤ 300 → ∀ w, Calls Try.prog 13 #[.int .i64 N, .int .i64 B] w fun e w' => ∃ g cap, e = .returned (.slice (some ⟨g, 0, none⟩) (N + 1) cap) ∧ (K ≤ N → w'.cell? ⟨g, K, none⟩ = some (.int .i64 m)) ∧ Below w.heap.size w w' := fun h w => by
        have := specRowLeft_at N B K h hBB.1 (by omega) w
        unfold leftN at this
        rw [hm] at this
        exact this
      have hover : N < K → m = 0 := fun h => by rw [← hm, bin_over N K h, Nat.zero_mod]
      obtain ⟨P1, hP1⟩ : ∃ P, N * B = P := ⟨_, rfl⟩
      obtain ⟨P2, hP2⟩ : ∃ P, K * B = P := ⟨_, rfl⟩
      have hP1i : (N : Int) * (B : Int) = (P1 : Int) := by rw [← hP1]; simp
      have hP2i : (K : Int) * (B : Int) = (P2 : Int) := by rw [← hP2]; simp
      have hP1b : P1 ≤ 999999999 * 13 := by rw [← hP1]; exact Nat.mul_le_mul hN hBB.2
      have hP2b : P2 ≤ 999999999 * 13 := by rw [← hP2]; exact Nat.mul_le_mul hK hBB.2
      have hT : P1 ≤ 999999999 → P2 ≤ 999999999 → ∀ w, Calls Try.prog 10 #[.int .i64 P1, .int .i64 P2, .int .i64 B] w fun e w' => e = .returned (.int .i64 m) ∧ Below w.heap.size w w' := fun h1 h2 w => by
        have h3 := implLeft P1 P2 B hz w
        rw [leftV_nat h1 h2 hB, ← hP1, ← hP2, lucas_times hB, hm, hP1, hP2] at h3
        exact h3
      have hw1 : IntKind.i64.wrap (P1 : Int) = P1 := IntWalk.i64_in _ (by omega)
      have hw2 : IntKind.i64.wrap (P2 : Int) = P2 := IntWalk.i64_in _ (by omega)
      have hm0 : ¬ (m : Int) < 0 := by omega
      clear hm hv hlz hP1 hP2
      rcases (show (999999999 : Int) < P1 ∨ (¬ (999999999 : Int) < P1 ∧ (999999999 : Int) < P2) ∨ (¬ (999999999 : Int) < P1 ∧ ¬ (999999999 : Int) < P2) by omega) with c1 | ⟨c1, c2⟩ | ⟨c1, c2⟩
      all_goals
        rcases (show ((N : Int) ≤ 300 ∧ (K : Int) < (N : Int) + 1) ∨ ((N : Int) ≤ 300 ∧ ¬ (K : Int) < (N : Int) + 1) ∨ (¬ (N : Int) ≤ 300) by omega) with ⟨c3, c4⟩ | ⟨c3, c4⟩ | c3
      all_goals
        first | (have hT2 := hT (by omega) (by omega)) | skip
        first | (have hm1 := hover (by omega)) | skip
        first | (have hR3 : ∀ w, Calls Try.prog 13 #[.int .i64 N, .int .i64 B] w fun e w' => ∃ g cap, e = .returned (.slice (some ⟨g, 0, none⟩) (N + 1) cap) ∧ w'.cell? ⟨g, K, none⟩ = some (.int .i64 m) ∧ Below w.heap.size w w' := fun w => (hR (by omega) w).mono fun e w' ⟨g, cap, h1, h2, h3⟩ => ⟨g, cap, h1, h2 (by omega), h3⟩) | (have hR3 := hR (by omega)) | skip
        clear hT hR
        cases v
      all_goals
        simp only [Bool.not_false, Bool.not_true] at hvm
        first | (exfalso; rw [hm1] at hvm; simp at hvm; done) | skip
      all_goals
        clear hover
        go_wp2_with (first | (go_at_call 10; (with_reducible refine (hI _).mono ?_); rintro e w' ⟨rfl, hB'⟩; replace hB1 := hB1.trans (hB'.mono hB1.size); clear hB') | (go_at_call 11; (with_reducible refine (hS _).mono ?_); rintro e w' ⟨rfl, hB'⟩; replace hB1 := hB1.trans (hB'.mono hB1.size); clear hB') | (go_at_call 13; (with_reducible refine (hR3 _).mono ?_); rintro e w' ⟨g, cap, rfl, hcg, hB'⟩; replace hB1 := hB1.trans (hB'.mono hB1.size); clear hB') | (go_at_call 14; (with_reducible refine (hU _).mono ?_); rintro e w' ⟨rfl, hB'⟩; replace hB1 := hB1.trans (hB'.mono hB1.size); clear hB') | (go_at_call 10; (with_reducible refine (hT2 _).mono ?_); rintro e w' ⟨rfl, hB'⟩; replace hB1 := hB1.trans (hB'.mono hB1.size); clear hB'))
        go_ret
        exact ⟨rfl, hB1⟩
end Go.Proofs.Ytfhpmpladbelaaa
