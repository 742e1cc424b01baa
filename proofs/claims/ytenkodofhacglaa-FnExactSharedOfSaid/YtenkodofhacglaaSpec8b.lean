/-
  The model's StarOf: for every argument what it hands back.
-/
import Derived.Test.YtenkodofhacglaaSpecCell
import Derived.Test.YtenkodofhacglaaVals8
namespace Go.Proofs.Ytenkodofhacglaa
open Go.RowKit

set_option maxHeartbeats 1000000 in
theorem specStar (row place : Int) (w : World) : Calls Try.prog 27 #[.int .i64 row, .int .i64 place] w fun e w' =>
    ∃ v, e = .returned v ∧ w'.ownsRow w.heap.size 3 1 v (starV row place).length ((starV row place).map (Value.int .i64)) ∧ Below w.heap.size w w' := by
  by_cases hbad : badS row place
  · rw [starV_bad hbad]
    unfold badS at hbad
    by_cases hr : row < 2 ∨ 30 < row
    all_goals
      go_enter Try.func27, Try.ntmps27
      go_wp2_with (first | (go_at_call 39; refine (l1In_t _ _ _ _ (by omega) (by omega)).mono ?_; rintro e w' ⟨rfl, rfl⟩) | (go_at_call 39; refine (l1In_f _ _ _ _ (by omega)).mono ?_; rintro e w' ⟨rfl, rfl⟩))
      go_ret
      exact ⟨_, rfl, World.ownsRow_made _ _ _ (Nat.le_refl _) (by decide) rfl, (Below.refl _ _).alloc (Nat.le_refl _) _⟩
  · obtain ⟨N, K, rfl, rfl, hN, hK1, hK⟩ := badS_nat hbad
    rw [starV_nat hN hK1 hK]
    have hcell : ∀ (a b : Nat) (x y : Int), a ≤ 60 → (a : Int) = x → (b : Int) = y → ∀ w, Calls Try.prog 47 #[.int .i64 x, .int .i64 y] w fun e w' => e = .returned (.int .i64 (bin a b : Nat)) ∧ Below w.heap.size w w' := fun a b x y ha hx hy w => by
      subst hx hy
      have h := specCell a b w
      rwa [cellV_nat ha] at h
    have hC0 := hcell (N - 1) (K - 1) ((N : Int) - 1) ((K : Int) - 1) (by omega) (by omega) (by omega)
    have hC1 := hcell (N - 1) K ((N : Int) - 1) K (by omega) (by omega) rfl
    have hC2 := hcell N (K + 1) N ((K : Int) + 1) (by omega) rfl (by omega)
    have hC3 := hcell (N + 1) (K + 1) ((N : Int) + 1) ((K : Int) + 1) (by omega) (by omega) (by omega)
    have hC4 := hcell (N + 1) K ((N : Int) + 1) K (by omega) (by omega) rfl
    have hC5 := hcell N (K - 1) N ((K : Int) - 1) (by omega) rfl (by omega)
    rw [starL_lit]
    obtain ⟨s0, e0⟩ : ∃ s, bin (N - 1) (K - 1) = s := ⟨_, rfl⟩
    obtain ⟨s1, e1⟩ : ∃ s, bin (N - 1) K = s := ⟨_, rfl⟩
    obtain ⟨s2, e2⟩ : ∃ s, bin N (K + 1) = s := ⟨_, rfl⟩
    obtain ⟨s3, e3⟩ : ∃ s, bin (N + 1) (K + 1) = s := ⟨_, rfl⟩
    obtain ⟨s4, e4⟩ : ∃ s, bin (N + 1) K = s := ⟨_, rfl⟩
    obtain ⟨s5, e5⟩ : ∃ s, bin N (K - 1) = s := ⟨_, rfl⟩
    have es0 : star N K 0 = s0 := e0
    have es1 : star N K 1 = s1 := e1
    have es2 : star N K 2 = s2 := e2
    have es3 : star N K 3 = s3 := e3
    have es4 : star N K 4 = s4 := e4
    have es5 : star N K 5 = s5 := e5
    rw [es0, es1, es2, es3, es4, es5]
    rw [e0] at hC0
    rw [e1] at hC1
    rw [e2] at hC2
    rw [e3] at hC3
    rw [e4] at hC4
    rw [e5] at hC5
    clear hcell e0 e1 e2 e3 e4 e5 es0 es1 es2 es3 es4 es5 hbad
    have hB0 := Below.refl w.heap.size w
    go_enter Try.func27, Try.ntmps27
    go_wp2_with (first
      | (go_at_call 39; refine (l1In_t _ _ _ _ (by omega) (by omega)).mono ?_; rintro e w' ⟨rfl, rfl⟩)
      | (go_at_call 47; (with_reducible refine (hC0 _).mono ?_); rintro e w' ⟨rfl, hB'⟩; replace hB0 := hB0.trans (hB'.mono hB0.size); clear hB')
      | (go_at_call 47; (with_reducible refine (hC1 _).mono ?_); rintro e w' ⟨rfl, hB'⟩; replace hB0 := hB0.trans (hB'.mono hB0.size); clear hB')
      | (go_at_call 47; (with_reducible refine (hC2 _).mono ?_); rintro e w' ⟨rfl, hB'⟩; replace hB0 := hB0.trans (hB'.mono hB0.size); clear hB')
      | (go_at_call 47; (with_reducible refine (hC3 _).mono ?_); rintro e w' ⟨rfl, hB'⟩; replace hB0 := hB0.trans (hB'.mono hB0.size); clear hB')
      | (go_at_call 47; (with_reducible refine (hC4 _).mono ?_); rintro e w' ⟨rfl, hB'⟩; replace hB0 := hB0.trans (hB'.mono hB0.size); clear hB')
      | (go_at_call 47; (with_reducible refine (hC5 _).mono ?_); rintro e w' ⟨rfl, hB'⟩; replace hB0 := hB0.trans (hB'.mono hB0.size); clear hB'))
    go_ret
    exact ⟨_, rfl, World.ownsRow_lit _ #[.int .i64 s0, .int .i64 s1, .int .i64 s2, .int .i64 s3, .int .i64 s4, .int .i64 s5] 6 hB0.size (by decide) rfl, hB0.alloc hB0.size _⟩
end Go.Proofs.Ytenkodofhacglaa
