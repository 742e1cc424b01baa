/-
  The program's WaysOf and WaysTo: for every argument what they hand back.
-/
import Derived.Test.YtghfmoanpgaijaaDoorImplCell
import Derived.Test.YtghfmoanpgaijaaDoorMathZ
namespace Go.Proofs.YtghfmoanpgaijaaDoor
open Go.RowKit Go.Shelf

set_option maxHeartbeats 1000000 in
theorem implWaysOf (up : Int) (w : World) : Calls Tryd.prog 18 #[.int .i64 up] w fun e w' => e = .returned (.int .i64 (waysV up)) ∧ Below w.heap.size w w' := by
  by_cases hbad : up < 0 ∨ 30 < up
  · rw [waysV_bad hbad]
    go_enter Tryd.func18, Tryd.ntmps18
    go_wp2_with (go_at_call 31; refine (within_f _ _ _ (by omega)).mono ?_; rintro e w' ⟨rfl, rfl⟩)
    go_ret
    exact ⟨rfl, Below.refl _ _⟩
  · obtain ⟨u, rfl⟩ : ∃ u : Nat, up = u := ⟨up.toNat, by omega⟩
    have hu : u ≤ 30 := by omega
    have hv := hide (waysV_nat hu)
    have hC : ∀ w, Calls Tryd.prog 29 #[.int .i64 (2 * (u : Int)), .int .i64 u] w fun e w' => e = .returned (.int .i64 (bin (2 * u) u : Nat)) ∧ Below w.heap.size w w' := fun w => by
      have h := implCell ((2 * u : Nat) : Int) u w
      rwa [cellV_nat (by omega), show ((2 * u : Nat) : Int) = 2 * (u : Int) by omega] at h
    have hb := bin_le (2 * u) u
    have hb2 : (2 : Nat) ^ (2 * u) ≤ 1152921504606846976 := Nat.le_trans (Nat.pow_le_pow_right (by omega) (show 2 * u ≤ 60 by omega)) (by decide)
    have hq := tdiv_n (bin (2 * u) u) (u + 1)
    have hc : bin (2 * u) u / (u + 1) = catN u := rfl
    have hd := Nat.div_le_self (bin (2 * u) u) (u + 1)
    rw [hc] at hq hd
    have hq' : Int.tdiv ((bin (2 * u) u : Nat) : Int) ((u : Int) + 1) = (catN u : Int) := hq
    generalize bin (2 * u) u = B at *
    generalize catN u = C at *
    have hw1 : IntKind.i64.wrap (C : Int) = C := IntWalk.i64_in _ (by omega)
    have hz : ((u : Int) + 1 == 0) = false := by simp; omega
    clear hbad hc hq
    go_enter Tryd.func18, Tryd.ntmps18
    go_wp2_with (first | (go_at_call 31; refine (within_t _ _ _ (by omega) (by omega)).mono ?_; rintro e w' ⟨rfl, rfl⟩) | (go_at_call 29; (with_reducible refine (hC _).mono ?_); rintro e w1 ⟨rfl, hB⟩))
    go_ret
    exact ⟨ret_int hv.out.symm, hB⟩

end Go.Proofs.YtghfmoanpgaijaaDoor
