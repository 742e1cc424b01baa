/-
  The model's WaysOf, WaysTo and WayOk: for every argument what they hand back.
-/
import Derived.Test.YtghfmoanpgaijaaSpecCell
import Derived.Test.YtghfmoanpgaijaaMathZ
import Derived.Deep.QuietTactic
import Derived.BigQuiet
import Derived.Laws.DeepStrings4
namespace Go.Proofs.Ytghfmoanpgaijaa
open Go.RowKit

set_option maxHeartbeats 1000000 in
theorem specWaysOf (up : Int) (w : World) : Calls Try.prog 10 #[.int .i64 up] w fun e w' => e = .returned (.int .i64 (waysV up)) ∧ Below w.heap.size w w' := by
  by_cases hbad : up < 0 ∨ 30 < up
  · rw [waysV_bad hbad]
    go_enter Try.func10, Try.ntmps10
    go_wp2_with (go_at_call 24; refine (l1In_f _ _ _ _ (by omega)).mono ?_; rintro e w' ⟨rfl, rfl⟩)
    go_ret
    exact ⟨rfl, Below.refl _ _⟩
  · obtain ⟨u, rfl⟩ : ∃ u : Nat, up = u := ⟨up.toNat, by omega⟩
    have hu : u ≤ 30 := by omega
    have hv := hide (waysV_nat hu)
    have hC : ∀ w, Calls Try.prog 25 #[.int .i64 (2 * (u : Int)), .int .i64 u] w fun e w' => e = .returned (.int .i64 (bin (2 * u) u : Nat)) ∧ Below w.heap.size w w' := fun w => by
      have h := specCell ((2 * u : Nat) : Int) u w
      rwa [cellV_nat (by omega), show ((2 * u : Nat) : Int) = 2 * (u : Int) by omega] at h
    have hb := bin_le (2 * u) u
    have hb2 : (2 : Nat) ^ (2 * u) ≤ 1152921504606846976 := Nat.le_trans (Nat.pow_le_pow_right (by omega) (show 2 * u ≤ 60 by omega)) (by decide)
    have hq := tdiv_n (bin (2 * u) u) (u + 1)
    have hc : bin (2 * u) u / (u + 1) = catN u := rfl
    have hd := Nat.div_le_self (bin (2 * u) u) (u + 1)
    rw [hc] at hq hd
    have hq' : Int.tdiv ((bin (2 * u) u : Nat) : Int) ((u : Int) + 1) = (catN u : Int) := hq
    generalize bin (2 * u) u = B at *
    generalize catN u = C at *
    have hw1 : IntKind.i64.wrap (C : Int) = C := IntWalk.i64_in _ (by omega)
    have hz : ((u : Int) + 1 == 0) = false := by simp; omega
    clear hbad hc hq
    go_enter Try.func10, Try.ntmps10
    go_wp2_with (first | (go_at_call 24; refine (l1In_t _ _ _ _ (by omega) (by omega)).mono ?_; rintro e w' ⟨rfl, rfl⟩) | (go_at_call 25; (with_reducible refine (hC _).mono ?_); rintro e w1 ⟨rfl, hB⟩))
    go_ret
    exact ⟨ret_int hv.out.symm, hB⟩

set_option maxHeartbeats 1000000 in
theorem specWaysTo (up down : Int) (w : World) : Calls Try.prog 14 #[.int .i64 up, .int .i64 down] w fun e w' => e = .returned (.int .i64 (wayToV up down)) ∧ Below w.heap.size w w' := by
  by_cases hbad : up < 0 ∨ 30 < up ∨ down < 0 ∨ up < down
  · rw [wayToV_bad hbad]
    by_cases h1 : up < 0 ∨ 30 < up
    · clear hbad
      go_enter Try.func14, Try.ntmps14
      go_wp2_with (go_at_call 24; refine (l1In_f _ _ _ _ (by omega)).mono ?_; rintro e w' ⟨rfl, rfl⟩)
      go_ret
      exact ⟨rfl, Below.refl _ _⟩
    · have h2 : down < 0 ∨ up < down := by omega
      clear hbad
      go_enter Try.func14, Try.ntmps14
      go_wp2_with (first | (go_at_call 24; refine (l1In_t _ _ _ _ (by omega) (by omega)).mono ?_; rintro e w' ⟨rfl, rfl⟩) | (go_at_call 24; refine (l1In_f _ _ _ _ (by omega)).mono ?_; rintro e w' ⟨rfl, rfl⟩))
      go_ret
      exact ⟨rfl, Below.refl _ _⟩
  · obtain ⟨u, rfl⟩ : ∃ u : Nat, up = u := ⟨up.toNat, by omega⟩
    obtain ⟨d, rfl⟩ : ∃ d : Nat, down = d := ⟨down.toNat, by omega⟩
    have hu : u ≤ 30 := by omega
    have hd : d ≤ u := by omega
    have hv := hide (wayToV_nat hu hd)
    by_cases h0 : d = 0
    · subst h0
      have hv2 : Hid (wayToV u (0 : Nat) = 1) := hide (by rw [hv.out]; rfl)
      clear hbad hv
      go_enter Try.func14, Try.ntmps14
      go_wp2_with (go_at_call 24; refine (l1In_t _ _ _ _ (by omega) (by omega)).mono ?_; rintro e w' ⟨rfl, rfl⟩)
      go_ret
      exact ⟨ret_int hv2.out.symm, Below.refl _ _⟩
    · have hC1 : ∀ w, Calls Try.prog 25 #[.int .i64 ((u : Int) + (d : Int)), .int .i64 d] w fun e w' => e = .returned (.int .i64 (bin (u + d) d : Nat)) ∧ Below w.heap.size w w' := fun w => by
        have h := specCell ((u + d : Nat) : Int) d w
        rwa [cellV_nat (by omega), show ((u + d : Nat) : Int) = (u : Int) + (d : Int) by omega] at h
      have hC2 : ∀ w, Calls Try.prog 25 #[.int .i64 ((u : Int) + (d : Int)), .int .i64 ((d : Int) - 1)] w fun e w' => e = .returned (.int .i64 (bin (u + d) (d - 1) : Nat)) ∧ Below w.heap.size w w' := fun w => by
        have h := specCell ((u + d : Nat) : Int) ((d - 1 : Nat) : Int) w
        rwa [cellV_nat (by omega), show ((u + d : Nat) : Int) = (u : Int) + (d : Int) by omega, show ((d - 1 : Nat) : Int) = (d : Int) - 1 by omega] at h
      have hle : bin (u + d) (d - 1) < bin (u + d) d := by
        have h := (way_one u d hu hd).2.2.2
        unfold wayT at h
        rw [if_neg h0] at h
        omega
      have hb := bin_le (u + d) d
      have hb2 : (2 : Nat) ^ (u + d) ≤ 1152921504606846976 := Nat.le_trans (Nat.pow_le_pow_right (by omega) (show u + d ≤ 60 by omega)) (by decide)
      have hw : wayT u d = bin (u + d) d - bin (u + d) (d - 1) := by unfold wayT; rw [if_neg h0]
      rw [hw] at hv
      generalize bin (u + d) d = B at *
      generalize bin (u + d) (d - 1) = A at *
      have hs : (B : Int) - (A : Int) = ((B - A : Nat) : Int) := by omega
      have hdz : ((d : Int) == 0) = false := by simp; omega
      generalize B - A = C at *
      clear hbad hw
      go_enter Try.func14, Try.ntmps14
      go_wp2_with (first | (go_at_call 24; refine (l1In_t _ _ _ _ (by omega) (by omega)).mono ?_; rintro e w' ⟨rfl, rfl⟩) | (go_at_call 25; (with_reducible refine (hC1 _).mono ?_); rintro e w1 ⟨rfl, hB⟩) | (go_at_call 25; (with_reducible refine (hC2 _).mono ?_); rintro e w2 ⟨rfl, hB2⟩))
      go_ret
      exact ⟨ret_int hv.out.symm, hB.trans (hB2.mono hB.size)⟩
end Go.Proofs.Ytghfmoanpgaijaa
