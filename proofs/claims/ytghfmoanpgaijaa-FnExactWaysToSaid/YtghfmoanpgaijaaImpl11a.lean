/-
  The program's WaysOf and WaysTo: for every argument what they hand back.
-/
import Derived.Test.YtghfmoanpgaijaaImplCell
import Derived.Test.YtghfmoanpgaijaaMathZ
namespace Go.Proofs.Ytghfmoanpgaijaa
open Go.RowKit Go.Shelf

set_option maxHeartbeats 1000000 in
theorem implWaysOf (up : Int) (w : World) : Calls Try.prog 9 #[.int .i64 up] w fun e w' => e = .returned (.int .i64 (waysV up)) ∧ Below w.heap.size w w' := by
  by_cases hbad : up < 0 ∨ 30 < up
  · rw [waysV_bad hbad]
    go_enter Try.func9, Try.ntmps9
    go_wp2_with (go_at_call 22; refine (within_f _ _ _ (by omega)).mono ?_; rintro e w' ⟨rfl, rfl⟩)
    go_ret
    exact ⟨rfl, Below.refl _ _⟩
  · obtain ⟨u, rfl⟩ : ∃ u : Nat, up = u := ⟨up.toNat, by omega⟩
    have hu : u ≤ 30 := by omega
    have hv := hide (waysV_nat hu)
    have hC : ∀ w, Calls Try.prog 23 #[.int .i64 (2 * (u : Int)), .int .i64 u] w fun e w' => e = .returned (.int .i64 (bin (2 * u) u : Nat)) ∧ Below w.heap.size w w' := fun w => by
      have h := implCell ((2 * u : Nat) : Int) u w
      rwa [cellV_nat (by omega), show ((2 * u : Nat) : Int) = 2 * (u : Int) by omega] at h
    have hb := bin_le (2 * u) u
    have hb2 : (2 : Nat) ^ (2 * u) ≤ 1152921504606846976 := Nat.le_trans (Nat.pow_le_pow_right (by omega) (show 2 * u ≤ 60 by omega)) (by decide)
    have hq := tdiv_n (bin (2 * u) u) (u + 1)
    have hc : bin (2 * u) u / (u + 1) = catN u := rfl
    have hd := Nat.div_le_self (bin (2 * u) u) (u + 1)
    rw [hc] at hq hd
    have hq' : Int.tdiv ((bin (2 * u) u : Nat) : Int) ((u : Int) + 1) = (catN u : Int) := hq
    generalize bin (2 * u) u = B at *
    generalize catN u = C at *
    have hw1 : IntKind.i64.wrap (C : Int) = C := IntWalk.i64_in _ (by omega)
    have hz : ((u : Int) + 1 == 0) = false := by simp; omega
    clear hbad hc hq
    go_enter Try.func9, Try.ntmps9
    go_wp2_with (first | (go_at_call 22; refine (within_t _ _ _ (by omega) (by omega)).mono ?_; rintro e w' ⟨rfl, rfl⟩) | (go_at_call 23; (with_reducible refine (hC _).mono ?_); rintro e w1 ⟨rfl, hB⟩))
    go_ret
    exact ⟨ret_int hv.out.symm, hB⟩

set_option maxHeartbeats 1000000 in
theorem implWaysTo (up down : Int) (w : World) : Calls Try.prog 13 #[.int .i64 up, .int .i64 down] w fun e w' => e = .returned (.int .i64 (wayToV up down)) ∧ Below w.heap.size w w' := by
  by_cases hbad : up < 0 ∨ 30 < up ∨ down < 0 ∨ up < down
  · rw [wayToV_bad hbad]
    by_cases h1 : up < 0 ∨ 30 < up
    · clear hbad
      go_enter Try.func13, Try.ntmps13
      go_wp2_with (go_at_call 22; refine (within_f _ _ _ (by omega)).mono ?_; rintro e w' ⟨rfl, rfl⟩)
      go_ret
      exact ⟨rfl, Below.refl _ _⟩
    · have h2 : down < 0 ∨ up < down := by omega
      clear hbad
      go_enter Try.func13, Try.ntmps13
      go_wp2_with (first | (go_at_call 22; refine (within_t _ _ _ (by omega) (by omega)).mono ?_; rintro e w' ⟨rfl, rfl⟩) | (go_at_call 22; refine (within_f _ _ _ (by omega)).mono ?_; rintro e w' ⟨rfl, rfl⟩))
      go_ret
      exact ⟨rfl, Below.refl _ _⟩
  · obtain ⟨u, rfl⟩ : ∃ u : Nat, up = u := ⟨up.toNat, by omega⟩
    obtain ⟨d, rfl⟩ : ∃ d : Nat, down = d := ⟨down.toNat, by omega⟩
    have hu : u ≤ 30 := by omega
    have hd : d ≤ u := by omega
    have hv := hide (wayToV_nat hu hd)
    have hR : ∀ w, Calls Try.prog 26 #[.int .i64 ((u : Int) + (d : Int))] w fun e w' => ∃ g cap, e = .returned (.slice (some ⟨g, 0, none⟩) (u + d + 1) cap) ∧ (∀ k, k < u + d + 1 → w'.cell? ⟨g, k, none⟩ = some (.int .i64 (bin (u + d) k))) ∧ Below w.heap.size w w' := fun w => by
      have h := implRow_in (u + d) (by omega) w
      rw [show ((u + d : Nat) : Int) = (u : Int) + (d : Int) by omega] at h
      refine h.mono ?_
      rintro e w1 ⟨v, rfl, hown, hB⟩
      obtain ⟨g, cap, rfl, _, _, _, hcells⟩ := owns_open hown (by omega)
      exact ⟨g, cap, rfl, fun k hk => hcells k _ (by rw [List.getElem?_map, rowN, List.getElem?_map, List.getElem?_range hk]; rfl), hB⟩
    have hb := bin_le (u + d) d
    have hb2 : (2 : Nat) ^ (u + d) ≤ 1152921504606846976 := Nat.le_trans (Nat.pow_le_pow_right (by omega) (show u + d ≤ 60 by omega)) (by decide)
    by_cases h0 : d = 0
    · subst h0
      have hv2 : Hid (wayToV u (0 : Nat) = 1) := hide (by rw [hv.out]; rfl)
      have hb0 : bin (u + 0) 0 = 1 := bin_zero _
      clear hbad hv
      go_enter Try.func13, Try.ntmps13
      go_wp2_with (first
        | (go_at_call 22; refine (within_t _ _ _ (by omega) (by omega)).mono ?_; rintro e w' ⟨rfl, rfl⟩)
        | (go_at_call 26; (refine (hR _).mono ?_); rintro e w1 ⟨g, cap, rfl, hcells, hB⟩; have hC1 := cellAt_in g (u + 0 + 1) cap 0 _ w1 (by omega) (hcells 0 (by omega)); have hC2 := cellAt_out (some ⟨g, 0, none⟩) (u + 0 + 1) cap (-1) w1 (.inl (by omega)); rw [hb0] at hC1; clear hcells)
        | (go_at_call 27; (refine hC1.mono ?_); clear hC1; rintro e w' ⟨rfl, rfl⟩)
        | (go_at_call 27; (refine hC2.mono ?_); clear hC2; rintro e w' ⟨rfl, rfl⟩))
      go_ret
      exact ⟨ret_int hv2.out.symm, hB⟩
    · have hle : bin (u + d) (d - 1) < bin (u + d) d := by
        have h := (way_one u d hu hd).2.2.2
        unfold wayT at h
        rw [if_neg h0] at h
        omega
      have hw : wayT u d = bin (u + d) d - bin (u + d) (d - 1) := by unfold wayT; rw [if_neg h0]
      rw [hw] at hv
      obtain ⟨c, rfl⟩ : ∃ c, d = c + 1 := ⟨d - 1, by omega⟩
      have hR' : ∀ w, Calls Try.prog 26 #[.int .i64 ((u : Int) + ((c : Int) + 1))] w fun e w' => ∃ g cap, e = .returned (.slice (some ⟨g, 0, none⟩) (u + (c + 1) + 1) cap) ∧ Calls Try.prog 27 #[.slice (some ⟨g, 0, none⟩) (u + (c + 1) + 1) cap, .int .i64 ((c : Int) + 1)] w' (fun e w2 => e = .returned (.int .i64 (bin (u + (c + 1)) (c + 1) : Nat)) ∧ w' = w2) ∧ Calls Try.prog 27 #[.slice (some ⟨g, 0, none⟩) (u + (c + 1) + 1) cap, .int .i64 c] w' (fun e w2 => e = .returned (.int .i64 (bin (u + (c + 1)) c : Nat)) ∧ w' = w2) ∧ Below w.heap.size w w' := fun w => by
        refine (hR w).mono ?_
        rintro e w1 ⟨g, cap, rfl, hc, hB⟩
        exact ⟨g, cap, rfl, cellAt_in g _ cap (c + 1) _ w1 (by omega) (hc (c + 1) (by omega)), cellAt_in g _ cap c _ w1 (by omega) (hc c (by omega)), hB⟩
      rw [show c + 1 - 1 = c by omega] at hle hv
      have hsz : (((u + (c + 1) + 1 : Nat)) : Int) = (u : Int) + ((c : Int) + 1) + 1 := by omega
      generalize bin (u + (c + 1)) (c + 1) = B at *
      generalize bin (u + (c + 1)) c = A at *
      have hs : (B : Int) - (A : Int) = ((B - A : Nat) : Int) := by omega
      generalize B - A = C at *
      clear hbad hw hR h0
      go_enter Try.func13, Try.ntmps13
      go_wp2_with (first
        | (go_at_call 22; refine (within_t _ _ _ (by omega) (by omega)).mono ?_; rintro e w' ⟨rfl, rfl⟩)
        | (go_at_call 26; (refine (hR' _).mono ?_); rintro e w1 ⟨g, cap, rfl, hC1, hC2, hB⟩)
        | (go_at_call 27; (refine hC1.mono ?_); clear hC1; rintro e w' ⟨rfl, rfl⟩)
        | (go_at_call 27; (refine hC2.mono ?_); clear hC2; rintro e w' ⟨rfl, rfl⟩))
      go_ret
      exact ⟨ret_int hv.out.symm, hB⟩
end Go.Proofs.Ytghfmoanpgaijaa
