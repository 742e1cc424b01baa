/-
  The model's WaysOf, WaysTo and WayOk: for every argument what they hand back.
-/
import Derived.Test.YtghfmoanpgaijaaDoorSpecCell
import Derived.Test.YtghfmoanpgaijaaDoorMathZ
import Derived.Deep.QuietTactic
import Derived.BigQuiet
import Derived.Laws.DeepStrings4
namespace Go.Proofs.YtghfmoanpgaijaaDoor
open Go.RowKit

set_option maxHeartbeats 1000000 in
theorem specWayOk (l : List Nat) (hl : ∀ x ∈ l, x < 256) (hn : l.length ≤ 1048576) (w : World) : Calls Tryd.prog 12 #[.string (str l)] w fun e w' => e = .returned (.bool (wayL l)) ∧ w = w' := by
  have hsz := str_size l
  have hget := fun i h => str_get l i h hl
  obtain ⟨s, hs⟩ : ∃ s, str l = s := ⟨_, rfl⟩
  rw [hs] at hsz hget ⊢
  clear hs
  go_enter Tryd.func12, Tryd.ntmps12
  go_wp2
  go_loop [3, 4] (fun a b => ∃ k h : Nat, k ≤ l.length ∧ h ≤ k ∧ b = .int .i64 k ∧ a = .int .i64 h ∧ Hid (okW h (l.drop k) = okW 0 l)) (fun _ b => l.length - (intOf b).toNat)
  case atStart => exact ⟨0, 0, by omega, by omega, rfl, rfl, hide rfl⟩
  case round =>
    obtain ⟨k, h, hk, hh, rfl, rfl, hok⟩ := hrel
    by_cases hlt : k < l.length
    · have hki : (k : Int) < (s.size : Int) := by omega
      have hg := hget k
      have hd := drop_get l k hlt
      have hok' := hok.out
      obtain ⟨c, hc⟩ : ∃ c, l.getD k 0 = c := ⟨_, rfl⟩
      rw [hc] at hg hd
      rw [hd] at hok'
      have hks : ∀ hh : k < s.size, s[k].toNat = c := hg
      clear hget hc hok hg hd hl
      by_cases e1 : c = 40
      · subst e1
        have hnx := hide hok'
        clear hok'
        go_wp2
        go_round
        case rel => exact ⟨k + 1, h + 1, by omega, by omega, by go_num, by go_num, hnx⟩
        case measure => simp [intOf]; omega
      · by_cases e2 : c = 41
        · subst e2
          cases h with
          | zero =>
            have hv : wayL l = false := by unfold wayL; rw [← hok', okW_low]; rfl
            have hv' := hide hv
            clear hv hok'
            go_wp2
            go_ret
            exact ⟨by rw [hv'.out]; rfl, rfl⟩
          | succ m =>
            have hnx := hide hok'
            have hm : ¬ ((m + 1 : Nat) : Int) - 1 < 0 := by omega
            clear hok'
            go_wp2
            go_round
            case rel => exact ⟨k + 1, m, by omega, by omega, by go_num, by go_num, hnx⟩
            case measure => simp [intOf]; omega
        · have hv : wayL l = false := by unfold wayL; rw [← hok', okW_none h c _ e1 e2]; rfl
          have hb1 : ((c : Int) == 40) = false := by simp; omega
          have hb2 : ((c : Int) == 41) = false := by simp; omega
          have hv' := hide hv
          clear hv hok'
          go_wp2
          go_ret
          exact ⟨by rw [hv'.out]; rfl, rfl⟩
    · obtain rfl : k = l.length := by omega
      have hki : ¬ ((l.length : Nat) : Int) < (s.size : Int) := by omega
      have hok' := hok.out
      rw [drop_all, okW_nil] at hok'
      clear hget hok hl
      by_cases h0 : h = 0
      · subst h0
        have hv : wayL l = decide (l.length ≤ 14) := by unfold wayL; rw [← hok']; rfl
        have hv' := hide hv
        have hdl : ((l.length : Int) ≤ 14) ↔ (l.length ≤ 14) := by omega
        clear hv hok'
        go_wp2
        go_ret
        exact ⟨by rw [hv'.out]; rfl, rfl⟩
      · have hv : wayL l = false := by unfold wayL; rw [← hok']; simp [h0]
        have hb1 : ((h : Int) == 0) = false := by simp; omega
        have hv' := hide hv
        clear hv hok'
        go_wp2
        go_ret
        exact ⟨by rw [hv'.out]; rfl, rfl⟩

set_option maxHeartbeats 1000000 in
theorem specWaysTo (up down : Int) (w : World) : Calls Tryd.prog 38 #[.int .i64 up, .int .i64 down] w fun e w' => e = .returned (.int .i64 (wayToV up down)) ∧ Below w.heap.size w w' := by
  by_cases hbad : up < 0 ∨ 30 < up ∨ down < 0 ∨ up < down
  · rw [wayToV_bad hbad]
    by_cases h1 : up < 0 ∨ 30 < up
    · clear hbad
      go_enter Tryd.func38, Tryd.ntmps38
      go_wp2_with (go_at_call 34; refine (l1In_f _ _ _ _ (by omega)).mono ?_; rintro e w' ⟨rfl, rfl⟩)
      go_ret
      exact ⟨rfl, Below.refl _ _⟩
    · have h2 : down < 0 ∨ up < down := by omega
      clear hbad
      go_enter Tryd.func38, Tryd.ntmps38
      go_wp2_with (first | (go_at_call 34; refine (l1In_t _ _ _ _ (by omega) (by omega)).mono ?_; rintro e w' ⟨rfl, rfl⟩) | (go_at_call 34; refine (l1In_f _ _ _ _ (by omega)).mono ?_; rintro e w' ⟨rfl, rfl⟩))
      go_ret
      exact ⟨rfl, Below.refl _ _⟩
  · obtain ⟨u, rfl⟩ : ∃ u : Nat, up = u := ⟨up.toNat, by omega⟩
    obtain ⟨d, rfl⟩ : ∃ d : Nat, down = d := ⟨down.toNat, by omega⟩
    have hu : u ≤ 30 := by omega
    have hd : d ≤ u := by omega
    have hv := hide (wayToV_nat hu hd)
    by_cases h0 : d = 0
    · subst h0
      have hv2 : Hid (wayToV u (0 : Nat) = 1) := hide (by rw [hv.out]; rfl)
      clear hbad hv
      go_enter Tryd.func38, Tryd.ntmps38
      go_wp2_with (go_at_call 34; refine (l1In_t _ _ _ _ (by omega) (by omega)).mono ?_; rintro e w' ⟨rfl, rfl⟩)
      go_ret
      exact ⟨ret_int hv2.out.symm, Below.refl _ _⟩
    · have hC1 : ∀ w, Calls Tryd.prog 52 #[.int .i64 ((u : Int) + (d : Int)), .int .i64 d] w fun e w' => e = .returned (.int .i64 (bin (u + d) d : Nat)) ∧ Below w.heap.size w w' := fun w => by
        have h := specCell ((u + d : Nat) : Int) d w
        rwa [cellV_nat (by omega), show ((u + d : Nat) : Int) = (u : Int) + (d : Int) by omega] at h
      have hC2 : ∀ w, Calls Tryd.prog 52 #[.int .i64 ((u : Int) + (d : Int)), .int .i64 ((d : Int) - 1)] w fun e w' => e = .returned (.int .i64 (bin (u + d) (d - 1) : Nat)) ∧ Below w.heap.size w w' := fun w => by
        have h := specCell ((u + d : Nat) : Int) ((d - 1 : Nat) : Int) w
        rwa [cellV_nat (by omega), show ((u + d : Nat) : Int) = (u : Int) + (d : Int) by omega, show ((d - 1 : Nat) : Int) = (d : Int) - 1 by omega] at h
      have hle : bin (u + d) (d - 1) < bin (u + d) d := by
        have h := (way_one u d hu hd).2.2.2
        unfold wayT at h
        rw [if_neg h0] at h
        omega
      have hb := bin_le (u + d) d
      have hb2 : (2 : Nat) ^ (u + d) ≤ 1152921504606846976 := Nat.le_trans (Nat.pow_le_pow_right (by omega) (show u + d ≤ 60 by omega)) (by decide)
      have hw : wayT u d = bin (u + d) d - bin (u + d) (d - 1) := by unfold wayT; rw [if_neg h0]
      rw [hw] at hv
      generalize bin (u + d) d = B at *
      generalize bin (u + d) (d - 1) = A at *
      have hs : (B : Int) - (A : Int) = ((B - A : Nat) : Int) := by omega
      have hdz : ((d : Int) == 0) = false := by simp; omega
      generalize B - A = C at *
      clear hbad hw
      go_enter Tryd.func38, Tryd.ntmps38
      go_wp2_with (first | (go_at_call 34; refine (l1In_t _ _ _ _ (by omega) (by omega)).mono ?_; rintro e w' ⟨rfl, rfl⟩) | (go_at_call 52; (with_reducible refine (hC1 _).mono ?_); rintro e w1 ⟨rfl, hB⟩) | (go_at_call 52; (with_reducible refine (hC2 _).mono ?_); rintro e w2 ⟨rfl, hB2⟩))
      go_ret
      exact ⟨ret_int hv.out.symm, hB.trans (hB2.mono hB.size)⟩
end Go.Proofs.YtghfmoanpgaijaaDoor
