/-
  The walks of the laws FnWaysOf, FnWaysTo, FnWayOk, FnPlaceOf and FnFirstBack: each answers true at every code, and nothing that was there is written.
-/
import Derived.Test.YtghfmoanpgaijaaSpec11b
import Derived.Test.YtghfmoanpgaijaaSpec11c
import Derived.Test.YtghfmoanpgaijaaImpl11
import Derived.Test.YtghfmoanpgaijaaDraw11
import Derived.Test.YtghfmoanpgaijaaLawKit5
namespace Go.Proofs.Ytghfmoanpgaijaa
open Go Go.RowKit

theorem sumF_le (f : Nat → Nat) (m : Nat) : sumF f m ≤ sumF f (m + 1) := Nat.le_add_right _ _

set_option maxHeartbeats 2000000 in
theorem lawWaysOf (a0 : Option Addr) (len0 cap0 : Nat) (z0 : List Int) (w : World) (w0 : IsRow .u8 w a0 len0 cap0 z0) :
    Calls Try.prog 3 #[.slice a0 len0 cap0] w fun e w' => e = .returned (.bool true) ∧ Below w.heap.size w w' := by
  by_cases hbig : 1048576 < len0
  · go_enter Try.func3, Try.ntmps3
    go_wp2
    go_ret
    exact ⟨rfl, Below.refl _ _⟩
  · go_enter Try.func3, Try.ntmps3
    go_wp2_with fail
    go_at_call 8
    refine (drawWaysOf w a0 len0 cap0 z0 w0).mono ?_
    rintro e w1 ⟨⟨x, hx, rfl⟩, hB1⟩
    by_cases hbad : x < 0 ∨ 30 < x
    · have hI : ∀ w, Calls Try.prog 9 #[.int .i64 x] w fun e w' => e = .returned (.int .i64 (-1)) ∧ Below w.heap.size w w' := fun w => by simpa [waysV_bad hbad] using implWaysOf x w
      have hS : ∀ w, Calls Try.prog 10 #[.int .i64 x] w fun e w' => e = .returned (.int .i64 (-1)) ∧ Below w.heap.size w w' := fun w => by simpa [waysV_bad hbad] using specWaysOf x w
      clear hbad
      go_wp2_with (first | (go_at_call 9; (with_reducible refine (hI _).mono ?_); rintro e w' ⟨rfl, hB'⟩; replace hB1 := hB1.trans (hB'.mono hB1.size); clear hB') | (go_at_call 10; (with_reducible refine (hS _).mono ?_); rintro e w' ⟨rfl, hB'⟩; replace hB1 := hB1.trans (hB'.mono hB1.size); clear hB') | (go_at_call 11; (with_reducible refine (alive_in _).mono ?_); rintro e w' ⟨rfl, hB'⟩; replace hB1 := hB1.trans (hB'.mono hB1.size); clear hB'))
      go_ret
      exact ⟨rfl, hB1⟩
    · obtain ⟨N, rfl⟩ : ∃ N : Nat, x = N := ⟨x.toNat, by omega⟩
      have hN : N ≤ 30 := by omega
      obtain ⟨h1, h2, h3, h4⟩ := cat_one N hN
      have hJ : ∀ j : Nat, j ≤ 30 → ∀ w, Calls Try.prog 9 #[.int .i64 j] w fun e w' => e = .returned (.int .i64 (catN j : Nat)) ∧ Below w.heap.size w w' := fun j hj w => by
        have h := implWaysOf j w
        rwa [waysV_nat hj] at h
      have hS : ∀ w, Calls Try.prog 10 #[.int .i64 N] w fun e w' => e = .returned (.int .i64 (catN N : Nat)) ∧ Below w.heap.size w w' := fun w => by
        have h := specWaysOf N w
        rwa [waysV_nat hN] at h
      have hI := hJ N hN
      obtain ⟨C, hC⟩ : ∃ C, catN N = C := ⟨_, rfl⟩
      rw [hC] at hS hI h1 h2 h3 h4
      have hC0 : ¬ (C : Int) < 0 := by omega
      by_cases hN0 : N = 0
      · subst hN0
        have hC1 : C = 1 := by rw [← hC]; decide
        subst hC1
        replace hI : ∀ w, Calls Try.prog 9 #[.int .i64 0] w fun e w' => e = .returned (.int .i64 1) ∧ Below w.heap.size w w' := hI
        replace hS : ∀ w, Calls Try.prog 10 #[.int .i64 0] w fun e w' => e = .returned (.int .i64 1) ∧ Below w.heap.size w w' := hS
        clear hbad hx hC hJ h1 h2
        go_wp2_with (first | (go_at_call 9; (with_reducible refine (hI _).mono ?_); rintro e w' ⟨rfl, hB'⟩; replace hB1 := hB1.trans (hB'.mono hB1.size); clear hB') | (go_at_call 10; (with_reducible refine (hS _).mono ?_); rintro e w' ⟨rfl, hB'⟩; replace hB1 := hB1.trans (hB'.mono hB1.size); clear hB'))
        refine wp_loop_rounds 1 ?_
        rw [rounds_succ]
        go_wp2
        refine wp_loop_rounds 1 ?_
        rw [rounds_succ]
        go_wp2
        go_ret
        exact ⟨rfl, hB1⟩
      · have hsum := h1.resolve_left hN0
        have hpart := cat_part N hN hN0
        have hsum' := hide hsum
        have hstrip : Hid (C % 2 = 1 ↔ strip 2 (N + 1) = 1) := hide h2
        have hpart' := hide hpart
        have hJ' := hide hJ
        clear hbad hx hC h1 h2 hsum hpart hJ
        go_wp2_with (first | (go_at_call 9; (with_reducible refine (hI _).mono ?_); rintro e w' ⟨rfl, hB'⟩; replace hB1 := hB1.trans (hB'.mono hB1.size); clear hB') | (go_at_call 10; (with_reducible refine (hS _).mono ?_); rintro e w' ⟨rfl, hB'⟩; replace hB1 := hB1.trans (hB'.mono hB1.size); clear hB'))
        clear hI hS
        go_loopw [5, 6] (fun s i wr => ∃ k t : Nat, k ≤ N ∧ i = .int .i64 k ∧ s = .int .i64 t ∧ Hid (sumF (fun k => catN k * catN (N - 1 - k)) k = t) ∧ Below w.heap.size w wr) (fun _ i _ => N - (intOf i).toNat)
        case atStart => exact ⟨0, 0, Nat.zero_le _, rfl, rfl, hide rfl, hB1⟩
        case round =>
          clear hB1
          obtain ⟨k, t, hk, rfl, rfl, ht, hB⟩ := hrel
          by_cases hlt : k < N
          · have hA := hJ'.out k (by omega)
            have hD : ∀ w, Calls Try.prog 9 #[.int .i64 ((N : Int) - 1 - k)] w fun e w' => e = .returned (.int .i64 (catN (N - 1 - k) : Nat)) ∧ Below w.heap.size w w' := fun w => by
              have h := hJ'.out (N - 1 - k) (by omega) w
              rwa [show ((N - 1 - k : Nat) : Int) = (N : Int) - 1 - k by omega] at h
            have hst : Hid (sumF (fun k => catN k * catN (N - 1 - k)) (k + 1) = t + catN k * catN (N - 1 - k)) := hide (by rw [← ht.out]; rfl)
            have hb := hpart'.out (k + 1) (by omega)
            rw [hst.out] at hb
            generalize catN k = A at *
            generalize catN (N - 1 - k) = D at *
            obtain ⟨p, hp⟩ : ∃ p, A * D = p := ⟨_, rfl⟩
            rw [hp] at hst hb
            have hmul : (A : Int) * (D : Int) = (p : Int) := by rw [← hp]; simp
            have hki : (k : Int) < (N : Int) := by omega
            clear hp ht hJ' hpart'
            go_wp2_with (first | (go_at_call 9; (with_reducible refine (hA _).mono ?_); rintro e w' ⟨rfl, hB'⟩; replace hB := hB.trans (hB'.mono hB.size); clear hB') | (go_at_call 9; (with_reducible refine (hD _).mono ?_); rintro e w' ⟨rfl, hB'⟩; replace hB := hB.trans (hB'.mono hB.size); clear hB'))
            go_roundw
            case rel => exact ⟨k + 1, t + p, by omega, by go_num, by go_num, hst, hB⟩
            case measure => simp [intOf]; omega
          · obtain rfl : k = N := by omega
            have hts := ht.out
            rw [hsum'.out] at hts
            subst hts
            have hki : ¬ (k : Int) < (k : Int) := by omega
            clear hJ' hpart' hsum' ht
            go_wp2
            go_loop [7] (fun t => ∃ l : Nat, 0 < l ∧ l ≤ k + 1 ∧ t = .int .i64 l ∧ Hid (strip 2 l = strip 2 (k + 1))) (fun t => (intOf t).toNat)
            case atStart => exact ⟨k + 1, by omega, Nat.le_refl _, by go_num, hide rfl⟩
            case round =>
              obtain ⟨l, hl0, hlN, rfl, hs⟩ := hrel
              have hq1 : Int.tmod (l : Int) 2 = ((l % 2 : Nat) : Int) := tmod_n l 2
              have hq2 : Int.tdiv (l : Int) 2 = ((l / 2 : Nat) : Int) := tdiv_n l 2
              by_cases hz : l % 2 = 0
              · rw [hz] at hq1
                have hs' : Hid (strip 2 (l / 2) = strip 2 (k + 1)) := hide (by rw [← strip_yes (by decide) hl0 hz]; exact hs.out)
                have hp := div_pos_of_mod hl0 hz
                have hdl := Nat.div_lt_self hl0 (show 1 < 2 by decide)
                clear hs hz hstrip
                generalize l / 2 = q at *
                have hw1 : IntKind.i64.wrap (q : Int) = q := IntWalk.i64_in _ (by omega)
                go_wp2
                go_round
                case rel => exact ⟨q, hp, by omega, rfl, hs'⟩
                case measure => simp [intOf]; omega
              · have hr := Nat.mod_lt l (show 0 < 2 by decide)
                have hst : strip 2 (k + 1) = l := by rw [← hs.out, strip_no hz]
                have hiff := hstrip.out
                rw [hst] at hiff
                have hq3 : Int.tmod (C : Int) 2 = ((C % 2 : Nat) : Int) := tmod_n C 2
                have hr2 := Nat.mod_lt C (show 0 < 2 by decide)
                generalize l % 2 = r at *
                generalize C % 2 = r2 at *
                obtain rfl : r = 1 := by omega
                have hk0 : ((k : Int) == 0) = false := by simp; omega
                have hk1 : (0 : Int) < (k : Int) := by omega
                clear hs hst hz hstrip
                by_cases hl1 : l = 1
                · obtain rfl : r2 = 1 := hiff.2 hl1
                  subst hl1
                  clear hiff
                  go_wp2
                  go_ret
                  exact ⟨rfl, hB⟩
                · obtain rfl : r2 = 0 := by
                    have := mt hiff.1 hl1
                    omega
                  have hl2 : ((l : Int) == 1) = false := by simp; omega
                  clear hiff
                  go_wp2
                  go_ret
                  exact ⟨rfl, hB⟩

set_option maxHeartbeats 2000000 in
theorem lawWaysTo (a0 : Option Addr) (len0 cap0 : Nat) (z0 : List Int) (w : World) (w0 : IsRow .u8 w a0 len0 cap0 z0) :
    Calls Try.prog 4 #[.slice a0 len0 cap0] w fun e w' => e = .returned (.bool true) ∧ Below w.heap.size w w' := by
  by_cases hbig : 1048576 < len0
  · go_enter Try.func4, Try.ntmps4
    go_wp2
    go_ret
    exact ⟨rfl, Below.refl _ _⟩
  · go_enter Try.func4, Try.ntmps4
    go_wp2_with fail
    go_at_call 12
    refine (drawWaysTo w a0 len0 cap0 z0 w0).mono ?_
    rintro e w1 ⟨⟨x, y, hx, hy, rfl⟩, hB1⟩
    by_cases hbad : x < 0 ∨ 30 < x ∨ y < 0 ∨ x < y
    · have hI : ∀ w, Calls Try.prog 13 #[.int .i64 x, .int .i64 y] w fun e w' => e = .returned (.int .i64 (-1)) ∧ Below w.heap.size w w' := fun w => by simpa [wayToV_bad hbad] using implWaysTo x y w
      have hS : ∀ w, Calls Try.prog 14 #[.int .i64 x, .int .i64 y] w fun e w' => e = .returned (.int .i64 (-1)) ∧ Below w.heap.size w w' := fun w => by simpa [wayToV_bad hbad] using specWaysTo x y w
      clear hbad
      go_wp2_with (first | (go_at_call 13; (with_reducible refine (hI _).mono ?_); rintro e w' ⟨rfl, hB'⟩; replace hB1 := hB1.trans (hB'.mono hB1.size); clear hB') | (go_at_call 14; (with_reducible refine (hS _).mono ?_); rintro e w' ⟨rfl, hB'⟩; replace hB1 := hB1.trans (hB'.mono hB1.size); clear hB') | (go_at_call 11; (with_reducible refine (alive_in _).mono ?_); rintro e w' ⟨rfl, hB'⟩; replace hB1 := hB1.trans (hB'.mono hB1.size); clear hB'))
      go_ret
      exact ⟨rfl, hB1⟩
    · obtain ⟨u, rfl⟩ : ∃ N : Nat, x = N := ⟨x.toNat, by omega⟩
      obtain ⟨d, rfl⟩ : ∃ N : Nat, y = N := ⟨y.toNat, by omega⟩
      have hu : u ≤ 30 := by omega
      have hd : d ≤ u := by omega
      obtain ⟨h1, h2, h3, h4⟩ := way_one u d hu hd
      have hJ : ∀ a b : Nat, a ≤ 30 → b ≤ a → ∀ w, Calls Try.prog 13 #[.int .i64 a, .int .i64 b] w fun e w' => e = .returned (.int .i64 (wayT a b : Nat)) ∧ Below w.heap.size w w' := fun a b ha hb w => by
        have h := implWaysTo a b w
        rwa [wayToV_nat ha hb] at h
      have hS : ∀ w, Calls Try.prog 14 #[.int .i64 u, .int .i64 d] w fun e w' => e = .returned (.int .i64 (wayT u d : Nat)) ∧ Below w.heap.size w w' := fun w => by
        have h := specWaysTo u d w
        rwa [wayToV_nat hu hd] at h
      have hW : ∀ w, Calls Try.prog 9 #[.int .i64 u] w fun e w' => e = .returned (.int .i64 (catN u : Nat)) ∧ Below w.heap.size w w' := fun w => by
        have h := implWaysOf u w
        rwa [waysV_nat hu] at h
      have hI := hJ u d hu hd
      have hJ1 : 0 < d → wayT u (d - 1) ≤ 4000000000000000 ∧ ∀ w, Calls Try.prog 13 #[.int .i64 u, .int .i64 ((d : Int) - 1)] w fun e w' => e = .returned (.int .i64 (wayT u (d - 1) : Nat)) ∧ Below w.heap.size w w' := fun h0 => ⟨(way_one u (d - 1) hu (by omega)).2.2.1, fun w => by
        have h := hJ u (d - 1) hu (by omega) w
        rwa [show ((d - 1 : Nat) : Int) = (d : Int) - 1 by omega] at h⟩
      have hJ2 : d < u → wayT (u - 1) d ≤ 4000000000000000 ∧ ∀ w, Calls Try.prog 13 #[.int .i64 ((u : Int) - 1), .int .i64 d] w fun e w' => e = .returned (.int .i64 (wayT (u - 1) d : Nat)) ∧ Below w.heap.size w w' := fun h0 => ⟨(way_one (u - 1) d (by omega) (by omega)).2.2.1, fun w => by
        have h := hJ (u - 1) d (by omega) (by omega) w
        rwa [show ((u - 1 : Nat) : Int) = (u : Int) - 1 by omega] at h⟩
      have hwu : u = 0 → wayT u d = 1 := fun h0 => by
        have hd0 : d = 0 := by omega
        rw [h0, hd0]
        rfl
      generalize wayT u d = C at *
      generalize wayT u (d - 1) = A at *
      generalize wayT (u - 1) d = B at *
      generalize catN u = D at *
      have hC0 : ¬ (C : Int) < 0 := by omega
      clear hbad hx hy hJ
      by_cases hu0 : u = 0
      · subst hu0
        obtain rfl : d = 0 := by omega
        obtain rfl : C = 1 := hwu rfl
        obtain rfl : 1 = D := h2.resolve_left (by omega)
        replace hI : ∀ w, Calls Try.prog 13 #[.int .i64 0, .int .i64 0] w fun e w' => e = .returned (.int .i64 1) ∧ Below w.heap.size w w' := hI
        replace hS : ∀ w, Calls Try.prog 14 #[.int .i64 0, .int .i64 0] w fun e w' => e = .returned (.int .i64 1) ∧ Below w.heap.size w w' := hS
        replace hW : ∀ w, Calls Try.prog 9 #[.int .i64 0] w fun e w' => e = .returned (.int .i64 1) ∧ Below w.heap.size w w' := hW
        clear hwu h1 h2 hJ1 hJ2
        go_wp2_with (first | (go_at_call 13; (with_reducible refine (hI _).mono ?_); rintro e w' ⟨rfl, hB'⟩; replace hB1 := hB1.trans (hB'.mono hB1.size); clear hB') | (go_at_call 14; (with_reducible refine (hS _).mono ?_); rintro e w' ⟨rfl, hB'⟩; replace hB1 := hB1.trans (hB'.mono hB1.size); clear hB') | (go_at_call 9; (with_reducible refine (hW _).mono ?_); rintro e w' ⟨rfl, hB'⟩; replace hB1 := hB1.trans (hB'.mono hB1.size); clear hB'))
        go_ret
        exact ⟨rfl, hB1⟩
      · have hsum := h1.resolve_left hu0
        have huz : ((u : Int) == 0) = false := by simp; omega
        have hui : (0 : Int) < (u : Int) := by omega
        clear hwu h1
        by_cases hd0 : 0 < d
        · obtain ⟨hA, hJ1⟩ := hJ1 hd0
          have hdi : (0 : Int) < (d : Int) := by omega
          rw [if_pos hd0] at hsum
          by_cases hdu : d < u
          · obtain ⟨hBl, hJ2⟩ := hJ2 hdu
            have hdui : (d : Int) < (u : Int) := by omega
            rw [if_pos hdu] at hsum
            have hs : (A : Int) + (B : Int) = (C : Int) := by omega
            clear h2 hsum
            go_wp2_with (first | (go_at_call 13; (with_reducible refine (hI _).mono ?_); rintro e w' ⟨rfl, hB'⟩; replace hB1 := hB1.trans (hB'.mono hB1.size); clear hB') | (go_at_call 14; (with_reducible refine (hS _).mono ?_); rintro e w' ⟨rfl, hB'⟩; replace hB1 := hB1.trans (hB'.mono hB1.size); clear hB') | (go_at_call 13; (with_reducible refine (hJ1 _).mono ?_); rintro e w' ⟨rfl, hB'⟩; replace hB1 := hB1.trans (hB'.mono hB1.size); clear hB') | (go_at_call 13; (with_reducible refine (hJ2 _).mono ?_); rintro e w' ⟨rfl, hB'⟩; replace hB1 := hB1.trans (hB'.mono hB1.size); clear hB'))
            go_ret
            exact ⟨rfl, hB1⟩
          · have hdui : ¬ (d : Int) < (u : Int) := by omega
            obtain rfl : C = D := h2.resolve_left hdu
            rw [if_neg hdu, Nat.add_zero] at hsum
            subst hsum
            clear h2 hJ2
            go_wp2_with (first | (go_at_call 13; (with_reducible refine (hI _).mono ?_); rintro e w' ⟨rfl, hB'⟩; replace hB1 := hB1.trans (hB'.mono hB1.size); clear hB') | (go_at_call 14; (with_reducible refine (hS _).mono ?_); rintro e w' ⟨rfl, hB'⟩; replace hB1 := hB1.trans (hB'.mono hB1.size); clear hB') | (go_at_call 13; (with_reducible refine (hJ1 _).mono ?_); rintro e w' ⟨rfl, hB'⟩; replace hB1 := hB1.trans (hB'.mono hB1.size); clear hB') | (go_at_call 9; (with_reducible refine (hW _).mono ?_); rintro e w' ⟨rfl, hB'⟩; replace hB1 := hB1.trans (hB'.mono hB1.size); clear hB'))
            go_ret
            exact ⟨rfl, hB1⟩
        · obtain rfl : d = 0 := by omega
          have hdu : 0 < u := by omega
          obtain ⟨hBl, hJ2⟩ := hJ2 hdu
          rw [if_neg hd0, if_pos hdu, Nat.zero_add] at hsum
          subst hsum
          replace hI : ∀ w, Calls Try.prog 13 #[.int .i64 u, .int .i64 0] w fun e w' => e = .returned (.int .i64 C) ∧ Below w.heap.size w w' := hI
          replace hS : ∀ w, Calls Try.prog 14 #[.int .i64 u, .int .i64 0] w fun e w' => e = .returned (.int .i64 C) ∧ Below w.heap.size w w' := hS
          replace hJ2 : ∀ w, Calls Try.prog 13 #[.int .i64 ((u : Int) - 1), .int .i64 0] w fun e w' => e = .returned (.int .i64 C) ∧ Below w.heap.size w w' := hJ2
          clear h2 hJ1
          go_wp2_with (first | (go_at_call 13; (with_reducible refine (hI _).mono ?_); rintro e w' ⟨rfl, hB'⟩; replace hB1 := hB1.trans (hB'.mono hB1.size); clear hB') | (go_at_call 14; (with_reducible refine (hS _).mono ?_); rintro e w' ⟨rfl, hB'⟩; replace hB1 := hB1.trans (hB'.mono hB1.size); clear hB') | (go_at_call 13; (with_reducible refine (hJ2 _).mono ?_); rintro e w' ⟨rfl, hB'⟩; replace hB1 := hB1.trans (hB'.mono hB1.size); clear hB'))
          go_ret
          exact ⟨rfl, hB1⟩
end Go.Proofs.Ytghfmoanpgaijaa
