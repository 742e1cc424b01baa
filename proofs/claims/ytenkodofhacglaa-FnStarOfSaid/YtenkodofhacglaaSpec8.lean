/-
  The model's SharedOf, LeastOver and LeastOfAll: for every argument what they hand back.
-/
import Derived.Test.YtenkodofhacglaaSpecRow
import Derived.Test.YtenkodofhacglaaSpecCell
import Derived.Test.YtenkodofhacglaaVals8
import Derived.Deep.QuietTactic
import Derived.BigQuiet
namespace Go.Proofs.Ytenkodofhacglaa
open Go.RowKit

set_option maxHeartbeats 400000 in
theorem common_in (a b : Nat) (ha : a ≤ 4000000000000000000) (hb : b ≤ 4000000000000000000) (w : World) : Calls Try.prog 40 #[.int .i64 a, .int .i64 b] w fun e w' => e = .returned (.int .i64 (Nat.gcd a b : Nat)) ∧ w = w' := by
  obtain ⟨G, hG⟩ : ∃ G, Nat.gcd a b = G := ⟨_, rfl⟩
  rw [hG]
  have hG' := hide hG
  clear hG
  go_enter Try.func40, Try.ntmps40
  go_wp2
  go_loop [0, 1] (fun s t => ∃ x y : Nat, s = .int .i64 x ∧ t = .int .i64 y ∧ x ≤ 4000000000000000000 ∧ y ≤ 4000000000000000000 ∧ Hid (Nat.gcd x y = G)) (fun _ t => (intOf t).toNat)
  case atStart => exact ⟨a, b, rfl, rfl, ha, hb, hG'⟩
  case round =>
    clear hG' ha hb
    obtain ⟨x, y, rfl, rfl, hx, hy, hg⟩ := hrel
    by_cases h0 : 0 < y
    · have hq := tmod_n x y
      have hr := Nat.mod_lt x h0
      have hg' : Hid (Nat.gcd y (x % y) = G) := hide (by rw [← hg.out, Nat.gcd_comm x y, Nat.gcd_rec y x, Nat.gcd_comm])
      generalize x % y = r at *
      have hw1 : IntKind.i64.wrap (r : Int) = r := IntWalk.i64_in _ (by omega)
      have hy0 : ((y : Int) == 0) = false := by simp; omega
      clear hg
      go_wp2
      go_round
      case rel => exact ⟨y, r, rfl, rfl, hy, by omega, hg'⟩
      case measure => simp [intOf]; omega
    · obtain rfl : y = 0 := by omega
      have hg2 := hg.out
      rw [Nat.gcd_zero_right] at hg2
      subst hg2
      clear hg
      go_wp2
      go_ret
      exact ⟨rfl, rfl⟩

theorem bin_60 {n : Nat} (h : n ≤ 60) (k : Nat) : bin n k ≤ 1152921504606846976 := Nat.le_trans (bin_le n k) (Nat.le_trans (Nat.pow_le_pow_right (by omega) h) (by decide))
theorem gcdU_le (f : Nat → Nat) (m : Nat) (h : ∀ i, i < m → 0 < f i) (hl : ∀ i, i < m → f i ≤ 1152921504606846976) : gcdU f m ≤ 1152921504606846976 := by
  cases m with
  | zero => exact Nat.zero_le _
  | succ m =>
    show Nat.gcd (gcdU f m) (f m) ≤ _
    exact Nat.le_trans (Nat.le_of_dvd (h m (by omega)) (Nat.gcd_dvd_right _ _)) (hl m (by omega))

set_option maxHeartbeats 1000000 in
theorem specShared (row : Int) (w : World) : Calls Try.prog 15 #[.int .i64 row] w fun e w' => e = .returned (.int .i64 (sharedV row)) ∧ Below w.heap.size w w' := by
  by_cases hbad : row < 2 ∨ 60 < row
  · rw [sharedV_bad hbad]
    go_enter Try.func15, Try.ntmps15
    go_wp2_with (go_at_call 39; refine (l1In_f _ _ _ _ (by omega)).mono ?_; rintro e w' ⟨rfl, rfl⟩)
    go_ret
    exact ⟨rfl, Below.refl _ _⟩
  · obtain ⟨N, rfl⟩ : ∃ N : Nat, row = N := ⟨row.toNat, by omega⟩
    have hN2 : 2 ≤ N := by omega
    have hN : N ≤ 60 := by omega
    rw [sharedV_nat hN2 hN]
    obtain ⟨S, hS⟩ : ∃ S, shared N = S := ⟨_, rfl⟩
    rw [hS]
    have hS' := hide hS
    clear hbad hS
    go_enter Try.func15, Try.ntmps15
    go_wp2_with (first | (go_at_call 39; refine (l1In_t _ _ _ _ (by omega) (by omega)).mono ?_; rintro e w' ⟨rfl, rfl⟩) | (go_at_call 20; refine (specRow_in N hN _).mono ?_; rintro e w1 ⟨v, rfl, hown, hB⟩; rw [rowN_len] at hown; obtain ⟨g, cap, rfl, hg1, hg2, hg3, hcells⟩ := owns_open hown (by omega)))
    have hc : ∀ k, k < N + 1 → w1.cell? ⟨g, k, none⟩ = some (.int .i64 (bin N k : Nat)) := fun k hk => hcells k _ (by rw [List.getElem?_map]; unfold rowN; rw [List.getElem?_map, List.getElem?_range (by omega)]; rfl)
    clear hcells hown hg1 hg3
    go_loop [4, 5] (fun o i => ∃ j : Nat, j + 1 ≤ N ∧ i = .int .i64 ((j : Int) + 1) ∧ o = .int .i64 (gcdU (fun k => bin N (k + 1)) j : Nat)) (fun _ i => N - (intOf i).toNat)
    case atStart => exact ⟨0, by omega, rfl, rfl⟩
    case round =>
      obtain ⟨j, hj, rfl, rfl⟩ := hrel
      by_cases hlt : j + 1 < N
      · have hck := hc (j + 1) (by omega)
        have hcl := bin_60 hN (j + 1)
        have hgl := gcdU_le (fun k => bin N (k + 1)) j (fun i hi => bin_pos _ _ (by omega)) (fun i hi => bin_60 hN _)
        have hst : gcdU (fun k => bin N (k + 1)) (j + 1) = Nat.gcd (gcdU (fun k => bin N (k + 1)) j) (bin N (j + 1)) := rfl
        have hG := fun w => common_in (gcdU (fun k => bin N (k + 1)) j) (bin N (j + 1)) (by omega) (by omega) w
        rw [← hst] at hG
        clear hst hc
        generalize gcdU (fun k => bin N (k + 1)) j = x at *
        generalize bin N (j + 1) = c at *
        have hji : (j : Int) + 1 < (N : Int) := by omega
        have h1 : (0 : Int) ≤ (j : Int) + 1 := by omega
        have h2 : ((j : Int) + 1).toNat = j + 1 := by omega
        have h3 : (j : Int) + 1 < (N : Int) + 1 := by omega
        go_wp2_with (go_at_call 40; (with_reducible refine (hG _).mono ?_); rintro e w' ⟨rfl, rfl⟩)
        go_round
        case rel => exact ⟨j + 1, by omega, by go_num, rfl⟩
        case measure => simp [intOf]; omega
      · have hj1 : j = N - 1 := by omega
        have hji : ¬ (j : Int) + 1 < (N : Int) := by omega
        subst hj1
        have hS2 : gcdU (fun k => bin N (k + 1)) (N - 1) = S := hS'.out
        rw [hS2]
        clear hS' hS2
        go_wp2
        go_ret
        exact ⟨rfl, hB⟩

set_option maxHeartbeats 1000000 in
theorem specOver (row : Int) (w : World) : Calls Try.prog 19 #[.int .i64 row] w fun e w' => e = .returned (.int .i64 (overV row)) ∧ Below w.heap.size w w' := by
  by_cases hbad : row < 0 ∨ 36 < row
  · rw [overV_bad hbad]
    go_enter Try.func19, Try.ntmps19
    go_wp2_with (go_at_call 39; refine (l1In_f _ _ _ _ (by omega)).mono ?_; rintro e w' ⟨rfl, rfl⟩)
    go_ret
    exact ⟨rfl, Below.refl _ _⟩
  · obtain ⟨N, rfl⟩ : ∃ N : Nat, row = N := ⟨row.toNat, by omega⟩
    have hN : N ≤ 36 := by omega
    rw [overV_nat hN]
    obtain ⟨S, hS⟩ : ∃ S, over N = S := ⟨_, rfl⟩
    have hSl : S ≤ 6000000000000000 := by rw [← hS]; exact over_le hN
    rw [hS]
    have hS' := hide hS
    clear hbad hS
    go_enter Try.func19, Try.ntmps19
    go_wp2_with (first | (go_at_call 39; refine (l1In_t _ _ _ _ (by omega) (by omega)).mono ?_; rintro e w' ⟨rfl, rfl⟩) | (go_at_call 20; refine (specRow_in N (by omega) _).mono ?_; rintro e w1 ⟨v, rfl, hown, hB⟩; rw [rowN_len] at hown; obtain ⟨g, cap, rfl, hg1, hg2, hg3, hcells⟩ := owns_open hown (by omega)))
    have hc : ∀ k, k < N + 1 → w1.cell? ⟨g, k, none⟩ = some (.int .i64 (bin N k : Nat)) := fun k hk => hcells k _ (by rw [List.getElem?_map]; unfold rowN; rw [List.getElem?_map, List.getElem?_range (by omega)]; rfl)
    clear hcells hown hg1 hg3
    go_loopw [4, 5] (fun o i wr => ∃ j : Nat, j ≤ N + 1 ∧ i = .int .i64 (j : Int) ∧ o = .int .i64 (lcmU (bin N) j : Nat) ∧ Below w1.heap.size w1 wr) (fun _ i _ => N + 1 - (intOf i).toNat)
    case atStart => exact ⟨0, by omega, rfl, rfl, Below.refl _ _⟩
    case round =>
      obtain ⟨j, hj, rfl, rfl, hBr⟩ := hrel
      by_cases hlt : j < N + 1
      · have hck := (hBr.cell (p := ⟨g, j, none⟩) (by exact hg2)).trans (hc j hlt)
        have hcl := bin_60 (show N ≤ 60 by omega) j
        have hb0 : 0 < bin N j := bin_pos _ _ (by omega)
        have hmono : ∀ a b, a + b = N + 1 → lcmU (bin N) a ≤ 6000000000000000 := fun a b hab => by
          have h1 := lcmU_mono (f := bin N) a b (fun i hi => bin_pos _ _ (by omega))
          rw [hab] at h1
          have h2 : lcmU (bin N) (N + 1) = S := hS'.out
          omega
        have hgl := hmono j (N + 1 - j) (by omega)
        have hgl2 := hmono (j + 1) (N + 1 - (j + 1)) (by omega)
        have hst : lcmU (bin N) (j + 1) = lcmU (bin N) j / Nat.gcd (lcmU (bin N) j) (bin N j) * bin N j := rfl
        have hG := fun w => common_in (lcmU (bin N) j) (bin N j) (by omega) (by omega) w
        have hq := tdiv_n (lcmU (bin N) j) (Nat.gcd (lcmU (bin N) j) (bin N j))
        have hgp : 0 < Nat.gcd (lcmU (bin N) j) (bin N j) := Nat.gcd_pos_of_pos_right _ hb0
        have hdl := Nat.div_le_self (lcmU (bin N) j) (Nat.gcd (lcmU (bin N) j) (bin N j))
        have hgl3 : Nat.gcd (lcmU (bin N) j) (bin N j) ≤ bin N j := Nat.le_of_dvd hb0 (Nat.gcd_dvd_right _ _)
        obtain ⟨y, hy⟩ : ∃ y, lcmU (bin N) (j + 1) = y := ⟨_, rfl⟩
        have hy' := hide hy
        rw [hy] at hgl2 hst
        clear hy
        generalize lcmU (bin N) j = x at *
        generalize bin N j = c at *
        generalize Nat.gcd x c = G at *
        generalize x / G = q at *
        have hmul : (q : Int) * (c : Int) = (y : Int) := by rw [hst]; simp
        have hji : (j : Int) ≤ (N : Int) := by omega
        have hG0 : ((G : Int) == 0) = false := by simp; omega
        have hw1 : IntKind.i64.wrap (q : Int) = q := IntWalk.i64_in _ (by omega)
        have hw2 : IntKind.i64.wrap (y : Int) = y := IntWalk.i64_in _ (by omega)
        clear hst hc hmono
        go_wp2
        go_quiet ((go_at_call 40; refine Calls.quiet_of_same ((hG _).mono fun e w' h => ⟨h.1, h.2.symm⟩)))
        go_wp2
        go_roundw
        case rel => exact ⟨j + 1, by omega, by go_num, by rw [hy'.out], ⟨hBr.os, hBr.tape, hBr.output, hBr.size, hBr.block⟩⟩
        case measure => simp [intOf]; omega
      · obtain rfl : j = N + 1 := by omega
        have hji : ¬ (N : Int) + 1 ≤ (N : Int) := by omega
        have hS2 : lcmU (bin N) (N + 1) = S := hS'.out
        rw [hS2]
        clear hS' hS2 hc
        go_wp2
        go_ret
        exact ⟨rfl, hB.trans (hBr.mono hB.size)⟩

set_option maxHeartbeats 1000000 in
theorem specOfAll (n : Int) (w : World) : Calls Try.prog 23 #[.int .i64 n] w fun e w' => e = .returned (.int .i64 (ofAllV n)) ∧ w = w' := by
  by_cases hbad : n < 1 ∨ 37 < n
  · rw [ofAllV_bad hbad]
    go_enter Try.func23, Try.ntmps23
    go_wp2_with (go_at_call 39; refine (l1In_f _ _ _ _ (by omega)).mono ?_; rintro e w' ⟨rfl, rfl⟩)
    go_ret
    exact ⟨rfl, rfl⟩
  · obtain ⟨N, rfl⟩ : ∃ N : Nat, n = N := ⟨n.toNat, by omega⟩
    have hN1 : 1 ≤ N := by omega
    have hN : N ≤ 37 := by omega
    rw [ofAllV_nat hN1 hN]
    obtain ⟨S, hS⟩ : ∃ S, ofAll N = S := ⟨_, rfl⟩
    have hSl : S ≤ 6000000000000000 := by rw [← hS]; exact ofAll_le hN
    rw [hS]
    have hS' := hide hS
    clear hbad hS
    go_enter Try.func23, Try.ntmps23
    go_wp2_with (go_at_call 39; refine (l1In_t _ _ _ _ (by omega) (by omega)).mono ?_; rintro e w' ⟨rfl, rfl⟩)
    go_loop [3, 4] (fun o i => ∃ j : Nat, j ≤ N ∧ i = .int .i64 ((j : Int) + 1) ∧ o = .int .i64 (lcmU (fun k => k + 1) j : Nat)) (fun _ i => N + 1 - (intOf i).toNat)
    case atStart => exact ⟨0, by omega, rfl, rfl⟩
    case round =>
      obtain ⟨j, hj, rfl, rfl⟩ := hrel
      by_cases hlt : j < N
      · have hmono : ∀ a b, a + b = N → lcmU (fun k => k + 1) a ≤ 6000000000000000 := fun a b hab => by
          have h1 := lcmU_mono (f := fun k => k + 1) a b (fun i hi => by omega)
          rw [hab] at h1
          have h2 : lcmU (fun k => k + 1) N = S := hS'.out
          omega
        have hgl := hmono j (N - j) (by omega)
        have hgl2 := hmono (j + 1) (N - (j + 1)) (by omega)
        have hst : lcmU (fun k => k + 1) (j + 1) = lcmU (fun k => k + 1) j / Nat.gcd (lcmU (fun k => k + 1) j) (j + 1) * (j + 1) := rfl
        have hG := fun w => common_in (lcmU (fun k => k + 1) j) (j + 1) (by omega) (by omega) w
        have hq := tdiv_n (lcmU (fun k => k + 1) j) (Nat.gcd (lcmU (fun k => k + 1) j) (j + 1))
        have hgp : 0 < Nat.gcd (lcmU (fun k => k + 1) j) (j + 1) := Nat.gcd_pos_of_pos_right _ (by omega)
        have hdl := Nat.div_le_self (lcmU (fun k => k + 1) j) (Nat.gcd (lcmU (fun k => k + 1) j) (j + 1))
        have hgl3 : Nat.gcd (lcmU (fun k => k + 1) j) (j + 1) ≤ j + 1 := Nat.le_of_dvd (by omega) (Nat.gcd_dvd_right _ _)
        obtain ⟨y, hy⟩ : ∃ y, lcmU (fun k => k + 1) (j + 1) = y := ⟨_, rfl⟩
        have hy' := hide hy
        rw [hy] at hgl2 hst
        clear hy
        generalize lcmU (fun k => k + 1) j = x at *
        generalize Nat.gcd x (j + 1) = G at *
        generalize x / G = q at *
        have hmul : (q : Int) * ((j : Int) + 1) = (y : Int) := by rw [hst]; simp
        have hc1 : ((j + 1 : Nat) : Int) = (j : Int) + 1 := by omega
        rw [hc1] at hG
        have hji : (j : Int) + 1 ≤ (N : Int) := by omega
        have hG0 : ((G : Int) == 0) = false := by simp; omega
        have hw1 : IntKind.i64.wrap (q : Int) = q := IntWalk.i64_in _ (by omega)
        have hw2 : IntKind.i64.wrap (y : Int) = y := IntWalk.i64_in _ (by omega)
        clear hst hmono hc1
        go_wp2_with (go_at_call 40; (with_reducible refine (hG _).mono ?_); rintro e w' ⟨rfl, rfl⟩)
        go_round
        case rel => exact ⟨j + 1, by omega, by go_num, by rw [hy'.out]⟩
        case measure => simp [intOf]; omega
      · obtain rfl : j = N := by omega
        have hji : ¬ (j : Int) + 1 ≤ (j : Int) := by omega
        have hS2 : lcmU (fun k => k + 1) j = S := hS'.out
        rw [hS2]
        clear hS' hS2
        go_wp2
        go_ret
        exact ⟨rfl, rfl⟩
end Go.Proofs.Ytenkodofhacglaa
