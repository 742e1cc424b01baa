/-
  The walks of the laws FnCountUnder and FnDigitsOf: each answers true at every code, and nothing that was there is written.
-/
import Derived.Test.YtammmcffbfkgjaaExact2
import Derived.Test.YtammmcffbfkgjaaExactDig
import Derived.Test.YtammmcffbfkgjaaDraw2
namespace Go.Proofs.Ytammmcffbfkgjaa
open Go.RowKit

set_option maxHeartbeats 400000 in
theorem lawCount (a0 : Option Addr) (len0 cap0 : Nat) (z0 : List Int) (w : World) (w0 : IsRow .u8 w a0 len0 cap0 z0) :
    Calls Try.prog 7 #[.slice a0 len0 cap0] w fun e w' => e = .returned (.bool true) ∧ Below w.heap.size w w' := by
  by_cases hbig : 1048576 < len0
  · go_enter Try.func7, Try.ntmps7
    go_wp2
    go_ret
    exact ⟨rfl, Below.refl _ _⟩
  · go_enter Try.func7, Try.ntmps7
    go_wp2_with fail
    go_at_call 27
    refine (drawCount w a0 len0 cap0 z0 w0).mono ?_
    rintro e w1 ⟨⟨x, y, hx, hy, rfl⟩, hB1⟩
    unfold Fits at hx hy
    by_cases hbad : bad1 x y
    · have hI : ∀ w, Calls Try.prog 28 #[.int .i64 x, .int .i64 y] w fun e w' => e = .returned (.int .i64 (-1)) ∧ Below w.heap.size w w' := fun w => by simpa [countV_bad hbad] using implCount x y w
      have hS : ∀ w, Calls Try.prog 29 #[.int .i64 x, .int .i64 y] w fun e w' => e = .returned (.int .i64 (-1)) ∧ w = w' := fun w => by simpa [countV_bad hbad] using specCount x y w
      clear hbad
      go_wp2_with (first | (go_at_call 28; (with_reducible refine (hI _).mono ?_); rintro e w' ⟨rfl, hB'⟩; replace hB1 := hB1.trans (hB'.mono hB1.size); clear hB') | (go_at_call 29; (with_reducible refine (hS _).mono ?_); rintro e w' ⟨rfl, rfl⟩) | (go_at_call 17; refine (alive_in _).mono ?_; rintro e w' ⟨rfl, hB'⟩; replace hB1 := hB1.trans (hB'.mono hB1.size); clear hB'))
      go_ret
      exact ⟨rfl, hB1⟩
    · unfold bad1 at hbad
      obtain ⟨N, rfl⟩ : ∃ r : Nat, x = r := ⟨x.toNat, by omega⟩
      obtain ⟨B, rfl⟩ : ∃ r : Nat, y = r := ⟨y.toNat, by omega⟩
      have hN : N ≤ 999999999 := by omega
      have hB : 2 ≤ B := by omega
      have hB2 : B ≤ 16 := by omega
      clear hbad hx hy
      obtain ⟨m, hm⟩ : ∃ m, mulL (digs B N) = m := ⟨_, rfl⟩
      have hI : ∀ w, Calls Try.prog 28 #[.int .i64 N, .int .i64 B] w fun e w' => e = .returned (.int .i64 m) ∧ Below w.heap.size w w' := fun w => by simpa [countV_nat hN hB hB2, hm] using implCount N B w
      have hS : ∀ w, Calls Try.prog 29 #[.int .i64 N, .int .i64 B] w fun e w' => e = .returned (.int .i64 m) ∧ w = w' := fun w => by simpa [countV_nat hN hB hB2, hm] using specCount N B w
      have hm1 : m ≤ N + 1 := by rw [← hm]; exact mul_le hB N
      have hm2 : 0 < N → 2 ≤ m := fun h => by rw [← hm]; exact mul_two hB h
      have hall := hide (show undUp B N (N + 1) = m by rw [undUp_all hB, hm])
      have hm3 : ¬ (m : Int) < 0 := by omega
      clear hm
      by_cases h4 : 400 < N
      · have hm4 : 2 ≤ m := hm2 (by omega)
        have hd : decide ((m : Int) ≤ (N : Int) + 1) = true := by simp; omega
        clear hm2 hall
        go_wp2_with (first | (go_at_call 28; (with_reducible refine (hI _).mono ?_); rintro e w' ⟨rfl, hB'⟩; replace hB1 := hB1.trans (hB'.mono hB1.size); clear hB') | (go_at_call 29; (with_reducible refine (hS _).mono ?_); rintro e w' ⟨rfl, rfl⟩))
        go_ret
        exact ⟨rfl, hB1⟩
      · have hN4 : N ≤ 400 := by omega
        clear hm2
        go_wp2_with (first | (go_at_call 28; (with_reducible refine (hI _).mono ?_); rintro e w' ⟨rfl, hB'⟩; replace hB1 := hB1.trans (hB'.mono hB1.size); clear hB') | (go_at_call 29; (with_reducible refine (hS _).mono ?_); rintro e w' ⟨rfl, rfl⟩))
        go_loopw [6, 7] (fun s i wr => ∃ k : Nat, k ≤ N + 1 ∧ i = .int .i64 k ∧ s = .int .i64 (undUp B N k) ∧ Below w.heap.size w wr) (fun _ i _ => N + 1 - (intOf i).toNat)
        case atStart => exact ⟨0, by omega, rfl, rfl, hB1⟩
        case round =>
          clear hB1 hI hS
          obtain ⟨k, hk, rfl, rfl, hBw⟩ := hrel
          by_cases hlt : k < N + 1
          · have hule := undUp_le B N k
            have hst : undUp B N (k + 1) = undUp B N k + (if und B k N then 1 else 0) := rfl
            obtain ⟨v, hv⟩ : ∃ v, und B k N = v := ⟨_, rfl⟩
            have hU : ∀ w, Calls Try.prog 25 #[.int .i64 k, .int .i64 N, .int .i64 B] w fun e w' => e = .returned (.bool v) ∧ Below w.heap.size w w' := fun w => by simpa [underV_nat (show k ≤ 999999999 by omega) hN hB hB2, hv] using implUnder k N B w
            rw [hv] at hst
            clear hv
            cases v with
            | true =>
              have hst' := hide (show undUp B N (k + 1) = undUp B N k + 1 from hst)
              clear hst
              go_wp2_with (go_at_call 25; (with_reducible refine (hU _).mono ?_); rintro e w' ⟨rfl, hB'⟩)
              go_roundw
              case rel => exact ⟨k + 1, by omega, by go_num, by rw [hst'.out]; go_num, hBw.trans (hB'.mono hBw.size)⟩
              case measure => simp [intOf]; omega
            | false =>
              have hst' := hide (show undUp B N (k + 1) = undUp B N k from hst)
              clear hst
              go_wp2_with (go_at_call 25; (with_reducible refine (hU _).mono ?_); rintro e w' ⟨rfl, hB'⟩)
              go_roundw
              case rel => exact ⟨k + 1, by omega, by go_num, by rw [hst'.out], hBw.trans (hB'.mono hBw.size)⟩
              case measure => simp [intOf]; omega
          · obtain rfl : k = N + 1 := by omega
            rw [hall.out]
            clear hall
            go_wp2_with (go_at_call 17; refine (alive_in _).mono ?_; rintro e w' ⟨rfl, hB'⟩; replace hBw := hBw.trans (hB'.mono hBw.size); clear hB')
            go_ret
            exact ⟨rfl, hBw⟩

/-- What is asked of the digits of a number that is not 0, as a table. -/
theorem digits_table {B N : Nat} (hB : 2 ≤ B) (hN : 0 < N) : ∃ (L : Nat) (d s : Nat → Nat), (digs B N).length = L + 1 ∧ (∀ i, i < L + 1 → ((digs B N).map fun (d : Nat) => (d : Int)).getD i 0 = (d i : Int)) ∧
    (∀ i, i < L + 1 → d i < B ∧ s i = s (i + 1) * B + d i) ∧ (∀ i, s i ≤ N) ∧ s 0 = N ∧ s (L + 1) = 0 ∧ 0 < d L := by
  obtain ⟨h1, h2⟩ := digs_last hB N hN
  refine ⟨(digs B N).length - 1, fun i => (digs B N).getD i 0, fun i => fromP B ((digs B N).drop i), by omega, fun i hi => ?_, fun i hi => ⟨?_, ?_⟩, fun i => ?_, ?_, ?_, ?_⟩
  · have hi' : i < (digs B N).length := by omega
    simp [List.getD, hi']
  · have hi' : i < (digs B N).length := by omega
    have := digs_lt hB N ((digs B N)[i]) (List.getElem_mem hi')
    simpa [List.getD, hi'] using this
  · have hi' : i < (digs B N).length := by omega
    have := fromP_drop B (digs B N) i hi'
    simpa [List.getD, hi'] using this
  · have := fromP_le (b := B) (by omega) (digs B N) i
    rwa [fromP_digs hB] at this
  · show fromP B ((digs B N).drop 0) = N
    rw [List.drop_zero, fromP_digs hB]
  · show fromP B ((digs B N).drop ((digs B N).length - 1 + 1)) = 0
    rw [List.drop_eq_nil_of_le (by omega)]; rfl
  · show 0 < (digs B N).getD ((digs B N).length - 1) 0
    simpa [List.getD, h1] using h2

set_option maxHeartbeats 400000 in
theorem lawDigits (a0 : Option Addr) (len0 cap0 : Nat) (z0 : List Int) (w : World) (w0 : IsRow .u8 w a0 len0 cap0 z0) :
    Calls Try.prog 3 #[.slice a0 len0 cap0] w fun e w' => e = .returned (.bool true) ∧ Below w.heap.size w w' := by
  by_cases hbig : 1048576 < len0
  · go_enter Try.func3, Try.ntmps3
    go_wp2
    go_ret
    exact ⟨rfl, Below.refl _ _⟩
  · go_enter Try.func3, Try.ntmps3
    go_wp2_with fail
    go_at_call 13
    refine (drawDigits w a0 len0 cap0 z0 w0).mono ?_
    rintro e w1 ⟨⟨x, y, hx, hy, rfl⟩, hB1⟩
    unfold Fits at hx hy
    go_wp2_with fail
    go_at_call 14
    refine (implDigits x y _).mono ?_
    rintro e w2 ⟨v2, rfl, hown2, hB2⟩
    replace hB1 := hB1.trans (hB2.mono hB1.size)
    go_wp2_with fail
    go_at_call 16
    refine (specDigits x y _).mono ?_
    rintro e w3 ⟨v3, rfl, hown3, hB3⟩
    replace hB1 := hB1.trans (hB3.mono hB1.size)
    have hi2 := (Ints.of_owns hown2).below hB3
    have hi3 := Ints.of_owns hown3
    have hl := digitsV_len' x y
    clear hown2 hown3 hB2 hB3
    go_wp2_with fail
    go_at_call 15
    refine (sameInts_in _ _ (digitsV x y) _ (by omega) hi2 hi3).mono ?_
    rintro e w4 ⟨rfl, hB4⟩
    replace hB1 := hB1.trans (hB4.mono hB1.size)
    have hi4 := hi2.below hB4
    clear hi2 hi3 hB4
    by_cases hbad : x = 0 ∨ bad1 x y
    · have he : digitsV x y = [] := by
        by_cases hb : bad1 x y
        · exact digitsV_bad hb
        · obtain rfl : x = 0 := by rcases hbad with h | h; exact h; exact absurd h hb
          unfold digitsV; rw [if_neg hb, show (0 : Int).toNat = 0 by rfl, digs_zero]; rfl
      rw [he] at hi4
      obtain ⟨a, c, rfl⟩ : ∃ a c, v2 = .slice a 0 c := by
        rcases hi4 with ⟨a, c, rfl, _⟩ | ⟨g, cap, rfl, _⟩
        · exact ⟨_, _, rfl⟩
        · exact ⟨_, _, rfl⟩
      clear hi4 hbad he hl
      go_wp2_with (go_at_call 17; refine (alive_in _).mono ?_; rintro e w' ⟨rfl, hB'⟩; replace hB1 := hB1.trans (hB'.mono hB1.size); clear hB')
      go_ret
      exact ⟨rfl, hB1⟩
    · unfold bad1 at hbad
      obtain ⟨N, rfl⟩ : ∃ r : Nat, x = r := ⟨x.toNat, by omega⟩
      obtain ⟨B, rfl⟩ : ∃ r : Nat, y = r := ⟨y.toNat, by omega⟩
      have hN : N ≤ 999999999 := by omega
      have hN0 : 0 < N := by omega
      have hB : 2 ≤ B := by omega
      have hBB : B ≤ 16 := by omega
      obtain ⟨L, d, s, hL, hd, hds, hsN, hs0, hsL, hd0⟩ := digits_table hB hN0
      rw [digitsV_nat hN hB hBB] at hi4 hl
      rw [List.length_map, hL] at hl
      obtain ⟨g, cap, rfl, hg, hcells⟩ : ∃ g cap, v2 = .slice (some ⟨g, 0, none⟩) (L + 1) cap ∧ g < w4.heap.size ∧ ∀ i, i < L + 1 → w4.cell? ⟨g, i, none⟩ = some (.int .i64 (d i : Int)) := by
        rcases hi4 with ⟨_, _, _, h⟩ | ⟨g, cap, rfl, hg, hc⟩
        · have := congrArg List.length h; rw [List.length_map, hL] at this; simp at this
        · rw [List.length_map, hL] at hc ⊢
          exact ⟨g, cap, rfl, hg, fun i hi => by rw [hc i hi, hd i hi]⟩
      clear hi4 hbad hd hL hx hy
      have hl0 : ((L : Int) + 1 == 0) = false := by simp; omega
      have hcL := hcells L (by omega)
      have hsL' := hide hsL
      have hs0' := hide hs0
      clear hsL hs0
      go_wp2
      go_loop [6, 7] (fun t i => ∃ k : Nat, k ≤ L + 1 ∧ i = .int .i64 ((k : Int) - 1) ∧ t = .int .i64 (s k)) (fun _ i => (intOf i + 1).toNat)
      case atStart => exact ⟨L + 1, Nat.le_refl _, by go_num, by rw [hsL'.out]; rfl⟩
      case round =>
        clear hsL'
        obtain ⟨k, hk, rfl, rfl⟩ := hrel
        by_cases hk0 : k = 0
        · subst hk0
          rw [hs0'.out]
          clear hs0' hcells hds hsN
          have hdL : (0 : Int) < d L := by omega
          generalize d L = dL at *
          go_wp2
          go_ret
          exact ⟨rfl, hB1⟩
        · obtain ⟨j, rfl⟩ : ∃ j, k = j + 1 := ⟨k - 1, by omega⟩
          have hc := hcells j (by omega)
          have h1 := hds j (by omega)
          have h2 := hsN j
          have h3 := hsN (j + 1)
          have hdL := hide hcL
          clear hcells hds hsN hs0' hcL
          obtain ⟨hdB, hsj⟩ := h1
          obtain ⟨P, hP⟩ : ∃ P, s (j + 1) * B = P := ⟨_, rfl⟩
          have hPi : (s (j + 1) : Int) * (B : Int) = (P : Int) := by rw [← hP]; simp
          rw [hP] at hsj
          have hsj' := hide hsj
          have hPd : P + d j ≤ 999999999 := by omega
          clear hsj hP
          rw [show ((j + 1 : Nat) : Int) - 1 = (j : Int) by omega]
          generalize d j = dj at *
          generalize s (j + 1) = sj at *
          have hw1 : IntKind.i64.wrap (P : Int) = P := IntWalk.i64_in _ (by omega)
          go_wp2
          go_round
          case rel => exact ⟨j, by omega, by go_num, by rw [hsj'.out]; go_num⟩
          case measure => simp [intOf]
end Go.Proofs.Ytammmcffbfkgjaa
