/-
  The walks of the laws of chapter 9: each answers true at every code, and nothing that was there is written.
-/
import Derived.Test.YtlkcdcmmcjkedaaSpec9b
import Derived.Test.YtlkcdcmmcjkedaaSpec9c
import Derived.Test.YtlkcdcmmcjkedaaImpl9
import Derived.Test.YtlkcdcmmcjkedaaDraw9
import Derived.Test.YtlkcdcmmcjkedaaLawKit4
import Derived.Test.YtlkcdcmmcjkedaaAlive
import Derived.Test.YtlkcdcmmcjkedaaKit
import Derived.RangeFuncBox
namespace Go.Proofs.Ytlkcdcmmcjkedaa
open Go.RowKit Go.BigFrame

set_option maxHeartbeats 1000000 in
theorem lawBal (a0 : Option Addr) (len0 cap0 : Nat) (z0 : List Int) (w : World) (w0 : IsRow .u8 w a0 len0 cap0 z0) :
    Calls Try.prog 10 #[.slice a0 len0 cap0] w fun e w' => e = .returned (.bool true) ∧ Below w.heap.size w w' := by
  by_cases hbig : 1048576 < len0
  · go_enter Try.func10, Try.ntmps10
    go_wp2
    go_ret
    exact ⟨rfl, Below.refl _ _⟩
  · go_enter Try.func10, Try.ntmps10
    go_wp2_with fail
    go_at_call 42
    refine (drawBal w a0 len0 cap0 z0 w0).mono ?_
    rintro e w1 ⟨⟨x, hx, rfl⟩, hB1⟩
    by_cases hbad : x < 1 ∨ 12 < x
    · have hI : ∀ w, Calls Try.prog 43 #[.int .i64 x] w fun e w' => e = .returned (.int .i64 (-1)) ∧ Below w.heap.size w w' := fun w => by simpa only [balV_bad hbad] using implBal x hx w
      have hS : ∀ w, Calls Try.prog 44 #[.int .i64 x] w fun e w' => e = .returned (.int .i64 (-1)) ∧ w = w' := fun w => by simpa only [balV_bad hbad] using specBal x w
      clear hbad
      go_wp2_with (first | (go_at_call 43; (with_reducible refine (hI _).mono ?_); rintro e w' ⟨rfl, hB'⟩; replace hB1 := hB1.trans (hB'.mono hB1.size); clear hB') | (go_at_call 44; (with_reducible refine (hS _).mono ?_); rintro e w' ⟨rfl, rfl⟩) | (go_at_call 21; refine (alive_in _).mono ?_; rintro e w' ⟨rfl, hB'⟩; replace hB1 := hB1.trans (hB'.mono hB1.size); clear hB'))
      go_ret
      exact ⟨rfl, hB1⟩
    · obtain ⟨c, rfl⟩ : ∃ c : Nat, x = c := ⟨x.toNat, by omega⟩
      have hc1 : 1 ≤ c := by omega
      have hc2 : c ≤ 12 := by omega
      have hsome := balanced_some hc1 hc2
      obtain ⟨m, hm⟩ : ∃ m, balanced c = m := ⟨_, rfl⟩
      have hml : m ≤ 2 ^ c := by rw [← hm]; exact cntB_le _ _
      have hm2 : m ≤ 4096 := Nat.le_trans hml (Nat.le_trans (Nat.pow_le_pow_right (by omega) hc2) (by decide))
      rw [hm] at hsome
      have hI : ∀ w, Calls Try.prog 43 #[.int .i64 c] w fun e w' => e = .returned (.int .i64 m) ∧ Below w.heap.size w w' := fun w => by simpa only [balV_nat hc1 hc2, hm] using implBal c hx w
      have hS : ∀ w, Calls Try.prog 44 #[.int .i64 c] w fun e w' => e = .returned (.int .i64 m) ∧ w = w' := fun w => by simpa only [balV_nat hc1 hc2, hm] using specBal c w
      have hI3 : ∀ w, Calls Try.prog 43 #[.int .i64 3] w fun e w' => e = .returned (.int .i64 4) ∧ Below w.heap.size w w' := fun w => by
        have h := implBal 3 (by unfold Fits; omega) w
        have e : balV 3 = 4 := by have := balV_nat (c := 3) (by omega) (by omega); rw [balanced_three] at this; exact this
        rwa [e] at h
      have hI4 : ∀ w, Calls Try.prog 43 #[.int .i64 4] w fun e w' => e = .returned (.int .i64 6) ∧ Below w.heap.size w w' := fun w => by
        have h := implBal 4 (by unfold Fits; omega) w
        have e : balV 4 = 6 := by have := balV_nat (c := 4) (by omega) (by omega); rw [balanced_four] at this; exact this
        rwa [e] at h
      have hq : Int.tmod (c : Int) 4 = ((c % 4 : Nat) : Int) := tmod_nat' c 4
      have hr : c % 4 < 4 := Nat.mod_lt _ (by omega)
      obtain ⟨r, hrr⟩ : ∃ r, c % 4 = r := ⟨_, rfl⟩
      rw [hrr] at hq hr hsome
      have hwr : IntKind.i64.wrap (r : Int) = r := IntWalk.i64_in _ (by omega)
      clear hbad hm hml hrr
      by_cases hm0 : 0 < m
      · have hm0i : (0 : Int) < (m : Int) := by omega
        have hmn : ¬ (m : Int) < 0 := by omega
        rcases hsome.1 hm0 with rfl | rfl
        all_goals
          go_wp2_with (first | (go_at_call 43; (with_reducible refine (hI _).mono ?_); rintro e w' ⟨rfl, hB'⟩; replace hB1 := hB1.trans (hB'.mono hB1.size); clear hB') | (go_at_call 43; (with_reducible refine (hI3 _).mono ?_); rintro e w' ⟨rfl, hB'⟩; replace hB1 := hB1.trans (hB'.mono hB1.size); clear hB') | (go_at_call 43; (with_reducible refine (hI4 _).mono ?_); rintro e w' ⟨rfl, hB'⟩; replace hB1 := hB1.trans (hB'.mono hB1.size); clear hB') | (go_at_call 44; (with_reducible refine (hS _).mono ?_); rintro e w' ⟨rfl, rfl⟩))
          go_ret
          exact ⟨rfl, hB1⟩
      · have hr12 : r = 1 ∨ r = 2 := by
          have h1 : ¬ (r = 0 ∨ r = 3) := fun h => hm0 (hsome.2 h)
          omega
        obtain rfl : m = 0 := by omega
        clear hm0 hsome
        rcases hr12 with rfl | rfl
        all_goals
          go_wp2_with (first | (go_at_call 43; (with_reducible refine (hI _).mono ?_); rintro e w' ⟨rfl, hB'⟩; replace hB1 := hB1.trans (hB'.mono hB1.size); clear hB') | (go_at_call 43; (with_reducible refine (hI3 _).mono ?_); rintro e w' ⟨rfl, hB'⟩; replace hB1 := hB1.trans (hB'.mono hB1.size); clear hB') | (go_at_call 43; (with_reducible refine (hI4 _).mono ?_); rintro e w' ⟨rfl, hB'⟩; replace hB1 := hB1.trans (hB'.mono hB1.size); clear hB') | (go_at_call 44; (with_reducible refine (hS _).mono ?_); rintro e w' ⟨rfl, rfl⟩))
          go_ret
          exact ⟨rfl, hB1⟩

theorem one_ints (w : World) (z : Int) : Ints (w.alloc (.cells #[.int .i64 z] 3)) (.slice (some ⟨w.heap.size, 0, none⟩) 1 1) [z] :=
  .inr ⟨w.heap.size, 1, rfl, by simp, fun i hi => by
    obtain rfl : i = 0 := by simp at hi; omega
    exact (Boxed.new w 3 (.int .i64 z)).cell⟩

theorem natL_stL (f : Nat → Nat) (n k : Nat) (h : k < n) : natL (stL f 0 n) k = f k := stL_nat f 0 n k h
theorem onesV_stL {f : Nat → Nat} (hf : ∀ k, f k ≤ 1) {n : Nat} (h1 : 1 ≤ n) (h2 : n ≤ 12) : onesV (stL f 0 n) = (tot (st f) n : Nat) := by
  rw [onesV_yes (stL_side hf 0 n h1 h2), stL_len, tot_congr n fun i k h => st_congr i k fun j _ h2 => natL_stL f n j (by omega)]
theorem turnV_stL {f : Nat → Nat} (hf : ∀ k, f k ≤ 1) {n : Nat} (h1 : 1 ≤ n) (h2 : n ≤ 12) : turnV (stL f 0 n) = stL (side f n) 0 n := by
  rw [turnV_yes (stL_side hf 0 n h1 h2), stL_len]
  unfold stL
  refine List.map_congr_left fun j hj => ?_
  have hj' := List.mem_range.1 hj
  have : side (natL (stL f 0 n)) n j = side f n j := by
    unfold side
    exact st_congr _ _ fun i _ h2 => natL_stL f n i (by omega)
  unfold stL at this
  rw [this]; rfl
theorem endV_stL {f : Nat → Nat} (hf : ∀ k, f k ≤ 1) {n : Nat} (h1 : 1 ≤ n) (h2 : n ≤ 12) : endV (stL f 0 n) = (st f (n - 1) 0 : Nat) := by
  rw [endV_yes (stL_side hf 0 n h1 h2), stL_len, st_congr (n - 1) 0 fun j _ h2 => natL_stL f n j (by omega)]
theorem tri_even (n : Nat) : ∃ C, n * (n + 1) = 2 * C := by
  induction n with
  | zero => exact ⟨0, rfl⟩
  | succ n ih =>
    obtain ⟨C, hC⟩ := ih
    refine ⟨C + (n + 1), ?_⟩
    simp only [Nat.add_mul, Nat.mul_add, Nat.one_mul, Nat.mul_one] at hC ⊢
    omega

set_option maxHeartbeats 2000000 in
theorem lawOnes (a0 : Option Addr) (len0 cap0 : Nat) (z0 : List Int) (w : World) (w0 : IsRow .u8 w a0 len0 cap0 z0) :
    Calls Try.prog 7 #[.slice a0 len0 cap0] w fun e w' => e = .returned (.bool true) ∧ Below w.heap.size w w' := by
  by_cases hbig : 1048576 < len0
  · go_enter Try.func7, Try.ntmps7
    go_wp2
    go_ret
    exact ⟨rfl, Below.refl _ _⟩
  · go_enter Try.func7, Try.ntmps7
    go_wp2_with fail
    go_at_call 33
    refine (drawOnes w a0 len0 cap0 z0 w0).mono ?_
    rintro e w1 ⟨⟨v, xs, rfl, hv, hlies, hxl⟩, hB1⟩
    have hI : ∀ W, Below w1.heap.size w1 W → Calls Try.prog 34 #[v] W fun e w' => e = .returned (.int .i64 (onesV xs)) ∧ Below W.heap.size W w' := fun W h => implOnes v xs W (hv.below h) hlies (by omega)
    have hS : ∀ W, Below w1.heap.size w1 W → Calls Try.prog 35 #[v] W fun e w' => e = .returned (.int .i64 (onesV xs)) ∧ Below W.heap.size W w' := fun W h => specOnes v xs W (hv.below h) hlies (by omega)
    have hD1 := Below.refl w1.heap.size w1
    cases hside : sideB xs with
    | false =>
      rw [onesV_no hside] at hI hS
      clear hv hlies hside
      go_wp2_with (first | (go_at_call 34; (with_reducible refine (hI _ hD1).mono ?_); rintro e w' ⟨rfl, hB'⟩; replace hD1 := hD1.trans (hB'.mono hD1.size); clear hB') | (go_at_call 35; (with_reducible refine (hS _ hD1).mono ?_); rintro e w' ⟨rfl, hB'⟩; replace hD1 := hD1.trans (hB'.mono hD1.size); clear hB') | (go_at_call 21; refine (alive_in _).mono ?_; rintro e w' ⟨rfl, hB'⟩; replace hD1 := hD1.trans (hB'.mono hD1.size); clear hB'))
      go_ret
      exact ⟨rfl, hB1.trans (hD1.mono hB1.size)⟩
    | true =>
      have hlen := sideB_len hside
      have hf := side_bit hside
      have hz := stL_zero hside
      obtain ⟨g, cap, rfl, hg, hc⟩ := hv.cells hlen.1
      have hcf : ∀ i, i < xs.length → w1.cell? ⟨g, i, none⟩ = some (.int .i64 (natL xs i : Nat)) := fun i hi => by rw [hc i hi, side_get hside hi]
      have hT : ∀ W, Below w1.heap.size w1 W → Calls Try.prog 36 #[.slice (some ⟨g, 0, none⟩) xs.length cap] W fun e w' => ∃ r, e = .returned r ∧ w'.ownsRow W.heap.size 3 1 r (turnV xs).length ((turnV xs).map (Value.int .i64)) ∧ Below W.heap.size W w' := fun W h => implTurned _ xs W (hv.below h) hlies (by omega)
      rw [onesV_yes hside] at hI hS
      rw [← hz, turnV_stL hf hlen.1 hlen.2, stL_len, stL_len] at hT
      rw [← hz, stL_len] at hI hS
      have hfew := few_ones hf hlen.2
      have hback := ones_back (natL xs) xs.length
      have hones := ones_side hf xs.length
      have hsl := side_le hf xs.length
      clear hv hside hc hz hlies hxl
      generalize natL xs = f at *
      obtain ⟨n, hn⟩ : ∃ n, xs.length = n := ⟨_, rfl⟩
      rw [hn] at hI hS hT hlen hcf hfew hback hones hsl ⊢
      clear hn
      have e0 : tot (st (natL (stL f 0 n))) n = tot (st f) n := tot_congr n fun i k h => st_congr i k fun j _ h2 => natL_stL f n j (by omega)
      rw [e0] at hI hS
      clear e0
      have hfb : ∀ k, (fun i => f (n - 1 - i)) k ≤ 1 := fun k => hf _
      have hJ := fun r W (h : W.ownsRow w1.heap.size 3 1 r n ((stL (fun i => f (n - 1 - i)) 0 n).map (Value.int .i64))) => implOnes r (stL (fun i => f (n - 1 - i)) 0 n) W (Ints.of_owns h) (Lies.of_owns h) (by rw [stL_len]; omega)
      rw [onesV_stL hfb hlen.1 hlen.2, hback] at hJ
      have hK := fun r W b (h : W.ownsRow b 3 1 r n ((stL (side f n) 0 n).map (Value.int .i64))) => implOnes r (stL (side f n) 0 n) W (Ints.of_owns h) (Lies.of_owns h) (by rw [stL_len]; omega)
      rw [onesV_stL hsl hlen.1 hlen.2, hones] at hK
      have hsn := fun j => stL_snoc (fun i => f (n - 1 - i)) 0 j
      obtain ⟨T, hTT⟩ : ∃ T, tot (st f) n = T := ⟨_, rfl⟩
      rw [hTT] at hI hS hJ hK hfew
      obtain ⟨C, hC⟩ := tri_even n
      rw [hC] at hfew
      have hCl : C ≤ 78 := by have : n * (n + 1) ≤ 12 * 13 := Nat.mul_le_mul hlen.2 (by omega); omega
      have hCi : (n : Int) * ((n : Int) + 1) = ((2 * C : Nat) : Int) := by rw [← hC]; simp
      have hCq : Int.tdiv ((2 * C : Nat) : Int) 2 = (C : Int) := by rw [show ((2 * C : Nat) : Int) = (2 : Int) * (C : Int) by simp]; exact Int.mul_tdiv_cancel_left _ (by omega)
      have hw1 : IntKind.i64.wrap ((2 * C : Nat) : Int) = ((2 * C : Nat) : Int) := IntWalk.i64_in _ (by omega)
      have hw2 : IntKind.i64.wrap (C : Int) = (C : Int) := IntWalk.i64_in _ (by omega)
      have hTl : (3 : Int) * (T : Int) ≤ (2 : Int) * (C : Int) + 2 := by omega
      have hw3 : IntKind.i64.wrap ((3 : Int) * (T : Int)) = (3 : Int) * (T : Int) := IntWalk.i64_in _ (by omega)
      have hTn : ¬ (T : Int) < 0 := by omega
      clear hback hones hsl hfb hTT hC hfew
      go_wp2_with fail
      go_at_call 34
      refine (hI _ hD1).mono ?_
      rintro e w2 ⟨rfl, b2⟩
      have hD2 := hD1.trans (b2.mono hD1.size)
      go_wp2_with fail
      go_at_call 35
      refine (hS _ hD2).mono ?_
      rintro e w3 ⟨rfl, b3⟩
      have hD3 := hD2.trans (b3.mono hD2.size)
      have hs3 := hD3.size
      have hm3 : (w3.alloc (.cells #[] 3)).ownsRow w1.heap.size 3 1 (.slice (some ⟨w3.heap.size, 0, none⟩) 0 0) 0 [] := World.ownsRow_made _ _ _ hs3 (by decide) rfl
      have hA3 : Below w1.heap.size w1 (w3.alloc (.cells #[] 3)) := hD3.alloc hs3 _
      clear b2 b3 hD1 hD2 hS
      go_wp2
      go_loopw [5, 6] (fun o i wr => ∃ j : Nat, j ≤ n ∧ i = .int .i64 ((n : Int) - 1 - (j : Nat)) ∧ wr.ownsRow w1.heap.size 3 1 o j ((stL (fun i => f (n - 1 - i)) 0 j).map (Value.int .i64)) ∧ Below w1.heap.size w1 wr) (fun _ i _ => (intOf i + 1).toNat)
      case atStart => exact ⟨0, by omega, by go_num, hm3, hA3⟩
      case round =>
        clear hm3 hA3 hD3 hs3
        obtain ⟨j, hj, rfl, hown, hD⟩ := hrel
        by_cases hlt : j < n
        · have hcj : wr.cell? ⟨g, n - 1 - j, none⟩ = some (.int .i64 (f (n - 1 - j) : Nat)) := (hD.cell (p := ⟨g, n - 1 - j, none⟩) hg).trans (hcf (n - 1 - j) (by omega))
          have hs := hsn j
          have hst : st (fun i => f (n - 1 - i)) 0 j = f (n - 1 - j) := rfl
          rw [hst] at hs
          have hs' := hide hs
          have k1 : (0 : Int) ≤ (n : Int) - 1 - (j : Int) := by omega
          have k2 : ((n : Int) - 1 - (j : Int)).toNat = n - 1 - j := by omega
          have k3 : (n : Int) - 1 - (j : Int) < (n : Int) := by omega
          have k4 : IntKind.i64.wrap ((n : Int) - 1 - (j : Int)) = (n : Int) - 1 - (j : Int) := IntWalk.i64_in _ (by omega)
          have k5 : IntKind.i64.wrap ((n : Int) - 1 - (j : Int) - 1) = (n : Int) - 1 - (j : Int) - 1 := IntWalk.i64_in _ (by omega)
          clear hs hst hsn hcf hJ hK hT hI
          generalize f (n - 1 - j) = z at *
          go_wp2_with (at_builtin; refine append_one rfl _ _ rfl w1.heap.size _ _ _ rfl hown rfl (by omega) (by have := hD.size; omega) ?_; intro v' w4 hown4 hgr4)
          go_roundw
          case rel => exact ⟨j + 1, by omega, by go_num, by rw [hs'.out, List.map_append]; exact hown4, (hD.alloc hD.size _).grown hgr4 (by have := hD.size; simp; omega) (fun b hb => (hown.lt b hb).1)⟩
          case measure => simp [intOf]; omega
        · obtain rfl : j = n := by omega
          obtain ⟨ab, cb, rfl⟩ := own_form hown
          have k1 : ¬ (0 : Int) ≤ (j : Int) - 1 - (j : Int) := by omega
          have hJ1 := hJ _ wr hown
          clear hJ hsn hcf hown hI
          go_wp2_with fail
          go_at_call 34
          refine hJ1.mono ?_
          rintro e w5 ⟨rfl, b5⟩
          have hD5 := hD.trans (b5.mono hD.size)
          clear hJ1 b5 hD
          go_wp2_with fail
          go_at_call 36
          refine (hT _ hD5).mono ?_
          rintro e w6 ⟨r, rfl, hown6, b6⟩
          have hD6 := hD5.trans (b6.mono hD5.size)
          have hK1 := hK _ _ _ hown6
          clear hT hK b6 hD5
          go_wp2_with fail
          go_at_call 34
          refine hK1.mono ?_
          rintro e w7 ⟨rfl, b7⟩
          have hD7 := hD6.trans (b7.mono hD6.size)
          clear hK1 hown6
          go_wp2
          go_ret
          exact ⟨rfl, hB1.trans (hD7.mono hB1.size)⟩
end Go.Proofs.Ytlkcdcmmcjkedaa
