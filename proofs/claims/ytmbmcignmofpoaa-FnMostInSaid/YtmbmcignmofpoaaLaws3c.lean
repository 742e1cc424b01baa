/-
  The walk of the law FnMostIn: it answers true at every code, and nothing that was there is written.
-/
import Derived.Test.YtmbmcignmofpoaaSpec3b
import Derived.Test.YtmbmcignmofpoaaImpl3
import Derived.Test.YtmbmcignmofpoaaDrawMost
import Derived.Test.YtmbmcignmofpoaaAlive
namespace Go.Proofs.Ytmbmcignmofpoaa
open Go.RowKit

theorem strip_le {p : Nat} (hp : 2 ≤ p) {n : Nat} (hn : 0 < n) : strip p n ≤ n := by
  have h := strip_val hp n hn
  have h2 := Nat.le_mul_of_pos_left (strip p n) (Nat.pow_pos (n := val p n) (show 0 < p by omega))
  omega

set_option maxRecDepth 100000 in
set_option maxHeartbeats 2000000 in
theorem lawMost (a0 : Option Addr) (len0 cap0 : Nat) (z0 : List Int) (w : World) (w0 : IsRow .u8 w a0 len0 cap0 z0) :
    Calls Try.prog 7 #[.slice a0 len0 cap0] w fun e w' => e = .returned (.bool true) ∧ Below w.heap.size w w' := by
  by_cases hbig : 1048576 < len0
  · go_enter Try.func7, Try.ntmps7
    go_wp2
    go_ret
    exact ⟨rfl, Below.refl _ _⟩
  · go_enter Try.func7, Try.ntmps7
    go_wp2_with fail
    go_at_call 30
    refine (drawMost w a0 len0 cap0 z0 w0).mono ?_
    rintro e w1 ⟨⟨x, y, hx, hy, rfl⟩, hB1⟩
    by_cases hbad : x < 1 ∨ 300 < x ∨ prmI y = false
    · have hI : ∀ w, Calls Try.prog 31 #[.int .i64 x, .int .i64 y] w fun e w' => e = .returned (.int .i64 (-1)) ∧ Below w.heap.size w w' := fun w => by simpa [mostV_bad hbad] using implMost x y hy w
      have hS : ∀ w, Calls Try.prog 32 #[.int .i64 x, .int .i64 y] w fun e w' => e = .returned (.int .i64 (-1)) ∧ w = w' := fun w => by simpa [mostV_bad hbad] using specMost x y w
      clear hbad
      go_wp2_with (first | (go_at_call 31; (with_reducible refine (hI _).mono ?_); rintro e w' ⟨rfl, hB'⟩; replace hB1 := hB1.trans (hB'.mono hB1.size); clear hB') | (go_at_call 32; (with_reducible refine (hS _).mono ?_); rintro e w' ⟨rfl, rfl⟩) | (go_at_call 19; refine (alive_in _).mono ?_; rintro e w' ⟨rfl, hB'⟩; replace hB1 := hB1.trans (hB'.mono hB1.size); clear hB'))
      go_ret
      exact ⟨rfl, hB1⟩
    · obtain ⟨B, rfl, hB⟩ := prmI_t (p := y) (by cases h : prmI y; exact absurd (.inr (.inr h)) hbad; rfl)
      obtain ⟨N, rfl⟩ : ∃ r : Nat, x = r := ⟨x.toNat, by omega⟩
      have hN0 : 1 ≤ N := by omega
      have hN : N ≤ 300 := by omega
      have hBB := prm_two hB
      clear hbad hx
      obtain ⟨m, hm⟩ : ∃ m, most B N = m := ⟨_, rfl⟩
      have hI : ∀ w, Calls Try.prog 31 #[.int .i64 N, .int .i64 B] w fun e w' => e = .returned (.int .i64 m) ∧ Below w.heap.size w w' := fun w => by simpa [mostV_nat hN0 hN hB, hm] using implMost N B hy w
      have hS : ∀ w, Calls Try.prog 32 #[.int .i64 N, .int .i64 B] w fun e w' => e = .returned (.int .i64 m) ∧ w = w' := fun w => by simpa [mostV_nat hN0 hN hB, hm] using specMost N B w
      have hpow := pow_most hBB.1 (show 0 < N by omega)
      have hpw : strip B N ≤ 1 → B ^ m = N := fun h => by rw [← hm]; exact most_power hBB.1 hN0 h
      have hno : strip B (N + 1) ≤ 1 → m = 0 := fun h => by rw [← hm]; exact most_none hBB.1 h
      rw [hm] at hpow
      have hmN : m ≤ 300 := by have := pow_gt hBB.1 m; omega
      have hs1 := strip_le hBB.1 (show 0 < N by omega)
      have hs2 := strip_le hBB.1 (show 0 < N + 1 by omega)
      have hm0 : ¬ (m : Int) < 0 := by omega
      clear hm
      have hpw' := hide hpw
      have hno' := hide hno
      clear hpw hno
      go_wp2_with (first | (go_at_call 31; (with_reducible refine (hI _).mono ?_); rintro e w' ⟨rfl, hB'⟩; replace hB1 := hB1.trans (hB'.mono hB1.size); clear hB') | (go_at_call 32; (with_reducible refine (hS _).mono ?_); rintro e w' ⟨rfl, rfl⟩))
      clear hI hS
      go_loop [6, 7] (fun q t => ∃ k Q : Nat, t = .int .i64 k ∧ q = .int .i64 Q ∧ k ≤ m ∧ Hid (Q = B ^ k) ∧ Q ≤ N) (fun _ t => m - (intOf t).toNat)
      case atStart => exact ⟨0, 1, rfl, rfl, by omega, hide (by simp), hN0⟩
      case round =>
        obtain ⟨k, Q, rfl, rfl, hk, hQ, hQN⟩ := hrel
        by_cases hlt : k < m
        · obtain ⟨Q', hQ'⟩ : ∃ Q', Q * B = Q' := ⟨_, rfl⟩
          have hQi : (Q : Int) * (B : Int) = (Q' : Int) := by rw [← hQ']; simp
          have hQ2 : Hid (Q' = B ^ (k + 1)) := hide (by rw [Nat.pow_succ, ← hQ.out, hQ'])
          have hQN' : Q' ≤ N := by rw [hQ2.out]; exact Nat.le_trans (Nat.pow_le_pow_right (by omega) hlt) hpow
          have hw : IntKind.i64.wrap (Q' : Int) = Q' := IntWalk.i64_in _ (by omega)
          clear hQ hQ' hpow
          go_wp2
          go_round
          case rel => exact ⟨k + 1, Q', by go_num, rfl, by omega, hQ2, hQN'⟩
          case measure => simp [intOf]; omega
        · obtain rfl : k = m := by omega
          clear hpow hlt hk
          have hlt' : ¬ (k : Int) < (k : Int) := by omega
          go_wp2
          clear hlt'
          go_loop [8] (fun q => ∃ Z : Nat, q = .int .i64 Z ∧ 0 < Z ∧ Z ≤ N ∧ Hid (strip B Z = strip B N)) (fun q => (intOf q).toNat)
          case atStart => exact ⟨N, rfl, by omega, Nat.le_refl _, hide rfl⟩
          case round =>
            obtain ⟨Z, rfl, hZ0, hZN, hZ⟩ := hrel
            have hq1 := tmod_n Z B
            have hq2 := tdiv_n Z B
            have hb0 : ((B : Int) == 0) = false := by simp; omega
            have hdl := Nat.div_lt_self hZ0 hBB.1
            by_cases hz : Z % B = 0
            · have hZ' : Hid (strip B (Z / B) = strip B N) := hide (by rw [← strip_yes hBB.1 hZ0 hz]; exact hZ.out)
              have hd0 := div_pos_of_mod hZ0 hz
              rw [hz] at hq1
              clear hz hZ
              generalize Z / B = Z' at *
              have hw2 : IntKind.i64.wrap (Z' : Int) = Z' := IntWalk.i64_in _ (by omega)
              go_wp2
              go_round
              case rel => exact ⟨Z', rfl, hd0, by omega, hZ'⟩
              case measure => simp [intOf]; omega
            · have hZs : Hid (Z = strip B N) := hide (by rw [← hZ.out, strip_no hz])
              have hz' : ¬ (((Z % B : Nat) : Int) = 0) := by omega
              have hz2 : (((Z % B : Nat) : Int) == 0) = false := by rw [beq_eq_false_iff_ne]; exact hz'
              have hr := Nat.mod_lt Z (show 0 < B by omega)
              clear hz hZ hq2 hdl
              generalize Z % B = r at *
              have hw1 : IntKind.i64.wrap (r : Int) = r := IntWalk.i64_in _ (by omega)
              go_wp2
              clear hz' hz2 hr hw1 hq1
              go_loop [9] (fun q => ∃ Y : Nat, q = .int .i64 Y ∧ 0 < Y ∧ Y ≤ N + 1 ∧ Hid (strip B Y = strip B (N + 1))) (fun q => (intOf q).toNat)
              case atStart => exact ⟨N + 1, by go_num, by omega, Nat.le_refl _, hide rfl⟩
              case round =>
                obtain ⟨Y, rfl, hY0, hYN, hY⟩ := hrel
                have hq1 := tmod_n Y B
                have hq2 := tdiv_n Y B
                have hdl := Nat.div_lt_self hY0 hBB.1
                by_cases hz : Y % B = 0
                · have hY' : Hid (strip B (Y / B) = strip B (N + 1)) := hide (by rw [← strip_yes hBB.1 hY0 hz]; exact hY.out)
                  have hd0 := div_pos_of_mod hY0 hz
                  rw [hz] at hq1
                  clear hz hY
                  generalize Y / B = Y' at *
                  have hw2 : IntKind.i64.wrap (Y' : Int) = Y' := IntWalk.i64_in _ (by omega)
                  go_wp2
                  go_round
                  case rel => exact ⟨Y', rfl, hd0, by omega, hY'⟩
                  case measure => simp [intOf]; omega
                · have hYs : Hid (Y = strip B (N + 1)) := hide (by rw [← hY.out, strip_no hz])
                  have hz' : ¬ (((Y % B : Nat) : Int) = 0) := by omega
                  have hz2 : (((Y % B : Nat) : Int) == 0) = false := by rw [beq_eq_false_iff_ne]; exact hz'
                  have hr := Nat.mod_lt Y (show 0 < B by omega)
                  clear hz hY hq2 hdl
                  generalize Y % B = r at *
                  have hw1 : IntKind.i64.wrap (r : Int) = r := IntWalk.i64_in _ (by omega)
                  by_cases c1 : 1 < Z
                  all_goals by_cases c2 : 1 < Y
                  · go_wp2_with (go_at_call 19; refine (alive_in _).mono ?_; rintro e w' ⟨rfl, hB'⟩; replace hB1 := hB1.trans (hB'.mono hB1.size); clear hB')
                    go_ret
                    exact ⟨rfl, hB1⟩
                  · obtain rfl : k = 0 := hno'.out (by rw [← hYs.out]; omega)
                    have c2' : ¬ (1 : Int) < (Y : Int) := by omega
                    go_wp2_with (go_at_call 19; refine (alive_in _).mono ?_; rintro e w' ⟨rfl, hB'⟩; replace hB1 := hB1.trans (hB'.mono hB1.size); clear hB')
                    go_ret
                    exact ⟨rfl, hB1⟩
                  · obtain rfl : Q = N := by rw [hQ.out]; exact hpw'.out (by rw [← hZs.out]; omega)
                    have c1' : ¬ (1 : Int) < (Z : Int) := by omega
                    go_wp2_with (go_at_call 19; refine (alive_in _).mono ?_; rintro e w' ⟨rfl, hB'⟩; replace hB1 := hB1.trans (hB'.mono hB1.size); clear hB')
                    go_ret
                    exact ⟨rfl, hB1⟩
                  · obtain rfl : Q = N := by rw [hQ.out]; exact hpw'.out (by rw [← hZs.out]; omega)
                    obtain rfl : k = 0 := hno'.out (by rw [← hYs.out]; omega)
                    have c1' : ¬ (1 : Int) < (Z : Int) := by omega
                    have c2' : ¬ (1 : Int) < (Y : Int) := by omega
                    go_wp2_with (go_at_call 19; refine (alive_in _).mono ?_; rintro e w' ⟨rfl, hB'⟩; replace hB1 := hB1.trans (hB'.mono hB1.size); clear hB')
                    go_ret
                    exact ⟨rfl, hB1⟩
end Go.Proofs.Ytmbmcignmofpoaa
