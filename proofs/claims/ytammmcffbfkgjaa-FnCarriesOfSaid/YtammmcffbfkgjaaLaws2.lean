/-
  The walks of the laws FnCarriesOf and FnUnderOk: each answers true at every code, and nothing that was there is written.
-/
import Derived.Test.YtammmcffbfkgjaaExact2
import Derived.Test.YtammmcffbfkgjaaDraw2
namespace Go.Proofs.Ytammmcffbfkgjaa
open Go.RowKit

set_option maxHeartbeats 400000 in
theorem lawCarries (a0 : Option Addr) (len0 cap0 : Nat) (z0 : List Int) (w : World) (w0 : IsRow .u8 w a0 len0 cap0 z0) :
    Calls Try.prog 5 #[.slice a0 len0 cap0] w fun e w' => e = .returned (.bool true) ∧ Below w.heap.size w w' := by
  by_cases hbig : 1048576 < len0
  · go_enter Try.func5, Try.ntmps5
    go_wp2
    go_ret
    exact ⟨rfl, Below.refl _ _⟩
  · go_enter Try.func5, Try.ntmps5
    go_wp2_with fail
    go_at_call 21
    refine (drawCarries w a0 len0 cap0 z0 w0).mono ?_
    rintro e w1 ⟨⟨x, y, z, hx, hy, hz, rfl⟩, hB1⟩
    unfold Fits at hx hy hz
    by_cases hbad : bad2 x y z
    · have hI : ∀ w, Calls Try.prog 22 #[.int .i64 x, .int .i64 y, .int .i64 z] w fun e w' => e = .returned (.int .i64 (-1)) ∧ Below w.heap.size w w' := fun w => by simpa [carriesV_bad hbad] using implCarries x y z w
      have hS : ∀ w, Calls Try.prog 23 #[.int .i64 x, .int .i64 y, .int .i64 z] w fun e w' => e = .returned (.int .i64 (-1)) ∧ Below w.heap.size w w' := fun w => by simpa [carriesV_bad hbad] using specCarries x y z w
      clear hbad
      go_wp2_with (first | (go_at_call 22; (with_reducible refine (hI _).mono ?_); rintro e w' ⟨rfl, hB'⟩; replace hB1 := hB1.trans (hB'.mono hB1.size); clear hB') | (go_at_call 23; (with_reducible refine (hS _).mono ?_); rintro e w' ⟨rfl, hB'⟩; replace hB1 := hB1.trans (hB'.mono hB1.size); clear hB') | (go_at_call 17; refine (alive_in _).mono ?_; rintro e w' ⟨rfl, hB'⟩; replace hB1 := hB1.trans (hB'.mono hB1.size); clear hB'))
      go_ret
      exact ⟨rfl, hB1⟩
    · unfold bad2 at hbad
      obtain ⟨X, rfl⟩ : ∃ r : Nat, x = r := ⟨x.toNat, by omega⟩
      obtain ⟨Y, rfl⟩ : ∃ r : Nat, y = r := ⟨y.toNat, by omega⟩
      obtain ⟨B, rfl⟩ : ∃ r : Nat, z = r := ⟨z.toNat, by omega⟩
      have hX : X ≤ 499999999 := by omega
      have hY : Y ≤ 499999999 := by omega
      have hB : 2 ≤ B := by omega
      have hB2 : B ≤ 16 := by omega
      clear hbad hx hy hz
      obtain ⟨n, sa, sb, sc, hn, hm, ha, hb, hc, heq, hn1, ha1, hb1, hc1⟩ : ∃ n sa sb sc : Nat, carriesV X Y B = n ∧ carriesV Y X B = n ∧ sumV X B = sa ∧ sumV Y B = sb ∧ sumV ((X : Int) + Y) B = sc ∧ (n : Int) * ((B : Int) - 1) = sa + sb - sc ∧ n ≤ 999999999 ∧ sa ≤ 499999999 ∧ sb ≤ 499999999 ∧ sc ≤ 999999999 := by
        have h1 := carries hB X Y 0 (by omega)
        rw [Nat.add_zero, Nat.add_zero] at h1
        have h2 : carL B 0 (pairs B X Y) ≤ X + Y := Nat.le_trans (carL_le 0 _ (by omega) (pairs_lt hB X Y)) (pairs_len hB X Y)
        have h3 := sum_le hB X
        have h4 := sum_le hB Y
        have h5 := sum_le hB (X + Y)
        refine ⟨carL B 0 (pairs B X Y), sumL (digs B X), sumL (digs B Y), sumL (digs B (X + Y)), carriesV_nat hX hY hB hB2, by rw [carriesV_nat hY hX hB hB2, pairs_swap hB, carL_swap], sumV_nat (by omega) hB hB2, sumV_nat (by omega) hB hB2, sumV_nat (n := X + Y) (by omega) hB hB2, ?_, by omega, by omega, by omega, by omega⟩
        obtain ⟨c, rfl⟩ : ∃ c, B = c + 1 := ⟨B - 1, by omega⟩
        rw [Nat.add_sub_cancel] at h1
        rw [show ((c + 1 : Nat) : Int) - 1 = (c : Int) by omega, ← Int.natCast_mul, Nat.mul_comm]
        omega
      have hI : ∀ w, Calls Try.prog 22 #[.int .i64 X, .int .i64 Y, .int .i64 B] w fun e w' => e = .returned (.int .i64 n) ∧ Below w.heap.size w w' := fun w => by simpa [hn] using implCarries X Y B w
      have hS : ∀ w, Calls Try.prog 23 #[.int .i64 X, .int .i64 Y, .int .i64 B] w fun e w' => e = .returned (.int .i64 n) ∧ Below w.heap.size w w' := fun w => by simpa [hn] using specCarries X Y B w
      have hM : ∀ w, Calls Try.prog 22 #[.int .i64 Y, .int .i64 X, .int .i64 B] w fun e w' => e = .returned (.int .i64 n) ∧ Below w.heap.size w w' := fun w => by simpa [hm] using implCarries Y X B w
      have hJa : ∀ w, Calls Try.prog 19 #[.int .i64 X, .int .i64 B] w fun e w' => e = .returned (.int .i64 sa) ∧ Below w.heap.size w w' := fun w => by simpa [ha] using implSum X B w
      have hJb : ∀ w, Calls Try.prog 19 #[.int .i64 Y, .int .i64 B] w fun e w' => e = .returned (.int .i64 sb) ∧ Below w.heap.size w w' := fun w => by simpa [hb] using implSum Y B w
      have hJc : ∀ w, Calls Try.prog 19 #[.int .i64 ((X : Int) + Y), .int .i64 B] w fun e w' => e = .returned (.int .i64 sc) ∧ Below w.heap.size w w' := fun w => by simpa [hc] using implSum ((X : Int) + Y) B w
      have hn0 : ¬ ((n : Int) < 0) := by omega
      clear hn hm ha hb hc
      go_wp2_with (first | (go_at_call 22; (with_reducible refine (hI _).mono ?_); rintro e w' ⟨rfl, hB'⟩; replace hB1 := hB1.trans (hB'.mono hB1.size); clear hB') | (go_at_call 22; (with_reducible refine (hM _).mono ?_); rintro e w' ⟨rfl, hB'⟩; replace hB1 := hB1.trans (hB'.mono hB1.size); clear hB') | (go_at_call 23; (with_reducible refine (hS _).mono ?_); rintro e w' ⟨rfl, hB'⟩; replace hB1 := hB1.trans (hB'.mono hB1.size); clear hB') | (go_at_call 19; (with_reducible refine (hJa _).mono ?_); rintro e w' ⟨rfl, hB'⟩; replace hB1 := hB1.trans (hB'.mono hB1.size); clear hB') | (go_at_call 19; (with_reducible refine (hJb _).mono ?_); rintro e w' ⟨rfl, hB'⟩; replace hB1 := hB1.trans (hB'.mono hB1.size); clear hB') | (go_at_call 19; (with_reducible refine (hJc _).mono ?_); rintro e w' ⟨rfl, hB'⟩; replace hB1 := hB1.trans (hB'.mono hB1.size); clear hB') | (go_at_call 17; refine (alive_in _).mono ?_; rintro e w' ⟨rfl, hB'⟩; replace hB1 := hB1.trans (hB'.mono hB1.size); clear hB'))
      go_ret
      exact ⟨rfl, hB1⟩
end Go.Proofs.Ytammmcffbfkgjaa
