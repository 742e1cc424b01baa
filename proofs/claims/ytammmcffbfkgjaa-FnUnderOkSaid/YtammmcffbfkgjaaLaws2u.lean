/-
  The walk of the law FnUnderOk: it answers true at every code, and nothing that was there is written.
-/
import Derived.Test.YtammmcffbfkgjaaExact2
import Derived.Test.YtammmcffbfkgjaaDraw2
namespace Go.Proofs.Ytammmcffbfkgjaa
open Go.RowKit

set_option maxHeartbeats 400000 in
theorem lawUnder (a0 : Option Addr) (len0 cap0 : Nat) (z0 : List Int) (w : World) (w0 : IsRow .u8 w a0 len0 cap0 z0) :
    Calls Try.prog 6 #[.slice a0 len0 cap0] w fun e w' => e = .returned (.bool true) ∧ Below w.heap.size w w' := by
  by_cases hbig : 1048576 < len0
  · go_enter Try.func6, Try.ntmps6
    go_wp2
    go_ret
    exact ⟨rfl, Below.refl _ _⟩
  · go_enter Try.func6, Try.ntmps6
    go_wp2_with fail
    go_at_call 24
    refine (drawUnder w a0 len0 cap0 z0 w0).mono ?_
    rintro e w1 ⟨⟨x, y, z, hx, hy, hz, rfl⟩, hB1⟩
    unfold Fits at hx hy hz
    by_cases hbad : bad3 x y z
    · have hI : ∀ w, Calls Try.prog 25 #[.int .i64 x, .int .i64 y, .int .i64 z] w fun e w' => e = .returned (.bool false) ∧ Below w.heap.size w w' := fun w => by simpa [underV_bad hbad] using implUnder x y z w
      have hS : ∀ w, Calls Try.prog 26 #[.int .i64 x, .int .i64 y, .int .i64 z] w fun e w' => e = .returned (.bool false) ∧ Below w.heap.size w w' := fun w => by simpa [underV_bad hbad] using specUnder x y z w
      by_cases hbx : bad1 x z
      · have hA : ∀ w, Calls Try.prog 20 #[.int .i64 x, .int .i64 z] w fun e w' => e = .returned (.int .i64 (-1)) ∧ w = w' := fun w => by simpa [sumV_bad hbx] using specSum x z w
        clear hbad hbx
        go_wp2_with (first | (go_at_call 25; (with_reducible refine (hI _).mono ?_); rintro e w' ⟨rfl, hB'⟩; replace hB1 := hB1.trans (hB'.mono hB1.size); clear hB') | (go_at_call 26; (with_reducible refine (hS _).mono ?_); rintro e w' ⟨rfl, hB'⟩; replace hB1 := hB1.trans (hB'.mono hB1.size); clear hB') | (go_at_call 20; (with_reducible refine (hA _).mono ?_); rintro e w' ⟨rfl, rfl⟩) | (go_at_call 17; refine (alive_in _).mono ?_; rintro e w' ⟨rfl, hB'⟩; replace hB1 := hB1.trans (hB'.mono hB1.size); clear hB'))
        go_ret
        exact ⟨rfl, hB1⟩
      · have hby : bad1 y z := by unfold bad1 bad3 at *; omega
        obtain ⟨s, hs, hs0⟩ : ∃ s : Int, sumV x z = s ∧ 0 ≤ s := ⟨_, rfl, by unfold sumV; rw [if_neg hbx]; omega⟩
        have hA : ∀ w, Calls Try.prog 20 #[.int .i64 x, .int .i64 z] w fun e w' => e = .returned (.int .i64 s) ∧ w = w' := fun w => by simpa [hs] using specSum x z w
        have hA2 : ∀ w, Calls Try.prog 20 #[.int .i64 y, .int .i64 z] w fun e w' => e = .returned (.int .i64 (-1)) ∧ w = w' := fun w => by simpa [sumV_bad hby] using specSum y z w
        have hxy : x ≠ y := by rintro rfl; exact hbx hby
        have hs1 : ¬ s < 0 := by omega
        clear hbad hbx hby hs hs0
        go_wp2_with (first | (go_at_call 25; (with_reducible refine (hI _).mono ?_); rintro e w' ⟨rfl, hB'⟩; replace hB1 := hB1.trans (hB'.mono hB1.size); clear hB') | (go_at_call 26; (with_reducible refine (hS _).mono ?_); rintro e w' ⟨rfl, hB'⟩; replace hB1 := hB1.trans (hB'.mono hB1.size); clear hB') | (go_at_call 20; (with_reducible refine (hA _).mono ?_); rintro e w' ⟨rfl, rfl⟩) | (go_at_call 20; (with_reducible refine (hA2 _).mono ?_); rintro e w' ⟨rfl, rfl⟩) | (go_at_call 17; refine (alive_in _).mono ?_; rintro e w' ⟨rfl, hB'⟩; replace hB1 := hB1.trans (hB'.mono hB1.size); clear hB'))
        go_ret
        exact ⟨rfl, hB1⟩
    · unfold bad3 at hbad
      obtain ⟨X, rfl⟩ : ∃ r : Nat, x = r := ⟨x.toNat, by omega⟩
      obtain ⟨Y, rfl⟩ : ∃ r : Nat, y = r := ⟨y.toNat, by omega⟩
      obtain ⟨B, rfl⟩ : ∃ r : Nat, z = r := ⟨z.toNat, by omega⟩
      have hX : X ≤ 999999999 := by omega
      have hY : Y ≤ 999999999 := by omega
      have hB : 2 ≤ B := by omega
      have hB2 : B ≤ 16 := by omega
      clear hbad hx hy hz
      obtain ⟨v, hv⟩ : ∃ v, und B X Y = v := ⟨_, rfl⟩
      have hsx := sum_le hB X
      have hsy := sum_le hB Y
      have hsd := sum_le hB (Y - X)
      have hcond : v = true ↔ X ≤ Y ∧ sumL (digs B X) + sumL (digs B (Y - X)) = sumL (digs B Y) := by rw [← hv]; exact und_sums hB X Y
      have hI : ∀ w, Calls Try.prog 25 #[.int .i64 X, .int .i64 Y, .int .i64 B] w fun e w' => e = .returned (.bool v) ∧ Below w.heap.size w w' := fun w => by simpa [underV_nat hX hY hB hB2, hv] using implUnder X Y B w
      have hS : ∀ w, Calls Try.prog 26 #[.int .i64 X, .int .i64 Y, .int .i64 B] w fun e w' => e = .returned (.bool v) ∧ Below w.heap.size w w' := fun w => by simpa [underV_nat hX hY hB hB2, hv] using specUnder X Y B w
      have hM : ∀ w, Calls Try.prog 25 #[.int .i64 Y, .int .i64 Y, .int .i64 B] w fun e w' => e = .returned (.bool true) ∧ Below w.heap.size w w' := fun w => by simpa [underV_nat hY hY hB hB2, und_same hB] using implUnder Y Y B w
      have hA : ∀ w, Calls Try.prog 20 #[.int .i64 X, .int .i64 B] w fun e w' => e = .returned (.int .i64 (sumL (digs B X))) ∧ w = w' := fun w => by simpa [sumV_nat hX hB hB2] using specSum X B w
      have hA2 : ∀ w, Calls Try.prog 20 #[.int .i64 Y, .int .i64 B] w fun e w' => e = .returned (.int .i64 (sumL (digs B Y))) ∧ w = w' := fun w => by simpa [sumV_nat hY hB hB2] using specSum Y B w
      have hJa : ∀ w, Calls Try.prog 19 #[.int .i64 X, .int .i64 B] w fun e w' => e = .returned (.int .i64 (sumL (digs B X))) ∧ Below w.heap.size w w' := fun w => by simpa [sumV_nat hX hB hB2] using implSum X B w
      have hJb : ∀ w, Calls Try.prog 19 #[.int .i64 Y, .int .i64 B] w fun e w' => e = .returned (.int .i64 (sumL (digs B Y))) ∧ Below w.heap.size w w' := fun w => by simpa [sumV_nat hY hB hB2] using implSum Y B w
      clear hv
      by_cases hle : X ≤ Y
      · obtain ⟨D, hD⟩ : ∃ D, Y = X + D := ⟨Y - X, by omega⟩
        subst hD
        rw [Nat.add_sub_cancel_left] at hcond hsd
        have hDm : max (((X + D : Nat) : Int) - X) 0 = (D : Int) := by omega
        have hDw : ((X + D : Nat) : Int) - X = (D : Int) := by omega
        have hJd : ∀ w, Calls Try.prog 19 #[.int .i64 D, .int .i64 B] w fun e w' => e = .returned (.int .i64 (sumL (digs B D))) ∧ Below w.heap.size w w' := fun w => by simpa [sumV_nat (n := D) (by omega) hB hB2] using implSum D B w
        obtain ⟨sa, hsa⟩ : ∃ s, sumL (digs B X) = s := ⟨_, rfl⟩
        obtain ⟨sb, hsb⟩ : ∃ s, sumL (digs B (X + D)) = s := ⟨_, rfl⟩
        obtain ⟨sd, hsd'⟩ : ∃ s, sumL (digs B D) = s := ⟨_, rfl⟩
        obtain ⟨Z, hZ⟩ : ∃ Z, X + D = Z := ⟨_, rfl⟩
        rw [hsa] at hcond hsx
        rw [hsb] at hcond hsy
        rw [hsd'] at hcond hsd
        simp only [hsa, hsb] at hA hA2 hJa hJb
        simp only [hsd'] at hJd
        simp only [hZ] at *
        clear hsa hsb hsd' hZ
        have hle' : (X : Int) ≤ Z := by omega
        cases v with
        | true =>
          have hsum : sa + sd = sb := (hcond.1 rfl).2
          subst hsum
          clear hcond
          go_wp2_with (first | (go_at_call 25; (with_reducible refine (hI _).mono ?_); rintro e w' ⟨rfl, hB'⟩; replace hB1 := hB1.trans (hB'.mono hB1.size); clear hB') | (go_at_call 25; (with_reducible refine (hM _).mono ?_); rintro e w' ⟨rfl, hB'⟩; replace hB1 := hB1.trans (hB'.mono hB1.size); clear hB') | (go_at_call 26; (with_reducible refine (hS _).mono ?_); rintro e w' ⟨rfl, hB'⟩; replace hB1 := hB1.trans (hB'.mono hB1.size); clear hB') | (go_at_call 20; (with_reducible refine (hA _).mono ?_); rintro e w' ⟨rfl, rfl⟩) | (go_at_call 20; (with_reducible refine (hA2 _).mono ?_); rintro e w' ⟨rfl, rfl⟩) | (go_at_call 19; (with_reducible refine (hJa _).mono ?_); rintro e w' ⟨rfl, hB'⟩; replace hB1 := hB1.trans (hB'.mono hB1.size); clear hB') | (go_at_call 19; (with_reducible refine (hJb _).mono ?_); rintro e w' ⟨rfl, hB'⟩; replace hB1 := hB1.trans (hB'.mono hB1.size); clear hB') | (go_at_call 19; (with_reducible refine (hJd _).mono ?_); rintro e w' ⟨rfl, hB'⟩; replace hB1 := hB1.trans (hB'.mono hB1.size); clear hB'))
          go_ret
          exact ⟨rfl, hB1⟩
        | false =>
          have hsum : ((sa : Int) + sd == sb) = false := by
            simp only [Bool.false_eq_true, false_iff] at hcond
            simp; omega
          clear hcond
          go_wp2_with (first | (go_at_call 25; (with_reducible refine (hI _).mono ?_); rintro e w' ⟨rfl, hB'⟩; replace hB1 := hB1.trans (hB'.mono hB1.size); clear hB') | (go_at_call 25; (with_reducible refine (hM _).mono ?_); rintro e w' ⟨rfl, hB'⟩; replace hB1 := hB1.trans (hB'.mono hB1.size); clear hB') | (go_at_call 26; (with_reducible refine (hS _).mono ?_); rintro e w' ⟨rfl, hB'⟩; replace hB1 := hB1.trans (hB'.mono hB1.size); clear hB') | (go_at_call 20; (with_reducible refine (hA _).mono ?_); rintro e w' ⟨rfl, rfl⟩) | (go_at_call 20; (with_reducible refine (hA2 _).mono ?_); rintro e w' ⟨rfl, rfl⟩) | (go_at_call 19; (with_reducible refine (hJa _).mono ?_); rintro e w' ⟨rfl, hB'⟩; replace hB1 := hB1.trans (hB'.mono hB1.size); clear hB') | (go_at_call 19; (with_reducible refine (hJb _).mono ?_); rintro e w' ⟨rfl, hB'⟩; replace hB1 := hB1.trans (hB'.mono hB1.size); clear hB') | (go_at_call 19; (with_reducible refine (hJd _).mono ?_); rintro e w' ⟨rfl, hB'⟩; replace hB1 := hB1.trans (hB'.mono hB1.size); clear hB'))
          go_ret
          exact ⟨rfl, hB1⟩
      · have hvf : v = false := by
          cases v with
          | false => rfl
          | true => exact absurd (hcond.1 rfl).1 hle
        subst hvf
        clear hcond hsd
        have hle' : ¬ (X : Int) ≤ Y := by omega
        obtain ⟨sa, hsa⟩ : ∃ s, sumL (digs B X) = s := ⟨_, rfl⟩
        obtain ⟨sb, hsb⟩ : ∃ s, sumL (digs B Y) = s := ⟨_, rfl⟩
        simp only [hsa, hsb] at *
        clear hsa hsb hJa hJb
        go_wp2_with (first | (go_at_call 25; (with_reducible refine (hI _).mono ?_); rintro e w' ⟨rfl, hB'⟩; replace hB1 := hB1.trans (hB'.mono hB1.size); clear hB') | (go_at_call 25; (with_reducible refine (hM _).mono ?_); rintro e w' ⟨rfl, hB'⟩; replace hB1 := hB1.trans (hB'.mono hB1.size); clear hB') | (go_at_call 26; (with_reducible refine (hS _).mono ?_); rintro e w' ⟨rfl, hB'⟩; replace hB1 := hB1.trans (hB'.mono hB1.size); clear hB') | (go_at_call 20; (with_reducible refine (hA _).mono ?_); rintro e w' ⟨rfl, rfl⟩) | (go_at_call 20; (with_reducible refine (hA2 _).mono ?_); rintro e w' ⟨rfl, rfl⟩))
        go_ret
        exact ⟨rfl, hB1⟩
end Go.Proofs.Ytammmcffbfkgjaa
