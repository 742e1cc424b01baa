/-
  The walks of the laws FnCellOf, FnSlopeOf, FnHeapsOf, FnTurnsOf: each answers true at every code, and nothing that was there is written.
-/
import Derived.Test.YtncaddoflbdlpaaExact
import Derived.Test.YtncaddoflbdlpaaDraw1
namespace Go.Proofs.Ytncaddoflbdlpaa
open Go.RowKit

theorem lawCell (a0 : Option Addr) (len0 cap0 : Nat) (z0 : List Int) (w : World) (w0 : IsRow .u8 w a0 len0 cap0 z0) :
    Calls Try.prog 4 #[.slice a0 len0 cap0] w fun e w' => e = .returned (.bool true) ∧ Below w.heap.size w w' := by
  by_cases hbig : 1048576 < len0
  · go_enter Try.func4, Try.ntmps4
    go_wp2
    go_ret
    exact ⟨rfl, Below.refl _ _⟩
  · go_enter Try.func4, Try.ntmps4
    go_wp2_with fail
    go_at_call 18
    refine (drawCell w a0 len0 cap0 z0 w0).mono ?_
    rintro e w1 ⟨⟨x, y, hx, hy, rfl⟩, hB1⟩
    unfold Fits at hx hy
    by_cases hbad : x < 0 ∨ 60 < x ∨ y < 0
    · have hI : ∀ w, Calls Try.prog 19 #[.int .i64 x, .int .i64 y] w fun e w' => e = .returned (.int .i64 (-1)) ∧ Below w.heap.size w w' := fun w => by simpa [cellV_bad hbad] using implCell x y w
      have hS : ∀ w, Calls Try.prog 20 #[.int .i64 x, .int .i64 y] w fun e w' => e = .returned (.int .i64 (-1)) ∧ Below w.heap.size w w' := fun w => by simpa [cellV_bad hbad] using specCell x y w
      clear hbad
      go_wp2_with (first | (go_at_call 19; (with_reducible refine (hI _).mono ?_); rintro e w' ⟨rfl, hB'⟩; replace hB1 := hB1.trans (hB'.mono hB1.size); clear hB') | (go_at_call 20; (with_reducible refine (hS _).mono ?_); rintro e w' ⟨rfl, hB'⟩; replace hB1 := hB1.trans (hB'.mono hB1.size); clear hB') | (go_at_call 17; refine (alive_in _).mono ?_; rintro e w' ⟨rfl, hB'⟩; replace hB1 := hB1.trans (hB'.mono hB1.size); clear hB'))
      go_ret
      exact ⟨rfl, hB1⟩
    · by_cases hz : x = 0 ∨ y = 0
      · obtain ⟨n, hn, hn1⟩ : ∃ n : Int, cellV x y = n ∧ ((n = 1 ∧ y = 0) ∨ (n = 0 ∧ y ≠ 0 ∧ x = 0)) := by
          obtain ⟨r, rfl⟩ : ∃ r : Nat, x = r := ⟨x.toNat, by omega⟩
          obtain ⟨k, rfl⟩ : ∃ k : Nat, y = k := ⟨y.toNat, by omega⟩
          refine ⟨_, cellV_nat (by omega), ?_⟩
          by_cases hk : k = 0
          · subst hk; rw [bin_zero]; exact .inl ⟨rfl, rfl⟩
          · have : r = 0 := by omega
            subst this; rw [bin_over 0 k (by omega)]; exact .inr ⟨rfl, by omega, rfl⟩
        have hI : ∀ w, Calls Try.prog 19 #[.int .i64 x, .int .i64 y] w fun e w' => e = .returned (.int .i64 n) ∧ Below w.heap.size w w' := fun w => by simpa [hn] using implCell x y w
        have hS : ∀ w, Calls Try.prog 20 #[.int .i64 x, .int .i64 y] w fun e w' => e = .returned (.int .i64 n) ∧ Below w.heap.size w w' := fun w => by simpa [hn] using specCell x y w
        clear hn
        rcases hn1 with ⟨rfl, rfl⟩ | ⟨rfl, hy0, rfl⟩
        · clear hz hbad
          go_wp2_with (first | (go_at_call 19; (with_reducible refine (hI _).mono ?_); rintro e w' ⟨rfl, hB'⟩; replace hB1 := hB1.trans (hB'.mono hB1.size); clear hB') | (go_at_call 20; (with_reducible refine (hS _).mono ?_); rintro e w' ⟨rfl, hB'⟩; replace hB1 := hB1.trans (hB'.mono hB1.size); clear hB') | (go_at_call 17; refine (alive_in _).mono ?_; rintro e w' ⟨rfl, hB'⟩; replace hB1 := hB1.trans (hB'.mono hB1.size); clear hB'))
          all_goals
            go_ret
            exact ⟨rfl, hB1⟩
        · have hy1 : (y == 0) = false := by simpa using hy0
          clear hz hbad hy0
          go_wp2_with (first | (go_at_call 19; (with_reducible refine (hI _).mono ?_); rintro e w' ⟨rfl, hB'⟩; replace hB1 := hB1.trans (hB'.mono hB1.size); clear hB') | (go_at_call 20; (with_reducible refine (hS _).mono ?_); rintro e w' ⟨rfl, hB'⟩; replace hB1 := hB1.trans (hB'.mono hB1.size); clear hB') | (go_at_call 17; refine (alive_in _).mono ?_; rintro e w' ⟨rfl, hB'⟩; replace hB1 := hB1.trans (hB'.mono hB1.size); clear hB'))
          go_ret
          exact ⟨rfl, hB1⟩
      · obtain ⟨p, q, hn, hp, hq, habs, hp0, hp1, hq0, hq1⟩ : ∃ p q : Int, cellV x y = p + q ∧ cellV (x - 1) y = p ∧ cellV (x - 1) (y - 1) = q ∧ (p + q) * y = x * q ∧ 0 ≤ p ∧ p ≤ 2305843009213693952 ∧ 0 ≤ q ∧ q ≤ 2305843009213693952 := by
          obtain ⟨m, rfl⟩ : ∃ m : Nat, x = m + 1 := ⟨(x - 1).toNat, by omega⟩
          obtain ⟨j, rfl⟩ : ∃ j : Nat, y = j + 1 := ⟨(y - 1).toNat, by omega⟩
          have h1 : cellV ((m : Int) + 1) ((j : Int) + 1) = bin (m + 1) (j + 1) := cellV_nat (r := m + 1) (k := j + 1) (by omega)
          have h2 : cellV m ((j : Int) + 1) = bin m (j + 1) := cellV_nat (k := j + 1) (by omega)
          have h3 : cellV m j = bin m j := cellV_nat (by omega)
          have hs1 := bin_small m (j + 1) (by omega)
          have hs2 := bin_small m j (by omega)
          refine ⟨bin m (j + 1), bin m j, by rw [h1, bin_succ]; omega, by rw [show (m : Int) + 1 - 1 = m by omega, h2], by rw [show (m : Int) + 1 - 1 = m by omega, show (j : Int) + 1 - 1 = j by omega, h3], ?_, by omega, by omega, by omega, by omega⟩
          have := absorb m j
          rw [show ((bin m (j + 1) : Int) + bin m j) = (bin (m + 1) (j + 1) : Int) by rw [bin_succ]; omega]
          exact_mod_cast this
        have hI : ∀ w, Calls Try.prog 19 #[.int .i64 x, .int .i64 y] w fun e w' => e = .returned (.int .i64 (p + q)) ∧ Below w.heap.size w w' := fun w => by simpa [hn] using implCell x y w
        have hS : ∀ w, Calls Try.prog 20 #[.int .i64 x, .int .i64 y] w fun e w' => e = .returned (.int .i64 (p + q)) ∧ Below w.heap.size w w' := fun w => by simpa [hn] using specCell x y w
        have hJ : ∀ w, Calls Try.prog 19 #[.int .i64 (x - 1), .int .i64 y] w fun e w' => e = .returned (.int .i64 p) ∧ Below w.heap.size w w' := fun w => by simpa [hp] using implCell (x - 1) y w
        have hK : ∀ w, Calls Try.prog 19 #[.int .i64 (x - 1), .int .i64 (y - 1)] w fun e w' => e = .returned (.int .i64 q) ∧ Below w.heap.size w w' := fun w => by simpa [hq] using implCell (x - 1) (y - 1) w
        have hx1 : 1 ≤ x := by omega
        have hy1 : 1 ≤ y := by omega
        have hx2 : x ≤ 60 := by omega
        have hx3 : (x == 0) = false := by simp; omega
        have hy3 : (y == 0) = false := by simp; omega
        clear hn hp hq hz hbad
        go_wp2_with (first | (go_at_call 19; (with_reducible refine (hI _).mono ?_); rintro e w' ⟨rfl, hB'⟩; replace hB1 := hB1.trans (hB'.mono hB1.size); clear hB') | (go_at_call 20; (with_reducible refine (hS _).mono ?_); rintro e w' ⟨rfl, hB'⟩; replace hB1 := hB1.trans (hB'.mono hB1.size); clear hB') | (go_at_call 19; (with_reducible refine (hJ _).mono ?_); rintro e w' ⟨rfl, hB'⟩; replace hB1 := hB1.trans (hB'.mono hB1.size); clear hB') | (go_at_call 19; (with_reducible refine (hK _).mono ?_); rintro e w' ⟨rfl, hB'⟩; replace hB1 := hB1.trans (hB'.mono hB1.size); clear hB'))
        go_ret
        exact ⟨rfl, hB1⟩

set_option maxHeartbeats 400000 in
theorem lawSlope (a0 : Option Addr) (len0 cap0 : Nat) (z0 : List Int) (w : World) (w0 : IsRow .u8 w a0 len0 cap0 z0) :
    Calls Try.prog 5 #[.slice a0 len0 cap0] w fun e w' => e = .returned (.bool true) ∧ Below w.heap.size w w' := by
  by_cases hbig : 1048576 < len0
  · go_enter Try.func5, Try.ntmps5
    go_wp2
    go_ret
    exact ⟨rfl, Below.refl _ _⟩
  · go_enter Try.func5, Try.ntmps5
    go_wp2_with fail
    go_at_call 21
    refine (drawSlope w a0 len0 cap0 z0 w0).mono ?_
    rintro e w1 ⟨⟨x, y, hx, hy, rfl⟩, hB1⟩
    unfold Fits at hx hy
    by_cases hbad : x < 0 ∨ 59 < x ∨ y < 0 ∨ 60 < y
    · have hI : ∀ w, Calls Try.prog 22 #[.int .i64 x, .int .i64 y] w fun e w' => e = .returned (.int .i64 (-1)) ∧ Below w.heap.size w w' := fun w => by simpa [slopeV_bad hbad] using implSlope x y w
      have hS : ∀ w, Calls Try.prog 23 #[.int .i64 x, .int .i64 y] w fun e w' => e = .returned (.int .i64 (-1)) ∧ Below w.heap.size w w' := fun w => by simpa [slopeV_bad hbad] using specSlope x y w
      clear hbad
      go_wp2_with (first | (go_at_call 22; (with_reducible refine (hI _).mono ?_); rintro e w' ⟨rfl, hB'⟩; replace hB1 := hB1.trans (hB'.mono hB1.size); clear hB') | (go_at_call 23; (with_reducible refine (hS _).mono ?_); rintro e w' ⟨rfl, hB'⟩; replace hB1 := hB1.trans (hB'.mono hB1.size); clear hB') | (go_at_call 17; refine (alive_in _).mono ?_; rintro e w' ⟨rfl, hB'⟩; replace hB1 := hB1.trans (hB'.mono hB1.size); clear hB'))
      go_ret
      exact ⟨rfl, hB1⟩
    · obtain ⟨n, hn, hc, hn0, hn1⟩ : ∃ n : Int, slopeV x y = n ∧ cellV (x + 1) (y + 1) = n ∧ 0 ≤ n ∧ n ≤ 2305843009213693952 := by
        obtain ⟨r, rfl⟩ : ∃ r : Nat, x = r := ⟨x.toNat, by omega⟩
        obtain ⟨k, rfl⟩ : ∃ k : Nat, y = k := ⟨y.toNat, by omega⟩
        have hs := bin_small (r + 1) (k + 1) (by omega)
        exact ⟨_, slopeV_nat (by omega) (by omega), cellV_nat (r := r + 1) (k := k + 1) (by omega), by omega, by omega⟩
      have hI : ∀ w, Calls Try.prog 22 #[.int .i64 x, .int .i64 y] w fun e w' => e = .returned (.int .i64 n) ∧ Below w.heap.size w w' := fun w => by simpa [hn] using implSlope x y w
      have hS : ∀ w, Calls Try.prog 23 #[.int .i64 x, .int .i64 y] w fun e w' => e = .returned (.int .i64 n) ∧ Below w.heap.size w w' := fun w => by simpa [hn] using specSlope x y w
      have hJ : ∀ w, Calls Try.prog 19 #[.int .i64 (x + 1), .int .i64 (y + 1)] w fun e w' => e = .returned (.int .i64 n) ∧ Below w.heap.size w w' := fun w => by simpa [hc] using implCell (x + 1) (y + 1) w
      have hx1 : 0 ≤ x := by omega
      have hx2 : x ≤ 59 := by omega
      have hy1 : 0 ≤ y := by omega
      have hy2 : y ≤ 60 := by omega
      clear hn hc hbad
      go_wp2_with (first | (go_at_call 22; (with_reducible refine (hI _).mono ?_); rintro e w' ⟨rfl, hB'⟩; replace hB1 := hB1.trans (hB'.mono hB1.size); clear hB') | (go_at_call 23; (with_reducible refine (hS _).mono ?_); rintro e w' ⟨rfl, hB'⟩; replace hB1 := hB1.trans (hB'.mono hB1.size); clear hB') | (go_at_call 19; (with_reducible refine (hJ _).mono ?_); rintro e w' ⟨rfl, hB'⟩; replace hB1 := hB1.trans (hB'.mono hB1.size); clear hB') | (go_at_call 17; refine (alive_in _).mono ?_; rintro e w' ⟨rfl, hB'⟩; replace hB1 := hB1.trans (hB'.mono hB1.size); clear hB'))
      go_ret
      exact ⟨rfl, hB1⟩

set_option maxHeartbeats 400000 in
theorem lawHeaps (a0 : Option Addr) (len0 cap0 : Nat) (z0 : List Int) (w : World) (w0 : IsRow .u8 w a0 len0 cap0 z0) :
    Calls Try.prog 6 #[.slice a0 len0 cap0] w fun e w' => e = .returned (.bool true) ∧ Below w.heap.size w w' := by
  by_cases hbig : 1048576 < len0
  · go_enter Try.func6, Try.ntmps6
    go_wp2
    go_ret
    exact ⟨rfl, Below.refl _ _⟩
  · go_enter Try.func6, Try.ntmps6
    go_wp2_with fail
    go_at_call 24
    refine (drawHeaps w a0 len0 cap0 z0 w0).mono ?_
    rintro e w1 ⟨⟨x, y, z, hx, hy, hz, rfl⟩, hB1⟩
    unfold Fits at hx hy hz
    by_cases hbad : x < 0 ∨ 30 < x ∨ y < 0 ∨ 30 < y ∨ z < 0 ∨ 60 < z
    · have hI : ∀ w, Calls Try.prog 25 #[.int .i64 x, .int .i64 y, .int .i64 z] w fun e w' => e = .returned (.int .i64 (-1)) ∧ Below w.heap.size w w' := fun w => by simpa [heapsV_bad hbad] using implHeaps x y z w
      have hS : ∀ w, Calls Try.prog 26 #[.int .i64 x, .int .i64 y, .int .i64 z] w fun e w' => e = .returned (.int .i64 (-1)) ∧ Below w.heap.size w w' := fun w => by simpa [heapsV_bad hbad] using specHeaps x y z w
      clear hbad
      go_wp2_with (first | (go_at_call 25; (with_reducible refine (hI _).mono ?_); rintro e w' ⟨rfl, hB'⟩; replace hB1 := hB1.trans (hB'.mono hB1.size); clear hB') | (go_at_call 26; (with_reducible refine (hS _).mono ?_); rintro e w' ⟨rfl, hB'⟩; replace hB1 := hB1.trans (hB'.mono hB1.size); clear hB') | (go_at_call 17; refine (alive_in _).mono ?_; rintro e w' ⟨rfl, hB'⟩; replace hB1 := hB1.trans (hB'.mono hB1.size); clear hB'))
      go_ret
      exact ⟨rfl, hB1⟩
    · obtain ⟨n, hn, hm, hc, hn0, hn1⟩ : ∃ n : Int, heapsV x y z = n ∧ heapsV y x z = n ∧ cellV (x + y) z = n ∧ 0 ≤ n ∧ n ≤ 2305843009213693952 := by
        obtain ⟨r, rfl⟩ : ∃ r : Nat, x = r := ⟨x.toNat, by omega⟩
        obtain ⟨k, rfl⟩ : ∃ k : Nat, y = k := ⟨y.toNat, by omega⟩
        obtain ⟨c, rfl⟩ : ∃ k : Nat, z = k := ⟨z.toNat, by omega⟩
        have hs := bin_small (r + k) c (by omega)
        refine ⟨bin (r + k) c, by rw [heapsV_nat (by omega) (by omega) (by omega), heaps], by rw [heapsV_nat (by omega) (by omega) (by omega), heaps, Nat.add_comm], cellV_nat (r := r + k) (by omega), by omega, by omega⟩
      have hI : ∀ w, Calls Try.prog 25 #[.int .i64 x, .int .i64 y, .int .i64 z] w fun e w' => e = .returned (.int .i64 n) ∧ Below w.heap.size w w' := fun w => by simpa [hn] using implHeaps x y z w
      have hS : ∀ w, Calls Try.prog 26 #[.int .i64 x, .int .i64 y, .int .i64 z] w fun e w' => e = .returned (.int .i64 n) ∧ Below w.heap.size w w' := fun w => by simpa [hn] using specHeaps x y z w
      have hM : ∀ w, Calls Try.prog 25 #[.int .i64 y, .int .i64 x, .int .i64 z] w fun e w' => e = .returned (.int .i64 n) ∧ Below w.heap.size w w' := fun w => by simpa [hm] using implHeaps y x z w
      have hJ : ∀ w, Calls Try.prog 19 #[.int .i64 (x + y), .int .i64 z] w fun e w' => e = .returned (.int .i64 n) ∧ Below w.heap.size w w' := fun w => by simpa [hc] using implCell (x + y) z w
      have hx1 : 0 ≤ x := by omega
      have hx2 : x ≤ 30 := by omega
      have hy1 : 0 ≤ y := by omega
      have hy2 : y ≤ 30 := by omega
      clear hn hc hm hbad
      go_wp2_with (first | (go_at_call 25; (with_reducible refine (hI _).mono ?_); rintro e w' ⟨rfl, hB'⟩; replace hB1 := hB1.trans (hB'.mono hB1.size); clear hB') | (go_at_call 25; (with_reducible refine (hM _).mono ?_); rintro e w' ⟨rfl, hB'⟩; replace hB1 := hB1.trans (hB'.mono hB1.size); clear hB') | (go_at_call 26; (with_reducible refine (hS _).mono ?_); rintro e w' ⟨rfl, hB'⟩; replace hB1 := hB1.trans (hB'.mono hB1.size); clear hB') | (go_at_call 19; (with_reducible refine (hJ _).mono ?_); rintro e w' ⟨rfl, hB'⟩; replace hB1 := hB1.trans (hB'.mono hB1.size); clear hB') | (go_at_call 17; refine (alive_in _).mono ?_; rintro e w' ⟨rfl, hB'⟩; replace hB1 := hB1.trans (hB'.mono hB1.size); clear hB'))
      go_ret
      exact ⟨rfl, hB1⟩

set_option maxHeartbeats 400000 in
theorem lawTurns (a0 : Option Addr) (len0 cap0 : Nat) (z0 : List Int) (w : World) (w0 : IsRow .u8 w a0 len0 cap0 z0) :
    Calls Try.prog 7 #[.slice a0 len0 cap0] w fun e w' => e = .returned (.bool true) ∧ Below w.heap.size w w' := by
  by_cases hbig : 1048576 < len0
  · go_enter Try.func7, Try.ntmps7
    go_wp2
    go_ret
    exact ⟨rfl, Below.refl _ _⟩
  · go_enter Try.func7, Try.ntmps7
    go_wp2_with fail
    go_at_call 27
    refine (drawTurns w a0 len0 cap0 z0 w0).mono ?_
    rintro e w1 ⟨⟨x, y, hx, hy, rfl⟩, hB1⟩
    unfold Fits at hx hy
    by_cases hbad : x < 0 ∨ 60 < x ∨ y < 0 ∨ 60 < y
    · have hI : ∀ w, Calls Try.prog 28 #[.int .i64 x, .int .i64 y] w fun e w' => e = .returned (.tuple #[.int .i64 0, .bool false]) ∧ Below w.heap.size w w' := fun w => by simpa [turnsV_bad hbad] using implTurns x y w
      have hS : ∀ w, Calls Try.prog 29 #[.int .i64 x, .int .i64 y] w fun e w' => e = .returned (.tuple #[.int .i64 0, .bool false]) ∧ Below w.heap.size w w' := fun w => by simpa [turnsV_bad hbad] using specTurns x y w
      clear hbad
      go_wp2_with (first | (go_at_call 28; (with_reducible refine (hI _).mono ?_); rintro e w' ⟨rfl, hB'⟩; replace hB1 := hB1.trans (hB'.mono hB1.size); clear hB') | (go_at_call 29; (with_reducible refine (hS _).mono ?_); rintro e w' ⟨rfl, hB'⟩; replace hB1 := hB1.trans (hB'.mono hB1.size); clear hB') | (go_at_call 17; refine (alive_in _).mono ?_; rintro e w' ⟨rfl, hB'⟩; replace hB1 := hB1.trans (hB'.mono hB1.size); clear hB'))
      go_ret
      exact ⟨rfl, hB1⟩
    · by_cases hx0 : x = 0
      · subst hx0
        have ht : turnsV 0 y = 1 ∧ turnsB 0 y = true := by
          obtain ⟨k, rfl⟩ : ∃ k : Nat, y = k := ⟨y.toNat, by omega⟩
          have := turnsV_nat (r := 0) (k := k) (by omega) (by omega)
          rw [ts_zero] at this; exact this
        have hI : ∀ w, Calls Try.prog 28 #[.int .i64 0, .int .i64 y] w fun e w' => e = .returned (.tuple #[.int .i64 1, .bool true]) ∧ Below w.heap.size w w' := fun w => by simpa [ht] using implTurns 0 y w
        have hS : ∀ w, Calls Try.prog 29 #[.int .i64 0, .int .i64 y] w fun e w' => e = .returned (.tuple #[.int .i64 1, .bool true]) ∧ Below w.heap.size w w' := fun w => by simpa [ht] using specTurns 0 y w
        clear ht hbad
        go_wp2_with (first | (go_at_call 28; (with_reducible refine (hI _).mono ?_); rintro e w' ⟨rfl, hB'⟩; replace hB1 := hB1.trans (hB'.mono hB1.size); clear hB') | (go_at_call 29; (with_reducible refine (hS _).mono ?_); rintro e w' ⟨rfl, hB'⟩; replace hB1 := hB1.trans (hB'.mono hB1.size); clear hB') | (go_at_call 17; refine (alive_in _).mono ?_; rintro e w' ⟨rfl, hB'⟩; replace hB1 := hB1.trans (hB'.mono hB1.size); clear hB'))
        go_ret
        exact ⟨rfl, hB1⟩
      · obtain ⟨c, hb, ht, hc, hc0, hc1⟩ : ∃ c : Int, turnsB x y = true ∧ turnsV x y = (1 - y % 2 * 2) * c ∧ cellV (x - 1) y = c ∧ 0 ≤ c ∧ c ≤ 2305843009213693952 := by
          obtain ⟨m, rfl⟩ : ∃ m : Nat, x = m + 1 := ⟨(x - 1).toNat, by omega⟩
          obtain ⟨k, rfl⟩ : ∃ k : Nat, y = k := ⟨y.toNat, by omega⟩
          have h1 := turnsV_nat (r := m + 1) (k := k) (by omega) (by omega)
          have h2 : cellV m k = bin m k := cellV_nat (by omega)
          have hs := bin_small m k (by omega)
          refine ⟨bin m k, h1.2, ?_, by rw [show (m : Int) + 1 - 1 = m by omega, h2], by omega, by omega⟩
          have h3 : turnsV ((m : Int) + 1) k = ts (m + 1) (k + 1) := h1.1
          rw [h3, ts_succ]
          by_cases he : k % 2 = 0
          · rw [sg_even he, show (1 - (k : Int) % 2 * 2) = 1 by omega]
          · rw [sg_odd he, show (1 - (k : Int) % 2 * 2) = -1 by omega]
        have hI : ∀ w, Calls Try.prog 28 #[.int .i64 x, .int .i64 y] w fun e w' => e = .returned (.tuple #[.int .i64 ((1 - y % 2 * 2) * c), .bool true]) ∧ Below w.heap.size w w' := fun w => by simpa [ht, hb] using implTurns x y w
        have hS : ∀ w, Calls Try.prog 29 #[.int .i64 x, .int .i64 y] w fun e w' => e = .returned (.tuple #[.int .i64 ((1 - y % 2 * 2) * c), .bool true]) ∧ Below w.heap.size w w' := fun w => by simpa [ht, hb] using specTurns x y w
        have hJ : ∀ w, Calls Try.prog 19 #[.int .i64 (x - 1), .int .i64 y] w fun e w' => e = .returned (.int .i64 c) ∧ Below w.heap.size w w' := fun w => by simpa [hc] using implCell (x - 1) y w
        have hx1 : 1 ≤ x := by omega
        have hx2 : x ≤ 60 := by omega
        have hy1 : 0 ≤ y := by omega
        have hy2 : y ≤ 60 := by omega
        have hx3 : (x == 0) = false := by simpa using hx0
        have hm : -2305843009213693952 ≤ (1 - y % 2 * 2) * c ∧ (1 - y % 2 * 2) * c ≤ 2305843009213693952 := by
          rcases Int.emod_two_eq y with h | h <;> rw [h] <;> omega
        clear hb ht hc hbad hx0
        go_wp2_with (first | (go_at_call 28; (with_reducible refine (hI _).mono ?_); rintro e w' ⟨rfl, hB'⟩; replace hB1 := hB1.trans (hB'.mono hB1.size); clear hB') | (go_at_call 29; (with_reducible refine (hS _).mono ?_); rintro e w' ⟨rfl, hB'⟩; replace hB1 := hB1.trans (hB'.mono hB1.size); clear hB') | (go_at_call 19; (with_reducible refine (hJ _).mono ?_); rintro e w' ⟨rfl, hB'⟩; replace hB1 := hB1.trans (hB'.mono hB1.size); clear hB') | (go_at_call 17; refine (alive_in _).mono ?_; rintro e w' ⟨rfl, hB'⟩; replace hB1 := hB1.trans (hB'.mono hB1.size); clear hB'))
        go_ret
        exact ⟨rfl, hB1⟩
end Go.Proofs.Ytncaddoflbdlpaa
