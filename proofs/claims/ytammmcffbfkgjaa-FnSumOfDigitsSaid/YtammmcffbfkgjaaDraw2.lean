/-
  The draws of chapter 2: each hands back numbers, and nothing that was there is written.
-/
import Derived.Test.YtammmcffbfkgjaaDrawBig2
import Derived.Test.YtammmcffbfkgjaaOpen
namespace Go.Proofs.Ytammmcffbfkgjaa
open Go.RowKit

theorem drawDigits (w : World) (a : Option Addr) (len cap : Nat) (zs : List Int) (h : IsRow .u8 w a len cap zs) : Calls Try.prog 13 #[.slice a len cap] w fun e w' => Int2 e ∧ Below w.heap.size w w' := by
  go_enter Try.func13, Try.ntmps13
  go_wp2_with (first | (go_at_call 33; refine (open_in w a len cap zs h).mono ?_; rintro e w1 ⟨R, n, c, rfl, hb, hR⟩) | (go_at_call 34; refine (l20Big_in w R n c _ a _ hb hR (by omega)).mono ?_; rintro e w2 ⟨⟨x, hx, rfl⟩, hR2⟩) | (go_at_call 35; refine (l20Base_in w R n c _ a _ hb hR2 (by omega)).mono ?_; rintro e w3 ⟨⟨y, hy, rfl⟩, hR3⟩))
  go_ret2
  exact ⟨⟨_, _, hx, hy, rfl⟩, hR3.1⟩
theorem drawSum (w : World) (a : Option Addr) (len cap : Nat) (zs : List Int) (h : IsRow .u8 w a len cap zs) : Calls Try.prog 18 #[.slice a len cap] w fun e w' => Int2 e ∧ Below w.heap.size w w' := by
  go_enter Try.func18, Try.ntmps18
  go_wp2_with (go_at_call 13; refine (drawDigits w a len cap zs h).mono ?_; rintro e w1 ⟨⟨x, y, hx, hy, rfl⟩, hB⟩)
  go_ret2
  exact ⟨⟨_, _, hx, hy, rfl⟩, hB⟩
set_option maxHeartbeats 1000000 in
theorem drawCarries (w : World) (a : Option Addr) (len cap : Nat) (zs : List Int) (h : IsRow .u8 w a len cap zs) : Calls Try.prog 21 #[.slice a len cap] w fun e w' => Int3 e ∧ Below w.heap.size w w' := by
  go_enter Try.func21, Try.ntmps21
  go_wp2_with fail
  go_at_call 33
  refine (open_in w a len cap zs h).mono ?_
  rintro e w1 ⟨R, n, c, rfl, hb, hR⟩
  go_wp2_with fail
  go_at_call 34
  refine (l20Big_in w R n c _ a _ hb hR (by omega)).mono ?_
  rintro e w2 ⟨⟨x, hx, rfl⟩, hR2⟩
  go_wp2_with fail
  go_at_call 34
  refine (l20Big_in w R n c _ a _ hb hR2 (by omega)).mono ?_
  rintro e w3 ⟨⟨y, hy, rfl⟩, hR3⟩
  go_wp2_with fail
  go_at_call 35
  refine (l20Base_in w R n c _ a _ hb hR3 (by omega)).mono ?_
  rintro e w4 ⟨⟨z, hz, rfl⟩, hR4⟩
  go_wp2
  go_ret3
  exact ⟨⟨_, _, _, hx, hy, hz, rfl⟩, hR4.1⟩
theorem bits_fits (o : BinOp) (x y : Int) : Fits (bits o .i64 x y) := by
  unfold bits
  exact wrap_fits _
set_option maxHeartbeats 1000000 in
theorem drawUnder (w : World) (a : Option Addr) (len cap : Nat) (zs : List Int) (h : IsRow .u8 w a len cap zs) : Calls Try.prog 24 #[.slice a len cap] w fun e w' => Int3 e ∧ Below w.heap.size w w' := by
  go_enter Try.func24, Try.ntmps24
  go_wp2_with fail
  go_at_call 33
  refine (open_in w a len cap zs h).mono ?_
  rintro e w1 ⟨R, n, c, rfl, hb, hR⟩
  go_wp2_with fail
  go_at_call 34
  refine (l20Big_in w R n c _ a _ hb hR (by omega)).mono ?_
  rintro e w2 ⟨⟨x, hx, rfl⟩, hR2⟩
  go_wp2_with fail
  go_at_call 34
  refine (l20Big_in w R n c _ a _ hb hR2 (by omega)).mono ?_
  rintro e w3 ⟨⟨y, hy, rfl⟩, hR3⟩
  go_wp2_with fail
  go_at_call 35
  refine (l20Base_in w R n c _ a _ hb hR3 (by omega)).mono ?_
  rintro e w4 ⟨⟨z, hz, rfl⟩, hR4⟩
  go_wp2_with fail
  go_at_call 43
  refine (pick_in w R n c _ a _ _ hb hR4 (by omega)).mono ?_
  rintro e w5 ⟨k, rfl, hk0, _, hk1, hR5, _⟩
  replace hk1 := hk1 (by omega)
  have hB := hR5.1
  clear hR hR2 hR3 hR4 hR5
  by_cases h0 : k = 0
  · subst h0
    by_cases hx0 : 0 ≤ x
    · go_wp2
      all_goals
        go_ret3
        exact ⟨⟨_, _, _, bits_fits _ _ _, hx, by unfold Fits; omega, rfl⟩, hB⟩
    · go_wp2
      go_ret3
      exact ⟨⟨_, _, _, hx, hy, hz, rfl⟩, hB⟩
  · have hk2 : (k == 0) = false := by simpa using h0
    go_wp2
    go_ret3
    exact ⟨⟨_, _, _, hx, hy, hz, rfl⟩, hB⟩
set_option maxHeartbeats 1000000 in
theorem drawCount (w : World) (a : Option Addr) (len cap : Nat) (zs : List Int) (h : IsRow .u8 w a len cap zs) : Calls Try.prog 27 #[.slice a len cap] w fun e w' => Int2 e ∧ Below w.heap.size w w' := by
  go_enter Try.func27, Try.ntmps27
  go_wp2_with fail
  go_at_call 33
  refine (open_in w a len cap zs h).mono ?_
  rintro e w1 ⟨R, n, c, rfl, hb, hR⟩
  go_wp2_with fail
  go_at_call 43
  refine (pick_in w R n c _ a _ _ hb hR (by omega)).mono ?_
  rintro e w2 ⟨k, rfl, hk0, _, hk1, hR2, _⟩
  by_cases h0 : k = 0
  · subst h0
    clear hk0 hk1
    go_wp2_with fail
    go_at_call 43
    refine (pick_in w R n c _ a _ _ hb hR2 (by omega)).mono ?_
    rintro e w3 ⟨x, rfl, hx0, _, hx1, hR3, _⟩
    replace hx1 := hx1 (by omega)
    go_wp2_with fail
    go_at_call 43
    refine (pick_in w R n c _ a _ _ hb hR3 (by omega)).mono ?_
    rintro e w4 ⟨y, rfl, hy0, _, hy1, hR4, _⟩
    replace hy1 := hy1 (by omega)
    go_wp2
    go_ret2
    exact ⟨⟨_, _, by unfold Fits; omega, by unfold Fits; omega, rfl⟩, hR4.1⟩
  · have hk2 : (k == 0) = false := by simpa using h0
    go_wp2_with fail
    go_at_call 34
    refine (l20Big_in w R n c _ a _ hb hR2 (by omega)).mono ?_
    rintro e w3 ⟨⟨x, hx, rfl⟩, hR3⟩
    go_wp2_with fail
    go_at_call 35
    refine (l20Base_in w R n c _ a _ hb hR3 (by omega)).mono ?_
    rintro e w4 ⟨⟨y, hy, rfl⟩, hR4⟩
    go_wp2
    go_ret2
    exact ⟨⟨_, _, hx, hy, rfl⟩, hR4.1⟩
end Go.Proofs.Ytammmcffbfkgjaa
