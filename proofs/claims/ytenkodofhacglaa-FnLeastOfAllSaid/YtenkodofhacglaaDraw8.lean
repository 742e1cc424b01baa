/-
  The draws of chapter 8: each hands back numbers, and nothing that was there is written.
-/
import Derived.Test.YtenkodofhacglaaFits
import Derived.Test.YtenkodofhacglaaOpen
namespace Go.Proofs.Ytenkodofhacglaa
open Go.RowKit

theorem drawShared (w : World) (a : Option Addr) (len cap : Nat) (zs : List Int) (h : IsRow .u8 w a len cap zs) : Calls Try.prog 13 #[.slice a len cap] w fun e w' => Int1 e ∧ Below w.heap.size w w' := by
  go_enter Try.func13, Try.ntmps13
  go_wp2_with fail
  go_at_call 35
  refine (open_in w a len cap zs h).mono ?_
  rintro e w1 ⟨R, n, c, rfl, hb, hR⟩
  go_wp2_with fail
  go_at_call 36
  refine (pick_in w R n c _ a _ _ hb hR (by omega)).mono ?_
  rintro e w2 ⟨k, rfl, hk0, _, hk1, hR2, _⟩
  replace hk1 := hk1 (by omega)
  go_wp2
  go_ret
  exact ⟨⟨_, by first | exact wrap_fits _ | exact wrap64_fits _ | (unfold Fits; omega), rfl⟩, hR2.1⟩

theorem drawOver (w : World) (a : Option Addr) (len cap : Nat) (zs : List Int) (h : IsRow .u8 w a len cap zs) : Calls Try.prog 17 #[.slice a len cap] w fun e w' => Int1 e ∧ Below w.heap.size w w' := by
  go_enter Try.func17, Try.ntmps17
  go_wp2_with fail
  go_at_call 35
  refine (open_in w a len cap zs h).mono ?_
  rintro e w1 ⟨R, n, c, rfl, hb, hR⟩
  go_wp2_with fail
  go_at_call 36
  refine (pick_in w R n c _ a _ _ hb hR (by omega)).mono ?_
  rintro e w2 ⟨k, rfl, hk0, _, hk1, hR2, _⟩
  replace hk1 := hk1 (by omega)
  go_wp2
  go_ret
  exact ⟨⟨_, by first | exact wrap_fits _ | exact wrap64_fits _ | (unfold Fits; omega), rfl⟩, hR2.1⟩

theorem drawOfAll (w : World) (a : Option Addr) (len cap : Nat) (zs : List Int) (h : IsRow .u8 w a len cap zs) : Calls Try.prog 22 #[.slice a len cap] w fun e w' => Int1 e ∧ Below w.heap.size w w' := by
  go_enter Try.func22, Try.ntmps22
  go_wp2_with fail
  go_at_call 35
  refine (open_in w a len cap zs h).mono ?_
  rintro e w1 ⟨R, n, c, rfl, hb, hR⟩
  go_wp2_with fail
  go_at_call 36
  refine (pick_in w R n c _ a _ _ hb hR (by omega)).mono ?_
  rintro e w2 ⟨k, rfl, hk0, _, hk1, hR2, _⟩
  replace hk1 := hk1 (by omega)
  go_wp2
  go_ret
  exact ⟨⟨_, by unfold Fits; omega, rfl⟩, hR2.1⟩

theorem drawStar (w : World) (a : Option Addr) (len cap : Nat) (zs : List Int) (h : IsRow .u8 w a len cap zs) : Calls Try.prog 24 #[.slice a len cap] w fun e w' => Int2 e ∧ Below w.heap.size w w' := by
  go_enter Try.func24, Try.ntmps24
  go_wp2_with fail
  go_at_call 35
  refine (open_in w a len cap zs h).mono ?_
  rintro e w1 ⟨R, n, c, rfl, hb, hR⟩
  go_wp2_with fail
  go_at_call 36
  refine (pick_in w R n c _ a _ _ hb hR (by omega)).mono ?_
  rintro e w2 ⟨k, rfl, hk0, _, hk1, hR2, _⟩
  replace hk1 := hk1 (by omega)
  go_wp2_with fail
  go_at_call 36
  refine (pick_in w R n c _ a _ _ hb hR2 (by omega)).mono ?_
  rintro e w3 ⟨j, rfl, hj0, _, hj1, hR3, _⟩
  replace hj1 := hj1 (by omega)
  go_wp2
  go_ret2
  exact ⟨⟨_, _, by unfold Fits; omega, by unfold Fits; omega, rfl⟩, hR3.1⟩

theorem drawTriple (w : World) (a : Option Addr) (len cap : Nat) (zs : List Int) (h : IsRow .u8 w a len cap zs) : Calls Try.prog 29 #[.slice a len cap] w fun e w' => Int3 e ∧ Below w.heap.size w w' := by
  go_enter Try.func29, Try.ntmps29
  go_wp2_with fail
  go_at_call 35
  refine (open_in w a len cap zs h).mono ?_
  rintro e w1 ⟨R, n, c, rfl, hb, hR⟩
  go_wp2_with fail
  go_at_call 36
  refine (pick_in w R n c _ a _ _ hb hR (by omega)).mono ?_
  rintro e w2 ⟨k, rfl, hk0, _, hk1, hR2, _⟩
  replace hk1 := hk1 (by omega)
  go_wp2_with fail
  go_at_call 36
  refine (pick_in w R n c _ a _ _ hb hR2 (by omega)).mono ?_
  rintro e w3 ⟨j, rfl, hj0, _, hj1, hR3, _⟩
  replace hj1 := hj1 (by omega)
  go_wp2_with fail
  go_at_call 36
  refine (pick_in w R n c _ a _ _ hb hR3 (by omega)).mono ?_
  rintro e w4 ⟨t, rfl, ht0, _, ht1, hR4, _⟩
  replace ht1 := ht1 (by omega)
  go_wp2_with fail
  go_at_call 36
  refine (pick_in w R n c _ a _ _ hb hR4 (by omega)).mono ?_
  rintro e w5 ⟨u, rfl, hu0, _, hu1, hR5, _⟩
  replace hu1 := hu1 (by omega)
  go_wp2
  go_ret3
  exact ⟨⟨_, _, _, by unfold Fits; omega, by unfold Fits; omega, by first | exact wrap_fits _ | exact wrap64_fits _ | (unfold Fits; omega), rfl⟩, hR5.1⟩
end Go.Proofs.Ytenkodofhacglaa
