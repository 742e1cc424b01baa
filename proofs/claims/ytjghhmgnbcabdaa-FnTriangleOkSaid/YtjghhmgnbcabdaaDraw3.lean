/-
  The draws of chapter 3: each hands back numbers, and nothing that was there is written.
-/
import Derived.Test.YtjghhmgnbcabdaaDrawPrime
import Derived.Test.YtjghhmgnbcabdaaDrawBig2
import Derived.Test.YtjghhmgnbcabdaaOpen
namespace Go.Proofs.Ytjghhmgnbcabdaa
open Go.RowKit

/-- A reader that has come no further than L. -/
def RdTo (W0 : World) (R : Nat) (a : Option Addr) (len cap : Nat) (w : World) (L : Nat) : Prop := ∃ q, q ≤ L ∧ Rd W0 R a len cap w q

set_option maxHeartbeats 2000000 in
set_option maxRecDepth 100000 in
theorem l20Cell_in (W0 : World) (R len cap p : Nat) (a : Option Addr) (w : World) (hb : Bytes W0 a len) (h : Rd W0 R a len cap w p) (hp : p ≤ 800000) :
    Calls Try.prog 29 #[.pointer (some ⟨R, 0, none⟩)] w fun e w' => Int2 e ∧ RdTo W0 R a len cap w' (p + 20) := by
  go_enter Try.func29, Try.ntmps29
  go_wp2_with fail
  go_at_call 38
  refine (pick_in W0 R len cap _ a _ _ hb h (by omega)).mono ?_
  rintro e w2 ⟨k, rfl, hk0, _, hk1, hR2, _⟩
  replace hk1 := hk1 (by omega)
  by_cases h0 : k = 0
  · subst h0
    clear hk0 hk1
    go_wp2_with fail
    go_at_call 38
    refine (pick_in W0 R len cap _ a _ _ hb hR2 (by omega)).mono ?_
    rintro e w3 ⟨x, rfl, hx0, _, hx1, hR3, _⟩
    replace hx1 := hx1 (by omega)
    go_wp2_with fail
    go_at_call 38
    refine (pick_in W0 R len cap _ a _ _ hb hR3 (by omega)).mono ?_
    rintro e w4 ⟨y, rfl, hy0, _, hy1, hR4, _⟩
    replace hy1 := hy1 (by omega)
    go_wp2
    go_ret2
    exact ⟨⟨_, _, by unfold Fits; omega, by unfold Fits; omega, rfl⟩, _, by omega, hR4⟩
  · have hk2 : (k == 0) = false := by simpa using h0
    go_wp2_with fail
    go_at_call 50
    refine (l20Big_in W0 R len cap _ a _ hb hR2 (by omega)).mono ?_
    rintro e w3 ⟨⟨x, hx, rfl⟩, hR3⟩
    clear hk0 hk1 h0
    go_wp2_with fail
    go_at_call 38
    refine (pick_in W0 R len cap _ a _ _ hb hR3 (by omega)).mono ?_
    rintro e w4 ⟨y, rfl, hy0, _, hy1, hR4, _⟩
    replace hy1 := hy1 (by omega)
    by_cases h1 : y = 0 ∧ 0 < x
    · obtain ⟨rfl, hx0⟩ := h1
      have h' := hR4.drew
      clear hR2 hR3 hy0 hy1
      go_upto_region 6 with fail
      go_region_with (go_at_call 38; (with_reducible refine (pick_in W0 R len cap _ a 9 _ hb (by assumption) (by omega)).mono ?_); rintro e w' ⟨z, rfl, hz0, _, hz1, hrd, hgr, hon⟩; replace hz1 := hz1 (by omega); have hzn : ((1 + z) == 0) = false := (by simp; omega); have hwz : IntKind.i64.wrap (1 + z) = 1 + z := IntWalk.i64_in _ (by omega); clear hgr hon)
      all_goals
        go_wp2
        go_ret2
        exact ⟨⟨_, _, hx, by first | exact wrap_fits _ | exact wrap64_fits _, rfl⟩, _, by omega, hrd⟩
    · by_cases hy2 : y = 0
      · have hx0 : ¬ 0 < x := by omega
        have hd : decide (0 < x) = false := by simpa using hx0
        subst hy2
        clear h1 hy0 hy1
        go_wp2_with (go_at_call 38; (with_reducible refine (pick_in W0 R len cap _ a _ _ hb (by assumption) (by omega)).mono ?_); rintro e w' ⟨z, rfl, hz0, _, hz1, hrd, hgr, hon⟩; replace hz1 := hz1 (by omega); clear hgr hon)
        go_ret2
        exact ⟨⟨_, _, hx, by first | exact wrap_fits _ | exact wrap64_fits _ | (unfold Fits; omega), rfl⟩, _, by omega, hrd⟩
      · have hy3 : (y == 0) = false := by simpa using hy2
        clear h1
        go_wp2_with (go_at_call 38; (with_reducible refine (pick_in W0 R len cap _ a _ _ hb (by assumption) (by omega)).mono ?_); rintro e w' ⟨z, rfl, hz0, _, hz1, hrd, hgr, hon⟩; replace hz1 := hz1 (by omega); clear hgr hon)
        go_ret2
        exact ⟨⟨_, _, hx, by first | exact wrap_fits _ | exact wrap64_fits _ | (unfold Fits; omega), rfl⟩, _, by omega, hrd⟩

end Go.Proofs.Ytjghhmgnbcabdaa
