/-
  The contract of the draw of a number: l20Big.
-/
import Derived.Test.YtjghhmgnbcabdaaSels
namespace Go.Proofs.Ytjghhmgnbcabdaa
open Go.RowKit

set_option maxHeartbeats 4000000 in
set_option maxRecDepth 100000 in
theorem l20Big_in (W0 : World) (R len cap p : Nat) (a : Option Addr) (w : World) (hb : Bytes W0 a len) (h : Rd W0 R a len cap w p) (hp : p ≤ 900000) :
    Calls Try.prog 50 #[.pointer (some ⟨R, 0, none⟩)] w fun e w' => Int1 e ∧ Rd W0 R a len cap w' (p + 1 + 1 + 1 + 1 + 1 + 1 + 1 + 1 + 1 + 1 + 1) := by
  have h' := h.drew
  go_enter Try.func50, Try.ntmps50
  go_upto_region 1 with fail
  go_cut [3] (fun s3 wx => ∃ x : Int, Fits x ∧ s3 = .int .i64 x ∧ Rd W0 R a len cap wx (p + 1 + 1 + 1 + 1 + 1 + 1 + 1 + 1 + 1))
  case first =>
    go_region_with (first
      | (go_at_call 38; (with_reducible refine (pick_in W0 R len cap _ a 4 _ hb (by first | assumption | exact Rd.alloc (by assumption) _) (by omega)).mono ?_); rintro e w' ⟨x, rfl, hx0, _, hx1, hrd, hgr, hon⟩; have hkc := only_cells hon; have hne := hrd.ne; replace hx1 := hx1 (by omega); obtain ⟨i, hi3, rfl⟩ : ∃ i : Nat, i < 4 ∧ x = i := ⟨x.toNat, by omega, by omega⟩; have hs1 := sel4_at hi3; have hs2 := sel4_cell hi3; have hi4 : (i : Int) < 4 := (by omega); clear hx0 hx1 hgr hon)
      | (go_at_call 38; (with_reducible refine (pick_in W0 R len cap _ a 40 _ hb (by first | assumption | exact Rd.alloc (by assumption) _) (by omega)).mono ?_); rintro e w' ⟨x, rfl, hx0, _, hx1, hrd, hgr, hon⟩; have hkc := only_cells hon; have hne := hrd.ne; replace hx1 := hx1 (by omega); have hfx : Fits x := (by unfold Fits; omega); clear hx0 hx1 hgr hon)
      | (go_at_call 38; (with_reducible refine (pick_in W0 R len cap _ a 28 _ hb (by first | assumption | exact Rd.alloc (by assumption) _) (by omega)).mono ?_); rintro e w' ⟨x, rfl, hx0, _, hx1, hrd, hgr, hon⟩; have hkc := only_cells hon; have hne := hrd.ne; clear hx1 hgr hon)
      | (go_at_call 38; (with_reducible refine (pick_in W0 R len cap _ a _ _ hb (by first | assumption | exact Rd.alloc (by assumption) _) (by omega)).mono ?_); rintro e w' ⟨x, rfl, hx0, _, hx1, hrd, hgr, hon⟩; have hkc := only_cells hon; have hne := hrd.ne; clear hx0 hx1 hgr hon))
    all_goals (go_wp2_with fail; go_meet; exact ⟨_, sel4_fits (by assumption) (by first | exact wrap_fits _ | exact wrap64_fits _) (by first | exact wrap_fits _ | exact wrap64_fits _) (by first | exact wrap_fits _ | exact wrap64_fits _), rfl, by first | assumption | exact Rd.alloc (by assumption) _⟩)
  case rest =>
    obtain ⟨x, hfx, rfl, hx⟩ := hcut
    go_wp2_with (go_at_call 38; (with_reducible refine (pick_in W0 R len cap _ a _ _ hb (by assumption) (by omega)).mono ?_); rintro e w' ⟨x2, rfl, hx0, _, hx1, hrd, hgr, hon⟩; clear hx0 hx1 hgr hon)
    all_goals
      go_ret
      exact ⟨⟨_, by first | exact wrap_fits _ | exact wrap64_fits _, rfl⟩, by assumption⟩
end Go.Proofs.Ytjghhmgnbcabdaa
