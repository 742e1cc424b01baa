/-
  The contract of the draw of a prime: l20Prime.
-/
import Derived.Test.YtlkcdcmmcjkedaaFits
import Derived.Deep.DeepCutAuto
namespace Go.Proofs.Ytlkcdcmmcjkedaa
open Go.RowKit

/-- The numbers that are drawn from, by their place. -/
def nineAt (i : Nat) : Int := [2, 3, 5, 7, 11, 13, 2, 3, 5].getD i 2
theorem nine_at {i : Nat} (hi : i < 9) : (#[.int .i64 2, .int .i64 3, .int .i64 5, .int .i64 7, .int .i64 11, .int .i64 13, .int .i64 2, .int .i64 3, .int .i64 5] : Array Value)[i]? = some (.int .i64 (nineAt i)) := by
  match i, hi with
  | 0, _ => rfl
  | 1, _ => rfl
  | 2, _ => rfl
  | 3, _ => rfl
  | 4, _ => rfl
  | 5, _ => rfl
  | 6, _ => rfl
  | 7, _ => rfl
  | 8, _ => rfl
theorem nine_cell {i : Nat} (hi : i < 9) (W : World) : (W.alloc (.cells #[.int .i64 2, .int .i64 3, .int .i64 5, .int .i64 7, .int .i64 11, .int .i64 13, .int .i64 2, .int .i64 3, .int .i64 5] 3)).cell? ⟨W.heap.size, i, none⟩ = some (.int .i64 (nineAt i)) := by
  rw [World.cell?_alloc_at _ _ _ _ rfl]; exact nine_at hi
theorem Rd.up {W0 w : World} {R len cap p q : Nat} {a : Option Addr} (h : Rd W0 R a len cap w p) (e : p = q) : Rd W0 R a len cap w q := e ▸ h

set_option maxHeartbeats 2000000 in
set_option maxRecDepth 100000 in
theorem l20Prime_in (W0 : World) (R len cap p : Nat) (a : Option Addr) (w : World) (hb : Bytes W0 a len) (h : Rd W0 R a len cap w p) (hp : p ≤ 900000) :
    Calls Try.prog 53 #[.pointer (some ⟨R, 0, none⟩)] w fun e w' => Int1 e ∧ Rd W0 R a len cap w' (p + 1 + 1 + 1) ∧ w.grownBy w' (some R) := by
  have hne0 := h.ne
  have h' := h.drew
  go_enter Try.func53, Try.ntmps53
  go_upto_region 1 with fail
  go_region_with (first
      | (go_at_call 54; (with_reducible refine (pick_in W0 R len cap _ a 9 _ hb (by first | assumption | exact Rd.alloc (by assumption) _ | exact Rd.drew (Rd.alloc (by assumption) _)) (by omega)).mono ?_); rintro e w' ⟨x, rfl, hx0, _, hx1, hrd, hgr, hon⟩; have hkc := only_cells hon; have hne := hrd.ne; replace hx1 := hx1 (by omega); obtain ⟨i, hi3, rfl⟩ : ∃ i : Nat, i < 9 ∧ x = i := ⟨x.toNat, by omega, by omega⟩; have hs1 := nine_at hi3; have hs2 := nine_cell hi3; have hi4 : (i : Int) < 9 := (by omega); clear hx0 hx1 hon)
      | (go_at_call 54; (with_reducible refine (pick_in W0 R len cap _ a _ _ hb (by first | assumption | exact Rd.alloc (by assumption) _ | exact Rd.drew (Rd.alloc (by assumption) _)) (by omega)).mono ?_); rintro e w' ⟨x, rfl, hx0, _, hx1, hrd, hgr, hon⟩; have hkc := only_cells hon; have hne := hrd.ne; clear hx0 hx1 hon))
  all_goals
    go_wp2
    go_ret
    refine ⟨⟨_, by first | exact wrap_fits _ | exact wrap64_fits _, rfl⟩, by first | assumption | exact Rd.alloc (by assumption) _, ?_⟩
    repeat (first | exact grownBy_drew (World.grownBy_alloc _ _ _) | exact grownBy_drew (grownBy_refl _ _) | refine World.grownBy.trans ?_ (by assumption) | refine World.grownBy.trans ?_ (World.grownBy_alloc _ _ _))
end Go.Proofs.Ytlkcdcmmcjkedaa
