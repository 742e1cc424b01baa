/-
  The program's CarriesOf and UnderOk at every argument.
-/
import Derived.Test.YtlkcdcmmcjkedaaImpl2b
namespace Go.Proofs.Ytlkcdcmmcjkedaa
open Go.RowKit Go.Shelf

set_option maxHeartbeats 400000 in
theorem implUnder (x y b : Int) (w : World) : Calls Try.prog 73 #[.int .i64 x, .int .i64 y, .int .i64 b] w fun e w' => e = .returned (.bool (underV x y b)) ∧ Below w.heap.size w w' := by
  by_cases h : bad3 x y b
  · rw [underV_bad h]
    unfold bad3 at h
    have hbx := Boxed.new w 4 (.bool false)
    have hc := hbx.cell
    have hf := hbx.frozen
    by_cases h1 : x < 0 ∨ 999999999 < x
    case' neg => by_cases h2 : y < 0 ∨ 999999999 < y
    all_goals
      go_enter Try.func73, Try.ntmps73
      go_wp2_with (first | (go_at_call 63; refine (within_t _ _ _ (by omega) (by omega)).mono ?_; rintro e w' ⟨rfl, rfl⟩) | (go_at_call 63; refine (within_f _ _ _ (by omega)).mono ?_; rintro e w' ⟨rfl, rfl⟩) | (go_at_call 81; refine (baseOk_f _ _ (by omega)).mono ?_; rintro e w' ⟨rfl, rfl⟩))
      refine bodyPost_ret (results_cell_bool rfl _ _ w.heap.size false rfl hbx) rfl ?_
      exact ⟨rfl, (Below.refl _ w).alloc (Nat.le_refl _) _⟩
  · unfold bad3 at h
    obtain ⟨X, rfl⟩ : ∃ N : Nat, x = N := ⟨x.toNat, by omega⟩
    obtain ⟨Y, rfl⟩ : ∃ N : Nat, y = N := ⟨y.toNat, by omega⟩
    obtain ⟨B, rfl⟩ : ∃ B : Nat, b = B := ⟨b.toNat, by omega⟩
    rw [underV_nat (by omega) (by omega) (by omega) (by omega)]
    exact implUnder_ok X Y B (by omega) (by omega) (by omega) (by omega) w
end Go.Proofs.Ytlkcdcmmcjkedaa
