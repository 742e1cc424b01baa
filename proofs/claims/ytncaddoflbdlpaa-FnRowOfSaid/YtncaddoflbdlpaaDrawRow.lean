/-
  Contracts of the draws of chapter 1: l20Open, l20Row and the functions that draw a law's arguments.
-/
import Derived.Test.YtncaddoflbdlpaaDraw
import Derived.Deep.DeepCutAuto
namespace Go.Proofs.Ytncaddoflbdlpaa
open Go.RowKit

/-- A number that fits 64 bits. -/
def Fits (x : Int) : Prop := -9223372036854775808 ≤ x ∧ x ≤ 9223372036854775807
theorem wrap_fits (n : Int) : Fits (IntKind.i64.wrap n) := by
  unfold Fits IntKind.wrap
  simp [IntKind.signed, IntKind.bits]
  split <;> omega
theorem wrap64_fits (n : Int) : Fits (wrap64 n) := by
  unfold Fits wrap64; omega
/-- It returns one, two, three numbers. -/
def Int1 (e : Ending) : Prop := ∃ x : Int, Fits x ∧ e = .returned (.int .i64 x)
def Int2 (e : Ending) : Prop := ∃ x y : Int, Fits x ∧ Fits y ∧ e = .returned (.tuple #[.int .i64 x, .int .i64 y])
def Int3 (e : Ending) : Prop := ∃ x y z : Int, Fits x ∧ Fits y ∧ Fits z ∧ e = .returned (.tuple #[.int .i64 x, .int .i64 y, .int .i64 z])

/-- The one of three numbers at a place. -/
def sel (i : Nat) (a b c : Int) : Int := if i = 0 then a else if i = 1 then b else c
theorem sel_at {i : Nat} (hi : i < 3) (a b c : Int) : (#[.int .i64 a, .int .i64 b, .int .i64 c] : Array Value)[i]? = some (.int .i64 (sel i a b c)) := by
  match i, hi with
  | 0, _ => rfl
  | 1, _ => rfl
  | 2, _ => rfl
theorem sel_cell {i : Nat} (hi : i < 3) (W : World) (a b c : Int) : (W.alloc (.cells #[.int .i64 a, .int .i64 b, .int .i64 c] 3)).cell? ⟨W.heap.size, i, none⟩ = some (.int .i64 (sel i a b c)) := by
  rw [World.cell?_alloc_at _ _ _ _ rfl]; exact sel_at hi a b c

set_option maxHeartbeats 2000000 in
set_option maxRecDepth 100000 in
theorem l20Row_in (W0 : World) (R len cap p : Nat) (a : Option Addr) (w : World) (hb : Bytes W0 a len) (h : Rd W0 R a len cap w p) (hp : p ≤ 900000) :
    Calls Try.prog 33 #[.pointer (some ⟨R, 0, none⟩)] w fun e w' => Int2 e ∧ Rd W0 R a len cap w' (p + 1 + 1 + 1 + 1 + 1 + 1 + 1) := by
  have h' := h.drew
  go_enter Try.func33, Try.ntmps33
  go_upto_region 1 with fail
  go_cut [4] (fun s4 wx => ∃ x : Int, Fits x ∧ s4 = .int .i64 x ∧ Rd W0 R a len cap wx (p + 1 + 1 + 1 + 1 + 1))
  case first =>
    go_region_with (first
      | (go_at_call 40; (with_reducible refine (pick_in W0 R len cap _ a 5 _ hb (by first | assumption | exact Rd.alloc (by assumption) _) (by omega)).mono ?_); rintro e w' ⟨x, rfl, hx0, _, hx1, hrd, hgr, hon⟩; have hkc := only_cells hon; have hne := hrd.ne; replace hx1 := hx1 (by omega); obtain ⟨i, hi3, hxi⟩ : ∃ i : Nat, i < 3 ∧ IntKind.i64.wrap (x.tdiv 2) = i := ⟨(x / 2).toNat, by omega, by rw [Int.tdiv_eq_ediv_of_nonneg hx0, IntWalk.i64_in _ (by omega)]; omega⟩; have hs1 := sel_at hi3; have hs2 := sel_cell hi3; have hi4 : (i : Int) < 3 := (by omega); clear hx0 hx1 hgr hon)
      | (go_at_call 40; (with_reducible refine (pick_in W0 R len cap _ a _ _ hb (by first | assumption | exact Rd.alloc (by assumption) _) (by omega)).mono ?_); rintro e w' ⟨x, rfl, hx0, _, hx1, hrd, hgr, hon⟩; have hkc := only_cells hon; have hne := hrd.ne; clear hx0 hx1 hgr hon))
    all_goals (go_wp2_with fail; go_meet; exact ⟨_, wrap_fits _, rfl, by first | assumption | exact Rd.alloc (by assumption) _⟩)
  case rest =>
    obtain ⟨x, hfx, rfl, hx⟩ := hcut
    go_wp2_with (go_at_call 40; (with_reducible refine (pick_in W0 R len cap _ a _ _ hb (by assumption) (by omega)).mono ?_); rintro e w' ⟨x2, rfl, hx0, _, hx1, hrd, hgr, hon⟩; clear hx0 hx1 hgr hon)
    all_goals
      go_ret2
      exact ⟨⟨_, _, hfx, wrap64_fits _, rfl⟩, by assumption⟩
end Go.Proofs.Ytncaddoflbdlpaa
