/-
  Contracts of the draws of numbers and bases: l20Big and l20Base.
-/
import Derived.Test.YtammmcffbfkgjaaFits
import Derived.Deep.DeepCutAuto
namespace Go.Proofs.Ytammmcffbfkgjaa
open Go.RowKit

/-- The one of four, of six numbers at a place. -/
def sel4 (i : Nat) (a b c d : Int) : Int := if i = 0 then a else if i = 1 then b else if i = 2 then c else d
theorem sel4_at {i : Nat} (hi : i < 4) (a b c d : Int) : (#[.int .i64 a, .int .i64 b, .int .i64 c, .int .i64 d] : Array Value)[i]? = some (.int .i64 (sel4 i a b c d)) := by
  match i, hi with
  | 0, _ => rfl
  | 1, _ => rfl
  | 2, _ => rfl
  | 3, _ => rfl
theorem sel4_cell {i : Nat} (hi : i < 4) (W : World) (a b c d : Int) : (W.alloc (.cells #[.int .i64 a, .int .i64 b, .int .i64 c, .int .i64 d] 3)).cell? ⟨W.heap.size, i, none⟩ = some (.int .i64 (sel4 i a b c d)) := by
  rw [World.cell?_alloc_at _ _ _ _ rfl]; exact sel4_at hi a b c d
theorem sel4_fits {i : Nat} {a b c d : Int} (ha : Fits a) (hb : Fits b) (hc : Fits c) (hd : Fits d) : Fits (sel4 i a b c d) := by
  unfold sel4; split
  · exact ha
  · split
    · exact hb
    · split
      · exact hc
      · exact hd
def sel6 (i : Nat) (a b c d e f : Int) : Int := if i = 0 then a else if i = 1 then b else if i = 2 then c else if i = 3 then d else if i = 4 then e else f
theorem sel6_at {i : Nat} (hi : i < 6) (a b c d e f : Int) : (#[.int .i64 a, .int .i64 b, .int .i64 c, .int .i64 d, .int .i64 e, .int .i64 f] : Array Value)[i]? = some (.int .i64 (sel6 i a b c d e f)) := by
  match i, hi with
  | 0, _ => rfl
  | 1, _ => rfl
  | 2, _ => rfl
  | 3, _ => rfl
  | 4, _ => rfl
  | 5, _ => rfl
theorem sel6_cell {i : Nat} (hi : i < 6) (W : World) (a b c d e f : Int) : (W.alloc (.cells #[.int .i64 a, .int .i64 b, .int .i64 c, .int .i64 d, .int .i64 e, .int .i64 f] 3)).cell? ⟨W.heap.size, i, none⟩ = some (.int .i64 (sel6 i a b c d e f)) := by
  rw [World.cell?_alloc_at _ _ _ _ rfl]; exact sel6_at hi a b c d e f

set_option maxHeartbeats 2000000 in
set_option maxRecDepth 100000 in
theorem l20Base_in (W0 : World) (R len cap p : Nat) (a : Option Addr) (w : World) (hb : Bytes W0 a len) (h : Rd W0 R a len cap w p) (hp : p ≤ 900000) :
    Calls Try.prog 35 #[.pointer (some ⟨R, 0, none⟩)] w fun e w' => Int1 e ∧ Rd W0 R a len cap w' (p + 1 + 1 + 1 + 1) := by
  have h' := h.drew
  go_enter Try.func35, Try.ntmps35
  go_upto_region 1 with fail
  go_region_with (first
      | (go_at_call 43; (with_reducible refine (pick_in W0 R len cap _ a 6 _ hb (by first | assumption | exact Rd.alloc (by assumption) _) (by omega)).mono ?_); rintro e w' ⟨x, rfl, hx0, _, hx1, hrd, hgr, hon⟩; have hkc := only_cells hon; have hne := hrd.ne; replace hx1 := hx1 (by omega); obtain ⟨i, hi3, rfl⟩ : ∃ i : Nat, i < 6 ∧ x = i := ⟨x.toNat, by omega, by omega⟩; have hs1 := sel6_at hi3; have hs2 := sel6_cell hi3; have hi4 : (i : Int) < 6 := (by omega); clear hx0 hx1 hgr hon)
      | (go_at_call 43; (with_reducible refine (pick_in W0 R len cap _ a _ _ hb (by first | assumption | exact Rd.alloc (by assumption) _) (by omega)).mono ?_); rintro e w' ⟨x, rfl, hx0, _, hx1, hrd, hgr, hon⟩; have hkc := only_cells hon; have hne := hrd.ne; clear hx0 hx1 hgr hon))
  all_goals
    go_wp2
    go_ret
    exact ⟨⟨_, by first | exact wrap_fits _ | exact wrap64_fits _, rfl⟩, by first | assumption | exact Rd.alloc (by assumption) _⟩
end Go.Proofs.Ytammmcffbfkgjaa
