/-
  What the draws hand back: numbers that fit 64 bits.
-/
import Derived.Test.YtghfmoanpgaijaaDoorDraw
namespace Go.Proofs.YtghfmoanpgaijaaDoor
open Go.RowKit

/-- A number that fits 64 bits. -/
def Fits (x : Int) : Prop := -9223372036854775808 ≤ x ∧ x ≤ 9223372036854775807
theorem wrap_fits (n : Int) : Fits (IntKind.i64.wrap n) := by
  unfold Fits IntKind.wrap
  simp [IntKind.signed, IntKind.bits]
  split <;> omega
theorem wrap64_fits (n : Int) : Fits (wrap64 n) := by
  unfold Fits wrap64; omega
/-- It returns one, two, three numbers. -/
def Int1 (e : Ending) : Prop := ∃ x : Int, Fits x ∧ e = .returned (.int .i64 x)
def Int2 (e : Ending) : Prop := ∃ x y : Int, Fits x ∧ Fits y ∧ e = .returned (.tuple #[.int .i64 x, .int .i64 y])
def Int3 (e : Ending) : Prop := ∃ x y z : Int, Fits x ∧ Fits y ∧ Fits z ∧ e = .returned (.tuple #[.int .i64 x, .int .i64 y, .int .i64 z])

/-- The one of three numbers at a place. -/
def sel (i : Nat) (a b c : Int) : Int := if i = 0 then a else if i = 1 then b else c
theorem sel_at {i : Nat} (hi : i < 3) (a b c : Int) : (#[.int .i64 a, .int .i64 b, .int .i64 c] : Array Value)[i]? = some (.int .i64 (sel i a b c)) := by
  match i, hi with
  | 0, _ => rfl
  | 1, _ => rfl
  | 2, _ => rfl
theorem sel_cell {i : Nat} (hi : i < 3) (W : World) (a b c : Int) : (W.alloc (.cells #[.int .i64 a, .int .i64 b, .int .i64 c] 3)).cell? ⟨W.heap.size, i, none⟩ = some (.int .i64 (sel i a b c)) := by
  rw [World.cell?_alloc_at _ _ _ _ rfl]; exact sel_at hi a b c
end Go.Proofs.YtghfmoanpgaijaaDoor
