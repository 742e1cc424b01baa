/-
  The one of four, of six numbers at a place. Nothing of the program but the type int.
-/
import Derived.Test.YtehmobcfbifocaaDrawZ
import Derived.Deep.DeepCutAuto
namespace Go.Proofs.Ytehmobcfbifocaa
open Go.RowKit

/-- The one of four, of six numbers at a place. -/
def sel4 (i : Nat) (a b c d : Int) : Int := if i = 0 then a else if i = 1 then b else if i = 2 then c else d
theorem sel4_at {i : Nat} (hi : i < 4) (a b c d : Int) : (#[.int .i64 a, .int .i64 b, .int .i64 c, .int .i64 d] : Array Value)[i]? = some (.int .i64 (sel4 i a b c d)) := by
  match i, hi with
  | 0, _ => rfl
  | 1, _ => rfl
  | 2, _ => rfl
  | 3, _ => rfl
theorem sel4_cell {i : Nat} (hi : i < 4) (W : World) (a b c d : Int) : (W.alloc (.cells #[.int .i64 a, .int .i64 b, .int .i64 c, .int .i64 d] 3)).cell? ⟨W.heap.size, i, none⟩ = some (.int .i64 (sel4 i a b c d)) := by
  rw [World.cell?_alloc_at _ _ _ _ rfl]; exact sel4_at hi a b c d
theorem sel4_fits {i : Nat} {a b c d : Int} (ha : Fits a) (hb : Fits b) (hc : Fits c) (hd : Fits d) : Fits (sel4 i a b c d) := by
  unfold sel4; split
  · exact ha
  · split
    · exact hb
    · split
      · exact hc
      · exact hd
def sel6 (i : Nat) (a b c d e f : Int) : Int := if i = 0 then a else if i = 1 then b else if i = 2 then c else if i = 3 then d else if i = 4 then e else f
theorem sel6_at {i : Nat} (hi : i < 6) (a b c d e f : Int) : (#[.int .i64 a, .int .i64 b, .int .i64 c, .int .i64 d, .int .i64 e, .int .i64 f] : Array Value)[i]? = some (.int .i64 (sel6 i a b c d e f)) := by
  match i, hi with
  | 0, _ => rfl
  | 1, _ => rfl
  | 2, _ => rfl
  | 3, _ => rfl
  | 4, _ => rfl
  | 5, _ => rfl
theorem sel6_cell {i : Nat} (hi : i < 6) (W : World) (a b c d e f : Int) : (W.alloc (.cells #[.int .i64 a, .int .i64 b, .int .i64 c, .int .i64 d, .int .i64 e, .int .i64 f] 3)).cell? ⟨W.heap.size, i, none⟩ = some (.int .i64 (sel6 i a b c d e f)) := by
  rw [World.cell?_alloc_at _ _ _ _ rfl]; exact sel6_at hi a b c d e f
end Go.Proofs.Ytehmobcfbifocaa
