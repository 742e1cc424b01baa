/-
  The iterators digitsIn and digitsBeside: they hand out the digits of one number, of two numbers side by side.
-/
import Derived.Test.YtlkcdcmmcjkedaaPull
import Derived.Shelf.Abstract
import Derived.Shelf.RegionOpen
import Derived.TacticsInMore
import Derived.LoopNIn
import Derived.LoopIn
namespace Go.Proofs.Ytlkcdcmmcjkedaa
open Go.RowKit Go.Shelf
attribute [local go_sem] Oper.semAt_some

/-- What has been handed out, and what lies in the block. -/
def DgHd (b N : Nat) (n0 : Nat) (pre : List Nat) (x : Nat) (W : World) : Prop := ∃ m, UAt W n0 m b ∧ pre ++ x :: digs b m = digs b N ∧ x < b
def DgS (b N : Nat) (_n0 : Nat) (xs : List Nat) (_W : World) : Prop := xs = digs b N

/-- The rest that block R holds, as a measure. -/
def restAt (w : World) (R : Nat) : Nat := match w.cell? ⟨R, 0, none⟩ with
  | some v => (intOf v).toNat
  | none => 0
theorem restAt_of {w : World} {R n b : Nat} (h : UAt w R n b) : restAt w R = n := by unfold restAt; rw [h.cell0]; simp [intOf]

end Go.Proofs.Ytlkcdcmmcjkedaa
