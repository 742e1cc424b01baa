/-
  The iterators digitsIn and digitsBeside: they hand out the digits of one number, of two numbers side by side.
-/
import Derived.Test.YtlkcdcmmcjkedabPull
import Derived.Shelf.Abstract
import Derived.Shelf.RegionOpen
import Derived.TacticsInMore
import Derived.LoopNIn
import Derived.LoopIn
namespace Go.Proofs.Ytlkcdcmmcjkedab
open Go.RowKit Go.Shelf
attribute [local go_sem] Oper.semAt_some

def DgS (b N : Nat) (_n0 : Nat) (xs : List Nat) (_W : World) : Prop := xs = digs b N

/-- The rest that block R holds, as a measure. -/
def restAt (w : World) (R : Nat) : Nat := match w.cell? ⟨R, 0, none⟩ with
  | some v => (intOf v).toNat
  | none => 0
end Go.Proofs.Ytlkcdcmmcjkedab
