/-
  The iterator digitsBeside: it hands out the digits of two numbers side by side.
-/
import Derived.Test.YtlkcdcmmcjkedabIter2
namespace Go.Proofs.Ytlkcdcmmcjkedab
open Go.RowKit Go.Shelf
attribute [local go_sem] Oper.semAt_some

/-- The two blocks, in one of both orders. -/
def Two (n0 R1 R2 : Nat) : Prop := (R1 = n0 ∧ R2 = n0 + 1) ∨ (R1 = n0 + 1 ∧ R2 = n0)
def BsS (b X Y : Nat) (_n0 : Nat) (xs : List (Nat × Nat)) (_W : World) : Prop := xs = pairs b X Y

end Go.Proofs.Ytlkcdcmmcjkedab
