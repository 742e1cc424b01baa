/-
  The program's RowOf and CellOf: for every argument what they hand back.
-/
import Derived.Test.YtlkcdcmmcjkedabIter
import Derived.Test.YtlkcdcmmcjkedabMathZ
namespace Go.Proofs.Ytlkcdcmmcjkedab
open Go.RowKit Go.Shelf
attribute [local go_sem] Oper.semAt_some

/-- What the variable 'last' holds when k rows have come. -/
def lastV (g k N : Nat) : Value := if k = 0 then .slice none 0 0 else .slice (some ⟨g, 0, none⟩) k N

end Go.Proofs.Ytlkcdcmmcjkedab
