/-
  The program's CellOf: for every argument what it hands back.
-/
import Derived.Test.YtlkcdcmmcjkedabImplRow
namespace Go.Proofs.Ytlkcdcmmcjkedab
open Go.RowKit Go.Shelf
attribute [local go_sem] Oper.semAt_some

end Go.Proofs.Ytlkcdcmmcjkedab
