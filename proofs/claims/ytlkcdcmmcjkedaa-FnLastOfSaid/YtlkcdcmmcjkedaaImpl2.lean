/-
  The program's SumOfDigits and CountUnder: for every argument what they hand back.
-/
import Derived.Test.YtlkcdcmmcjkedaaIter2
import Derived.Test.YtlkcdcmmcjkedaaMathZ
namespace Go.Proofs.Ytlkcdcmmcjkedaa
open Go.RowKit Go.Shelf
attribute [local go_sem] Oper.semAt_some

end Go.Proofs.Ytlkcdcmmcjkedaa
