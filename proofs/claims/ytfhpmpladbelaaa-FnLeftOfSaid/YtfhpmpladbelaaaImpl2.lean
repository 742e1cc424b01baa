/-
  The program's SumOfDigits and CountUnder: for every argument what they hand back.
-/
import Derived.Test.YtfhpmpladbelaaaIter2
import Derived.Test.YtfhpmpladbelaaaVals2
namespace Go.Proofs.Ytfhpmpladbelaaa
open Go.RowKit Go.Shelf
attribute [local go_sem] Oper.semAt_some

end Go.Proofs.Ytfhpmpladbelaaa
