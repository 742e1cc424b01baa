/-
  The contract of the laws' own helper alive.
-/
import Derived.Test.YtlkcdcmmcjkedabImplCell
namespace Go.Proofs.Ytlkcdcmmcjkedab
open Go.RowKit

end Go.Proofs.Ytlkcdcmmcjkedab
