/-
  The program's CarriesOf and UnderOk at every argument.
-/
import Derived.Test.YtlkcdcmmcjkedabImpl2b
namespace Go.Proofs.Ytlkcdcmmcjkedab
open Go.RowKit Go.Shelf

end Go.Proofs.Ytlkcdcmmcjkedab
