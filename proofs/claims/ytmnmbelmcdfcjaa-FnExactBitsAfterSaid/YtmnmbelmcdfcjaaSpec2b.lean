/-
  The model's CountUnder, UnderOk, CarriesOf and DigitsOf: for every argument what they hand back.
-/
import Derived.Test.YtmnmbelmcdfcjaaSpec2
namespace Go.Proofs.Ytmnmbelmcdfcjaa
open Go.RowKit

end Go.Proofs.Ytmnmbelmcdfcjaa
