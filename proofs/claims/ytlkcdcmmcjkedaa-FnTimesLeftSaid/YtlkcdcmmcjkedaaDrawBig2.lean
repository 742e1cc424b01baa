/-
  The contract of the draw of a number: l20Big.
-/
import Derived.Test.YtlkcdcmmcjkedaaSels
namespace Go.Proofs.Ytlkcdcmmcjkedaa
open Go.RowKit

end Go.Proofs.Ytlkcdcmmcjkedaa
