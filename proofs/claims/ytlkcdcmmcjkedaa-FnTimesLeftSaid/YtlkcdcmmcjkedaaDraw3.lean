/-
  The draws of chapter 3: each hands back numbers, and nothing that was there is written.
-/
import Derived.Test.YtlkcdcmmcjkedaaDrawPrime
import Derived.Test.YtlkcdcmmcjkedaaDrawBig2
import Derived.Test.YtlkcdcmmcjkedaaOpen
namespace Go.Proofs.Ytlkcdcmmcjkedaa
open Go.RowKit

/-- A reader that has come no further than L. -/
def RdTo (W0 : World) (R : Nat) (a : Option Addr) (len cap : Nat) (w : World) (L : Nat) : Prop := ∃ q, q ≤ L ∧ Rd W0 R a len cap w q

end Go.Proofs.Ytlkcdcmmcjkedaa
