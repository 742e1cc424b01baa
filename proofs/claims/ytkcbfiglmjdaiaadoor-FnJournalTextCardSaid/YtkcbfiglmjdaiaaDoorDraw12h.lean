/-
  The draws of chapter 12: a text that is often that of a deed.
-/
import Derived.Test.YtkcbfiglmjdaiaaDoorDraw12g
import Derived.Test.YtkcbfiglmjdaiaaDoorSpecZ
namespace Go.Proofs.YtkcbfiglmjdaiaaDoor
open Go Go.RowKit
attribute [local go_sem] Oper.semAt_some

theorem rd_belowD {W0 w w' : World} {R len cap p : Nat} {a : Option Addr} (h : Rd W0 R a len cap w p) (hB : Below w.heap.size w w') : Rd W0 R a len cap w' p :=
  ⟨h.1.trans (hB.mono h.1.size), h.2.1, (hB.block R (Array.getElem?_eq_some_iff.1 h.2.2).1).trans h.2.2⟩

end Go.Proofs.YtkcbfiglmjdaiaaDoor
