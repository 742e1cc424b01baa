/-
  Contracts of Go's library laid at this program: tables of numbers, and a fact of the program a field.
-/
import Derived.Test.YtkcbfiglmjdaiaaDoorProg
import Derived.Shelf.Small.Strs
namespace Go.Proofs.YtkcbfiglmjdaiaaDoor
open Go.Proofs Go.Shelf
def Tryd.indexByteA_ren : Go.Shelf.Ren := ⟨fun | 137 => 35 | 217 => 44 | 266 => 51 | n => n, fun | 9 => 9 | 5 => 5 | 3 => 3 | n => n, fun | n => n⟩
theorem Tryd.indexByteA : Go.Proofs.Lays.n137 Tryd.prog Tryd.indexByteA_ren := {
  mixed := by kernel_rfl
  f137 := Tryd.func35.trans (congrArg some (by kernel_rfl))
  f217 := Tryd.func44.trans (congrArg some (by kernel_rfl))
  f266 := Tryd.func51.trans (congrArg some (by kernel_rfl))
  t3 := Tryd.underlying3
  a3 := Tryd.isAgg3
  z3 := Tryd.sizeOf3
  v3 := Tryd.zeroValue3
  t5 := Tryd.underlying5
  a5 := Tryd.isAgg5
  z5 := Tryd.sizeOf5
  v5 := Tryd.zeroValue5
  t9 := Tryd.underlying9
  a9 := Tryd.isAgg9
  z9 := Tryd.sizeOf9
  v9 := Tryd.zeroValue9 }
end Go.Proofs.YtkcbfiglmjdaiaaDoor
