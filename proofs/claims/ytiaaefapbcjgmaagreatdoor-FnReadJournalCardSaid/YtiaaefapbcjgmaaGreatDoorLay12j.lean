/-
  Contracts of Go's library laid at this program: tables of numbers, and a fact of the program a field.
-/
import Derived.Test.YtiaaefapbcjgmaaGreatDoorProg
import Derived.Shelf.Small.Strs
namespace Go.Proofs.YtiaaefapbcjgmaaGreatDoor
open Go.Proofs Go.Shelf
def Tryz.indexByteA_ren : Go.Shelf.Ren := ⟨fun | 137 => 89 | 217 => 121 | 266 => 154 | n => n, fun | 9 => 9 | 5 => 5 | 3 => 3 | n => n, fun | n => n⟩
theorem Tryz.indexByteA : Go.Proofs.Lays.n137 Tryz.prog Tryz.indexByteA_ren := {
  mixed := by kernel_rfl
  f137 := Tryz.func89.trans (congrArg some (by kernel_rfl))
  f217 := Tryz.func121.trans (congrArg some (by kernel_rfl))
  f266 := Tryz.func154.trans (congrArg some (by kernel_rfl))
  t3 := Tryz.underlying3
  a3 := Tryz.isAgg3
  z3 := Tryz.sizeOf3
  v3 := Tryz.zeroValue3
  t5 := Tryz.underlying5
  a5 := Tryz.isAgg5
  z5 := Tryz.sizeOf5
  v5 := Tryz.zeroValue5
  t9 := Tryz.underlying9
  a9 := Tryz.isAgg9
  z9 := Tryz.sizeOf9
  v9 := Tryz.zeroValue9 }
end Go.Proofs.YtiaaefapbcjgmaaGreatDoor
