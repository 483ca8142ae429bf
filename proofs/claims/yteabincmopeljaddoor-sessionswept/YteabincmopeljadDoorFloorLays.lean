/-
  What the library's contracts ask of this program's own copies of its functions, each laid by the shelf's commands: cmpS.
-/
import Derived.Shelf.Small.Strs
import Derived.Shelf.SlGeneric
import Derived.Test.YteabincmopeljadDoorProg
namespace Go.Proofs
open Go.Shelf
def Tryd.cmpS_ren : Go.Shelf.Ren := ⟨fun | 106 => 90 | 213 => 111 | 265 => 119 | n => n, fun | 9 => 9 | 3 => 3 | n => n, fun | n => n⟩
theorem Tryd.cmpS : Go.Proofs.Lays.n106 Tryd.prog Tryd.cmpS_ren := {
  mixed := by kernel_rfl
  f106 := Tryd.func90.trans (congrArg some (by kernel_rfl))
  f213 := Tryd.func111.trans (congrArg some (by kernel_rfl))
  f265 := Tryd.func119.trans (congrArg some (by kernel_rfl))
  t3 := Tryd.underlying3
  a3 := Tryd.isAgg3
  z3 := Tryd.sizeOf3
  v3 := Tryd.zeroValue3
  t9 := Tryd.underlying9
  a9 := Tryd.isAgg9
  z9 := Tryd.sizeOf9
  v9 := Tryd.zeroValue9 }
end Go.Proofs
