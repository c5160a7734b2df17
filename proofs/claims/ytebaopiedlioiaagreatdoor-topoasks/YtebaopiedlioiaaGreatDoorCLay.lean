/-
  How slices.Clone of texts lies in this program: the tables of numbers, and that each body is the one of which the library's contract is proved (written by the guide's tool for plain layings).
-/
import Derived.Shelf.Slices.Clone
import Derived.Ground.Names2Prog
import Derived.Ground.NamesProg
import Derived.Test.YtebaopiedlioiaaGreatDoorChecked
namespace Go.Proofs.YtebaopiedlioiaaGreatDoor
open Go.Shelf
def Tryz.laysClone_ren : Go.Shelf.Ren := ⟨fun | 16 => 86 | n => n, fun | 24 => 47 | 9 => 9 | 4 => 4 | n => n, fun | n => n⟩
theorem Tryz.laysClone : Go.Proofs.Lays2.n16 Tryz.prog Tryz.laysClone_ren := {
  mixed := by kernel_rfl
  f16 := Tryz.func86.trans (congrArg some (by kernel_rfl))
  t4 := Tryz.underlying4
  a4 := Tryz.isAgg4
  z4 := Tryz.sizeOf4
  v4 := Tryz.zeroValue4
  t9 := Tryz.underlying9
  a9 := Tryz.isAgg9
  z9 := Tryz.sizeOf9
  v9 := Tryz.zeroValue9
  t24 := Tryz.underlying47
  a24 := Tryz.isAgg47
  z24 := Tryz.sizeOf47
  v24 := Tryz.zeroValue47
  i9 := by kernel_rfl }
end Go.Proofs.YtebaopiedlioiaaGreatDoor
