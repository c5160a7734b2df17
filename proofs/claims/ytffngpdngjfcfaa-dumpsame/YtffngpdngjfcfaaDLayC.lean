/-
  How strings.Count lies in this program: the table of numbers, and that each body is the one of which the library's contract is proved (written by the guide's tool for plain texts).
-/
import Derived.Shelf.Strings.Count
import Derived.Ground.NamesProg
import Derived.Test.YtffngpdngjfcfaaChecked
namespace Go.Proofs.Ytffngpdngjfcfaa
open Go.Shelf
def Try.laysCount_ren : Go.Shelf.Ren := ⟨fun | 138 => 78 | 195 => 98 | 218 => 99 | 143 => 100 | 219 => 104 | 217 => 112 | 225 => 113 | 224 => 114 | 267 => 115 | 266 => 122 | 314 => 123 | n => n, fun | 9 => 9 | 3 => 3 | 4 => 4 | 5 => 5 | 0 => 0 | 46 => 38 | 146 => 185 | 51 => 162 | n => n, fun | 1 => 0 | n => n⟩
theorem Try.laysCount : Go.Proofs.Lays.n138 Try.prog Try.laysCount_ren := {
  mixed := by kernel_rfl
  f138 := Try.func78.trans (congrArg some (by kernel_rfl))
  f143 := Try.func100.trans (congrArg some (by kernel_rfl))
  f195 := Try.func98.trans (congrArg some (by kernel_rfl))
  f217 := Try.func112.trans (congrArg some (by kernel_rfl))
  f218 := Try.func99.trans (congrArg some (by kernel_rfl))
  f219 := Try.func104.trans (congrArg some (by kernel_rfl))
  f224 := Try.func114.trans (congrArg some (by kernel_rfl))
  f225 := Try.func113.trans (congrArg some (by kernel_rfl))
  f266 := Try.func122.trans (congrArg some (by kernel_rfl))
  f267 := Try.func115.trans (congrArg some (by kernel_rfl))
  f314 := Try.func123.trans (congrArg some (by kernel_rfl))
  t0 := Try.underlying0
  a0 := Try.isAgg0
  z0 := Try.sizeOf0
  v0 := Try.zeroValue0
  t3 := Try.underlying3
  a3 := Try.isAgg3
  z3 := Try.sizeOf3
  v3 := Try.zeroValue3
  t4 := Try.underlying4
  a4 := Try.isAgg4
  z4 := Try.sizeOf4
  v4 := Try.zeroValue4
  t5 := Try.underlying5
  a5 := Try.isAgg5
  z5 := Try.sizeOf5
  v5 := Try.zeroValue5
  t9 := Try.underlying9
  a9 := Try.isAgg9
  z9 := Try.sizeOf9
  v9 := Try.zeroValue9
  t46 := Try.underlying38
  a46 := Try.isAgg38
  z46 := Try.sizeOf38
  v46 := Try.zeroValue38
  t51 := Try.underlying162
  a51 := Try.isAgg162
  z51 := Try.sizeOf162
  v51 := Try.zeroValue162
  t146 := Try.underlying185
  a146 := Try.isAgg185
  z146 := Try.sizeOf185
  v146 := Try.zeroValue185
  g1 := by kernel_rfl }
end Go.Proofs.Ytffngpdngjfcfaa
