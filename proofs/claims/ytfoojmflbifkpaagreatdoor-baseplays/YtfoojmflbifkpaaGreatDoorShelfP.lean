/- The library's contracts that the walks lean on, at this program: each row is a fact of the program's own, compared by the kernel. -/
import Derived.Shelf.SlCmpFuncs.BinarySearchFunc
import Derived.Test.YtfoojmflbifkpaaGreatDoorProg
namespace Go.Proofs
open Go.Shelf
def Tryz.searchNode_ren : Go.Shelf.Ren := ⟨fun | 14 => 186 | n => n, fun | 22 => 282 | 24 => 181 | 29 => 181 | 32 => 285 | 3 => 3 | 4 => 4 | 35 => 38 | 0 => 0 | n => n, fun | n => n⟩
theorem Tryz.searchNode : Go.Proofs.SlLaysG2.n14 Tryz.prog Tryz.searchNode_ren := {
  mixed := by kernel_rfl
  f14 := ⟨Tryz.f186.name, by decide, Tryz.func186.trans (congrArg some (by kernel_rfl))⟩
  t0 := Tryz.underlying0
  a0 := Tryz.isAgg0
  z0 := Tryz.sizeOf0
  v0 := Tryz.zeroValue0
  t3 := Tryz.underlying3
  a3 := Tryz.isAgg3
  z3 := Tryz.sizeOf3
  v3 := Tryz.zeroValue3
  t4 := Tryz.underlying4
  a4 := Tryz.isAgg4
  z4 := Tryz.sizeOf4
  v4 := Tryz.zeroValue4
  t22 := Tryz.underlying282
  a22 := Tryz.isAgg282
  z22 := Tryz.sizeOf282
  v22 := Tryz.zeroValue282
  a24 := Tryz.isAgg181
  z24 := Tryz.sizeOf181
  a29 := Tryz.isAgg181
  z29 := Tryz.sizeOf181
  t32 := Tryz.underlying285
  a32 := Tryz.isAgg285
  z32 := Tryz.sizeOf285
  v32 := Tryz.zeroValue285
  t35 := Tryz.underlying38
  a35 := Tryz.isAgg38
  z35 := Tryz.sizeOf38
  v35 := Tryz.zeroValue38 }
end Go.Proofs
