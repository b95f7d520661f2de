/- Joins of library walks. -/
import Derived.Shelf.SlCmpFuncs.BinarySearchFunc
import Derived.Test.YtbmkmfoaoganeaaGreatDoorProg
namespace Go.Proofs
open Go.Shelf
def Tryz.searchNode_ren : Go.Shelf.Ren := ⟨fun | 14 => 277 | n => n, fun | 22 => 336 | 24 => 201 | 29 => 201 | 32 => 339 | 3 => 3 | 4 => 4 | 35 => 212 | 0 => 0 | n => n, fun | n => n⟩
theorem Tryz.searchNode : Go.Proofs.SlLaysG2.n14 Tryz.prog Tryz.searchNode_ren := {
  mixed := by kernel_rfl
  f14 := ⟨Tryz.f277.name, by decide, Tryz.func277.trans (congrArg some (by kernel_rfl))⟩
  t0 := Tryz.underlying0
  a0 := Tryz.isAgg0
  z0 := Tryz.sizeOf0
  v0 := Tryz.zeroValue0
  t3 := Tryz.underlying3
  a3 := Tryz.isAgg3
  z3 := Tryz.sizeOf3
  v3 := Tryz.zeroValue3
  t4 := Tryz.underlying4
  a4 := Tryz.isAgg4
  z4 := Tryz.sizeOf4
  v4 := Tryz.zeroValue4
  t22 := Tryz.underlying336
  a22 := Tryz.isAgg336
  z22 := Tryz.sizeOf336
  v22 := Tryz.zeroValue336
  a24 := Tryz.isAgg201
  z24 := Tryz.sizeOf201
  a29 := Tryz.isAgg201
  z29 := Tryz.sizeOf201
  t32 := Tryz.underlying339
  a32 := Tryz.isAgg339
  z32 := Tryz.sizeOf339
  v32 := Tryz.zeroValue339
  t35 := Tryz.underlying212
  a35 := Tryz.isAgg212
  z35 := Tryz.sizeOf212
  v35 := Tryz.zeroValue212 }
end Go.Proofs
