/- The library's contracts that the walks lean on, at this program: each row is a fact of the program's own, compared by the kernel. -/
import Derived.Shelf.SlCmpFuncs.BinarySearchFunc
import Derived.Test.YtbloahcmakjchabGreatDoorProg
namespace Go.Proofs
open Go.Shelf
def Tryz.searchNode_ren : Go.Shelf.Ren := ⟨fun | 14 => 301 | n => n, fun | 22 => 391 | 24 => 252 | 29 => 252 | 32 => 394 | 3 => 3 | 4 => 4 | 35 => 121 | 0 => 0 | n => n, fun | n => n⟩
theorem Tryz.searchNode : Go.Proofs.SlLaysG2.n14 Tryz.prog Tryz.searchNode_ren := {
  mixed := by kernel_rfl
  f14 := ⟨Tryz.f301.name, by decide, Tryz.func301.trans (congrArg some (by kernel_rfl))⟩
  t0 := Tryz.underlying0
  a0 := Tryz.isAgg0
  z0 := Tryz.sizeOf0
  v0 := Tryz.zeroValue0
  t3 := Tryz.underlying3
  a3 := Tryz.isAgg3
  z3 := Tryz.sizeOf3
  v3 := Tryz.zeroValue3
  t4 := Tryz.underlying4
  a4 := Tryz.isAgg4
  z4 := Tryz.sizeOf4
  v4 := Tryz.zeroValue4
  t22 := Tryz.underlying391
  a22 := Tryz.isAgg391
  z22 := Tryz.sizeOf391
  v22 := Tryz.zeroValue391
  a24 := Tryz.isAgg252
  z24 := Tryz.sizeOf252
  a29 := Tryz.isAgg252
  z29 := Tryz.sizeOf252
  t32 := Tryz.underlying394
  a32 := Tryz.isAgg394
  z32 := Tryz.sizeOf394
  v32 := Tryz.zeroValue394
  t35 := Tryz.underlying121
  a35 := Tryz.isAgg121
  z35 := Tryz.sizeOf121
  v35 := Tryz.zeroValue121 }
end Go.Proofs
