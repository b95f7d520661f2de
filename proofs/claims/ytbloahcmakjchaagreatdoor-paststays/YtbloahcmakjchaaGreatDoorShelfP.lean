/- The library's contracts that the walks lean on, at this program: each row is a fact of the program's own, compared by the kernel. -/
import Derived.Shelf.SlCmpFuncs.BinarySearchFunc
import Derived.Test.YtbloahcmakjchaaGreatDoorProg
namespace Go.Proofs
open Go.Shelf
def Tryz.searchNode_ren : Go.Shelf.Ren := ⟨fun | 14 => 231 | n => n, fun | 22 => 324 | 24 => 212 | 29 => 212 | 32 => 327 | 3 => 3 | 4 => 4 | 35 => 48 | 0 => 0 | n => n, fun | n => n⟩
theorem Tryz.searchNode : Go.Proofs.SlLaysG2.n14 Tryz.prog Tryz.searchNode_ren := {
  mixed := by kernel_rfl
  f14 := ⟨Tryz.f231.name, by decide, Tryz.func231.trans (congrArg some (by kernel_rfl))⟩
  t0 := Tryz.underlying0
  a0 := Tryz.isAgg0
  z0 := Tryz.sizeOf0
  v0 := Tryz.zeroValue0
  t3 := Tryz.underlying3
  a3 := Tryz.isAgg3
  z3 := Tryz.sizeOf3
  v3 := Tryz.zeroValue3
  t4 := Tryz.underlying4
  a4 := Tryz.isAgg4
  z4 := Tryz.sizeOf4
  v4 := Tryz.zeroValue4
  t22 := Tryz.underlying324
  a22 := Tryz.isAgg324
  z22 := Tryz.sizeOf324
  v22 := Tryz.zeroValue324
  a24 := Tryz.isAgg212
  z24 := Tryz.sizeOf212
  a29 := Tryz.isAgg212
  z29 := Tryz.sizeOf212
  t32 := Tryz.underlying327
  a32 := Tryz.isAgg327
  z32 := Tryz.sizeOf327
  v32 := Tryz.zeroValue327
  t35 := Tryz.underlying48
  a35 := Tryz.isAgg48
  z35 := Tryz.sizeOf48
  v35 := Tryz.zeroValue48 }
end Go.Proofs
