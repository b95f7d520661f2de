/- The library's contracts that the walks lean on, at this program: each row is a fact of the program's own, compared by the kernel. -/
import Derived.Shelf.SlCmpFuncs.BinarySearchFunc
import Derived.Test.YtgegjhemgpkmcabGreatDoorProg
namespace Go.Proofs
open Go.Shelf
def Tryz.searchNode_ren : Go.Shelf.Ren := ⟨fun | 14 => 187 | n => n, fun | 22 => 292 | 24 => 215 | 29 => 215 | 32 => 295 | 3 => 3 | 4 => 4 | 35 => 114 | 0 => 0 | n => n, fun | n => n⟩
theorem Tryz.searchNode : Go.Proofs.SlLaysG2.n14 Tryz.prog Tryz.searchNode_ren := {
  mixed := by kernel_rfl
  f14 := ⟨Tryz.f187.name, by decide, Tryz.func187.trans (congrArg some (by kernel_rfl))⟩
  t0 := Tryz.underlying0
  a0 := Tryz.isAgg0
  z0 := Tryz.sizeOf0
  v0 := Tryz.zeroValue0
  t3 := Tryz.underlying3
  a3 := Tryz.isAgg3
  z3 := Tryz.sizeOf3
  v3 := Tryz.zeroValue3
  t4 := Tryz.underlying4
  a4 := Tryz.isAgg4
  z4 := Tryz.sizeOf4
  v4 := Tryz.zeroValue4
  t22 := Tryz.underlying292
  a22 := Tryz.isAgg292
  z22 := Tryz.sizeOf292
  v22 := Tryz.zeroValue292
  a24 := Tryz.isAgg215
  z24 := Tryz.sizeOf215
  a29 := Tryz.isAgg215
  z29 := Tryz.sizeOf215
  t32 := Tryz.underlying295
  a32 := Tryz.isAgg295
  z32 := Tryz.sizeOf295
  v32 := Tryz.zeroValue295
  t35 := Tryz.underlying114
  a35 := Tryz.isAgg114
  z35 := Tryz.sizeOf114
  v35 := Tryz.zeroValue114 }
end Go.Proofs
