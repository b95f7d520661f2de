/- The library's contracts that the walks lean on, at this program: each row is a fact of the program's own, compared by the kernel. -/
import Derived.Shelf.SlCmpFuncs.BinarySearchFunc
import Derived.Test.YtfcmkaiocnelgaaDoorProg
namespace Go.Proofs
open Go.Shelf
def Tryd.searchNode_ren : Go.Shelf.Ren := ⟨fun | 14 => 83 | n => n, fun | 22 => 131 | 24 => 70 | 29 => 70 | 32 => 135 | 3 => 3 | 4 => 4 | 35 => 76 | 0 => 0 | n => n, fun | n => n⟩
theorem Tryd.searchNode : Go.Proofs.SlLaysG2.n14 Tryd.prog Tryd.searchNode_ren := {
  mixed := by kernel_rfl
  f14 := ⟨Tryd.f83.name, by decide, Tryd.func83.trans (congrArg some (by kernel_rfl))⟩
  t0 := Tryd.underlying0
  a0 := Tryd.isAgg0
  z0 := Tryd.sizeOf0
  v0 := Tryd.zeroValue0
  t3 := Tryd.underlying3
  a3 := Tryd.isAgg3
  z3 := Tryd.sizeOf3
  v3 := Tryd.zeroValue3
  t4 := Tryd.underlying4
  a4 := Tryd.isAgg4
  z4 := Tryd.sizeOf4
  v4 := Tryd.zeroValue4
  t22 := Tryd.underlying131
  a22 := Tryd.isAgg131
  z22 := Tryd.sizeOf131
  v22 := Tryd.zeroValue131
  a24 := Tryd.isAgg70
  z24 := Tryd.sizeOf70
  a29 := Tryd.isAgg70
  z29 := Tryd.sizeOf70
  t32 := Tryd.underlying135
  a32 := Tryd.isAgg135
  z32 := Tryd.sizeOf135
  v32 := Tryd.zeroValue135
  t35 := Tryd.underlying76
  a35 := Tryd.isAgg76
  z35 := Tryd.sizeOf76
  v35 := Tryd.zeroValue76 }
end Go.Proofs
