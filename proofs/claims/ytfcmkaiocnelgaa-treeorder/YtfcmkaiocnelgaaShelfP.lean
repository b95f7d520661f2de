/- The library's contracts that the walks lean on, at this program: each row is a fact of the program's own, compared by the kernel. -/
import Derived.Shelf.SlCmpFuncs.BinarySearchFunc
import Derived.Test.YtfcmkaiocnelgaaProg
namespace Go.Proofs
open Go.Shelf
def Try.searchNode_ren : Go.Shelf.Ren := ⟨fun | 14 => 45 | n => n, fun | 22 => 76 | 24 => 47 | 29 => 47 | 32 => 80 | 3 => 3 | 4 => 4 | 35 => 70 | 0 => 0 | n => n, fun | n => n⟩
theorem Try.searchNode : Go.Proofs.SlLaysG2.n14 Try.prog Try.searchNode_ren := {
  mixed := by kernel_rfl
  f14 := ⟨Try.f45.name, by decide, Try.func45.trans (congrArg some (by kernel_rfl))⟩
  t0 := Try.underlying0
  a0 := Try.isAgg0
  z0 := Try.sizeOf0
  v0 := Try.zeroValue0
  t3 := Try.underlying3
  a3 := Try.isAgg3
  z3 := Try.sizeOf3
  v3 := Try.zeroValue3
  t4 := Try.underlying4
  a4 := Try.isAgg4
  z4 := Try.sizeOf4
  v4 := Try.zeroValue4
  t22 := Try.underlying76
  a22 := Try.isAgg76
  z22 := Try.sizeOf76
  v22 := Try.zeroValue76
  a24 := Try.isAgg47
  z24 := Try.sizeOf47
  a29 := Try.isAgg47
  z29 := Try.sizeOf47
  t32 := Try.underlying80
  a32 := Try.isAgg80
  z32 := Try.sizeOf80
  v32 := Try.zeroValue80
  t35 := Try.underlying70
  a35 := Try.isAgg70
  z35 := Try.sizeOf70
  v35 := Try.zeroValue70 }
end Go.Proofs
