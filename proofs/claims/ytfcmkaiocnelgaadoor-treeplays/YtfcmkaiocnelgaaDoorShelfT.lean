/- The library's contracts that the walks lean on, at this program: each row is a fact of the program's own, compared by the kernel. -/
import Derived.Shelf.SlSorted.Search
import Derived.Test.YtfcmkaiocnelgaaDoorProg
namespace Go.Proofs
open Go.Shelf
def Tryd.searchInts_ren : Go.Shelf.Ren := ⟨fun | 14 => 111 | 22 => 132 | 16 => 63 | n => n, fun | 28 => 41 | 3 => 3 | 0 => 0 | 35 => 39 | 4 => 4 | 38 => 76 | n => n, fun | n => n⟩
theorem Tryd.searchInts : Go.Proofs.SlLaysO.n14 Tryd.prog Tryd.searchInts_ren := {
  mixed := by kernel_rfl
  f14 := Tryd.func111.trans (congrArg some (by kernel_rfl))
  f16 := Tryd.func63.trans (congrArg some (by kernel_rfl))
  f22 := Tryd.func132.trans (congrArg some (by kernel_rfl))
  t0 := Tryd.underlying0
  a0 := Tryd.isAgg0
  z0 := Tryd.sizeOf0
  v0 := Tryd.zeroValue0
  t3 := Tryd.underlying3
  a3 := Tryd.isAgg3
  z3 := Tryd.sizeOf3
  v3 := Tryd.zeroValue3
  t4 := Tryd.underlying4
  a4 := Tryd.isAgg4
  z4 := Tryd.sizeOf4
  v4 := Tryd.zeroValue4
  t28 := Tryd.underlying41
  a28 := Tryd.isAgg41
  z28 := Tryd.sizeOf41
  v28 := Tryd.zeroValue41
  t35 := Tryd.underlying39
  a35 := Tryd.isAgg39
  z35 := Tryd.sizeOf39
  v35 := Tryd.zeroValue39
  t38 := Tryd.underlying76
  a38 := Tryd.isAgg76
  z38 := Tryd.sizeOf76
  v38 := Tryd.zeroValue76 }
end Go.Proofs
