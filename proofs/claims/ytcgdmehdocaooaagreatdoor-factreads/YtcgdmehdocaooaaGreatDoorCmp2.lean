/- What the walks of this seat need of worlds that only drew. -/
import Derived.Test.YtcgdmehdocaooaaGreatDoorOps
import Derived.Deep.RegionHeld3
import Derived.Lib.Small
namespace Go.Proofs.YtcgdmehdocaooaaGreatDoor
open Go.RowKit

theorem below_drew (w : World) : Below w.heap.size w w.drew := ⟨rfl, rfl, rfl, Nat.le_refl _, fun _ _ => rfl⟩

end Go.Proofs.YtcgdmehdocaooaaGreatDoor
