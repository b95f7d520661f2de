/- Texts of one proof, one behind the other. -/
import Derived.Test.YtfoojmflbifkpaaGreatDoorCj
import Derived.Test.YtfoojmflbifkpaaGreatDoorBy
import Derived.Test.YtfoojmflbifkpaaGreatDoorBx

/- The document's Pieces: walked. -/
namespace Go.Proofs.YtfoojmflbifkpaaGreatDoor
open Go.RowKit Go.Maps
end Go.Proofs.YtfoojmflbifkpaaGreatDoor

/- The document's Pieces, where it tells: walked. -/
namespace Go.Proofs.YtfoojmflbifkpaaGreatDoor
open Go.RowKit Go.Maps
theorem toList_ne {a b : ByteArray} (h : a ≠ b) : (a.toList == b.toList) = false := by
  rw [beq_eq_false_iff_ne]
  intro e
  rw [ByteArray.toList_eq, ByteArray.toList_eq] at e
  exact h (ByteArray.ext (Array.toList_inj.1 e))
end Go.Proofs.YtfoojmflbifkpaaGreatDoor
