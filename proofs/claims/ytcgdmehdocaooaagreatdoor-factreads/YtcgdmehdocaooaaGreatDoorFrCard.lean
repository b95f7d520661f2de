/- FactReads returns true at every input: its card, the row with its listed variables tied to the program's text by the given tie. -/
import Derived.Test.YtcgdmehdocaooaaGreatDoorFrProof
import Derived.Test.YtcgdmehdocaooaaGreatDoorTie
import Derived.Test.YtcgdmehdocaooaaGreatDoorCards
import Derived.SevenTiedAt
namespace Go.Proofs.YtcgdmehdocaooaaGreatDoor
open Go

theorem factReads_holds : Rows.FactReadsCardSaid :=
  Claim7.holds_tied_plain_at .later [] [.data, .data, .data, .data, .handle, .sentinel, .sentinel, .pinned] true (true, "e876fe6ccdcf502fbc00e27519f516e0e3232d34e726d53d376f4ec78f359c04") true
    factReads_row_holds (fun _ h => by cases h) (by kernel_rfl) (fun _ h => by cases h) factReads_row_tie rfl ⟨rfl, rfl⟩ (by kernel_rfl) rfl
    (fun f fn hf hfn => by
      obtain rfl : f = 3 := Option.some.inj ((show Tryz.prog.funcNamed "palimpsest/palimpsestlaw.FactReads" = some 3 by kernel_rfl).symm.trans hf) |>.symm
      obtain rfl : fn = Tryz.f3 := (Option.some.inj (Tryz.func3.symm.trans hfn)).symm
      exact ⟨by kernel_rfl, fun j t ht => by
        rw [Tryz.params3] at ht
        have h3 : t = 9 := by
          rcases j with _ | j
          · simpa using ht.symm
          · simp at ht
        subst h3
        exact (show Tryz.prog.wantsStandIn 9 = false by kernel_rfl)⟩)
    (by kernel_rfl)

end Go.Proofs.YtcgdmehdocaooaaGreatDoor
