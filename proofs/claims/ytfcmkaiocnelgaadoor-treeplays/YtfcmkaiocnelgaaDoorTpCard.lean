/- TreePlays returns true at every input: its card, the row with its listed variable tied to the program's text by the given tie. -/
import Derived.Test.YtfcmkaiocnelgaaDoorTpProof
import Derived.Test.YtfcmkaiocnelgaaDoorTie
import Derived.Test.YtfcmkaiocnelgaaDoorCards
import Derived.SevenTiedAt
namespace Go.Proofs.YtfcmkaiocnelgaaDoor
open Go

theorem treePlays_holds : Rows.TreePlaysCardSaid :=
  Claim7.holds_tied_plain_at .later [] [.handle] true (true, "1a809213fdb09a4faf20337a1232a3f004cb94dd4a6c5b617587bcf4c5d970a1") true
    treePlays_row_holds (fun _ h => by cases h) (by kernel_rfl) (fun _ h => by cases h) treePlays_row_tie rfl ⟨rfl, rfl⟩ (by kernel_rfl) rfl
    (fun f fn hf hfn => by
      obtain rfl : f = 6 := Option.some.inj ((show Tryd.prog.funcNamed "palimpsest/palimpsestlaw.TreePlays" = some 6 by kernel_rfl).symm.trans hf) |>.symm
      obtain rfl : fn = Tryd.f6 := (Option.some.inj (Tryd.func6.symm.trans hfn)).symm
      exact ⟨by kernel_rfl, fun j t ht => by
        rw [Tryd.params6] at ht
        have h3 : t = 68 ∨ t = 3 := by
          rcases j with _ | _ | j
          · exact Or.inl (by simpa using ht.symm)
          · exact Or.inr (by simpa using ht.symm)
          · simp at ht
        rcases h3 with rfl | rfl
        · exact (show Tryd.prog.wantsStandIn 68 = false by kernel_rfl)
        · exact (show Tryd.prog.wantsStandIn 3 = false by kernel_rfl)⟩)
    (by kernel_rfl)

end Go.Proofs.YtfcmkaiocnelgaaDoor
