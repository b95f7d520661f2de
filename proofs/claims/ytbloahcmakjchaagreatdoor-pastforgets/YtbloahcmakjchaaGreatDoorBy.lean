/- Texts of one proof, one behind the other. -/
import Derived.Test.YtbloahcmakjchaaGreatDoorBx
import Derived.Test.YtbloahcmakjchaaGreatDoorTie
import Derived.Test.YtbloahcmakjchaaGreatDoorCards
import Derived.SevenTiedAt

/- PastForgets returns true at every input: its card, the row with its listed variables tied to the program's text by the given tie. -/
namespace Go.Proofs.YtbloahcmakjchaaGreatDoor
open Go

theorem pastForgets_holds : Rows.PastForgetsCardSaid :=
  Claim7.holds_tied_plain_at .later [] [.data, .data, .data, .handle] true (true, "fe822525f6cfb7a913b648714450296355dd5fafbe6b4aa2b16ab16a0b8a4cfa") true
    pastForgets_row_holds (fun _ h => by cases h) (by kernel_rfl) (fun _ h => by cases h) pastForgets_row_tie rfl ⟨rfl, rfl⟩ (by kernel_rfl) rfl
    (fun f fn hf hfn => by
      obtain rfl : f = 6 := Option.some.inj ((show Tryz.prog.funcNamed "palimpsest/palimpsestkeep.PastForgets" = some 6 by kernel_rfl).symm.trans hf) |>.symm
      obtain rfl : fn = Tryz.f6 := (Option.some.inj (Tryz.func6.symm.trans hfn)).symm
      exact ⟨by kernel_rfl, fun j t ht => by
        rw [Tryz.params6] at ht
        have h3 : t = 64 ∨ t = 86 ∨ t = 3 := by
          rcases j with _ | _ | _ | j
          · exact Or.inl (by simpa using ht.symm)
          · exact Or.inr (Or.inl (by simpa using ht.symm))
          · exact Or.inr (Or.inr (by simpa using ht.symm))
          · simp at ht
        rcases h3 with rfl | rfl | rfl
        · exact (show Tryz.prog.wantsStandIn 64 = false by kernel_rfl)
        · exact (show Tryz.prog.wantsStandIn 86 = false by kernel_rfl)
        · exact (show Tryz.prog.wantsStandIn 3 = false by kernel_rfl)⟩)
    (by kernel_rfl)

end Go.Proofs.YtbloahcmakjchaaGreatDoor
