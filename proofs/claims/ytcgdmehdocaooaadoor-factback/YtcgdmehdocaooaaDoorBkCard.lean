/- FactBack returns true at every input: its card, the row with its listed variables tied to the program's text by the given tie. -/
import Derived.Test.YtcgdmehdocaooaaDoorBkProof
import Derived.Test.YtcgdmehdocaooaaDoorTie
import Derived.Test.YtcgdmehdocaooaaDoorCards
import Derived.SevenTiedAt
namespace Go.Proofs.YtcgdmehdocaooaaDoor
open Go

theorem factBack_holds : Rows.FactBackCardSaid :=
  Claim7.holds_tied_plain_at .later [] [.data, .data, .data, .data, .sentinel, .sentinel, .pinned] true (true, "d958b4f2e1fb1da94bb48e63a14e6c5c9c928f5dc1973937a0e867c749c78f0d") true
    factBack_row_holds (fun _ h => by cases h) (by kernel_rfl) (fun _ h => by cases h) factBack_row_tie rfl ⟨rfl, rfl⟩ (by kernel_rfl) rfl
    (fun f fn hf hfn => by
      obtain rfl : f = 5 := Option.some.inj ((show Tryd.prog.funcNamed "palimpsest/palimpsestkeep.FactBack" = some 5 by kernel_rfl).symm.trans hf) |>.symm
      obtain rfl : fn = Tryd.f5 := (Option.some.inj (Tryd.func5.symm.trans hfn)).symm
      exact ⟨by kernel_rfl, fun j t ht => by
        rw [Tryd.params5] at ht
        have h3 : t = 47 ∨ t = 9 ∨ t = 49 := by
          rcases j with _ | _ | _ | _ | _ | j
          · exact Or.inl (by simpa using ht.symm)
          · exact Or.inr (Or.inl (by simpa using ht.symm))
          · exact Or.inr (Or.inr (by simpa using ht.symm))
          · exact Or.inr (Or.inr (by simpa using ht.symm))
          · exact Or.inr (Or.inr (by simpa using ht.symm))
          · simp at ht
        rcases h3 with rfl | rfl | rfl
        · exact (show Tryd.prog.wantsStandIn 47 = false by kernel_rfl)
        · exact (show Tryd.prog.wantsStandIn 9 = false by kernel_rfl)
        · exact (show Tryd.prog.wantsStandIn 49 = false by kernel_rfl)⟩)
    (by kernel_rfl)

end Go.Proofs.YtcgdmehdocaooaaDoor
