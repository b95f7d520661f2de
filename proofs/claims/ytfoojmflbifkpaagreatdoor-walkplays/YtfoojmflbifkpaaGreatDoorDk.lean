/- Texts of one proof, one behind the other. -/
import Derived.Test.YtfoojmflbifkpaaGreatDoorDj
import Derived.Test.YtfoojmflbifkpaaGreatDoorTie
import Derived.Test.YtfoojmflbifkpaaGreatDoorCards
import Derived.SevenTiedAt

/- WalkPlays returns true at every input: its card, the row with its listed variables tied to the program's text by the given tie. -/
namespace Go.Proofs.YtfoojmflbifkpaaGreatDoor
open Go
theorem walkPlays_holds : Rows.WalkPlaysCardSaid :=
  Claim7.holds_tied_plain_at .later [] [.data, .data, .data, .handle] true (true, "0cc0844c0d993903e23f946e87f635b6fbda83a799bc34668af1c9753f3b88be") true
    walkPlays_row_holds (fun _ h => by cases h) (by kernel_rfl) (fun _ h => by cases h) walkPlays_row_tie rfl ⟨rfl, rfl⟩ (by kernel_rfl) rfl
    (fun f fn hf hfn => by
      obtain rfl : f = 4 := Option.some.inj ((show Tryz.prog.funcNamed "palimpsest/palimpsestlaw.WalkPlays" = some 4 by kernel_rfl).symm.trans hf) |>.symm
      obtain rfl : fn = Tryz.f4 := (Option.some.inj (Tryz.func4.symm.trans hfn)).symm
      exact ⟨by kernel_rfl, fun j t ht => by
        rw [Tryz.params4] at ht
        have h3 : t = 28 ∨ t = 3 ∨ t = 9 := by
          rcases j with _ | _ | _ | _ | _ | _ | _ | j
          · exact Or.inl (by simpa using ht.symm)
          · exact Or.inr (Or.inl (by simpa using ht.symm))
          · exact Or.inr (Or.inl (by simpa using ht.symm))
          · exact Or.inr (Or.inl (by simpa using ht.symm))
          · exact Or.inr (Or.inl (by simpa using ht.symm))
          · exact Or.inr (Or.inl (by simpa using ht.symm))
          · exact Or.inr (Or.inr (by simpa using ht.symm))
          · simp at ht
        rcases h3 with rfl | rfl | rfl
        · exact (show Tryz.prog.wantsStandIn 28 = false by kernel_rfl)
        · exact (show Tryz.prog.wantsStandIn 3 = false by kernel_rfl)
        · exact (show Tryz.prog.wantsStandIn 9 = false by kernel_rfl)⟩)
    (by kernel_rfl)
end Go.Proofs.YtfoojmflbifkpaaGreatDoor
