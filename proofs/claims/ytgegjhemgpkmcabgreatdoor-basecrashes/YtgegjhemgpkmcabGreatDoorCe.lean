/- BaseCrashes returns true at every input (any changes by numbers, any cuts of the power, any torn writes, any key by number), and leaves its arguments as they were: no condition of ours; the listed variables are tied to the program text by the given tie. -/
import Derived.Test.YtgegjhemgpkmcabGreatDoorCd
import Derived.Test.YtgegjhemgpkmcabGreatDoorTie
import Derived.Test.YtgegjhemgpkmcabGreatDoorCards
import Derived.SevenTiedAt

/- BaseCrashes returns true at every input: its card, the row with its listed variables tied to the program's text by the given tie. -/
namespace Go.Proofs.YtgegjhemgpkmcabGreatDoor
open Go

theorem baseCrashes_holds : Rows.BaseCrashesCardSaid :=
  Claim7.holds_tied_plain_at .later [] [.data, .data, .data, .data, .handle, .sentinel, .sentinel, .pinned] true (true, "027f5b30dff3b8d245cfb602e1460a632e9ad4ac6a9b4c3db0d2046766025127") true
    baseCrashes_row_holds (fun _ h => by cases h) (by kernel_rfl) (fun _ h => by cases h) baseCrashes_row_tie rfl ⟨rfl, rfl⟩ (by kernel_rfl) rfl
    (fun f fn hf hfn => by
      obtain rfl : f = 5 := Option.some.inj ((show Tryz.prog.funcNamed "palimpsest/palimpsestkeep.BaseCrashes" = some 5 by kernel_rfl).symm.trans hf) |>.symm
      obtain rfl : fn = Tryz.f5 := (Option.some.inj (Tryz.func5.symm.trans hfn)).symm
      exact ⟨by kernel_rfl, fun j t ht => by
        rw [Tryz.params5] at ht
        have h3 : t = 22 ∨ t = 45 ∨ t = 3 := by
          rcases j with _ | _ | _ | _ | j
          · exact Or.inl (by simpa using ht.symm)
          · exact Or.inr (Or.inl (by simpa using ht.symm))
          · exact Or.inr (Or.inl (by simpa using ht.symm))
          · exact Or.inr (Or.inr (by simpa using ht.symm))
          · simp at ht
        rcases h3 with rfl | rfl | rfl
        · exact (show Tryz.prog.wantsStandIn 22 = false by kernel_rfl)
        · exact (show Tryz.prog.wantsStandIn 45 = false by kernel_rfl)
        · exact (show Tryz.prog.wantsStandIn 3 = false by kernel_rfl)⟩)
    (by kernel_rfl)

end Go.Proofs.YtgegjhemgpkmcabGreatDoor
