/- Texts of one proof, one behind the other. -/
import Derived.Test.YtbloahcmakjchabGreatDoorDh
import Derived.Test.YtbloahcmakjchabGreatDoorTie
import Derived.Test.YtbloahcmakjchabGreatDoorCards
import Derived.SevenTiedAt

/- BaseCrashes returns true at every input: its card, the row with its listed variables tied to the program's text by the given tie. -/
namespace Go.Proofs.YtbloahcmakjchabGreatDoor
open Go

/-- The card's own fact: a row of the sixth form that starts goroutines, its variables tied. -/
theorem baseCrashes_sixth : Claim7.isSixth { stood := { row := Rows.baseCrashesRow, standIns := [], harness := (true, "041886fbb67699228675337d1882327cbdb7c813bd1270a19c5fc035fb09f3a2"), looks := true }, kinds := [] } = false := by simp [Claim7.isSixth]

theorem baseCrashes_new : Claim7.holdsNew Tryz.pinned (.plain (OpenSpec.ofChange Rows.baseCrashesSpec)) { stood := { row := Rows.baseCrashesRow, standIns := [], harness := (true, "041886fbb67699228675337d1882327cbdb7c813bd1270a19c5fc035fb09f3a2"), looks := true }, kinds := [] } :=
  Claim7.new_of_sixth baseCrashes_row_holds (true, "041886fbb67699228675337d1882327cbdb7c813bd1270a19c5fc035fb09f3a2") true rfl ⟨rfl, rfl⟩ (by kernel_rfl) baseCrashes_sixth
    (fun f fn hf hfn => by
      obtain rfl : f = 5 := Option.some.inj ((show Tryz.prog.funcNamed "palimpsest/palimpsestkeep.BaseCrashes" = some 5 by kernel_rfl).symm.trans hf) |>.symm
      obtain rfl : fn = Tryz.f5 := (Option.some.inj (Tryz.func5.symm.trans hfn)).symm
      exact ⟨by kernel_rfl, fun j t ht => by
        rw [Tryz.params5] at ht
        have h3 : t = 22 ∨ t = 45 ∨ t = 3 := by
          rcases j with _ | _ | _ | _ | j
          · exact Or.inl (by simpa using ht.symm)
          · exact Or.inr (Or.inl (by simpa using ht.symm))
          · exact Or.inr (Or.inl (by simpa using ht.symm))
          · exact Or.inr (Or.inr (by simpa using ht.symm))
          · simp at ht
        rcases h3 with rfl | rfl | rfl
        · exact (show Tryz.prog.wantsStandIn 22 = false by kernel_rfl)
        · exact (show Tryz.prog.wantsStandIn 45 = false by kernel_rfl)
        · exact (show Tryz.prog.wantsStandIn 3 = false by kernel_rfl)⟩)

theorem baseCrashes_holds : Rows.BaseCrashesCardSaid := by
  unfold Rows.BaseCrashesCardSaid Rows.baseCrashesCard
  exact ⟨Claim7.tied_new_at .later [.data, .data, .data, .data, .handle, .sentinel, .sentinel, .pinned] true baseCrashes_new (by kernel_rfl), (fun _ hD => by cases hD), baseCrashes_row_tie, (fun h => by cases h), (by kernel_rfl)⟩

end Go.Proofs.YtbloahcmakjchabGreatDoor
