/- Texts of one proof, one behind the other. -/
import Derived.Test.YtbloahcmakjchabGreatDoorCb
import Derived.Test.YtbloahcmakjchabGreatDoorTie
import Derived.Test.YtbloahcmakjchabGreatDoorCards
import Derived.SevenTiedAt

/- WalkWays returns true at every input: its card, the row with its listed variables tied to the program's text by the given tie. -/
namespace Go.Proofs.YtbloahcmakjchabGreatDoor
open Go

/-- The card's own fact: a row of the sixth form that starts goroutines, its variables tied. -/
theorem walkWays_sixth : Claim7.isSixth { stood := { row := Rows.walkWaysRow, standIns := [], harness := (true, "041886fbb67699228675337d1882327cbdb7c813bd1270a19c5fc035fb09f3a2"), looks := true }, kinds := [] } = false := by simp [Claim7.isSixth]

theorem walkWays_new : Claim7.holdsNew Tryz.pinned (.plain (OpenSpec.ofChange Rows.walkWaysSpec)) { stood := { row := Rows.walkWaysRow, standIns := [], harness := (true, "041886fbb67699228675337d1882327cbdb7c813bd1270a19c5fc035fb09f3a2"), looks := true }, kinds := [] } :=
  Claim7.new_of_sixth walkWays_row_holds (true, "041886fbb67699228675337d1882327cbdb7c813bd1270a19c5fc035fb09f3a2") true rfl ⟨rfl, rfl⟩ (by kernel_rfl) walkWays_sixth
    (fun f fn hf hfn => by
      obtain rfl : f = 3 := Option.some.inj ((show Tryz.prog.funcNamed "palimpsest/palimpsestkeep.WalkWays" = some 3 by kernel_rfl).symm.trans hf) |>.symm
      obtain rfl : fn = Tryz.f3 := (Option.some.inj (Tryz.func3.symm.trans hfn)).symm
      exact ⟨by kernel_rfl, fun j t ht => by
        rw [Tryz.params3] at ht
        have h3 : t = 22 ∨ t = 3 ∨ t = 4 := by
          rcases j with _ | _ | _ | _ | j
          · exact Or.inl (by simpa using ht.symm)
          · exact Or.inr (Or.inl (by simpa using ht.symm))
          · exact Or.inr (Or.inl (by simpa using ht.symm))
          · exact Or.inr (Or.inr (by simpa using ht.symm))
          · simp at ht
        rcases h3 with rfl | rfl | rfl
        · exact (show Tryz.prog.wantsStandIn 22 = false by kernel_rfl)
        · exact (show Tryz.prog.wantsStandIn 3 = false by kernel_rfl)
        · exact (show Tryz.prog.wantsStandIn 4 = false by kernel_rfl)⟩)

theorem walkWays_holds : Rows.WalkWaysCardSaid := by
  unfold Rows.WalkWaysCardSaid Rows.walkWaysCard
  exact ⟨Claim7.tied_new_at .later [.data, .data, .data, .handle] true walkWays_new (by kernel_rfl), (fun _ hD => by cases hD), walkWays_row_tie, (fun h => by cases h), (by kernel_rfl)⟩

end Go.Proofs.YtbloahcmakjchabGreatDoor
