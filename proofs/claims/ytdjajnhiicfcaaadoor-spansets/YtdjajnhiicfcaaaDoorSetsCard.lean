/- The card of SpanSets: the row, its listed variable tied to the program's text by the given tie. -/
import Derived.Test.YtdjajnhiicfcaaaDoorSetsProof
import Derived.Test.YtdjajnhiicfcaaaDoorTie
import Derived.Test.YtdjajnhiicfcaaaDoorCards
import Derived.SevenTiedAt
namespace Go.Proofs.YtdjajnhiicfcaaaDoor
open Go

theorem spanSets_holds : Rows.SpanSetsCardSaid :=
  Claim7.holds_tied_plain_at .later [] [.handle] true (true, "b02e655f2f8edfd983968d6bfe6eec8a8f045c625cc84fa6e7e593084232627c") true
    spanSets_row_holds (fun _ h => by cases h) (by kernel_rfl) (fun _ h => by cases h) spanSets_row_tie rfl ⟨rfl, rfl⟩ (by kernel_rfl) rfl
    (fun f fn hf hfn => by
      obtain rfl : f = 3 := Option.some.inj ((show Tryd.prog.funcNamed "palimpsest/palimpsestlaw.SpanSets" = some 3 by kernel_rfl).symm.trans hf) |>.symm
      obtain rfl : fn = Tryd.f3 := (Option.some.inj (Tryd.func3.symm.trans hfn)).symm
      exact ⟨by kernel_rfl, fun j t ht => by
        rw [Tryd.params3] at ht
        have h3 : t = 22 ∨ t = 3 := by
          rcases j with _ | _ | _ | j
          · exact Or.inl (by simpa using ht.symm)
          · exact Or.inl (by simpa using ht.symm)
          · exact Or.inr (by simpa using ht.symm)
          · simp at ht
        rcases h3 with rfl | rfl
        · exact (show Tryd.prog.wantsStandIn 22 = false by kernel_rfl)
        · exact (show Tryd.prog.wantsStandIn 3 = false by kernel_rfl)⟩)
    (by kernel_rfl)

end Go.Proofs.YtdjajnhiicfcaaaDoor
