/-
  DERIVED. GIVEN WITH THE SEED: THE CARDS: each row of YtgegjhemgpkmcabGreatDoorRows.lean that lists a variable, with what it lists TIED to the program's text (the seventh form; the later family's looks); each row that meets fmt, with fmt's text TOLD by the authors' own Lean function (tested against real Go, not proved from fmt's source: count such statements apart). THE CARD IS WHAT COUNTS. Prove the row's statement (the work); the ties are given (YtgegjhemgpkmcabGreatDoorTie.lean); close each card by the builder's one call (the guide's Derived/Test/ToyasCard.lean, 'card_holds'). Laid BY PROGRAM, IN A SANDBOX (cutbox-door.mjs). By AI agents, Wed Nov 11 2026. No macro, syntax, notation, axiom, sorry.
-/
import Derived.Test.YtgegjhemgpkmcabGreatDoorRows
import GoSem.ClaimSeven
namespace Go.Proofs.YtgegjhemgpkmcabGreatDoor
namespace Rows

/-- THE TIED CARD OF 'palimpsestkeep.WalkWays'. -/
def walkWaysCard : Claim7 := { stood := { row := walkWaysRow, standIns := [], harness := (true, "027f5b30dff3b8d245cfb602e1460a632e9ad4ac6a9b4c3db0d2046766025127"), looks := true }, kinds := [], alts := [], laidByText := true, laidKinds := [.data, .data, .data, .handle], laidTests := true, laidLooks := .later }
def WalkWaysCardSaid : Prop := Claim7.holds Tryz.pinned (.plain (OpenSpec.ofChange walkWaysSpec)) walkWaysCard

/-- THE TIED CARD OF 'palimpsestlaw.BasePlays'. -/
def basePlaysCard : Claim7 := { stood := { row := basePlaysRow, standIns := [], harness := (true, "027f5b30dff3b8d245cfb602e1460a632e9ad4ac6a9b4c3db0d2046766025127"), looks := true }, kinds := [], alts := [], laidByText := true, laidKinds := [.data, .data, .data, .data, .handle, .sentinel, .sentinel, .pinned], laidTests := true, laidLooks := .later }
def BasePlaysCardSaid : Prop := Claim7.holds Tryz.pinned (.plain (OpenSpec.ofChange basePlaysSpec)) basePlaysCard

/-- THE TIED CARD OF 'palimpsestkeep.BaseCrashes'. -/
def baseCrashesCard : Claim7 := { stood := { row := baseCrashesRow, standIns := [], harness := (true, "027f5b30dff3b8d245cfb602e1460a632e9ad4ac6a9b4c3db0d2046766025127"), looks := true }, kinds := [], alts := [], laidByText := true, laidKinds := [.data, .data, .data, .data, .handle, .sentinel, .sentinel, .pinned], laidTests := true, laidLooks := .later }
def BaseCrashesCardSaid : Prop := Claim7.holds Tryz.pinned (.plain (OpenSpec.ofChange baseCrashesSpec)) baseCrashesCard

/-- THE SECOND FORM's CARD OF 'palimpsestkeep.WalkWays'. -/
def walkWaysUptoCard : Claim7 := { stood := { row := walkWaysUptoRow, standIns := [], harness := (true, "027f5b30dff3b8d245cfb602e1460a632e9ad4ac6a9b4c3db0d2046766025127"), looks := true }, kinds := [], alts := [], laidByText := true, laidKinds := [.data, .data, .data, .handle], laidTests := true, laidLooks := .later }
def WalkWaysUptoCardSaid : Prop := Claim7.holds Tryz.pinned (.plain (OpenSpec.upto walkWaysSpec)) walkWaysUptoCard

/-- THE SECOND FORM's CARD OF 'palimpsestlaw.BasePlays'. -/
def basePlaysUptoCard : Claim7 := { stood := { row := basePlaysUptoRow, standIns := [], harness := (true, "027f5b30dff3b8d245cfb602e1460a632e9ad4ac6a9b4c3db0d2046766025127"), looks := true }, kinds := [], alts := [], laidByText := true, laidKinds := [.data, .data, .data, .data, .handle, .sentinel, .sentinel, .pinned], laidTests := true, laidLooks := .later }
def BasePlaysUptoCardSaid : Prop := Claim7.holds Tryz.pinned (.plain (OpenSpec.upto basePlaysSpec)) basePlaysUptoCard

/-- THE SECOND FORM's CARD OF 'palimpsestkeep.BaseCrashes'. -/
def baseCrashesUptoCard : Claim7 := { stood := { row := baseCrashesUptoRow, standIns := [], harness := (true, "027f5b30dff3b8d245cfb602e1460a632e9ad4ac6a9b4c3db0d2046766025127"), looks := true }, kinds := [], alts := [], laidByText := true, laidKinds := [.data, .data, .data, .data, .handle, .sentinel, .sentinel, .pinned], laidTests := true, laidLooks := .later }
def BaseCrashesUptoCardSaid : Prop := Claim7.holds Tryz.pinned (.plain (OpenSpec.upto baseCrashesSpec)) baseCrashesUptoCard
end Rows
end Go.Proofs.YtgegjhemgpkmcabGreatDoor
