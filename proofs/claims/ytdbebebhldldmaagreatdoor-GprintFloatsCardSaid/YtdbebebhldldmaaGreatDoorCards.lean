/-
  DERIVED. GIVEN WITH THE SEED: THE CARDS: each row of YtdbebebhldldmaaGreatDoorRows.lean that lists a variable, with what it lists TIED to the program's text (the seventh form; the later family's looks); each row that meets fmt, with fmt's text TOLD by the authors' own Lean function (tested against real Go, not proved from fmt's source: count such statements apart). THE CARD IS WHAT COUNTS. Prove the row's statement (the work); the ties are given (YtdbebebhldldmaaGreatDoorTie.lean); close each card by the builder's one call (the guide's Derived/Test/ToyasCard.lean, 'card_holds'). Laid BY PROGRAM, IN A SANDBOX (cutbox-door.mjs). By AI agents, Wed Nov 11 2026. No macro, syntax, notation, axiom, sorry.
-/
import Derived.Test.YtdbebebhldldmaaGreatDoorRows
import GoSem.ClaimSeven
namespace Go.Proofs.YtdbebebhldldmaaGreatDoor
namespace Rows

/-- THE TIED CARD OF 'straitlaw18.GprintTells'. -/
def gprintTellsCard : Claim7 := { stood := { row := gprintTellsRow, standIns := [], harness := (true, "d74dd451406c6b34bf394368636351ce218638c0d7678dd368a0a87e12142207"), looks := true }, kinds := [], alts := [], laidByText := true, laidKinds := [.data, .data, .data], laidTests := true, laidLooks := .later }
def GprintTellsCardSaid : Prop := Claim7.holds Tryz.pinned (.plain (OpenSpec.ofChange gprintTellsSpec)) gprintTellsCard

/-- THE TIED CARD OF 'straitlaw18.GprintFloats'. -/
def gprintFloatsCard : Claim7 := { stood := { row := gprintFloatsRow, standIns := [], harness := (true, "d74dd451406c6b34bf394368636351ce218638c0d7678dd368a0a87e12142207"), looks := true }, kinds := [], alts := [], laidByText := true, laidKinds := [.data, .data, .data], laidTests := true, laidLooks := .later }
def GprintFloatsCardSaid : Prop := Claim7.holds Tryz.pinned (.plain (OpenSpec.ofChange gprintFloatsSpec)) gprintFloatsCard

/-- THE TIED CARD OF 'straitlaw18.GprintBack'. -/
def gprintBackCard : Claim7 := { stood := { row := gprintBackRow, standIns := [], harness := (true, "d74dd451406c6b34bf394368636351ce218638c0d7678dd368a0a87e12142207"), looks := true }, kinds := [], alts := [], laidByText := true, laidKinds := [.data, .data, .data], laidTests := true, laidLooks := .later }
def GprintBackCardSaid : Prop := Claim7.holds Tryz.pinned (.plain (OpenSpec.ofChange gprintBackSpec)) gprintBackCard

/-- THE SECOND FORM's CARD OF 'straitlaw18.GprintTells'. -/
def gprintTellsUptoCard : Claim7 := { stood := { row := gprintTellsUptoRow, standIns := [], harness := (true, "d74dd451406c6b34bf394368636351ce218638c0d7678dd368a0a87e12142207"), looks := true }, kinds := [], alts := [], laidByText := true, laidKinds := [.data, .data, .data], laidTests := true, laidLooks := .later }
def GprintTellsUptoCardSaid : Prop := Claim7.holds Tryz.pinned (.plain (OpenSpec.upto gprintTellsSpec)) gprintTellsUptoCard

/-- THE SECOND FORM's CARD OF 'straitlaw18.GprintFloats'. -/
def gprintFloatsUptoCard : Claim7 := { stood := { row := gprintFloatsUptoRow, standIns := [], harness := (true, "d74dd451406c6b34bf394368636351ce218638c0d7678dd368a0a87e12142207"), looks := true }, kinds := [], alts := [], laidByText := true, laidKinds := [.data, .data, .data], laidTests := true, laidLooks := .later }
def GprintFloatsUptoCardSaid : Prop := Claim7.holds Tryz.pinned (.plain (OpenSpec.upto gprintFloatsSpec)) gprintFloatsUptoCard

/-- THE SECOND FORM's CARD OF 'straitlaw18.GprintBack'. -/
def gprintBackUptoCard : Claim7 := { stood := { row := gprintBackUptoRow, standIns := [], harness := (true, "d74dd451406c6b34bf394368636351ce218638c0d7678dd368a0a87e12142207"), looks := true }, kinds := [], alts := [], laidByText := true, laidKinds := [.data, .data, .data], laidTests := true, laidLooks := .later }
def GprintBackUptoCardSaid : Prop := Claim7.holds Tryz.pinned (.plain (OpenSpec.upto gprintBackSpec)) gprintBackUptoCard
end Rows
end Go.Proofs.YtdbebebhldldmaaGreatDoor
