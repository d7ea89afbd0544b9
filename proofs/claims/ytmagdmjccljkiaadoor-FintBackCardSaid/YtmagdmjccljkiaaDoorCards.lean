/-
  DERIVED. GIVEN WITH THE SEED: THE CARDS: each row of YtmagdmjccljkiaaDoorRows.lean that lists a variable, with what it lists TIED to the program's text (the seventh form; the later family's looks); each row that meets fmt, with fmt's text TOLD by the authors' own Lean function (tested against real Go, not proved from fmt's source: count such statements apart). THE CARD IS WHAT COUNTS. Prove the row's statement (the work); the ties are given (YtmagdmjccljkiaaDoorTie.lean); close each card by the builder's one call (the guide's Derived/Test/ToyasCard.lean, 'card_holds'). Laid BY PROGRAM, IN A SANDBOX (cutbox-door.mjs). By AI agents, Wed Nov 11 2026. No macro, syntax, notation, axiom, sorry.
-/
import Derived.Test.YtmagdmjccljkiaaDoorRows
import GoSem.ClaimSeven
namespace Go.Proofs.YtmagdmjccljkiaaDoor
namespace Rows

/-- THE TIED CARD OF 'straitlaw04.FintTells'. -/
def fintTellsCard : Claim7 := { stood := { row := fintTellsRow, standIns := [], harness := (true, "ffc749c583cff480758783f9844c79a928f6ce201a4b86c4c4616983eda3ccc7"), looks := false }, kinds := [], alts := [], laidByText := true, laidKinds := [.data], laidTests := true, laidLooks := .later }
def FintTellsCardSaid : Prop := Claim7.holds Tryd.pinned (.plain (OpenSpec.ofChange fintTellsSpec)) fintTellsCard

/-- THE TIED CARD OF 'straitlaw04.FintWeights'. -/
def fintWeightsCard : Claim7 := { stood := { row := fintWeightsRow, standIns := [], harness := (true, "ffc749c583cff480758783f9844c79a928f6ce201a4b86c4c4616983eda3ccc7"), looks := false }, kinds := [], alts := [], laidByText := true, laidKinds := [.data], laidTests := true, laidLooks := .later }
def FintWeightsCardSaid : Prop := Claim7.holds Tryd.pinned (.plain (OpenSpec.ofChange fintWeightsSpec)) fintWeightsCard

/-- THE TIED CARD OF 'straitlaw04.FintBack'. -/
def fintBackCard : Claim7 := { stood := { row := fintBackRow, standIns := [], harness := (true, "ffc749c583cff480758783f9844c79a928f6ce201a4b86c4c4616983eda3ccc7"), looks := false }, kinds := [], alts := [], laidByText := true, laidKinds := [.data], laidTests := true, laidLooks := .later }
def FintBackCardSaid : Prop := Claim7.holds Tryd.pinned (.plain (OpenSpec.ofChange fintBackSpec)) fintBackCard

/-- THE SECOND FORM's CARD OF 'straitlaw04.FintTells'. -/
def fintTellsUptoCard : Claim7 := { stood := { row := fintTellsUptoRow, standIns := [], harness := (true, "ffc749c583cff480758783f9844c79a928f6ce201a4b86c4c4616983eda3ccc7"), looks := false }, kinds := [], alts := [], laidByText := true, laidKinds := [.data], laidTests := true, laidLooks := .later }
def FintTellsUptoCardSaid : Prop := Claim7.holds Tryd.pinned (.plain (OpenSpec.upto fintTellsSpec)) fintTellsUptoCard

/-- THE SECOND FORM's CARD OF 'straitlaw04.FintWeights'. -/
def fintWeightsUptoCard : Claim7 := { stood := { row := fintWeightsUptoRow, standIns := [], harness := (true, "ffc749c583cff480758783f9844c79a928f6ce201a4b86c4c4616983eda3ccc7"), looks := false }, kinds := [], alts := [], laidByText := true, laidKinds := [.data], laidTests := true, laidLooks := .later }
def FintWeightsUptoCardSaid : Prop := Claim7.holds Tryd.pinned (.plain (OpenSpec.upto fintWeightsSpec)) fintWeightsUptoCard

/-- THE SECOND FORM's CARD OF 'straitlaw04.FintBack'. -/
def fintBackUptoCard : Claim7 := { stood := { row := fintBackUptoRow, standIns := [], harness := (true, "ffc749c583cff480758783f9844c79a928f6ce201a4b86c4c4616983eda3ccc7"), looks := false }, kinds := [], alts := [], laidByText := true, laidKinds := [.data], laidTests := true, laidLooks := .later }
def FintBackUptoCardSaid : Prop := Claim7.holds Tryd.pinned (.plain (OpenSpec.upto fintBackSpec)) fintBackUptoCard
end Rows
end Go.Proofs.YtmagdmjccljkiaaDoor
