/-
  DERIVED. GIVEN WITH THE SEED: THE CARDS: each row of YtopniihomjakoaaDoorRows.lean that lists a variable, with what it lists TIED to the program's text (the seventh form; the later family's looks); each row that meets fmt, with fmt's text TOLD by the authors' own Lean function (tested against real Go, not proved from fmt's source: count such statements apart). THE CARD IS WHAT COUNTS. Prove the row's statement (the work); the ties are given (YtopniihomjakoaaDoorTie.lean); close each card by the builder's one call (the guide's Derived/Test/ToyasCard.lean, 'card_holds'). Laid BY PROGRAM, IN A SANDBOX (cutbox-door.mjs). By AI agents, Wed Nov 11 2026. No macro, syntax, notation, axiom, sorry.
-/
import Derived.Test.YtopniihomjakoaaDoorRows
import GoSem.ClaimSeven
namespace Go.Proofs.YtopniihomjakoaaDoor
namespace Rows

/-- THE TIED CARD OF 'straitlaw05.QuantSteps'. -/
def quantStepsCard : Claim7 := { stood := { row := quantStepsRow, standIns := [], harness := (true, "1de2d356faad96f455684b7a93fea4d9c281bdc052926bff3a14a994c1cefbe9"), looks := true }, kinds := [], alts := [], laidByText := true, laidKinds := [.data], laidTests := true, laidLooks := .later }
def QuantStepsCardSaid : Prop := Claim7.holds Tryd.pinned (.plain (OpenSpec.ofChange quantStepsSpec)) quantStepsCard

/-- THE TIED CARD OF 'straitlaw05.QuantBacks'. -/
def quantBacksCard : Claim7 := { stood := { row := quantBacksRow, standIns := [], harness := (true, "1de2d356faad96f455684b7a93fea4d9c281bdc052926bff3a14a994c1cefbe9"), looks := true }, kinds := [], alts := [], laidByText := true, laidKinds := [.data], laidTests := true, laidLooks := .later }
def QuantBacksCardSaid : Prop := Claim7.holds Tryd.pinned (.plain (OpenSpec.ofChange quantBacksSpec)) quantBacksCard

/-- THE TIED CARD OF 'straitlaw05.QuantWhole'. -/
def quantWholeCard : Claim7 := { stood := { row := quantWholeRow, standIns := [], harness := (true, "1de2d356faad96f455684b7a93fea4d9c281bdc052926bff3a14a994c1cefbe9"), looks := true }, kinds := [], alts := [], laidByText := true, laidKinds := [.data], laidTests := true, laidLooks := .later }
def QuantWholeCardSaid : Prop := Claim7.holds Tryd.pinned (.plain (OpenSpec.ofChange quantWholeSpec)) quantWholeCard

/-- THE SECOND FORM's CARD OF 'straitlaw05.QuantSteps'. -/
def quantStepsUptoCard : Claim7 := { stood := { row := quantStepsUptoRow, standIns := [], harness := (true, "1de2d356faad96f455684b7a93fea4d9c281bdc052926bff3a14a994c1cefbe9"), looks := true }, kinds := [], alts := [], laidByText := true, laidKinds := [.data], laidTests := true, laidLooks := .later }
def QuantStepsUptoCardSaid : Prop := Claim7.holds Tryd.pinned (.plain (OpenSpec.upto quantStepsSpec)) quantStepsUptoCard

/-- THE SECOND FORM's CARD OF 'straitlaw05.QuantBacks'. -/
def quantBacksUptoCard : Claim7 := { stood := { row := quantBacksUptoRow, standIns := [], harness := (true, "1de2d356faad96f455684b7a93fea4d9c281bdc052926bff3a14a994c1cefbe9"), looks := true }, kinds := [], alts := [], laidByText := true, laidKinds := [.data], laidTests := true, laidLooks := .later }
def QuantBacksUptoCardSaid : Prop := Claim7.holds Tryd.pinned (.plain (OpenSpec.upto quantBacksSpec)) quantBacksUptoCard

/-- THE SECOND FORM's CARD OF 'straitlaw05.QuantWhole'. -/
def quantWholeUptoCard : Claim7 := { stood := { row := quantWholeUptoRow, standIns := [], harness := (true, "1de2d356faad96f455684b7a93fea4d9c281bdc052926bff3a14a994c1cefbe9"), looks := true }, kinds := [], alts := [], laidByText := true, laidKinds := [.data], laidTests := true, laidLooks := .later }
def QuantWholeUptoCardSaid : Prop := Claim7.holds Tryd.pinned (.plain (OpenSpec.upto quantWholeSpec)) quantWholeUptoCard
end Rows
end Go.Proofs.YtopniihomjakoaaDoor
