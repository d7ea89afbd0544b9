/-
  DERIVED. GIVEN WITH THE SEED: THE CARDS: each row of YtcjfiigpgjgfmaaDoorRows.lean that lists a variable, with what it lists TIED to the program's text (the seventh form; the later family's looks); each row that meets fmt, with fmt's text TOLD by the authors' own Lean function (tested against real Go, not proved from fmt's source: count such statements apart). THE CARD IS WHAT COUNTS. Prove the row's statement (the work); the ties are given (YtcjfiigpgjgfmaaDoorTie.lean); close each card by the builder's one call (the guide's Derived/Test/ToyasCard.lean, 'card_holds'). Laid BY PROGRAM, IN A SANDBOX (cutbox-door.mjs). By AI agents, Wed Nov 11 2026. No macro, syntax, notation, axiom, sorry.
-/
import Derived.Test.YtcjfiigpgjgfmaaDoorRows
import GoSem.ClaimSeven
namespace Go.Proofs.YtcjfiigpgjgfmaaDoor
namespace Rows

/-- THE TIED CARD OF 'straitlaw02.FbitTells'. -/
def fbitTellsCard : Claim7 := { stood := { row := fbitTellsRow, standIns := [], harness := (true, "f67bc1c6aaf10989e8216b4c55bb17c1ae56408702efe220a4ee5068039f789f"), looks := false }, kinds := [], alts := [], laidByText := true, laidKinds := [.data], laidTests := true, laidLooks := .later }
def FbitTellsCardSaid : Prop := Claim7.holds Tryd.pinned (.plain (OpenSpec.ofChange fbitTellsSpec)) fbitTellsCard

/-- THE TIED CARD OF 'straitlaw02.FbitMakes'. -/
def fbitMakesCard : Claim7 := { stood := { row := fbitMakesRow, standIns := [], harness := (true, "f67bc1c6aaf10989e8216b4c55bb17c1ae56408702efe220a4ee5068039f789f"), looks := false }, kinds := [], alts := [], laidByText := true, laidKinds := [.data], laidTests := true, laidLooks := .later }
def FbitMakesCardSaid : Prop := Claim7.holds Tryd.pinned (.plain (OpenSpec.ofChange fbitMakesSpec)) fbitMakesCard

/-- THE TIED CARD OF 'straitlaw02.FbitBack'. -/
def fbitBackCard : Claim7 := { stood := { row := fbitBackRow, standIns := [], harness := (true, "f67bc1c6aaf10989e8216b4c55bb17c1ae56408702efe220a4ee5068039f789f"), looks := false }, kinds := [], alts := [], laidByText := true, laidKinds := [.data], laidTests := true, laidLooks := .later }
def FbitBackCardSaid : Prop := Claim7.holds Tryd.pinned (.plain (OpenSpec.ofChange fbitBackSpec)) fbitBackCard

/-- THE SECOND FORM's CARD OF 'straitlaw02.FbitTells'. -/
def fbitTellsUptoCard : Claim7 := { stood := { row := fbitTellsUptoRow, standIns := [], harness := (true, "f67bc1c6aaf10989e8216b4c55bb17c1ae56408702efe220a4ee5068039f789f"), looks := false }, kinds := [], alts := [], laidByText := true, laidKinds := [.data], laidTests := true, laidLooks := .later }
def FbitTellsUptoCardSaid : Prop := Claim7.holds Tryd.pinned (.plain (OpenSpec.upto fbitTellsSpec)) fbitTellsUptoCard

/-- THE SECOND FORM's CARD OF 'straitlaw02.FbitMakes'. -/
def fbitMakesUptoCard : Claim7 := { stood := { row := fbitMakesUptoRow, standIns := [], harness := (true, "f67bc1c6aaf10989e8216b4c55bb17c1ae56408702efe220a4ee5068039f789f"), looks := false }, kinds := [], alts := [], laidByText := true, laidKinds := [.data], laidTests := true, laidLooks := .later }
def FbitMakesUptoCardSaid : Prop := Claim7.holds Tryd.pinned (.plain (OpenSpec.upto fbitMakesSpec)) fbitMakesUptoCard

/-- THE SECOND FORM's CARD OF 'straitlaw02.FbitBack'. -/
def fbitBackUptoCard : Claim7 := { stood := { row := fbitBackUptoRow, standIns := [], harness := (true, "f67bc1c6aaf10989e8216b4c55bb17c1ae56408702efe220a4ee5068039f789f"), looks := false }, kinds := [], alts := [], laidByText := true, laidKinds := [.data], laidTests := true, laidLooks := .later }
def FbitBackUptoCardSaid : Prop := Claim7.holds Tryd.pinned (.plain (OpenSpec.upto fbitBackSpec)) fbitBackUptoCard
end Rows
end Go.Proofs.YtcjfiigpgjgfmaaDoor
