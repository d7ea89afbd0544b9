/-
  DERIVED. GIVEN WITH THE SEED: THE CARDS: each row of YtceejjgmepaonaaDoorRows.lean that lists a variable, with what it lists TIED to the program's text (the seventh form; the later family's looks); each row that meets fmt, with fmt's text TOLD by the authors' own Lean function (tested against real Go, not proved from fmt's source: count such statements apart). THE CARD IS WHAT COUNTS. Prove the row's statement (the work); the ties are given (YtceejjgmepaonaaDoorTie.lean); close each card by the builder's one call (the guide's Derived/Test/ToyasCard.lean, 'card_holds'). Laid BY PROGRAM, IN A SANDBOX (cutbox-door.mjs). By AI agents, Wed Nov 11 2026. No macro, syntax, notation, axiom, sorry.
-/
import Derived.Test.YtceejjgmepaonaaDoorRows
import GoSem.ClaimSeven
namespace Go.Proofs.YtceejjgmepaonaaDoor
namespace Rows

/-- THE TIED CARD OF 'straitlaw22.BrutePairs'. -/
def brutePairsCard : Claim7 := { stood := { row := brutePairsRow, standIns := [], harness := (true, "73d912ed3009aaa81c9441a4223208453bf6ec68952b43cd4a0fcacc2b96f867"), looks := false }, kinds := [], alts := [], laidByText := true, laidKinds := [.data], laidTests := true, laidLooks := .later }
def BrutePairsCardSaid : Prop := Claim7.holds Tryd.pinned (.plain (OpenSpec.ofChange brutePairsSpec)) brutePairsCard

/-- THE TIED CARD OF 'straitlaw22.BruteShare'. -/
def bruteShareCard : Claim7 := { stood := { row := bruteShareRow, standIns := [], harness := (true, "73d912ed3009aaa81c9441a4223208453bf6ec68952b43cd4a0fcacc2b96f867"), looks := false }, kinds := [], alts := [], laidByText := true, laidKinds := [.data], laidTests := true, laidLooks := .later }
def BruteShareCardSaid : Prop := Claim7.holds Tryd.pinned (.plain (OpenSpec.ofChange bruteShareSpec)) bruteShareCard

/-- THE SECOND FORM's CARD OF 'straitlaw22.BrutePairs'. -/
def brutePairsUptoCard : Claim7 := { stood := { row := brutePairsUptoRow, standIns := [], harness := (true, "73d912ed3009aaa81c9441a4223208453bf6ec68952b43cd4a0fcacc2b96f867"), looks := false }, kinds := [], alts := [], laidByText := true, laidKinds := [.data], laidTests := true, laidLooks := .later }
def BrutePairsUptoCardSaid : Prop := Claim7.holds Tryd.pinned (.plain (OpenSpec.upto brutePairsSpec)) brutePairsUptoCard

/-- THE SECOND FORM's CARD OF 'straitlaw22.BruteShare'. -/
def bruteShareUptoCard : Claim7 := { stood := { row := bruteShareUptoRow, standIns := [], harness := (true, "73d912ed3009aaa81c9441a4223208453bf6ec68952b43cd4a0fcacc2b96f867"), looks := false }, kinds := [], alts := [], laidByText := true, laidKinds := [.data], laidTests := true, laidLooks := .later }
def BruteShareUptoCardSaid : Prop := Claim7.holds Tryd.pinned (.plain (OpenSpec.upto bruteShareSpec)) bruteShareUptoCard
end Rows
end Go.Proofs.YtceejjgmepaonaaDoor
