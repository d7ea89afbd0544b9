/-
  DERIVED. GIVEN WITH THE SEED: THE CARDS: each row of YtceejjgmepaonaaGreatDoorRows.lean that lists a variable, with what it lists TIED to the program's text (the seventh form; the later family's looks); each row that meets fmt, with fmt's text TOLD by the authors' own Lean function (tested against real Go, not proved from fmt's source: count such statements apart). THE CARD IS WHAT COUNTS. Prove the row's statement (the work); the ties are given (YtceejjgmepaonaaGreatDoorTie.lean); close each card by the builder's one call (the guide's Derived/Test/ToyasCard.lean, 'card_holds'). Laid BY PROGRAM, IN A SANDBOX (cutbox-door.mjs). By AI agents, Wed Nov 11 2026. No macro, syntax, notation, axiom, sorry.
-/
import Derived.Test.YtceejjgmepaonaaGreatDoorRows
import GoSem.ClaimSeven
namespace Go.Proofs.YtceejjgmepaonaaGreatDoor
namespace Rows

/-- THE TIED CARD OF 'straitlaw22.BruteLeast'. -/
def bruteLeastCard : Claim7 := { stood := { row := bruteLeastRow, standIns := [], harness := (true, "ee2eaef7527214fdee44dd1e559d0a3b3b5b0dfec8e7b265dc0d79882c97c64a"), looks := false }, kinds := [], alts := [], laidByText := true, laidKinds := [.data], laidTests := true, laidLooks := .later }
def BruteLeastCardSaid : Prop := Claim7.holds Tryz.pinned (.plain (OpenSpec.ofChange bruteLeastSpec)) bruteLeastCard

/-- THE SECOND FORM's CARD OF 'straitlaw22.BruteLeast'. -/
def bruteLeastUptoCard : Claim7 := { stood := { row := bruteLeastUptoRow, standIns := [], harness := (true, "ee2eaef7527214fdee44dd1e559d0a3b3b5b0dfec8e7b265dc0d79882c97c64a"), looks := false }, kinds := [], alts := [], laidByText := true, laidKinds := [.data], laidTests := true, laidLooks := .later }
def BruteLeastUptoCardSaid : Prop := Claim7.holds Tryz.pinned (.plain (OpenSpec.upto bruteLeastSpec)) bruteLeastUptoCard
end Rows
end Go.Proofs.YtceejjgmepaonaaGreatDoor
