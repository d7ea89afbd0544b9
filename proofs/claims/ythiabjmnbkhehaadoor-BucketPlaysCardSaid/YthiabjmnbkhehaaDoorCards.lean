/-
  DERIVED. GIVEN WITH THE SEED: THE CARDS: each row of YthiabjmnbkhehaaDoorRows.lean that lists a variable, with what it lists TIED to the program's text (the seventh form; the later family's looks); each row that meets fmt, with fmt's text TOLD by the authors' own Lean function (tested against real Go, not proved from fmt's source: count such statements apart). THE CARD IS WHAT COUNTS. Prove the row's statement (the work); the ties are given (YthiabjmnbkhehaaDoorTie.lean); close each card by the builder's one call (the guide's Derived/Test/ToyasCard.lean, 'card_holds'). Laid BY PROGRAM, IN A SANDBOX (cutbox-door.mjs). By AI agents, Wed Nov 11 2026. No macro, syntax, notation, axiom, sorry.
-/
import Derived.Test.YthiabjmnbkhehaaDoorRows
import GoSem.ClaimSeven
namespace Go.Proofs.YthiabjmnbkhehaaDoor
namespace Rows

/-- THE TIED CARD OF 'straitlaw13.BucketPlays'. -/
def bucketPlaysCard : Claim7 := { stood := { row := bucketPlaysRow, standIns := [], harness := (true, "9c557a12605649b3cb83d2467e9990c66b542dea72f0a7468314b4c4d23aee16"), looks := false }, kinds := [], alts := [], laidByText := true, laidKinds := [.data, .data], laidTests := true, laidLooks := .later }
def BucketPlaysCardSaid : Prop := Claim7.holds Tryd.pinned (.plain (OpenSpec.ofChange bucketPlaysSpec)) bucketPlaysCard

/-- THE TIED CARD OF 'straitlaw13.BucketFalls'. -/
def bucketFallsCard : Claim7 := { stood := { row := bucketFallsRow, standIns := [], harness := (true, "9c557a12605649b3cb83d2467e9990c66b542dea72f0a7468314b4c4d23aee16"), looks := false }, kinds := [], alts := [], laidByText := true, laidKinds := [.data, .data], laidTests := true, laidLooks := .later }
def BucketFallsCardSaid : Prop := Claim7.holds Tryd.pinned (.plain (OpenSpec.ofChange bucketFallsSpec)) bucketFallsCard

/-- THE SECOND FORM's CARD OF 'straitlaw13.BucketPlays'. -/
def bucketPlaysUptoCard : Claim7 := { stood := { row := bucketPlaysUptoRow, standIns := [], harness := (true, "9c557a12605649b3cb83d2467e9990c66b542dea72f0a7468314b4c4d23aee16"), looks := false }, kinds := [], alts := [], laidByText := true, laidKinds := [.data, .data], laidTests := true, laidLooks := .later }
def BucketPlaysUptoCardSaid : Prop := Claim7.holds Tryd.pinned (.plain (OpenSpec.upto bucketPlaysSpec)) bucketPlaysUptoCard

/-- THE SECOND FORM's CARD OF 'straitlaw13.BucketFalls'. -/
def bucketFallsUptoCard : Claim7 := { stood := { row := bucketFallsUptoRow, standIns := [], harness := (true, "9c557a12605649b3cb83d2467e9990c66b542dea72f0a7468314b4c4d23aee16"), looks := false }, kinds := [], alts := [], laidByText := true, laidKinds := [.data, .data], laidTests := true, laidLooks := .later }
def BucketFallsUptoCardSaid : Prop := Claim7.holds Tryd.pinned (.plain (OpenSpec.upto bucketFallsSpec)) bucketFallsUptoCard
end Rows
end Go.Proofs.YthiabjmnbkhehaaDoor
