/-
  No cell of these rows narrows 'for every input' (looked for: loops, veiled, ifaces, maps, wideKeys, modest, calm, conditions, laid).
  DERIVED. THE GIVEN ROWS OF THIS SEAT. 3 by the template 'for every input the law returns true; each argument reads behind the call as it read before'; 0 by the template 'total and deterministic' (their statements: YtndljbkjcgfdcaaTotals.lean).
  GIVEN WITH THE SEED: the statements are not yours to turn. If you find one false, say at which input.
  Laid BY PROGRAM, IN A SANDBOX (cutbox-rows.mjs): the forced cells as the released guide's own fill.sh prints them over the translation 3fcb2f1d33e52e00… (all of the seat's roots in one cut). By AI agents, Wed Nov 11 2026. No macro, syntax, notation, axiom, sorry.
-/
import Derived.Test.YtndljbkjcgfdcaaChecked
import GoSem.Claim
import GoSem.ClaimJoined
import GoSem.ClaimMapViews
import Derived.JoinedTies
import Derived.KernelRfl
namespace Go.Proofs.Ytndljbkjcgfdcaa
/- THE CELL 'sum', in the pinned program and in every row, IS THE sha256 OF THE DUMP (.gsa) THAT YtndljbkjcgfdcaaProg.lean LOADS. Nothing in Lean hashes anything: it is a label: what it is worth is what the hold of that sum in a sandbox is worth. -/
noncomputable def Try.pinned : Pinned := { name := "ytndljbkjcgfdcaa", sum := "3fcb2f1d33e52e005b5accb89a2222a39cf4f88f86464af5c345a4c077ac548d", checked := Try.checked }
namespace Rows
def none {H : Type} : Left H := { results := [], args := [] }

/-- 'straitlaw12.PheapPlays': WHATEVER THE INPUT: true; the input reads as it did. -/
def pheapPlaysSpec : ChangeSpec := { name := "pheapPlays", fn := fun _ => fun
  | [d1, d2] => { results := [.lit (.bool true)], args := [d1, d2] }
  | _ => none }
def pheapPlaysRow : OpenClaim := { program := "ytndljbkjcgfdcaa", sum := "3fcb2f1d33e52e005b5accb89a2222a39cf4f88f86464af5c345a4c077ac548d", func := "strait/straitlaw12.PheapPlays", spec := "pheapPlays", unfollowed := true, recurses := true, apart := false }
def PheapPlaysSaid : Prop := pheapPlaysRow.holds Try.pinned (OpenSpec.ofChange pheapPlaysSpec)

/-- ITS FALSE NEIGHBOUR: 'it returns false'. Refute it at one input. -/
def pheapPlaysWrong : ChangeSpec := { name := "pheapPlays", fn := fun _ => fun
  | [d1, d2] => { results := [.lit (.bool false)], args := [d1, d2] }
  | _ => none }
def PheapPlaysWrongFalsely : Prop := pheapPlaysRow.holds Try.pinned (OpenSpec.ofChange pheapPlaysWrong)

/-- 'straitlaw12.PheapFalls': WHATEVER THE INPUT: true; the input reads as it did. -/
def pheapFallsSpec : ChangeSpec := { name := "pheapFalls", fn := fun _ => fun
  | [d1, d2] => { results := [.lit (.bool true)], args := [d1, d2] }
  | _ => none }
def pheapFallsRow : OpenClaim := { program := "ytndljbkjcgfdcaa", sum := "3fcb2f1d33e52e005b5accb89a2222a39cf4f88f86464af5c345a4c077ac548d", func := "strait/straitlaw12.PheapFalls", spec := "pheapFalls", unfollowed := true, recurses := true, apart := false }
def PheapFallsSaid : Prop := pheapFallsRow.holds Try.pinned (OpenSpec.ofChange pheapFallsSpec)

/-- ITS FALSE NEIGHBOUR: 'it returns false'. Refute it at one input. -/
def pheapFallsWrong : ChangeSpec := { name := "pheapFalls", fn := fun _ => fun
  | [d1, d2] => { results := [.lit (.bool false)], args := [d1, d2] }
  | _ => none }
def PheapFallsWrongFalsely : Prop := pheapFallsRow.holds Try.pinned (OpenSpec.ofChange pheapFallsWrong)

/-- 'straitlaw12.PheapNone': WHATEVER THE INPUT: true; the input reads as it did. -/
def pheapNoneSpec : ChangeSpec := { name := "pheapNone", fn := fun _ => fun
  | [d1, d2] => { results := [.lit (.bool true)], args := [d1, d2] }
  | _ => none }
def pheapNoneRow : OpenClaim := { program := "ytndljbkjcgfdcaa", sum := "3fcb2f1d33e52e005b5accb89a2222a39cf4f88f86464af5c345a4c077ac548d", func := "strait/straitlaw12.PheapNone", spec := "pheapNone", unfollowed := true, recurses := true, apart := false }
def PheapNoneSaid : Prop := pheapNoneRow.holds Try.pinned (OpenSpec.ofChange pheapNoneSpec)

/-- ITS FALSE NEIGHBOUR: 'it returns false'. Refute it at one input. -/
def pheapNoneWrong : ChangeSpec := { name := "pheapNone", fn := fun _ => fun
  | [d1, d2] => { results := [.lit (.bool false)], args := [d1, d2] }
  | _ => none }
def PheapNoneWrongFalsely : Prop := pheapNoneRow.holds Try.pinned (OpenSpec.ofChange pheapNoneWrong)

/- THE SECOND FORM. 'bulk': how many values and letters a reading holds, each counted each time it is reached (what is shared counts as often as it is met; a slice's spare places count too). A statement '..UptoSaid' is the law's where the arguments, and the package variables that the reading takes, are together of bulk at most 1048576: NARROWER than '..Said'. Prove '..Said' where nothing that the law and all that it calls make is longer than what came in: it says more and counts as full. Else prove '..UptoSaid'. A law counts once. -/
mutual
def uptoBulk {H : Type} : DataW H → Nat
  | .lit (.string bytes) => bytes.length + 1
  | .lit _ => 1
  | .nil => 1
  | .ptr d => uptoBulk d + 1
  | .slice elems spare => uptoBulkAll elems + uptoBulkAll spare + 1
  | .agg parts => uptoBulkAll parts + 1
  | .iface _ d => uptoBulk d + 1
  | .map entries => uptoBulkEntries entries + 1
  | .held _ => 1
def uptoBulkAll {H : Type} : List (DataW H) → Nat
  | [] => 0
  | d :: r => uptoBulk d + uptoBulkAll r
def uptoBulkEntries {H : Type} : List (Lit × DataW H) → Nat
  | [] => 0
  | x :: r => uptoBulkEntry x + uptoBulkEntries r
def uptoBulkEntry {H : Type} : Lit × DataW H → Nat
  | (.string bytes, d) => bytes.length + uptoBulk d + 1
  | (_, d) => uptoBulk d + 1
 end
def uptoSmall : (H : Type) → List (DataW H) → Bool := fun _ ds => decide (uptoBulkAll ds ≤ 1048576)
def OpenSpec.upto (s : _root_.Go.ChangeSpec) : _root_.Go.OpenSpec := { _root_.Go.OpenSpec.ofChange s with cond := some uptoSmall }

/-- 'straitlaw12.PheapPlays', WHERE WHAT IT READS IS OF BULK AT MOST 1048576: true; the input reads as it did. -/
def pheapPlaysUptoRow : OpenClaim := { program := "ytndljbkjcgfdcaa", sum := "3fcb2f1d33e52e005b5accb89a2222a39cf4f88f86464af5c345a4c077ac548d", func := "strait/straitlaw12.PheapPlays", spec := "pheapPlays", unfollowed := true, recurses := true, apart := false, narrowed := true }
def PheapPlaysUptoSaid : Prop := pheapPlaysUptoRow.holds Try.pinned (OpenSpec.upto pheapPlaysSpec)

/-- 'straitlaw12.PheapFalls', WHERE WHAT IT READS IS OF BULK AT MOST 1048576: true; the input reads as it did. -/
def pheapFallsUptoRow : OpenClaim := { program := "ytndljbkjcgfdcaa", sum := "3fcb2f1d33e52e005b5accb89a2222a39cf4f88f86464af5c345a4c077ac548d", func := "strait/straitlaw12.PheapFalls", spec := "pheapFalls", unfollowed := true, recurses := true, apart := false, narrowed := true }
def PheapFallsUptoSaid : Prop := pheapFallsUptoRow.holds Try.pinned (OpenSpec.upto pheapFallsSpec)

/-- 'straitlaw12.PheapNone', WHERE WHAT IT READS IS OF BULK AT MOST 1048576: true; the input reads as it did. -/
def pheapNoneUptoRow : OpenClaim := { program := "ytndljbkjcgfdcaa", sum := "3fcb2f1d33e52e005b5accb89a2222a39cf4f88f86464af5c345a4c077ac548d", func := "strait/straitlaw12.PheapNone", spec := "pheapNone", unfollowed := true, recurses := true, apart := false, narrowed := true }
def PheapNoneUptoSaid : Prop := pheapNoneUptoRow.holds Try.pinned (OpenSpec.upto pheapNoneSpec)

end Rows
end Go.Proofs.Ytndljbkjcgfdcaa
