/-
  No cell of these rows narrows 'for every input' (looked for: loops, veiled, ifaces, maps, wideKeys, modest, calm, conditions, laid).
  DERIVED. THE GIVEN ROWS OF THIS SEAT. 3 by the template 'for every input the law returns true; each argument reads behind the call as it read before'; 0 by the template 'total and deterministic' (their statements: YtflnmkgpmjefhaaTotals.lean).
  GIVEN WITH THE SEED: the statements are not yours to turn. If you find one false, say at which input.
  Laid BY PROGRAM, IN A SANDBOX (cutbox-rows.mjs): the forced cells as the released guide's own fill.sh prints them over the translation 40e460fd29cefd6b… (all of the seat's roots in one cut). By AI agents, Wed Nov 11 2026. No macro, syntax, notation, axiom, sorry.
-/
import Derived.Test.YtflnmkgpmjefhaaChecked
import GoSem.Claim
import GoSem.ClaimJoined
import GoSem.ClaimMapViews
import Derived.JoinedTies
import Derived.KernelRfl
namespace Go.Proofs.Ytflnmkgpmjefhaa
/- THE CELL 'sum', in the pinned program and in every row, IS THE sha256 OF THE DUMP (.gsa) THAT YtflnmkgpmjefhaaProg.lean LOADS. Nothing in Lean hashes anything: it is a label: what it is worth is what the hold of that sum in a sandbox is worth. -/
noncomputable def Try.pinned : Pinned := { name := "ytflnmkgpmjefhaa", sum := "40e460fd29cefd6bdcdf36cf1fd614dee6eb61ecea5a7950352849914dcd9687", checked := Try.checked }
namespace Rows
def none {H : Type} : Left H := { results := [], args := [] }

/-- 'straitlaw17.GreadLines': WHATEVER THE INPUT: true; the input reads as it did. -/
def greadLinesSpec : ChangeSpec := { name := "greadLines", fn := fun _ => fun
  | [d1, d2] => { results := [.lit (.bool true)], args := [d1, d2] }
  | _ => none }
def greadLinesRow : OpenClaim := { program := "ytflnmkgpmjefhaa", sum := "40e460fd29cefd6bdcdf36cf1fd614dee6eb61ecea5a7950352849914dcd9687", func := "strait/straitlaw17.GreadLines", spec := "greadLines", inPlace := ["internal/bytealg.IndexByteString", "internal/bytealg.IndexString"], unfollowed := true, recurses := true, named := ["internal/bytealg.MaxLen"], plainKeys := false, apart := false }
def GreadLinesSaid : Prop := greadLinesRow.holds Try.pinned (OpenSpec.ofChange greadLinesSpec)

/-- ITS FALSE NEIGHBOUR: 'it returns false'. Refute it at one input. -/
def greadLinesWrong : ChangeSpec := { name := "greadLines", fn := fun _ => fun
  | [d1, d2] => { results := [.lit (.bool false)], args := [d1, d2] }
  | _ => none }
def GreadLinesWrongFalsely : Prop := greadLinesRow.holds Try.pinned (OpenSpec.ofChange greadLinesWrong)

/-- 'straitlaw17.GreadReads': WHATEVER THE INPUT: true; the input reads as it did. -/
def greadReadsSpec : ChangeSpec := { name := "greadReads", fn := fun _ => fun
  | [d] => { results := [.lit (.bool true)], args := [d] }
  | _ => none }
def greadReadsRow : OpenClaim := { program := "ytflnmkgpmjefhaa", sum := "40e460fd29cefd6bdcdf36cf1fd614dee6eb61ecea5a7950352849914dcd9687", func := "strait/straitlaw17.GreadReads", spec := "greadReads", inPlace := ["internal/bytealg.IndexByteString", "internal/bytealg.IndexString"], unfollowed := true, recurses := true, named := ["internal/bytealg.MaxLen"], plainKeys := false, apart := false }
def GreadReadsSaid : Prop := greadReadsRow.holds Try.pinned (OpenSpec.ofChange greadReadsSpec)

/-- ITS FALSE NEIGHBOUR: 'it returns false'. Refute it at one input. -/
def greadReadsWrong : ChangeSpec := { name := "greadReads", fn := fun _ => fun
  | [d] => { results := [.lit (.bool false)], args := [d] }
  | _ => none }
def GreadReadsWrongFalsely : Prop := greadReadsRow.holds Try.pinned (OpenSpec.ofChange greadReadsWrong)

/-- 'straitlaw17.GreadEnds': WHATEVER THE INPUT: true; the input reads as it did. -/
def greadEndsSpec : ChangeSpec := { name := "greadEnds", fn := fun _ => fun
  | [d1, d2, d3] => { results := [.lit (.bool true)], args := [d1, d2, d3] }
  | _ => none }
def greadEndsRow : OpenClaim := { program := "ytflnmkgpmjefhaa", sum := "40e460fd29cefd6bdcdf36cf1fd614dee6eb61ecea5a7950352849914dcd9687", func := "strait/straitlaw17.GreadEnds", spec := "greadEnds", inPlace := ["internal/bytealg.IndexByteString", "internal/bytealg.IndexString"], unfollowed := true, recurses := true, named := ["internal/bytealg.MaxLen"], plainKeys := false, apart := false }
def GreadEndsSaid : Prop := greadEndsRow.holds Try.pinned (OpenSpec.ofChange greadEndsSpec)

/-- ITS FALSE NEIGHBOUR: 'it returns false'. Refute it at one input. -/
def greadEndsWrong : ChangeSpec := { name := "greadEnds", fn := fun _ => fun
  | [d1, d2, d3] => { results := [.lit (.bool false)], args := [d1, d2, d3] }
  | _ => none }
def GreadEndsWrongFalsely : Prop := greadEndsRow.holds Try.pinned (OpenSpec.ofChange greadEndsWrong)

/- THE SECOND FORM. 'bulk': how many values and letters a reading holds, each counted each time it is reached (what is shared counts as often as it is met; a slice's spare places count too). A statement '..UptoSaid' is the law's where the arguments, and the package variables that the reading takes, are together of bulk at most 1048576: NARROWER than '..Said'. Prove '..Said' where nothing that the law and all that it calls make is longer than what came in: it says more and counts as full. Else prove '..UptoSaid'. A law counts once. -/
mutual
def uptoBulk {H : Type} : DataW H → Nat
  | .lit (.string bytes) => bytes.length + 1
  | .lit _ => 1
  | .nil => 1
  | .ptr d => uptoBulk d + 1
  | .slice elems spare => uptoBulkAll elems + uptoBulkAll spare + 1
  | .agg parts => uptoBulkAll parts + 1
  | .iface _ d => uptoBulk d + 1
  | .map entries => uptoBulkEntries entries + 1
  | .held _ => 1
def uptoBulkAll {H : Type} : List (DataW H) → Nat
  | [] => 0
  | d :: r => uptoBulk d + uptoBulkAll r
def uptoBulkEntries {H : Type} : List (Lit × DataW H) → Nat
  | [] => 0
  | x :: r => uptoBulkEntry x + uptoBulkEntries r
def uptoBulkEntry {H : Type} : Lit × DataW H → Nat
  | (.string bytes, d) => bytes.length + uptoBulk d + 1
  | (_, d) => uptoBulk d + 1
 end
def uptoSmall : (H : Type) → List (DataW H) → Bool := fun _ ds => decide (uptoBulkAll ds ≤ 1048576)
def OpenSpec.upto (s : _root_.Go.ChangeSpec) : _root_.Go.OpenSpec := { _root_.Go.OpenSpec.ofChange s with cond := some uptoSmall }

/-- 'straitlaw17.GreadLines', WHERE WHAT IT READS IS OF BULK AT MOST 1048576: true; the input reads as it did. -/
def greadLinesUptoRow : OpenClaim := { program := "ytflnmkgpmjefhaa", sum := "40e460fd29cefd6bdcdf36cf1fd614dee6eb61ecea5a7950352849914dcd9687", func := "strait/straitlaw17.GreadLines", spec := "greadLines", inPlace := ["internal/bytealg.IndexByteString", "internal/bytealg.IndexString"], unfollowed := true, recurses := true, named := ["internal/bytealg.MaxLen"], plainKeys := false, apart := false, narrowed := true }
def GreadLinesUptoSaid : Prop := greadLinesUptoRow.holds Try.pinned (OpenSpec.upto greadLinesSpec)

/-- 'straitlaw17.GreadReads', WHERE WHAT IT READS IS OF BULK AT MOST 1048576: true; the input reads as it did. -/
def greadReadsUptoRow : OpenClaim := { program := "ytflnmkgpmjefhaa", sum := "40e460fd29cefd6bdcdf36cf1fd614dee6eb61ecea5a7950352849914dcd9687", func := "strait/straitlaw17.GreadReads", spec := "greadReads", inPlace := ["internal/bytealg.IndexByteString", "internal/bytealg.IndexString"], unfollowed := true, recurses := true, named := ["internal/bytealg.MaxLen"], plainKeys := false, apart := false, narrowed := true }
def GreadReadsUptoSaid : Prop := greadReadsUptoRow.holds Try.pinned (OpenSpec.upto greadReadsSpec)

/-- 'straitlaw17.GreadEnds', WHERE WHAT IT READS IS OF BULK AT MOST 1048576: true; the input reads as it did. -/
def greadEndsUptoRow : OpenClaim := { program := "ytflnmkgpmjefhaa", sum := "40e460fd29cefd6bdcdf36cf1fd614dee6eb61ecea5a7950352849914dcd9687", func := "strait/straitlaw17.GreadEnds", spec := "greadEnds", inPlace := ["internal/bytealg.IndexByteString", "internal/bytealg.IndexString"], unfollowed := true, recurses := true, named := ["internal/bytealg.MaxLen"], plainKeys := false, apart := false, narrowed := true }
def GreadEndsUptoSaid : Prop := greadEndsUptoRow.holds Try.pinned (OpenSpec.upto greadEndsSpec)

end Rows
end Go.Proofs.Ytflnmkgpmjefhaa
