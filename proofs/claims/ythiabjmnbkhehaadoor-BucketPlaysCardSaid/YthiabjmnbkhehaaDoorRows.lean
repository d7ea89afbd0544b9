/-
  NARROWER THAN 'FOR EVERY INPUT', by the rows' own cells (each row's printed sentence says how): BucketPlays: laid · BucketFalls: laid.
  DERIVED. THE GIVEN ROWS OF THIS SEAT. 2 by the template 'for every input the law returns true; each argument reads behind the call as it read before'; 0 by the template 'total and deterministic' (their statements: YthiabjmnbkhehaaDoorTotals.lean).
  GIVEN WITH THE SEED: the statements are not yours to turn. If you find one false, say at which input.
  Laid BY PROGRAM, IN A SANDBOX (cutbox-rows.mjs): the forced cells as the released guide's own fill.sh prints them over the translation 5579551bd1e5f300… (all of the seat's roots in one cut). By AI agents, Wed Nov 11 2026. No macro, syntax, notation, axiom, sorry.
-/
import Derived.Test.YthiabjmnbkhehaaDoorChecked
import GoSem.Claim
import GoSem.ClaimJoined
import GoSem.ClaimMapViews
import Derived.JoinedTies
import Derived.KernelRfl
namespace Go.Proofs.YthiabjmnbkhehaaDoor
/- THE CELL 'sum', in the pinned program and in every row, IS THE sha256 OF THE DUMP (.gsa) THAT YthiabjmnbkhehaaDoorProg.lean LOADS. Nothing in Lean hashes anything: it is a label: what it is worth is what the hold of that sum in a sandbox is worth. -/
noncomputable def Tryd.pinned : Pinned := { name := "ythiabjmnbkhehaadoor", sum := "5579551bd1e5f3002f60fdb7e450f907061e7d776f3cffab68126013dbd9d95e", checked := Tryd.checked }
namespace Rows
def none {H : Type} : Left H := { results := [], args := [] }

/- WHAT THE LISTED PACKAGE-LEVEL VARIABLES READ AS WHEN THE CALL BEGINS. Each datum BY PROGRAM (the guide's laid-datum.mjs) off the statement by which the dump's own 'gosem.cut.vars' lays the variable. In a bare row this is a premise. The card (YthiabjmnbkhehaaDoorCards.lean) ties it to the program's text. -/
def laid_strait_bucket_empty {H : Type} : DataW H := .agg [.lit (.int .i64 (-1)), .lit (.int .i64 0)]
def laid_strait_bucket_outside {H : Type} : DataW H := .agg [.lit (.int .i64 (-1)), .lit (.int .i64 (-1)), .lit (.int .i64 (-1))]

/-- 'straitlaw13.BucketPlays': WHATEVER THE INPUT: true; the input reads as it did. -/
def bucketPlaysSpec : ChangeSpec := { name := "bucketPlays", fn := fun _ => fun
  | [d1, d2] => { results := [.lit (.bool true)], args := [d1, d2] }
  | _ => none }
def bucketPlaysRow : OpenClaim := { program := "ythiabjmnbkhehaadoor", sum := "5579551bd1e5f3002f60fdb7e450f907061e7d776f3cffab68126013dbd9d95e", func := "strait/straitlaw13.BucketPlays", spec := "bucketPlays", named := ["strait/bucket.empty", "strait/bucket.outside"], apart := false, laid := [("strait/bucket.empty", laid_strait_bucket_empty), ("strait/bucket.outside", laid_strait_bucket_outside)] }
def BucketPlaysSaid : Prop := bucketPlaysRow.holds Tryd.pinned (OpenSpec.ofChange bucketPlaysSpec)

/-- ITS FALSE NEIGHBOUR: 'it returns false'. Refute it at one input. -/
def bucketPlaysWrong : ChangeSpec := { name := "bucketPlays", fn := fun _ => fun
  | [d1, d2] => { results := [.lit (.bool false)], args := [d1, d2] }
  | _ => none }
def BucketPlaysWrongFalsely : Prop := bucketPlaysRow.holds Tryd.pinned (OpenSpec.ofChange bucketPlaysWrong)

/-- 'straitlaw13.BucketFalls': WHATEVER THE INPUT: true; the input reads as it did. -/
def bucketFallsSpec : ChangeSpec := { name := "bucketFalls", fn := fun _ => fun
  | [d1, d2, d3] => { results := [.lit (.bool true)], args := [d1, d2, d3] }
  | _ => none }
def bucketFallsRow : OpenClaim := { program := "ythiabjmnbkhehaadoor", sum := "5579551bd1e5f3002f60fdb7e450f907061e7d776f3cffab68126013dbd9d95e", func := "strait/straitlaw13.BucketFalls", spec := "bucketFalls", named := ["strait/bucket.empty", "strait/bucket.outside"], apart := false, laid := [("strait/bucket.empty", laid_strait_bucket_empty), ("strait/bucket.outside", laid_strait_bucket_outside)] }
def BucketFallsSaid : Prop := bucketFallsRow.holds Tryd.pinned (OpenSpec.ofChange bucketFallsSpec)

/-- ITS FALSE NEIGHBOUR: 'it returns false'. Refute it at one input. -/
def bucketFallsWrong : ChangeSpec := { name := "bucketFalls", fn := fun _ => fun
  | [d1, d2, d3] => { results := [.lit (.bool false)], args := [d1, d2, d3] }
  | _ => none }
def BucketFallsWrongFalsely : Prop := bucketFallsRow.holds Tryd.pinned (OpenSpec.ofChange bucketFallsWrong)

/- THE SECOND FORM. 'bulk': how many values and letters a reading holds, each counted each time it is reached (what is shared counts as often as it is met; a slice's spare places count too). A statement '..UptoSaid' is the law's where the arguments, and the package variables that the reading takes, are together of bulk at most 1048576: NARROWER than '..Said'. Prove '..Said' where nothing that the law and all that it calls make is longer than what came in: it says more and counts as full. Else prove '..UptoSaid'. A law counts once. -/
mutual
def uptoBulk {H : Type} : DataW H → Nat
  | .lit (.string bytes) => bytes.length + 1
  | .lit _ => 1
  | .nil => 1
  | .ptr d => uptoBulk d + 1
  | .slice elems spare => uptoBulkAll elems + uptoBulkAll spare + 1
  | .agg parts => uptoBulkAll parts + 1
  | .iface _ d => uptoBulk d + 1
  | .map entries => uptoBulkEntries entries + 1
  | .held _ => 1
def uptoBulkAll {H : Type} : List (DataW H) → Nat
  | [] => 0
  | d :: r => uptoBulk d + uptoBulkAll r
def uptoBulkEntries {H : Type} : List (Lit × DataW H) → Nat
  | [] => 0
  | x :: r => uptoBulkEntry x + uptoBulkEntries r
def uptoBulkEntry {H : Type} : Lit × DataW H → Nat
  | (.string bytes, d) => bytes.length + uptoBulk d + 1
  | (_, d) => uptoBulk d + 1
 end
def uptoSmall : (H : Type) → List (DataW H) → Bool := fun _ ds => decide (uptoBulkAll ds ≤ 1048576)
def OpenSpec.upto (s : _root_.Go.ChangeSpec) : _root_.Go.OpenSpec := { _root_.Go.OpenSpec.ofChange s with cond := some uptoSmall }

/-- 'straitlaw13.BucketPlays', WHERE WHAT IT READS IS OF BULK AT MOST 1048576: true; the input reads as it did. -/
def bucketPlaysUptoRow : OpenClaim := { program := "ythiabjmnbkhehaadoor", sum := "5579551bd1e5f3002f60fdb7e450f907061e7d776f3cffab68126013dbd9d95e", func := "strait/straitlaw13.BucketPlays", spec := "bucketPlays", named := ["strait/bucket.empty", "strait/bucket.outside"], apart := false, laid := [("strait/bucket.empty", laid_strait_bucket_empty), ("strait/bucket.outside", laid_strait_bucket_outside)], narrowed := true }
def BucketPlaysUptoSaid : Prop := bucketPlaysUptoRow.holds Tryd.pinned (OpenSpec.upto bucketPlaysSpec)

/-- 'straitlaw13.BucketFalls', WHERE WHAT IT READS IS OF BULK AT MOST 1048576: true; the input reads as it did. -/
def bucketFallsUptoRow : OpenClaim := { program := "ythiabjmnbkhehaadoor", sum := "5579551bd1e5f3002f60fdb7e450f907061e7d776f3cffab68126013dbd9d95e", func := "strait/straitlaw13.BucketFalls", spec := "bucketFalls", named := ["strait/bucket.empty", "strait/bucket.outside"], apart := false, laid := [("strait/bucket.empty", laid_strait_bucket_empty), ("strait/bucket.outside", laid_strait_bucket_outside)], narrowed := true }
def BucketFallsUptoSaid : Prop := bucketFallsUptoRow.holds Tryd.pinned (OpenSpec.upto bucketFallsSpec)

end Rows
end Go.Proofs.YthiabjmnbkhehaaDoor
