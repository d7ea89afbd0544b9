/- Ints (of the document's answers of layer 9) tells of any two lists whether they are the same. -/
import Derived.Test.YtflnmkgpmjefhaaList
import Derived.Deep.QuietTactic
import Derived.BigQuiet
namespace Go.Proofs.Ytflnmkgpmjefhaa
open Go.RowKit Go.ChangeShapes
def encZ (z : Int) : Value := .int .i64 z
/-- Ints of any two lists. -/
def EqRel (l r : List Int) (w0 : World) (k : Nat) (w : World) : Prop := k ≤ l.length ∧ (∃ m, w = w0.drewN m) ∧ l.take k = r.take k
end Go.Proofs.Ytflnmkgpmjefhaa
