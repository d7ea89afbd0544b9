/- What the program's Read of a text answers, and what is known of the texts by which it is woken. -/
import Derived.Test.YtflnmkgpmjefhaaGrPure
import Derived.Test.YtflnmkgpmjefhaaNtNew
namespace Go.Proofs.Ytflnmkgpmjefhaa.Gr
open Go.RowKit Go.ChangeShapes EdPure DecPure WordPure GrPure NtPure
/-- A graph, or why there is none, and where. -/
def OutR (l : List UInt8) (w : World) (e : Ending) (w' : World) : Prop :=
  Below w.heap.size w w' ∧ ∃ (p : Option Addr) (N : Nat) (M : List Ed), e = .returned (.tuple #[.pointer p, .int .i64 (readR l).1, .int .i64 (readR l).2.1]) ∧ NetAt p N M w' ∧ (N ≤ 4096 ∧ M.length ≤ 1048576 ∧ GoodN N M) ∧
    ((readR l).1 ≠ 0 ∧ p = none ∧ N = 0 ∧ M = [] ∨ ((readR l).1 = 0 ∧ (readR l).2.1 = 0) ∧ (∃ g, p = some ⟨g, 0, none⟩) ∧ (readR l).2.2.1 = N ∧ mergeE (readR l).2.2.2 = some M)
def awA : List UInt8 := [103, 114, 97, 112, 104, 32, 50, 32, 50, 10, 48, 32, 49, 32, 53, 10, 49, 32, 48, 32, 50, 10]
def awB : List UInt8 := [103, 114, 97, 112, 104, 32, 50, 32, 49, 10, 48, 32, 50, 32, 53, 10]
theorem aw_A : readR awA = (0, 0, 2, [(0, 1, 5), (1, 0, 2)]) := by decide +kernel
theorem aw_B : (readR awB).1 = 4 ∧ (readR awB).2.1 = 2 := by decide +kernel
theorem aw_M : mergeE [(0, 1, 5), (1, 0, 2)] = some [(0, 1, 7)] := by decide
end Go.Proofs.Ytflnmkgpmjefhaa.Gr
