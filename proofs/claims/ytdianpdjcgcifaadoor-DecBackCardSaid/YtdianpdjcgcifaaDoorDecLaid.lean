/- The library's tables, as the rows of this seat list them: what the condition gives a walk, and a world that meets it; a number's text by the library's contract. -/
import Derived.Test.YtdianpdjcgcifaaDoorRows
import Derived.Test.YtdianpdjcgcifaaDoorKit
import Derived.Test.YtdianpdjcgcifaaDoorDecShelf
import Derived.Lib.LaidTab
import Derived.Lib.TrailingZeros
import Derived.Lib.SmallJoins
import Derived.Lib.AppendIntMem
import Derived.Stop.LaidErr
import Derived.LaidLaws
import Derived.ChangeVars
import Derived.ChangeSame
import Derived.JoinedOf
import Derived.RowKit
import Derived.Handed
import Derived.ProofKit
namespace Go.Proofs.YtdianpdjcgcifaaDoor
open Go.ChangeShapes Go.WideShapes Go.ChangeAt Go.RowKit
theorem own : ownKnob Tryd.prog.godebug = none := by kernel_rfl
/-- The name of the table of powers of ten. -/
def tenName : String := ((Rows.decTellsRow.laid.map (·.1))[2]?).getD ""
theorem tenGlobal : Tryd.prog.globalNamed tenName = some 0 := by kernel_rfl
/-- The table of powers of ten lies as the library lays it. -/
def Ten (w : World) : Prop := Lib.TabIs Tryd.prog w tenName .u64 Lib.pow10Tab
theorem Ten.over {w w' : World} {B : Nat} (h : Ten w) (hb : Below B w w') (hB : w.heap.size ≤ B) : Ten w' := Joins.tab_stays tenGlobal h hb hB
theorem Ten.on {w w' : World} (h : Ten w) (hb : Below w.heap.size w w') : Ten w' := h.over hb (Nat.le_refl _)
theorem ten_of_laid {W : World} (h : laidMetH Tryd.prog Rows.decTellsRow.laid W) : Ten W := by
  have h' : laidMet Tryd.prog (_ :: _ :: (tenName, Lib.tabData .u64 Lib.pow10Tab) :: []) W := h
  exact Lib.tabIs_of_head (t := 74) (n := 20) tenGlobal (by kernel_rfl) Tryd.underlying74 Tryd.underlying49 (by kernel_rfl) (by kernel_rfl) h'.tail.tail
/-- A number's text. -/
theorem format_any (n : Int) (h0 : -9223372036854775808 ≤ n) (h1 : n ≤ 9223372036854775807) (w : World) (hT : Ten w) :
    Calls Tryd.prog 22 #[.int .i64 n, .int .i64 10] w fun e w' => e = .returned (.string ⟨(Lib.itoa n).toArray⟩) ∧ Below w.heap.size w w' :=
  (Any.strconv_FormatInt_10 Tryd.laysM173 n h0 h1 w hT).mono fun _ _ ⟨he, k, os, hw⟩ => ⟨he, by rw [hw]; exact Lib.below_grow _ _ (Nat.le_refl _) _ _⟩
/-- The settled world, the tables' cells laid. -/
def laidWorld (P : Program) (os : Os) : World :=
  { World.holding P os ⟨#[], #[], []⟩ with heap := (((World.holding P os ⟨#[], #[], []⟩).heap.setIfInBounds 2 (.cells (Lib.deBruijn32tab.map fun z : Nat => Value.int .u8 (z : Int)).toArray 84)).setIfInBounds 3 (.cells (Lib.deBruijn64tab.map fun z : Nat => Value.int .u8 (z : Int)).toArray 85)).setIfInBounds 0 (.cells (Lib.pow10Tab.map fun z : Int => Value.int .u64 z).toArray 74) }
theorem laid_met (os : Os) (args : Array Value) : laidMetH Tryd.prog Rows.decTellsRow.laid ((laidWorld Tryd.prog os).forCall (fun _ _ => 0) ⟨#[], args, []⟩).memory := by
  have h : laidMet Tryd.prog Rows.decTellsRow.laid ((laidWorld Tryd.prog os).forCall (fun _ _ => 0) ⟨#[], args, []⟩).memory := laidMet_of_run' 8 (by kernel_rfl) (by kernel_rfl)
  exact h
end Go.Proofs.YtdianpdjcgcifaaDoor
