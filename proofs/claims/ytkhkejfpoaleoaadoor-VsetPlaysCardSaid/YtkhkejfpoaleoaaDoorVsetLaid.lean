/- The library's table of de Bruijn, as the rows of this seat list it: what the condition gives a walk, and a world that meets it. -/
import Derived.Test.YtkhkejfpoaleoaaDoorRows
import Derived.Test.YtkhkejfpoaleoaaDoorShTz
import Derived.Lib.LaidTab
import Derived.LaidLaws
import Derived.ChangeVars
import Derived.ChangeSame
import Derived.JoinedOf
import Derived.RowKit
import Derived.Handed
import Derived.ProofKit
namespace Go.Proofs.YtkhkejfpoaleoaaDoor
open Go.ChangeShapes Go.WideShapes Go.ChangeAt Go.RowKit
theorem own : ownKnob Tryd.prog.godebug = none := by kernel_rfl
theorem tabName : Tryd.prog.globalNamed (Rows.vsetPlaysRow.laid.map (·.1)).head! = some 0 := by kernel_rfl
theorem tab_of_laid {W : World} (h : laidMetH Tryd.prog Rows.vsetPlaysRow.laid W) : TabAt 0 Lib.deBruijn64tab W := by
  have h' : laidMet Tryd.prog ((_, Lib.tabData .u8 (Lib.deBruijn64tab.map fun n : Nat => (n : Int))) :: []) W := h
  have hT := Lib.tabIs_of_head (t := 59) (n := 64) tabName (by kernel_rfl) Tryd.underlying59 Tryd.underlying5 (by kernel_rfl) (by kernel_rfl) h'
  intro j hj
  have := hT.cell tabName j (by simpa using hj)
  rw [this]
  simp [List.getD_eq_getElem?_getD, hj]
/-- The settled world, the table's cells laid. -/
def laidWorld (P : Program) (os : Os) : World :=
  { World.holding P os ⟨#[], #[], []⟩ with heap := (World.holding P os ⟨#[], #[], []⟩).heap.setIfInBounds 0 (.cells (Lib.deBruijn64tab.map fun z : Nat => Value.int .u8 (z : Int)).toArray 59) }
theorem laid_met (os : Os) (args : Array Value) : laidMetH Tryd.prog Rows.vsetPlaysRow.laid ((laidWorld Tryd.prog os).forCall (fun _ _ => 0) ⟨#[], args, []⟩).memory := by
  have h : laidMet Tryd.prog Rows.vsetPlaysRow.laid ((laidWorld Tryd.prog os).forCall (fun _ _ => 0) ⟨#[], args, []⟩).memory := laidMet_of_run' 8 (by kernel_rfl) (by kernel_rfl)
  exact h
end Go.Proofs.YtkhkejfpoaleoaaDoor
