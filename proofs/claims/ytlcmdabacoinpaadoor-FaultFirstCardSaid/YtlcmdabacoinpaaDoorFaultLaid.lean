/- The handle of 'error' and the library's tables, as the rows of layer 8 list them: what the condition gives a walk, and worlds that meet it; a number's text by the library's contract. -/
import Derived.Test.YtlcmdabacoinpaaDoorRows
import Derived.Test.YtlcmdabacoinpaaDoorFaultFind2
import Derived.Test.YtlcmdabacoinpaaDoorShItoa
import Derived.Lib.LaidTab
import Derived.Lib.TrailingZeros
import Derived.Lib.SmallJoins
import Derived.Lib.AppendIntMem
import Derived.Stop.LaidErr
import Derived.Stop.Joined
import Derived.LaidLaws
import Derived.LaidHandle
import Derived.ChangeVars
import Derived.ChangeSame
import Derived.JoinedOf
import Derived.RowKit
import Derived.Handed
import Derived.ProofKit
namespace Go.Proofs.YtlcmdabacoinpaaDoor
open Go.ChangeShapes Go.WideShapes Go.ChangeAt Go.RowKit
theorem own : ownKnob Tryd.prog.godebug = none := by kernel_rfl
namespace Ft
/-- The name of the handle's variable. -/
def etName : String := ((Rows.faultFirstRow.laid.map (·.1))[0]?).getD ""
theorem etGlobal : Tryd.prog.globalNamed etName = some 0 := by kernel_rfl
theorem rtypeCut : (Tryd.prog.cutTypes.find? (·.1 == "internal/reflectlite.rtype")).map (·.2) = some 85 := by kernel_rfl
theorem oneRow : ((List.range Tryd.prog.types.size).filter fun t => Tryd.prog.rowNamed t [101, 114, 114, 111, 114]) = [25] := by kernel_rfl
theorem et_of_handles {W : World} (h : handlesMet Tryd.prog [(etName, Rows.laid_errors_errorType)] W) : EtAt W := by
  obtain ⟨name, u, ty, e1, e2, e3, e4, e5⟩ := h _ (List.mem_singleton.2 rfl)
  have en : name = [101, 114, 114, 111, 114] := (Option.some.inj e1).symm
  subst en
  obtain rfl := Option.some.inj (rtypeCut.symm.trans e2)
  have hm : ty ∈ (List.range Tryd.prog.types.size).filter fun t => Tryd.prog.rowNamed t [101, 114, 114, 111, 114] := List.mem_filter.2 ⟨List.mem_range.2 e3, e4⟩
  rw [oneRow] at hm
  obtain rfl := List.mem_singleton.1 hm
  have hh : typeHandle Tryd.prog 25 = .pointer (some ⟨5, 25, none⟩) := by kernel_rfl
  rw [hh] at e5
  unfold EtAt
  simpa using World.var?_cell etGlobal e5 0
theorem et_of_first {W : World} (h : laidMetH Tryd.prog Rows.faultFirstRow.laid W) : EtAt W := by
  have h' : laidMet Tryd.prog [] W ∧ handlesMet Tryd.prog [(etName, Rows.laid_errors_errorType)] W := h
  exact et_of_handles h'.2
/-- The settled world, the handle's cell laid. -/
def laidWorldF (P : Program) (os : Os) : World :=
  { World.holding P os ⟨#[], #[], []⟩ with heap := (World.holding P os ⟨#[], #[], []⟩).heap.setIfInBounds 0 (.cells #[.iface 85 (.agg #[.pointer (some ⟨5, 25, none⟩)])] 68) }
theorem laid_metF (os : Os) (args : Array Value) : laidMetH Tryd.prog Rows.faultFirstRow.laid ((laidWorldF Tryd.prog os).forCall (fun _ _ => 0) ⟨#[], args, []⟩).memory :=
  laidMetH_of_parts (laidMet_nil _ _) (by kernel_rfl)
/-- The name of the table of powers of ten. -/
def tenName : String := ((Rows.faultNoneRow.laid.map (·.1))[2]?).getD ""
theorem tenGlobal : Tryd.prog.globalNamed tenName = some 2 := by kernel_rfl
/-- The table of powers of ten lies as the library lays it. -/
def Ten (w : World) : Prop := Lib.TabIs Tryd.prog w tenName .u64 Lib.pow10Tab
theorem Ten.over {w w' : World} {B : Nat} (h : Ten w) (hb : Below B w w') (hB : w.heap.size ≤ B) : Ten w' := Joins.tab_stays tenGlobal h hb hB
theorem Ten.on {w w' : World} (h : Ten w) (hb : Below w.heap.size w w') : Ten w' := h.over hb (Nat.le_refl _)
theorem laid_none {W : World} (h : laidMetH Tryd.prog Rows.faultNoneRow.laid W) : EtAt W ∧ Ten W := by
  have h' : laidMet Tryd.prog (_ :: _ :: (tenName, Lib.tabData .u64 Lib.pow10Tab) :: []) W ∧ handlesMet Tryd.prog [(etName, Rows.laid_errors_errorType)] W := h
  exact ⟨et_of_handles h'.2, Lib.tabIs_of_head (t := 109) (n := 20) tenGlobal (by kernel_rfl) Tryd.underlying109 Tryd.underlying72 (by kernel_rfl) (by kernel_rfl) h'.1.tail.tail⟩
/-- A number's text. -/
theorem itoa_any (n : Int) (h0 : -9223372036854775808 ≤ n) (h1 : n ≤ 9223372036854775807) (w : World) (hT : Ten w) :
    Calls Tryd.prog 23 #[.int .i64 n] w fun e w' => e = .returned (.string ⟨(Lib.itoa n).toArray⟩) ∧ Below w.heap.size w w' :=
  (Tryd.strconv_Itoa n h0 h1 w hT).mono fun _ _ ⟨he, k, os, hw⟩ => ⟨he, by rw [hw]; exact Lib.below_grow _ _ (Nat.le_refl _) _ _⟩
/-- The settled world, the handle's and the tables' cells laid. -/
def laidWorldN (P : Program) (os : Os) : World :=
  { World.holding P os ⟨#[], #[], []⟩ with heap := ((((World.holding P os ⟨#[], #[], []⟩).heap.setIfInBounds 3 (.cells (Lib.deBruijn32tab.map fun z : Nat => Value.int .u8 (z : Int)).toArray 116)).setIfInBounds 4 (.cells (Lib.deBruijn64tab.map fun z : Nat => Value.int .u8 (z : Int)).toArray 117)).setIfInBounds 2 (.cells (Lib.pow10Tab.map fun z : Int => Value.int .u64 z).toArray 109)).setIfInBounds 0 (.cells #[.iface 85 (.agg #[.pointer (some ⟨5, 25, none⟩)])] 68) }
theorem laid_metN (os : Os) (args : Array Value) : laidMetH Tryd.prog Rows.faultNoneRow.laid ((laidWorldN Tryd.prog os).forCall (fun _ _ => 0) ⟨#[], args, []⟩).memory :=
  laidMetH_of_parts (laidMet_of_run' 8 (by kernel_rfl) (by kernel_rfl)) (by kernel_rfl)
end Ft
end Go.Proofs.YtlcmdabacoinpaaDoor
