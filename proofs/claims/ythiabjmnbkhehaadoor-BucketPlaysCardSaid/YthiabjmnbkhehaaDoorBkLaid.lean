/- The two package-level values of buckets, as the rows of this seat list them: what the condition gives a walk, and a world that meets it. -/
import Derived.Test.YthiabjmnbkhehaaDoorRows
import Derived.Test.YthiabjmnbkhehaaDoorBkMem
import Derived.Lib.LaidTab
import Derived.LaidLaws
import Derived.ChangeVars
import Derived.ChangeSame
import Derived.JoinedOf
import Derived.RowKit
import Derived.Handed
import Derived.ProofKit
namespace Go.Proofs.YthiabjmnbkhehaaDoor
open Go.ChangeShapes Go.WideShapes Go.ChangeAt Go.RowKit
theorem own : ownKnob Tryd.prog.godebug = none := by kernel_rfl
def nm0 : String := ((Rows.bucketPlaysRow.laid.map (·.1))[0]?).getD ""
def nm1 : String := ((Rows.bucketPlaysRow.laid.map (·.1))[1]?).getD ""
theorem name0 : Tryd.prog.globalNamed nm0 = some 0 := by kernel_rfl
theorem name1 : Tryd.prog.globalNamed nm1 = some 1 := by kernel_rfl
theorem type0 : (Tryd.prog.globals[0]?).map (·.type) = some 47 := by kernel_rfl
theorem type1 : (Tryd.prog.globals[1]?).map (·.type) = some 49 := by kernel_rfl
theorem two_of_trod {W : World} {fuel : Nat} {cs : List Value} {a b : Int} {p : List MemPlace}
    (h : DataW.trod (fun _ => ()) Tryd.prog W 0 (fun _ => true) false fuel 47 cs = some (.agg [.lit (.int .i64 a), .lit (.int .i64 b)], p)) : cs = [.int .i64 a, .int .i64 b] := by
  obtain ⟨xs, k, -, hxy, hl, hxl, hfl⟩ := DataW.trod_struct Tryd.underlying47 h
  have ce : Tryd.prog.cellsOf 47 = 2 := by kernel_rfl
  have ci : Tryd.prog.cellsOf 3 = 1 := by kernel_rfl
  rw [ce] at hl
  match xs, hxl, cs, hl with
  | [y0, y1], _, [v0, v1], _ =>
    have g0 := hfl 0 _ rfl
    have g1 := hfl 1 _ rfl
    simp [ci] at g0 g1
    obtain ⟨n0, q0, e0, -⟩ := DataW.trod_int (t := 3) Tryd.underlying3 g0
    obtain ⟨n1, q1, e1, -⟩ := DataW.trod_int (t := 3) Tryd.underlying3 g1
    subst e0
    subst e1
    simp at hxy q0 q1
    obtain ⟨⟨rfl, rfl⟩, -⟩ := hxy
    subst q0 q1
    rfl
theorem three_of_trod {W : World} {fuel : Nat} {cs : List Value} {a b c : Int} {p : List MemPlace}
    (h : DataW.trod (fun _ => ()) Tryd.prog W 0 (fun _ => true) false fuel 49 cs = some (.agg [.lit (.int .i64 a), .lit (.int .i64 b), .lit (.int .i64 c)], p)) : cs = [.int .i64 a, .int .i64 b, .int .i64 c] := by
  obtain ⟨xs, k, -, hxy, hl, hxl, hfl⟩ := DataW.trod_struct Tryd.underlying49 h
  have ce : Tryd.prog.cellsOf 49 = 3 := by kernel_rfl
  have ci : Tryd.prog.cellsOf 3 = 1 := by kernel_rfl
  rw [ce] at hl
  match xs, hxl, cs, hl with
  | [y0, y1, y2], _, [v0, v1, v2], _ =>
    have g0 := hfl 0 _ rfl
    have g1 := hfl 1 _ rfl
    have g2 := hfl 2 _ rfl
    simp [ci] at g0 g1 g2
    obtain ⟨n0, q0, e0, -⟩ := DataW.trod_int (t := 3) Tryd.underlying3 g0
    obtain ⟨n1, q1, e1, -⟩ := DataW.trod_int (t := 3) Tryd.underlying3 g1
    obtain ⟨n2, q2, e2, -⟩ := DataW.trod_int (t := 3) Tryd.underlying3 g2
    subst e0
    subst e1
    subst e2
    simp at hxy q0 q1 q2
    obtain ⟨⟨rfl, rfl, rfl⟩, -⟩ := hxy
    subst q0 q1 q2
    rfl
theorem glob_of_laid {W : World} (h : laidMetH Tryd.prog Rows.bucketPlaysRow.laid W) : GlobAt W := by
  have h' : laidMet Tryd.prog ((nm0, Rows.laid_strait_bucket_empty) :: (nm1, Rows.laid_strait_bucket_outside) :: []) W := h
  obtain ⟨ps, ⟨g0, t0, cs0, fuel0, p0, q0, hg0, ht0, hv0, hd0, ⟨g1, t1, cs1, fuel1, p1, q1, hg1, ht1, hv1, hd1, _, _⟩, _⟩, _⟩ := h'
  obtain rfl := Option.some.inj (name0.symm.trans hg0)
  obtain rfl := Option.some.inj (name1.symm.trans hg1)
  obtain rfl := Option.some.inj (type0.symm.trans ht0)
  obtain rfl := Option.some.inj (type1.symm.trans ht1)
  have e0 := two_of_trod hd0
  have e1 := three_of_trod hd1
  have c0 := World.var?_cell name0 hv0
  have c1 := World.var?_cell name1 hv1
  have r0 : cs0 = #[.int .i64 (-1), .int .i64 0] := by rw [← Array.toList_inj]; exact e0
  have r1 : cs1 = #[.int .i64 (-1), .int .i64 (-1), .int .i64 (-1)] := by rw [← Array.toList_inj]; exact e1
  subst r0
  subst r1
  exact ⟨⟨c0 0, c0 1⟩, c1 0, c1 1, c1 2⟩
/-- The settled world, both values' cells laid. -/
def laidWorld (P : Program) (os : Os) : World :=
  { World.holding P os ⟨#[], #[], []⟩ with heap := ((World.holding P os ⟨#[], #[], []⟩).heap.setIfInBounds 0 (.cells #[.int .i64 (-1), .int .i64 0] 47)).setIfInBounds 1 (.cells #[.int .i64 (-1), .int .i64 (-1), .int .i64 (-1)] 49) }
theorem laid_met (os : Os) (args : Array Value) : laidMetH Tryd.prog Rows.bucketPlaysRow.laid ((laidWorld Tryd.prog os).forCall (fun _ _ => 0) ⟨#[], args, []⟩).memory := by
  have h : laidMet Tryd.prog Rows.bucketPlaysRow.laid ((laidWorld Tryd.prog os).forCall (fun _ _ => 0) ⟨#[], args, []⟩).memory := laidMet_of_run' 8 (by kernel_rfl) (by kernel_rfl)
  exact h
end Go.Proofs.YthiabjmnbkhehaaDoor
