/- An edge by value, a list of edges, as a statement's frame tells of them. -/
import Derived.Test.YtaoocokcfppmaaaEdMem
import Derived.WideShapes
import Derived.ChangeReads
namespace Go.Proofs.Ytaoocokcfppmaaa
open Go.RowKit Go.ChangeShapes Go.WideShapes EdPure
def EdIn (W : World) (a : Option Addr) (l : List Ed) : Prop := InL l ∧ ReadsE W.heap.size W a l
theorem arr3 {α : Type} {cs : Array α} (h : cs.size = 3) : ∃ c0 c1 c2, cs = #[c0, c1, c2] := by
  obtain ⟨l⟩ := cs
  match l, h with
  | [c0, c1, c2], _ => exact ⟨c0, c1, c2, rfl⟩
set_option maxRecDepth 20000 in
theorem open_edge {H : Type} {enc : TypeId × Value → H} {W : World} {base : Nat} {sp : Nat → Bool} {held : Bool} {r : Reach} {b0 : Nat} {v : Value} {d : DataW H} {ps : List MemPlace}
    (hv : Value.okWide Try.prog W r b0 48 v) (h : DataW.Trod enc Try.prog W base sp held 48 v d ps) :
    ∃ e : Ed, v = encE e ∧ InE e := by
  have hu := Try.underlying48
  have hC : Try.prog.cellsOf 48 = 3 := by kernel_rfl
  have ci : Try.prog.cellsOf 3 = 1 := by kernel_rfl
  have ci2 : Try.prog.cellsOf 2 = 1 := by kernel_rfl
  simp only [Value.okWide, hu] at hv
  obtain ⟨cs, rfl, hsz, _⟩ := hv
  obtain ⟨c0, c1, c2, rfl⟩ := arr3 (hsz.trans hC)
  obtain ⟨fuel, hf⟩ := h
  obtain ⟨xs, k, hk, hxy, _, hxl, hfl⟩ := DataW.trod_struct hu hf
  match xs, hxl with
  | [y0, y1, y2], _ =>
    have g0 := hfl 0 _ rfl
    have g1 := hfl 1 _ rfl
    have g2 := hfl 2 _ rfl
    simp [ci, ci2, Value.cells] at g0 g1 g2
    obtain ⟨n0, q0, -, w0⟩ := DataW.trod_int (t := 3) Try.underlying3 g0
    obtain ⟨n1, q1, -, w1⟩ := DataW.trod_int (t := 3) Try.underlying3 g1
    obtain ⟨n2, q2, -, w2⟩ := DataW.trod_int (t := 2) Try.underlying2 g2
    have q0' : c0 = .int .i64 n0 := by simpa using q0
    have q1' : c1 = .int .i64 n1 := by simpa using q1
    have q2' : c2 = .int .i64 n2 := by simpa using q2
    subst q0' q1' q2'
    exact ⟨(n0, n1, n2), rfl, bounds_i64 w0, bounds_i64 w1, bounds_i64 w2⟩
end Go.Proofs.Ytaoocokcfppmaaa
