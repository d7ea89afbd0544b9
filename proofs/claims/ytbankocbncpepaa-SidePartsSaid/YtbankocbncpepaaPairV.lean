/- An array of two numbers by value, as a statement's frame tells of it (as an element of Int × Int). -/
import Derived.Test.YtbankocbncpepaaKit
import Derived.WideShapes
import Derived.ChangeReads
import Derived.ChangeSame
namespace Go.Proofs.Ytbankocbncpepaa
open Go.ChangeShapes Go.WideShapes Go.RowKit
theorem arr2 {α : Type} {cs : Array α} (h : cs.size = 2) : ∃ c0 c1, cs = #[c0, c1] := by
  obtain ⟨l⟩ := cs
  match l, h with
  | [c0, c1], _ => exact ⟨c0, c1, rfl⟩
set_option maxRecDepth 20000 in
theorem open_pairV {H : Type} {enc : TypeId × Value → H} {W : World} {base : Nat} {sp : Nat → Bool} {held : Bool} {r : Reach} {b0 : Nat} {v : Value} {d : DataW H} {ps : List MemPlace}
    (hv : Value.okWide Try.prog W r b0 51 v) (h : DataW.Trod enc Try.prog W base sp held 51 v d ps) :
    ∃ p : Int × Int, v = .agg #[.int .i64 p.1, .int .i64 p.2] ∧ ((-9223372036854775808 ≤ p.1 ∧ p.1 ≤ 9223372036854775807) ∧ -9223372036854775808 ≤ p.2 ∧ p.2 ≤ 9223372036854775807) := by
  have hu := Try.underlying51
  have hC : Try.prog.cellsOf 51 = 2 := by kernel_rfl
  have hc : Try.prog.cellsOf 3 = 1 := by kernel_rfl
  simp only [Value.okWide, hu] at hv
  obtain ⟨cs, rfl, hsz, _⟩ := hv
  obtain ⟨c0, c1, rfl⟩ := arr2 (hsz.trans hC)
  obtain ⟨fuel, hf⟩ := h
  cases fuel with
  | zero => simp [DataW.trod] at hf
  | succ m =>
    rw [DataW.trod_step] at hf
    unfold DataW.trodStep at hf
    simp only [hu, Value.cells, hC, hc] at hf
    rw [if_pos (show [c0, c1].length = 2 from rfl), Option.map_eq_some_iff] at hf
    obtain ⟨ys, hy, -⟩ := hf
    rw [show List.range 2 = [0, 1] from rfl, List.mapM_cons, List.mapM_cons] at hy
    simp only [bind, Option.bind_eq_some_iff, pure, Option.some.injEq] at hy
    obtain ⟨y0, h0, ys1, ⟨y1, h1, -⟩, -⟩ := hy
    obtain ⟨n0, e0, -, w0⟩ := DataW.trod_int (t := 3) Try.underlying3 h0
    obtain ⟨n1, e1, -, w1⟩ := DataW.trod_int (t := 3) Try.underlying3 h1
    have e0' : c0 = .int .i64 n0 := by simpa using e0
    have e1' : c1 = .int .i64 n1 := by simpa using e1
    exact ⟨(n0, n1), by rw [e0', e1'], bounds_i64 w0, bounds_i64 w1⟩
end Go.Proofs.Ytbankocbncpepaa
