/- The document's Total, Same, Cmp. -/
import Derived.Test.YtaoocokcfppmaaaEdRef1
namespace Go.Proofs.Ytaoocokcfppmaaa
open Go.RowKit Go.ChangeShapes EdPure NumPure
theorem reads_of {w : World} {a : Option Addr} {l : List Int} (h : ReadsL (encInt .i64) w.heap.size w a l) : Reads w.heap.size w a l := by
  rcases h with h | ⟨b, off, h1, h2, h3⟩
  · exact Or.inl h
  · refine Or.inr ⟨b, off, h1, h2, fun i hi => ?_⟩
    rw [h3 i hi]
    unfold encInt
    simp [List.getD_eq_getElem?_getD, List.getElem?_eq_getElem hi]
theorem wts_rng {l : List Ed} (h : InL l) : Rng (wts l) := by
  intro i hi
  rw [wts_len] at hi
  rw [wts_at hi]
  exact (h.at hi).2.2
theorem wts_take {l : List Ed} {k : Nat} (hk : k < l.length) : wts (l.take (k + 1)) = wts (l.take k) ++ [l[k].2.2] := by
  rw [List.take_succ_eq_append_getElem hk]; unfold wts; rw [List.map_append]; rfl
theorem info_int64 : ∃ i, (Try.prog.info? 2) = some i ∧ i.zero = some (.int .i64 0) ∧ i.size = 1 ∧ i.bytes = 8 := info_of (by kernel_rfl)
def RTotRel (w0 : World) (l : List Ed) (k : Nat) (v : Value) (wr : World) : Prop := k ≤ l.length ∧ GrowRel (encInt .i64) 2 w0 (wts (l.take k)) v wr
@[go_sem] theorem eq_edge (a b c a' b' c' : Int) (w : World) : (Op.equalIn 10000 48 (.agg #[.int .i64 a, .int .i64 b, .int .i64 c]) (.agg #[.int .i64 a', .int .i64 b', .int .i64 c'])).run Try.prog w = .ok (a == a' && (b == b' && c == c')) w := by
  have u3 := Try.underlying3
  have a3 := Try.isAgg3
  have z3 := Try.sizeOf3
  have u2 := Try.underlying2
  have a2 := Try.isAgg2
  have z2 := Try.sizeOf2
  have hS : Try.prog.underlying 48 = some (.struct (Try.prog.fieldsOf 48)) := by kernel_rfl
  have hp : Try.prog.stoodInHeld 48 = false := by kernel_rfl
  rw [show (10000 : Nat) = 9999 + 1 from rfl, run_equalIn_agg w 9999 48 _ _ hS hp]
  simp only [Program.fieldsOf, Try.underlying48]
  go_simp
  by_cases h1 : a = a' <;> by_cases h2 : b = b' <;> by_cases h3 : c = c' <;> simp [h1, h2, h3]
def SameRel (w : World) (l m : List Ed) (k : Nat) (wr : World) : Prop := k ≤ l.length ∧ Below w.heap.size w wr ∧ ∀ j (h1 : j < l.length) (h2 : j < m.length), j < k → l[j] = m[j]
end Go.Proofs.Ytaoocokcfppmaaa
