/- An argument []int as a list of numbers in memory. -/
import Derived.Test.YtbankocbncpepaaInts
import Derived.ChangeOld
import Derived.ChangeSlices
import Derived.WalkKit
import Derived.ProofKit
import Derived.OpenShut
namespace Go.Proofs.Ytbankocbncpepaa
open Go.RowKit Go.ChangeShapes Go.WideShapes Go.ChangeAt
theorem open_intsL {H : Type} {enc : TypeId × Value → H} {W : World} {base fuel : Nat} {a : Option Addr} {len cap : Nat} {x : DataW H × List MemPlace}
    (hf : DataW.trod enc Try.prog W base (fun _ => true) true fuel 23 (Value.slice a len cap).cells.toList = some x) :
    ∃ l : List Int, l.length = len ∧ ReadsL encZ W.heap.size W a l ∧ l.length ≤ maxLen := by
  obtain ⟨z0, w0⟩ : ∃ zs, IsRow .i64 W a len cap zs := by
    rcases open_ints Try.underlying23 Try.underlying3 (by kernel_rfl) hf with ⟨hcs, _⟩ | ⟨x, l, c, zs, hcs, _, hl, hm, hz, _, hcell, hwz⟩
    · simp [Value.cells] at hcs
      obtain ⟨rfl, rfl, rfl⟩ := hcs
      exact ⟨[], .inl ⟨rfl, rfl, rfl, rfl⟩⟩
    · simp [Value.cells] at hcs
      obtain ⟨rfl, rfl, rfl⟩ := hcs
      exact ⟨zs, .inr ⟨_, rfl, hl, hm, by simpa using hz, hcell, hwz⟩⟩
  obtain ⟨l, h1, -, h3, h4, -⟩ := row_reads w0
  exact ⟨l, h1, h3, by omega⟩
/-- And no more than there is room for. -/
theorem open_intsLC {H : Type} {enc : TypeId × Value → H} {W : World} {base fuel : Nat} {a : Option Addr} {len cap : Nat} {x : DataW H × List MemPlace}
    (hf : DataW.trod enc Try.prog W base (fun _ => true) true fuel 23 (Value.slice a len cap).cells.toList = some x) :
    ∃ l : List Int, l.length = len ∧ ReadsL encZ W.heap.size W a l ∧ l.length ≤ maxLen ∧ l.length ≤ cap := by
  obtain ⟨z0, w0⟩ : ∃ zs, IsRow .i64 W a len cap zs := by
    rcases open_ints Try.underlying23 Try.underlying3 (by kernel_rfl) hf with ⟨hcs, _⟩ | ⟨x, l, c, zs, hcs, _, hl, hm, hz, _, hcell, hwz⟩
    · simp [Value.cells] at hcs
      obtain ⟨rfl, rfl, rfl⟩ := hcs
      exact ⟨[], .inl ⟨rfl, rfl, rfl, rfl⟩⟩
    · simp [Value.cells] at hcs
      obtain ⟨rfl, rfl, rfl⟩ := hcs
      exact ⟨zs, .inr ⟨_, rfl, hl, hm, by simpa using hz, hcell, hwz⟩⟩
  obtain ⟨l, h1, -, h3, h4, h5, -⟩ := row_reads w0
  exact ⟨l, h1, h3, by omega, by omega⟩
end Go.Proofs.Ytbankocbncpepaa
