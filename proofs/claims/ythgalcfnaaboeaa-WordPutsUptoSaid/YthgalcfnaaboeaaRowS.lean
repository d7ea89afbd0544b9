/- A slice of texts that came in, as a statement's frame tells of it. No function of the program is named. -/
import Derived.Test.YthgalcfnaaboeaaStr
import Derived.SliceStrings
namespace Go.Proofs.Ythgalcfnaaboeaa
open Go.RowKit Go.ChangeShapes Str
def IsRowS (w : World) (a : Option Addr) (len cap : Nat) (ss : List ByteArray) : Prop :=
  (a = none ∧ len = 0 ∧ cap = 0 ∧ ss = []) ∨
  ∃ x, a = some x ∧ len ≤ cap ∧ cap ≤ maxLen ∧ ss.length = cap ∧ (∀ i, i < ss.length → w.cell? (x.add i) = some (.string (ss.getD i ByteArray.empty))) ∧ ∀ s ∈ ss, s.size ≤ maxLen
theorem rowS_reads {w : World} {a : Option Addr} {len cap : Nat} {ss : List ByteArray} (h : IsRowS w a len cap ss) :
    ∃ l : List (List UInt8), l.length = len ∧ ReadsL encS w.heap.size w a l ∧ len ≤ maxLen ∧ len ≤ cap ∧ (∀ p ∈ l, p.length ≤ maxLen) ∧ l = (ss.take len).map fun s => s.data.toList := by
  rcases h with ⟨rfl, rfl, rfl, rfl⟩ | ⟨x, rfl, hl, hm, hz, hcell, hsz⟩
  · exact ⟨[], rfl, Or.inl rfl, Nat.zero_le _, Nat.zero_le _, fun p hp => by simp at hp, rfl⟩
  · have hlen : ((ss.take len).map fun s => s.data.toList).length = len := by rw [List.length_map, List.length_take]; omega
    refine ⟨_, hlen, ?_, by omega, hl, fun p hp => ?_, rfl⟩
    · by_cases h0 : len = 0
      · left; rw [h0]; simp
      · right
        have hc0 := hcell 0 (by omega)
        obtain ⟨b, off, spot⟩ := x
        have hspot : spot = none := by simpa [Addr.add] using World.cell?_spot hc0
        subst hspot
        refine ⟨b, off, rfl, World.block_lt_of_cell? w _ hc0, fun i hi => ?_⟩
        rw [hlen] at hi
        have := hcell i (by omega)
        rw [addr_add] at this
        rw [this, List.getElem_map, List.getElem_take]
        unfold encS
        rw [mk_self, List.getD_eq_getElem?_getD, List.getElem?_eq_getElem (show i < ss.length by omega)]
        rfl
    · obtain ⟨s, hs, rfl⟩ := List.mem_map.1 hp
      rw [← Lib.size_eq]
      exact hsz s (List.mem_of_mem_take hs)
end Go.Proofs.Ythgalcfnaaboeaa
