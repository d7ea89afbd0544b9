/- A slice of slices of texts that came in, as a statement's frame tells of it, and how much it holds. No function of the program is named. -/
import Derived.Test.YthgalcfnaaboeaaWordText
import Derived.Test.YthgalcfnaaboeaaRowS
import Derived.Test.YthgalcfnaaboeaaRows
import Derived.Deep.Slices
namespace Go.Proofs.Ythgalcfnaaboeaa.Wd
open Go.RowKit Go.ChangeShapes WordPure Str
theorem bulk_strs {H : Type} (ss : List ByteArray) : Rows.uptoBulkAll (strs (H := H) ss) = Lib.lens (ss.map fun s => s.data.toList) + ss.length := by
  induction ss with
  | nil => simp [strs, Rows.uptoBulkAll, Lib.lens]
  | cons s r ih =>
    unfold strs at ih ⊢
    unfold Lib.lens at ih ⊢
    rw [List.map_cons, List.map_cons, List.map_cons, List.sum_cons, List.length_cons]
    show Rows.uptoBulk (.lit (.string s.data.toList)) + Rows.uptoBulkAll _ = _
    rw [ih]
    show s.data.toList.length + 1 + _ = _
    omega
theorem bulk_range {H : Type} (Y : Nat → List (List UInt8)) (D : Nat → DataW H) : ∀ (js : List Nat), (∀ i ∈ js, Lib.lens (Y i) + (Y i).length + 1 ≤ Rows.uptoBulk (D i)) → bulkT (js.map Y) ≤ Rows.uptoBulkAll (js.map D)
  | [], _ => by simp [bulkT]
  | j :: js, h => by
    have h1 := bulk_range Y D js fun i hi => h i (by simp [hi])
    have h2 := h j (by simp)
    unfold bulkT at h1 ⊢
    rw [List.map_cons, List.map_cons, List.sum_cons, List.map_cons]
    show _ ≤ Rows.uptoBulk (D j) + Rows.uptoBulkAll (js.map D)
    omega
/-- One row of texts: nil or not. -/
theorem open_rowS {H : Type} {enc : TypeId × Value → H} {P : Program} {w : World} {base : Nat} {held : Bool} {e q : TypeId} (he : P.underlying e = some (.slice q)) (hq : P.underlying q = some .string) (cq : P.cellsOf q = 1) {fuel : Nat} {V : Value} {D : DataW H} {pl : List MemPlace}
    (h : DataW.trod enc P w base (fun _ => true) held fuel e [V] = some (D, pl)) :
    ∃ (l : List (List UInt8)) (p : Option Addr) (c : Nat), V = .slice p l.length c ∧ l.length ≤ c ∧ ReadsL encS w.heap.size w p l ∧ Lib.lens l + l.length + 1 ≤ Rows.uptoBulk D := by
  rcases open_strings he hq cq h with ⟨hcs, hx⟩ | ⟨x, len, cap, ss, hcs, _, hl, hm, hz, hx, hcell, hsz⟩
  · simp only [List.cons.injEq, and_true] at hcs
    simp only [Prod.mk.injEq] at hx
    subst hcs
    rw [hx.1]
    exact ⟨[], none, 0, rfl, Nat.le_refl _, Or.inl rfl, by simp [Lib.lens, Rows.uptoBulk]⟩
  · simp only [List.cons.injEq, and_true] at hcs
    simp only [Prod.mk.injEq] at hx
    subst hcs
    obtain ⟨l, hlen, hr, -, hlc, -, rfl⟩ := rowS_reads (w := w) (a := some x) (len := len) (cap := cap) (ss := ss) (Or.inr ⟨x, rfl, hl, hm, by simpa using hz, hcell, hsz⟩)
    refine ⟨_, some x, cap, by rw [hlen], by rw [hlen]; exact hlc, hr, ?_⟩
    rw [hx.1]
    show _ ≤ Rows.uptoBulkAll (strs (ss.take len)) + Rows.uptoBulkAll (strs (ss.drop len)) + 1
    rw [bulk_strs, List.length_map]
    omega
/-- The whole of it. -/
theorem open_rowsT {H : Type} {enc : TypeId × Value → H} {P : Program} {w : World} {base : Nat} {held : Bool} {t e q : TypeId} (ht : P.underlying t = some (.slice e)) (he : P.underlying e = some (.slice q)) (hq : P.underlying q = some .string) (ce : P.cellsOf e = 1) (cq : P.cellsOf q = 1) {fuel : Nat} {a : Option Addr} {len cap : Nat} {D : DataW H} {pl : List MemPlace}
    (h : DataW.trod enc P w base (fun _ => true) held fuel t [.slice a len cap] = some (D, pl)) :
    ∃ ll : List (List (List UInt8)), ll.length = len ∧ RowsT w.heap.size w a ll ∧ bulkT ll ≤ Rows.uptoBulk D := by
  rcases Go.Deep.open_slice1 ht ce h with ⟨hcs, hx⟩ | ⟨x, len', cap', m, n, V, DD, Pl, hcs, _, hl, hm, hmm, hx, hcell⟩
  · simp at hcs
    obtain ⟨rfl, rfl, rfl⟩ := hcs
    exact ⟨[], rfl, Or.inl rfl, by simp [bulkT]⟩
  · simp at hcs
    obtain ⟨rfl, rfl, rfl⟩ := hcs
    simp only [if_true] at hmm
    subst hmm
    simp only [Prod.mk.injEq] at hx
    have each : ∀ i, i < m → ∃ l : List (List UInt8), (∃ (p : Option Addr) (c : Nat), V i = .slice p l.length c ∧ l.length ≤ c ∧ ReadsL encS w.heap.size w p l) ∧ Lib.lens l + l.length + 1 ≤ Rows.uptoBulk (DD i) := fun i hi => by
      obtain ⟨l, p, c, h1, h2, h3, h4⟩ := open_rowS he hq cq (hcell i hi).2
      exact ⟨l, ⟨p, c, h1, h2, h3⟩, h4⟩
    obtain ⟨Y, hY⟩ := Go.Deep.choose_lt each
    have hlenY : ((List.range len).map Y).length = len := by simp
    refine ⟨(List.range len).map Y, hlenY, ?_, ?_⟩
    · by_cases h0 : len = 0
      · left; rw [h0]; rfl
      · right
        have hc0 := (hcell 0 (by omega)).1
        obtain ⟨b, off, spot⟩ := x
        have hspot : spot = none := by simpa [Addr.add] using World.cell?_spot hc0
        subst hspot
        refine ⟨b, off, rfl, World.block_lt_of_cell? w _ hc0, fun i hi => ?_⟩
        rw [hlenY] at hi
        obtain ⟨⟨p, c, h1, h2, h3⟩, -⟩ := hY i (by omega)
        have hcc := (hcell i (by omega)).1
        rw [addr_add, h1] at hcc
        have hg : ((List.range len).map Y)[i]'(by rw [hlenY]; exact hi) = Y i := by rw [List.getElem_map, List.getElem_range]
        rw [hg]
        exact ⟨p, c, hcc, h2, h3⟩
    · rw [hx.1]
      have := bulk_range Y DD (List.range len) fun i hi => (hY i (by have := List.mem_range.1 hi; omega)).2
      show _ ≤ Rows.uptoBulkAll _ + Rows.uptoBulkAll _ + 1
      omega
end Go.Proofs.Ythgalcfnaaboeaa.Wd
