/- Contracts of package num's Add, Put, Value, at every argument (cut out of XNumCode: a later stage that neither subtracts nor multiplies takes this text). -/
import Derived.Test.YtbankocbncpepaaKit
import Derived.Test.YtbankocbncpepaaNumPure
namespace Go.Proofs.Ytbankocbncpepaa
open Go.RowKit Go.ChangeShapes NumPure
theorem add_any (a b : Int) (ha : -9223372036854775808 ≤ a ∧ a ≤ 9223372036854775807) (hb : -9223372036854775808 ≤ b ∧ b ≤ 9223372036854775807) (w : World) :
    Calls Try.prog 53 #[.int .i64 a, .int .i64 b] w fun e w' => e = .returned (.tuple #[.int .i64 (cut (a + b)), .bool (fitsB (a + b))]) ∧ w = w' := by
  obtain ⟨ha1, ha2⟩ := ha
  obtain ⟨hb1, hb2⟩ := hb
  by_cases h : -9223372036854775808 ≤ a + b ∧ a + b ≤ 9223372036854775807
  · have t := add_yes a b ⟨ha1, ha2⟩ ⟨hb1, hb2⟩ h
    have e1 := Lib.hid (cut_in h)
    have e2 := Lib.hid ((fits_iff _).2 h)
    obtain ⟨h1, h2⟩ := h
    go_enter Try.func53, Try.ntmps53
    go_wp2
    go_ret2
    exact ⟨ret_ib e1.out.symm e2.out.symm, rfl⟩
  · have t := add_no a b ⟨ha1, ha2⟩ ⟨hb1, hb2⟩ h
    have e1 := Lib.hid (cut_out h)
    have e2 := Lib.hid ((fits_not _).2 h)
    have hh := Lib.hid h
    clear h
    go_enter Try.func53, Try.ntmps53
    go_wp2
    go_ret2
    exact ⟨ret_ib e1.out.symm e2.out.symm, rfl⟩
/-- The gathering sum at block N. -/
def AccAt (N : Nat) (w : World) (p : Int × Bool) : Prop :=
  w.cell? ⟨N, 0, none⟩ = some (.int .i64 p.1) ∧ w.cell? ⟨N, 1, none⟩ = some (.bool (!p.2)) ∧ w.frozen? ⟨N, 0, none⟩ = false ∧ w.frozen? ⟨N, 1, none⟩ = false
theorem AccAt.set {N : Nat} {w : World} {p : Int × Bool} (h : AccAt N w p) (q : Int × Bool) : AccAt N ((w.setCell ⟨N, 0, none⟩ (.int .i64 q.1)).setCell ⟨N, 1, none⟩ (.bool (!q.2))) q := by
  obtain ⟨h0, h1, f0, f1⟩ := h
  have h1' : (w.setCell ⟨N, 0, none⟩ (.int .i64 q.1)).cell? ⟨N, 1, none⟩ = some (.bool (!p.2)) := by
    exact (World.cell?_setCell_other w ⟨N, 0, none⟩ ⟨N, 1, none⟩ _ (by simp)).trans h1
  refine ⟨?_, World.cell?_setCell_same _ _ _ h1', ?_, ?_⟩
  · exact (World.cell?_setCell_other _ ⟨N, 1, none⟩ ⟨N, 0, none⟩ _ (by simp)).trans (World.cell?_setCell_same _ _ _ h0)
  · simpa using f0
  · simpa using f1
theorem AccAt.on {M : Nat} {w w' : World} {p : Int × Bool} (h : AccAt M w p) (hb : Below (M + 1) w w') : AccAt M w' p := by
  obtain ⟨h0, h1, f0, f1⟩ := h
  exact ⟨(hb.cell (by simp)).trans h0, (hb.cell (by simp)).trans h1, (hb.frozen (by simp)).trans f0, (hb.frozen (by simp)).trans f1⟩
theorem AccAt.lt {M : Nat} {w : World} {p : Int × Bool} (h : AccAt M w p) : M < w.heap.size := World.block_lt_of_cell? w _ h.1
theorem accAt_new (w : World) (t : TypeId) : AccAt w.heap.size (w.alloc (.cells #[.int .i64 0, .bool false] t)) (0, true) := by
  refine ⟨?_, ?_, ?_, ?_⟩ <;> simp
end Go.Proofs.Ytbankocbncpepaa
