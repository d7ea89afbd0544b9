/- Contracts of the document's Add and Sum of layer 1 (cut out of XNumRef: a later stage's reference that adds takes this text). -/
import Derived.Test.YtaoocokcfppmaaaNumAdd
import Derived.Deep.RegionWith
namespace Go.Proofs.Ytaoocokcfppmaaa
open Go.RowKit Go.ChangeShapes NumPure
theorem refAdd_any (a b : Int) (ha : -9223372036854775808 ≤ a ∧ a ≤ 9223372036854775807) (hb : -9223372036854775808 ≤ b ∧ b ≤ 9223372036854775807) (w : World) :
    Calls Try.prog 55 #[.int .i64 a, .int .i64 b] w fun e w' => e = .returned (.agg #[.int .i64 (cut (a + b)), .bool (fitsB (a + b))]) ∧ Below w.heap.size w w' := by
  obtain ⟨ha1, ha2⟩ := ha
  obtain ⟨hb1, hb2⟩ := hb
  by_cases h : -9223372036854775808 ≤ a + b ∧ a + b ≤ 9223372036854775807
  · have e1 := Lib.hid (cut_in h)
    have e2 := Lib.hid ((fits_iff _).2 h)
    obtain ⟨h1, h2⟩ := h
    by_cases h0 : 0 ≤ b
    · go_enter Try.func55, Try.ntmps55
      go_wp2
      refine bodyPost_ret (v := .agg #[.int .i64 (a + b), .bool true]) (by simp [results, Try.results55, go_sem]) rfl ⟨agg_ib e1.out.symm e2.out.symm, (Below.refl _ _).alloc (Nat.le_refl _) _⟩
    · go_enter Try.func55, Try.ntmps55
      go_wp2
      refine bodyPost_ret (v := .agg #[.int .i64 (a + b), .bool true]) (by simp [results, Try.results55, go_sem]) rfl ⟨agg_ib e1.out.symm e2.out.symm, (Below.refl _ _).alloc (Nat.le_refl _) _⟩
  · have e1 := Lib.hid (cut_out h)
    have e2 := Lib.hid ((fits_not _).2 h)
    by_cases h0 : 0 ≤ b
    · have h3 := wrap_add_up a b ha2 h0 hb2 (by omega)
      clear h
      go_enter Try.func55, Try.ntmps55
      go_wp2
      refine bodyPost_ret (v := .agg #[.int .i64 0, .bool false]) (by simp [results, Try.results55, go_sem]) rfl ⟨agg_ib e1.out.symm e2.out.symm, (Below.refl _ _).alloc (Nat.le_refl _) _⟩
    · have h3 := wrap_add_down a b ha1 (by omega) hb1 (by omega)
      clear h
      go_enter Try.func55, Try.ntmps55
      go_wp2
      refine bodyPost_ret (v := .agg #[.int .i64 0, .bool false]) (by simp [results, Try.results55, go_sem]) rfl ⟨agg_ib e1.out.symm e2.out.symm, (Below.refl _ _).alloc (Nat.le_refl _) _⟩
/-- The document's sum, number by number. -/
def RefAt (M : Nat) (w : World) (p : Int × Bool) : Prop :=
  w.cell? ⟨M, 0, none⟩ = some (.int .i64 p.1) ∧ w.cell? ⟨M, 1, none⟩ = some (.bool p.2) ∧ w.frozen? ⟨M, 0, none⟩ = false ∧ w.frozen? ⟨M, 1, none⟩ = false
theorem RefAt.on {M : Nat} {w w' : World} {p : Int × Bool} (h : RefAt M w p) (hb : Below (M + 1) w w') : RefAt M w' p := by
  obtain ⟨h0, h1, f0, f1⟩ := h
  exact ⟨(hb.cell (by simp)).trans h0, (hb.cell (by simp)).trans h1, (hb.frozen (by simp)).trans f0, (hb.frozen (by simp)).trans f1⟩
theorem RefAt.set {N : Nat} {w : World} {p : Int × Bool} (h : RefAt N w p) (q : Int × Bool) : RefAt N ((w.setCell ⟨N, 0, none⟩ (.int .i64 q.1)).setCell ⟨N, 1, none⟩ (.bool q.2)) q := by
  obtain ⟨h0, h1, f0, f1⟩ := h
  have h1' : (w.setCell ⟨N, 0, none⟩ (.int .i64 q.1)).cell? ⟨N, 1, none⟩ = some (.bool p.2) := (World.cell?_setCell_other w ⟨N, 0, none⟩ ⟨N, 1, none⟩ _ (by simp)).trans h1
  refine ⟨(World.cell?_setCell_other _ ⟨N, 1, none⟩ ⟨N, 0, none⟩ _ (by simp)).trans (World.cell?_setCell_same _ _ _ h0), World.cell?_setCell_same _ _ _ h1', ?_, ?_⟩
  · simpa using f0
  · simpa using f1
theorem RefAt.lt {M : Nat} {w : World} {p : Int × Bool} (h : RefAt M w p) : M < w.heap.size := by
  exact World.block_lt_of_cell? w _ h.1
def RefRel (N : Nat) (w : World) (l : List Int) (k : Nat) (wr : World) : Prop := k ≤ l.length ∧ Below (N + 1) w wr ∧ RefAt (N + 1) wr (sumS (l.take k))
end Go.Proofs.Ytaoocokcfppmaaa
