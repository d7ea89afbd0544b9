/- The law's plays in memory: the classes that are joined, and the document's classes in their variable. -/
import Derived.Test.YtnnicfjlakpghaaDsuAwake
import Derived.Test.YtnnicfjlakpghaaPairsI
import Derived.Deep.Cut
import Derived.Deep.CutRange
import Derived.Carry
namespace Go.Proofs.Ytnnicfjlakpghaa
open Go.RowKit Go.ChangeShapes Go.Maps DsuPure
/-- The state of the plays: b, g, m the classes' blocks, X the variable's, a, c the list that it has. -/
def PlayAt (w : World) (b g m X n : Nat) (p : Nat → Nat) (a : Option Addr) (c : Nat) (W : World) : Prop :=
  Below w.heap.size w W ∧ ClsAt b g m W n p ∧ OneAt X W (.slice a n c) ∧ RefAt W a n p ∧ Apart a g m ∧ (∀ z, a = some z → z.block ≠ X) ∧ (X ≠ b ∧ X ≠ g ∧ X ≠ m) ∧ w.heap.size ≤ b ∧ w.heap.size ≤ g ∧ w.heap.size ≤ m ∧ w.heap.size ≤ X
section
variable {w W W' : World} {b g m X n c : Nat} {p : Nat → Nat} {a : Option Addr}
theorem PlayAt.turn (h : PlayAt w b g m X n p a c W) (ht : Turns g m W W') (hc : ClsAt b g m W' n p) : PlayAt w b g m X n p a c W' := by
  obtain ⟨h1, h2, h3, h4, h5, h6, h7, h8, h9, h10, h11⟩ := h
  have hk := ht.2.2.2.2 X h3.lt h7.2.1 h7.2.2
  exact ⟨h1.trans (ht.below h1.size h9 h10), hc, ⟨(World.cell?_of_block hk).trans h3.1, (World.frozen?_of_block hk).trans h3.2⟩, h4.turn h5 ht, h5, h6, h7, h8, h9, h10, h11⟩
theorem PlayAt.keep (h : PlayAt w b g m X n p a c W) (hb : Below W.heap.size W W') : PlayAt w b g m X n p a c W' := h.turn (Turns.ofBelow hb) (h.2.1.keep hb)
theorem PlayAt.both (h : PlayAt w b g m X n p a c W) : W.cell? ⟨X, 0, none⟩ = some (.slice a n c) ∧ Hid (PlayAt w b g m X n p a c W) := ⟨h.2.2.1.1, Lib.hid h⟩
theorem PlayAt.cells (h : PlayAt w b g m X n p a c W) : W.cell? ⟨X, 0, none⟩ = some (.slice a n c) ∧ W.frozen? ⟨X, 0, none⟩ = false := h.2.2.1
/-- Both join: first the program's classes, then the document's. -/
def HalfAt (w : World) (b g m X n : Nat) (p q : Nat → Nat) (a : Option Addr) (c : Nat) (W : World) : Prop :=
  Below w.heap.size w W ∧ ClsAt b g m W n q ∧ OneAt X W (.slice a n c) ∧ RefAt W a n p ∧ Apart a g m ∧ (∀ z, a = some z → z.block ≠ X) ∧ (X ≠ b ∧ X ≠ g ∧ X ≠ m) ∧ w.heap.size ≤ b ∧ w.heap.size ≤ g ∧ w.heap.size ≤ m ∧ w.heap.size ≤ X
theorem PlayAt.half {q : Nat → Nat} (h : PlayAt w b g m X n p a c W) (ht : Turns g m W W') (hc : ClsAt b g m W' n q) : HalfAt w b g m X n p q a c W' := by
  obtain ⟨h1, h2, h3, h4, h5, h6, h7, h8, h9, h10, h11⟩ := h
  have hk := ht.2.2.2.2 X h3.lt h7.2.1 h7.2.2
  exact ⟨h1.trans (ht.below h1.size h9 h10), hc, ⟨(World.cell?_of_block hk).trans h3.1, (World.frozen?_of_block hk).trans h3.2⟩, h4.turn h5 ht, h5, h6, h7, h8, h9, h10, h11⟩
theorem HalfAt.store {q : Nat → Nat} {a' : Option Addr} {c' : Nat} (h : HalfAt w b g m X n p q a c W) (hb : Below W.heap.size W W') (ho : Off a' W.heap.size W' ∨ a' = a) (hr : RefAt W' a' n q) :
    PlayAt w b g m X n q a' c' (W'.setCell ⟨X, 0, none⟩ (.slice a' n c')) := by
  obtain ⟨h1, h2, h3, h4, h5, h6, h7, h8, h9, h10, h11⟩ := h
  have hl := h2.lt
  have hx := h3.lt
  have hs := cell_grown W' X 0 (.slice a' n c')
  have h1' := h1.trans (hb.mono h1.size)
  have ap : Apart a' g m := by
    rcases ho with ho | rfl
    · exact fun z hz => by have := ho z hz; exact ⟨by omega, by omega⟩
    · exact h5
  have ax : ∀ z, a' = some z → z.block ≠ X := by
    rcases ho with ho | rfl
    · exact fun z hz => by have := ho z hz; omega
    · exact h6
  refine ⟨h1'.grown hs h1'.size (fun k e => by cases e; exact h11), (h2.keep hb).grown hs (fun e => h7.1 (Option.some.inj e).symm) (fun e => h7.2.1 (Option.some.inj e).symm) (fun e => h7.2.2 (Option.some.inj e).symm), (h3.keep hb).set _, ?_, ap, ax, h7, h8, h9, h10, h11⟩
  rcases hr with hr | ⟨b1, off, rfl, hN, hc⟩
  · exact Or.inl hr
  · have hk := hs.block b1 hN (fun e => ax _ rfl (Option.some.inj e))
    exact Or.inr ⟨b1, off, rfl, by simpa using hN, fun i hi => (World.cell?_of_block hk).trans (hc i hi)⟩
end
theorem play_start {w w1 w2 : World} {b g m n c : Nat} {a : Option Addr} {p : Nat → Nat} (T : TypeId) (hb1 : Below w.heap.size w w1) (hc : ClsAt b g m w1 n p) (l1 : w.heap.size ≤ b) (l2 : w.heap.size ≤ g) (l3 : w.heap.size ≤ m)
    (hb2 : Below w1.heap.size w1 w2) (ho : Off a w1.heap.size w2) (hr : RefAt w2 a n p) : PlayAt w b g m w2.heap.size n p a c (w2.alloc (.cells #[.slice a n c] T)) := by
  have hl := hc.lt
  have s1 := hb1.size
  have s2 := hb2.size
  have hA := (Below.refl _ w2).alloc (Nat.le_refl _) (.cells #[.slice a n c] T)
  have hb := hb1.trans (hb2.mono s1)
  exact ⟨hb.trans (hA.mono (by omega)), (hc.keep hb2).keep hA, OneAt.new w2 _ T, hr.keep hA, fun z hz => by have := ho z hz; exact ⟨by omega, by omega⟩, fun z hz => by have := ho z hz; omega, by omega, l1, l2, l3, by omega⟩
end Go.Proofs.Ytnnicfjlakpghaa
