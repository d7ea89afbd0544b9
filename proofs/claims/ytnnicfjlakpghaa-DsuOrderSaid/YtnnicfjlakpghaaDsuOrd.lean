/- The law's two classes in memory, joined by the same pairs from either end: they come to the same names. -/
import Derived.Test.YtnnicfjlakpghaaDsuAwake
import Derived.Test.YtnnicfjlakpghaaPairsI
namespace Go.Proofs.Ytnnicfjlakpghaa
open Go.RowKit Go.ChangeShapes Go.Maps DsuPure
def OrdAt (w : World) (b1 g1 m1 b2 g2 m2 n : Nat) (p q : Nat → Nat) (W : World) : Prop :=
  Below w.heap.size w W ∧ ClsAt b1 g1 m1 W n p ∧ ClsAt b2 g2 m2 W n q ∧ (b1 ≠ g2 ∧ b1 ≠ m2 ∧ g1 ≠ g2 ∧ g1 ≠ m2 ∧ m1 ≠ g2 ∧ m1 ≠ m2 ∧ b2 ≠ g1 ∧ b2 ≠ m1) ∧ (w.heap.size ≤ g1 ∧ w.heap.size ≤ m1 ∧ w.heap.size ≤ g2 ∧ w.heap.size ≤ m2)
section
variable {w W W' : World} {b1 g1 m1 b2 g2 m2 n : Nat} {p q p' : Nat → Nat}
theorem OrdAt.turn1 (h : OrdAt w b1 g1 m1 b2 g2 m2 n p q W) (ht : Turns g1 m1 W W') (hc : ClsAt b1 g1 m1 W' n p') : OrdAt w b1 g1 m1 b2 g2 m2 n p' q W' := by
  obtain ⟨h1, h2, h3, h4, h5⟩ := h
  exact ⟨h1.trans (ht.below h1.size h5.1 h5.2.1), hc, h3.past ht ⟨by omega, by omega⟩ ⟨by omega, by omega⟩ ⟨by omega, by omega⟩, h4, h5⟩
theorem OrdAt.turn2 (h : OrdAt w b1 g1 m1 b2 g2 m2 n p q W) (ht : Turns g2 m2 W W') (hc : ClsAt b2 g2 m2 W' n p') : OrdAt w b1 g1 m1 b2 g2 m2 n p p' W' := by
  obtain ⟨h1, h2, h3, h4, h5⟩ := h
  exact ⟨h1.trans (ht.below h1.size h5.2.2.1 h5.2.2.2), h2.past ht ⟨by omega, by omega⟩ ⟨by omega, by omega⟩ ⟨by omega, by omega⟩, hc, h4, h5⟩
theorem OrdAt.keep (h : OrdAt w b1 g1 m1 b2 g2 m2 n p q W) (hb : Below W.heap.size W W') : OrdAt w b1 g1 m1 b2 g2 m2 n p q W' := h.turn1 (Turns.ofBelow hb) (h.2.1.keep hb)
end
theorem ord_start {w w1 w2 : World} {b1 g1 m1 b2 g2 m2 n : Nat} {p q : Nat → Nat} (hb1 : Below w.heap.size w w1) (h1 : w.heap.size ≤ g1 ∧ w.heap.size ≤ m1) (hc1 : ClsAt b1 g1 m1 w1 n p)
    (hb2 : Below w1.heap.size w1 w2) (k1 : w1.heap.size ≤ b2) (k2 : w1.heap.size ≤ g2) (k3 : w1.heap.size ≤ m2) (hc2 : ClsAt b2 g2 m2 w2 n q) : OrdAt w b1 g1 m1 b2 g2 m2 n p q w2 := by
  have hl := hc1.lt
  have s1 := hb1.size
  exact ⟨hb1.trans (hb2.mono s1), hc1.keep hb2, hc2, by omega, by omega⟩
/-- The pairs from the last one on, each turned round. -/
def backL (l : List (Int × Int)) : List (Int × Int) := l.reverse.map fun e => (e.2, e.1)
theorem backL_len (l : List (Int × Int)) : (backL l).length = l.length := by simp [backL]
theorem backL_at {l : List (Int × Int)} {k : Nat} (h : k < (backL l).length) (h' : l.length - 1 - k < l.length) : (backL l)[k] = (l[l.length - 1 - k].2, l[l.length - 1 - k].1) := by
  simp [backL, List.getElem_reverse]
theorem stands_same {n : Nat} {l : List (Int × Int)} {p q : Nat → Nat} (h : Stands n l p) (h' : Stands n (backL l) q) : p = q := by
  refine stands_one h h' (fun e he => ?_) (fun e he => ?_)
  · unfold backL at he
    obtain ⟨x, hx, rfl⟩ := List.mem_map.1 he
    exact Or.inr (List.mem_reverse.1 hx)
  · refine Or.inr ?_
    unfold backL
    exact List.mem_map.2 ⟨e, List.mem_reverse.2 he, rfl⟩
end Go.Proofs.Ytnnicfjlakpghaa
