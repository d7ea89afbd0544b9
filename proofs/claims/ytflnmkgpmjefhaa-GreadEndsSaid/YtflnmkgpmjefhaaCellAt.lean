/- A block of one cell (a variable that a closure captures): what lies in it, over calls and stores. No function of the program is named. -/
import Derived.Test.YtflnmkgpmjefhaaKit
namespace Go.Proofs.Ytflnmkgpmjefhaa
open Go.RowKit Go.ChangeShapes
def CellAt (N : Nat) (w : World) (v : Value) : Prop := w.cell? ⟨N, 0, none⟩ = some v ∧ w.frozen? ⟨N, 0, none⟩ = false
theorem CellAt.lt {N : Nat} {w : World} {v : Value} (h : CellAt N w v) : N < w.heap.size := World.block_lt_of_cell? w _ h.1
theorem CellAt.on {N M : Nat} {w w' : World} {v : Value} (h : CellAt N w v) (hb : Below M w w') (hM : N < M) : CellAt N w' v :=
  ⟨(hb.cell (by exact hM)).trans h.1, (hb.frozen (by exact hM)).trans h.2⟩
theorem CellAt.keep {N : Nat} {w w' : World} {v : Value} (h : CellAt N w v) (hb : Below w.heap.size w w') : CellAt N w' v := h.on hb h.lt
theorem CellAt.new (w : World) (v : Value) (T : TypeId) : CellAt w.heap.size (w.alloc (.cells #[v] T)) v := ⟨by simp, by simp⟩
theorem CellAt.set {N : Nat} {w : World} {v : Value} (h : CellAt N w v) (u : Value) : CellAt N (w.setCell ⟨N, 0, none⟩ u) u :=
  ⟨World.cell?_setCell_same _ _ _ h.1, by simpa using h.2⟩
theorem CellAt.past {N M : Nat} {w : World} {v : Value} (h : CellAt N w v) (hM : M ≠ N) (u : Value) : CellAt N (w.setCell ⟨M, 0, none⟩ u) v :=
  ⟨(World.cell?_setCell_other w ⟨M, 0, none⟩ ⟨N, 0, none⟩ _ (fun e => hM (congrArg Addr.block e))).trans h.1, by simpa using h.2⟩
end Go.Proofs.Ytflnmkgpmjefhaa
