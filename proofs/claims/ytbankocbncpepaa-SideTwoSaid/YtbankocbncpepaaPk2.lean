/- A block of two or three cells that a call made (a struct's result): what lies in it, over calls and stores. No function of the program is named. -/
import Derived.Test.YtbankocbncpepaaPk1
namespace Go.Proofs.Ytbankocbncpepaa
open Go.RowKit Go.ChangeShapes
def TwoAt (N : Nat) (w : World) (u v : Value) : Prop :=
  w.cell? ⟨N, 0, none⟩ = some u ∧ w.cell? ⟨N, 1, none⟩ = some v ∧ w.frozen? ⟨N, 0, none⟩ = false ∧ w.frozen? ⟨N, 1, none⟩ = false
theorem TwoAt.lt {N : Nat} {w : World} {u v : Value} (h : TwoAt N w u v) : N < w.heap.size := World.block_lt_of_cell? w _ h.1
theorem TwoAt.on {N M : Nat} {w w' : World} {u v : Value} (h : TwoAt N w u v) (hb : Below M w w') (hM : N < M) : TwoAt N w' u v := by
  obtain ⟨h0, h1, f0, f1⟩ := h
  exact ⟨(hb.cell (by exact hM)).trans h0, (hb.cell (by exact hM)).trans h1, (hb.frozen (by exact hM)).trans f0, (hb.frozen (by exact hM)).trans f1⟩
theorem TwoAt.new (w : World) (u v : Value) (T : TypeId) : TwoAt w.heap.size (w.alloc (.cells #[u, v] T)) u v :=
  ⟨by simp, by simp, by simp, by simp⟩
theorem TwoAt.set {N : Nat} {w : World} {u v : Value} (h : TwoAt N w u v) (a b : Value) : TwoAt N ((w.setCell ⟨N, 0, none⟩ a).setCell ⟨N, 1, none⟩ b) a b := by
  obtain ⟨h0, h1, f0, f1⟩ := h
  have h1' : (w.setCell ⟨N, 0, none⟩ a).cell? ⟨N, 1, none⟩ = some v := (World.cell?_setCell_other w ⟨N, 0, none⟩ ⟨N, 1, none⟩ _ (by simp)).trans h1
  refine ⟨(World.cell?_setCell_other _ ⟨N, 1, none⟩ ⟨N, 0, none⟩ _ (by simp)).trans (World.cell?_setCell_same _ _ _ h0), World.cell?_setCell_same _ _ _ h1', ?_, ?_⟩
  · simpa using f0
  · simpa using f1
def ThreeAt (N : Nat) (w : World) (u v x : Value) : Prop :=
  w.cell? ⟨N, 0, none⟩ = some u ∧ w.cell? ⟨N, 1, none⟩ = some v ∧ w.cell? ⟨N, 2, none⟩ = some x ∧ w.frozen? ⟨N, 0, none⟩ = false ∧ w.frozen? ⟨N, 1, none⟩ = false ∧ w.frozen? ⟨N, 2, none⟩ = false
theorem ThreeAt.lt {N : Nat} {w : World} {u v x : Value} (h : ThreeAt N w u v x) : N < w.heap.size := World.block_lt_of_cell? w _ h.1
theorem ThreeAt.on {N M : Nat} {w w' : World} {u v x : Value} (h : ThreeAt N w u v x) (hb : Below M w w') (hM : N < M) : ThreeAt N w' u v x := by
  obtain ⟨h0, h1, h2, f0, f1, f2⟩ := h
  exact ⟨(hb.cell (by exact hM)).trans h0, (hb.cell (by exact hM)).trans h1, (hb.cell (by exact hM)).trans h2, (hb.frozen (by exact hM)).trans f0, (hb.frozen (by exact hM)).trans f1, (hb.frozen (by exact hM)).trans f2⟩
theorem ThreeAt.new (w : World) (u v x : Value) (T : TypeId) : ThreeAt w.heap.size (w.alloc (.cells #[u, v, x] T)) u v x :=
  ⟨by simp, by simp, by simp, by simp, by simp, by simp⟩
theorem ThreeAt.set {N : Nat} {w : World} {u v x : Value} (h : ThreeAt N w u v x) (a b c : Value) : ThreeAt N (((w.setCell ⟨N, 0, none⟩ a).setCell ⟨N, 1, none⟩ b).setCell ⟨N, 2, none⟩ c) a b c := by
  obtain ⟨h0, h1, h2, f0, f1, f2⟩ := h
  have h1' : (w.setCell ⟨N, 0, none⟩ a).cell? ⟨N, 1, none⟩ = some v := (World.cell?_setCell_other w ⟨N, 0, none⟩ ⟨N, 1, none⟩ _ (by simp)).trans h1
  have h2' : ((w.setCell ⟨N, 0, none⟩ a).setCell ⟨N, 1, none⟩ b).cell? ⟨N, 2, none⟩ = some x := (World.cell?_setCell_other _ ⟨N, 1, none⟩ ⟨N, 2, none⟩ _ (by simp)).trans ((World.cell?_setCell_other w ⟨N, 0, none⟩ ⟨N, 2, none⟩ _ (by simp)).trans h2)
  have h0' : ((w.setCell ⟨N, 0, none⟩ a).setCell ⟨N, 1, none⟩ b).cell? ⟨N, 0, none⟩ = some a := (World.cell?_setCell_other _ ⟨N, 1, none⟩ ⟨N, 0, none⟩ _ (by simp)).trans (World.cell?_setCell_same _ _ _ h0)
  refine ⟨(World.cell?_setCell_other _ ⟨N, 2, none⟩ ⟨N, 0, none⟩ _ (by simp)).trans h0', (World.cell?_setCell_other _ ⟨N, 2, none⟩ ⟨N, 1, none⟩ _ (by simp)).trans (World.cell?_setCell_same _ _ _ h1'), World.cell?_setCell_same _ _ _ h2', ?_, ?_, ?_⟩
  · simpa using f0
  · simpa using f1
  · simpa using f2
end Go.Proofs.Ytbankocbncpepaa
