/- Contracts of countSplit and Split. -/
import Derived.Test.YtaoocokcfppmaaaEdCode
import Derived.Maps.AppendAt
namespace Go.Proofs.Ytaoocokcfppmaaa
open Go.RowKit Go.ChangeShapes EdPure NumPure
theorem ret_n2 {a b : Int} {c d : Bool} (h1 : a = b) (h2 : c = d) : Ending.returned (.tuple #[.int .i64 a, .bool c]) = .returned (.tuple #[.int .i64 b, .bool d]) := by rw [h1, h2]
theorem three_same {b : Nat} {w w' : World} {u v x : Value} (h : ThreeAt b w u v x) (hk : w'.heap[b]? = w.heap[b]?) : ThreeAt b w' u v x := by
  obtain ⟨h0, h1, h2, f0, f1, f2⟩ := h
  exact ⟨(World.cell?_of_block hk).trans h0, (World.cell?_of_block hk).trans h1, (World.cell?_of_block hk).trans h2, (World.frozen?_of_block hk).trans f0, (World.frozen?_of_block hk).trans f1, (World.frozen?_of_block hk).trans f2⟩
def cntR (l : List Ed) : Nat := if splitB l = true then cntL l else 0
def CntRel (w : World) (l : List Ed) (k : Nat) (wr : World) : Prop := k ≤ l.length ∧ Below w.heap.size w wr ∧ (∀ j (hj : j < l.length), j < k → 0 ≤ l[j].2.2) ∧ cntL (l.take k) ≤ 1048576
theorem CntRel.next {w wr w' : World} {l : List Ed} {k : Nat} (h : CntRel w l k wr) (hk : k < l.length) (h0 : 0 ≤ l[k].2.2) (hb : Below w.heap.size w w') (hc : cntL (l.take (k + 1)) ≤ 1048576) : CntRel w l (k + 1) w' := by
  refine ⟨hk, hb, fun j hj hlt => ?_, hc⟩
  by_cases e : j = k
  · subst e; exact h0
  · exact h.2.2.1 j hj (by omega)
theorem owns_other {w : World} {B : Nat} {e : TypeId} {size n : Nat} {v : Value} {xs : List Value} (h : w.ownsRow B e size v n xs) {p : Addr} (hp : v.ownBlock ≠ some p.block) (u : Value) : (w.setCell p u).ownsRow B e size v n xs := by
  obtain ⟨h1, h2 | ⟨g, cap, cur, rfl, h3, h4, h5⟩⟩ := h
  · exact ⟨h1, Or.inl h2⟩
  · have hne : g ≠ p.block := fun e => hp (by simp [Value.ownBlock, e])
    exact ⟨h1, Or.inr ⟨g, cap, cur, rfl, h3, (by
      unfold World.setCell
      simp only [Array.getElem?_modify]
      rw [if_neg (fun e => hne e.symm)]
      exact h4), h5⟩⟩
/-- While an edge is cut: what was gathered, the variable's cells. -/
def SplSt (w1 : World) (B : Nat) (G : List Ed) (s : Value) (u v x : Int) (wr : World) : Prop :=
  GrowE w1 G s wr ∧ ThreeAt B wr (.int .i64 u) (.int .i64 v) (.int .i64 x) ∧ s.ownBlock ≠ some B ∧ w1.heap.size ≤ B
section
variable {w1 wr w' : World} {B : Nat} {G : List Ed} {s s' : Value} {u v x : Int}
theorem SplSt.start (h : GrowE w1 G s wr) (T : TypeId) : SplSt w1 wr.heap.size G s u v x (wr.alloc (.cells #[.int .i64 u, .int .i64 v, .int .i64 x] T)) :=
  ⟨h.on ((Below.refl _ _).alloc (Nat.le_refl _) _), ThreeAt.new _ _ _ _ _, fun e => by have := (h.2.lt _ e).2; omega, h.1.size⟩
theorem SplSt.step (h : SplSt w1 B G s u v x wr) (e : Ed) {o : Obj} (h1 : w'.ownsRow w1.heap.size 48 3 s' (G.length + 1) (flatE G ++ cellE e)) (hg : (wr.alloc o).grownBy w' s.ownBlock) (hl : s'.ownBlock = s.ownBlock ∨ s'.ownBlock = some (wr.alloc o).heap.size) :
    SplSt w1 B (G ++ [e]) s' u v x w' := by
  obtain ⟨g1, g2, g3, g4⟩ := h
  have hB := g2.lt
  have g2' := g2.on ((Below.refl wr.heap.size wr).alloc (Nat.le_refl _) o) hB
  refine ⟨g1.step e h1 hg, three_same g2' (hg.block B (by simp; omega) (fun e => g3 e.symm)), ?_, g4⟩
  rcases hl with hl | hl
  · rw [hl]; exact g3
  · rw [hl]
    intro e
    have := Option.some.inj e
    simp at this
    omega
theorem SplSt.store (h : SplSt w1 B G s u v x wr) (y : Int) : SplSt w1 B G s u v y (wr.setCell ⟨B, 2, none⟩ (.int .i64 y)) := by
  obtain ⟨g1, ⟨c0, c1, c2, f0, f1, f2⟩, g3, g4⟩ := h
  refine ⟨⟨g1.1.setCell g4 _, owns_other g1.2 (p := ⟨B, 2, none⟩) g3 _⟩, ⟨?_, ?_, World.cell?_setCell_same _ _ _ c2, by simpa using f0, by simpa using f1, by simpa using f2⟩, g3, g4⟩
  · exact (World.cell?_setCell_other wr ⟨B, 2, none⟩ ⟨B, 0, none⟩ _ (by simp)).trans c0
  · exact (World.cell?_setCell_other wr ⟨B, 2, none⟩ ⟨B, 1, none⟩ _ (by simp)).trans c1
end
end Go.Proofs.Ytaoocokcfppmaaa
