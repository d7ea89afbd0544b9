/- A heap beside blocks of a caller's own: calls on it leave these as they are, stores into these leave it as it is. -/
import Derived.Test.YtndljbkjcgfdcaaHeapAwake
namespace Go.Proofs.Ytndljbkjcgfdcaa
open Go.RowKit Go.ChangeShapes NdPure HpPure HeapPure
/-- From w0 on nothing that was there is otherwise; the heap tells A, and lies apart from the blocks of Q, which are the caller's own. -/
def HpQ (B : Bl) (w0 : World) (Q : Nat → Prop) (A : List (Option Int)) (l : Int) (W : World) : Prop :=
  Below w0.heap.size w0 W ∧ (∀ k, Q k → w0.heap.size ≤ k ∧ k < W.heap.size) ∧ ∃ O, (∀ k, O k → w0.heap.size ≤ k) ∧ (∀ k, Q k → ¬ O k) ∧ HpIs O B W A l W
section
variable {B : Bl} {w0 W W' : World} {Q : Nat → Prop} {A A' : List (Option Int)} {l : Int}
theorem HpIs.at {O : Nat → Prop} (h : HpIs O B w0 A l W) : Turn O w0 W ∧ ∃ O', (∀ k, O' k → O k ∨ w0.heap.size ≤ k) ∧ (∀ k, O' k → k < W.heap.size) ∧ HpIs O' B W A l W := by
  obtain ⟨M, ⟨t, O', o, a⟩, g⟩ := h
  exact ⟨t, O', o, a.lt, M, Hs.start a, g⟩
theorem HpQ.start (h : HpIs (fun _ => False) B w0 A l W) : HpQ B w0 (fun _ => False) A l W := by
  have hb := h.below
  obtain ⟨-, O', o, -, h'⟩ := h.at
  exact ⟨hb, fun k e => e.elim, O', fun k e => (o k e).elim False.elim id, fun k e => e.elim, h'⟩
theorem HpQ.is (h : HpQ B w0 Q A l W) : ∃ O, HpIs O B W A l W := by
  obtain ⟨-, -, O, -, -, h⟩ := h
  exact ⟨O, h⟩
theorem HpQ.keep (h : HpQ B w0 Q A l W) (hb : Below W.heap.size W W') : HpQ B w0 Q A l W' := by
  obtain ⟨h1, h2, O, h3, h4, h5⟩ := h
  have hs := hb.size
  obtain ⟨-, O', o, lt, h6⟩ := (h5.keep hb).at
  refine ⟨h1.trans (hb.mono h1.size), fun k e => ⟨(h2 k e).1, by have := (h2 k e).2; omega⟩, O', fun k e => ?_, fun k e e2 => ?_, h6⟩
  · rcases o k e with e2 | e2
    · exact h3 k e2
    · have := h1.size; omega
  · rcases o k e2 with e3 | e3
    · exact h4 k e e3
    · have := (h2 k e).2; omega
theorem HpQ.drawn (h : HpQ B w0 Q A l W) (k : Nat) : HpQ B w0 Q A l (W.drewN k) := h.keep (below_drewN (Below.refl _ _) k)
theorem HpQ.mono {Q' : Nat → Prop} (h : HpQ B w0 Q A l W) (hq : ∀ k, Q' k → Q k) : HpQ B w0 Q' A l W := by
  obtain ⟨h1, h2, O, h3, h4, h5⟩ := h
  exact ⟨h1, fun k e => h2 k (hq k e), O, h3, fun k e => h4 k (hq k e), h5⟩
/-- The caller's own blocks are turned, and new ones lie behind. -/
theorem HpQ.turn {P : Nat → Prop} (h : HpQ B w0 Q A l W) (ht : Turn P W W') (hp : ∀ k, P k → Q k) : HpQ B w0 Q A l W' := by
  obtain ⟨h1, h2, O, h3, h4, M, ⟨t, O', o, a⟩, g⟩ := h
  have hs := ht.size
  have ha := a.past ht (fun k e e2 => by
    rcases o k e with e3 | e3
    · exact h4 k (hp k e2) e3
    · have := a.lt k e; omega)
  refine ⟨h1.trans (ht.below h1.size (fun k e => (h2 k (hp k e)).1)), fun k e => ⟨(h2 k e).1, by have := (h2 k e).2; omega⟩, O', fun k e => ?_, fun k e e2 => ?_, M, Hs.start ha, g⟩
  · rcases o k e with e2 | e2
    · exact h3 k e2
    · have := h1.size; omega
  · rcases o k e2 with e3 | e3
    · exact h4 k e e3
    · have := (h2 k e).2; omega
/-- A new block of the caller's own. -/
theorem HpQ.more (h : HpQ B w0 Q A l W) (o : Obj) : HpQ B w0 (fun k => Q k ∨ k = W.heap.size) A l (W.alloc o) := by
  have hb := (Below.refl W.heap.size W).alloc (Nat.le_refl _) o
  obtain ⟨h1, h2, O, h3, h4, M, ⟨t, O', oo, a⟩, g⟩ := h
  have hlt := a.lt
  refine ⟨h1.trans (hb.mono h1.size), fun k e => ?_, O', fun k e => ?_, fun k e e2 => ?_, M, Hs.start (a.keep hb), g⟩
  · rcases e with e | e
    · exact ⟨(h2 k e).1, by have := (h2 k e).2; simp; omega⟩
    · exact ⟨by have := h1.size; omega, by simp; omega⟩
  · rcases oo k e with e2 | e2
    · exact h3 k e2
    · have := h1.size; omega
  · rcases e with e | e
    · rcases oo k e2 with e3 | e3
      · exact h4 k e e3
      · have := (h2 k e).2; omega
    · have := hlt k e2; omega
/-- What is new is the caller's own as well. -/
theorem HpQ.grown {P : Nat → Prop} (h : HpQ B w0 Q A l W) (ht : Turn P W W') (hp : ∀ k, P k → Q k) : HpQ B w0 (fun k => Q k ∨ (W.heap.size ≤ k ∧ k < W'.heap.size)) A l W' := by
  obtain ⟨h1, h2, O, h3, h4, M, ⟨t, O', o, a⟩, g⟩ := h
  have hs := ht.size
  have hlt := a.lt
  have d1 : ∀ k, Q k → ¬ O' k := fun k e e2 => by
    rcases o k e2 with e3 | e3
    · exact h4 k e e3
    · have := (h2 k e).2; omega
  refine ⟨h1.trans (ht.below h1.size (fun k e => (h2 k (hp k e)).1)), fun k e => ?_, O', fun k e => ?_, fun k e e2 => ?_, M, Hs.start (a.past ht (fun k e e2 => d1 k (hp k e2) e)), g⟩
  · rcases e with e | e
    · exact ⟨(h2 k e).1, by have := (h2 k e).2; omega⟩
    · exact ⟨by have := h1.size; omega, e.2⟩
  · rcases o k e with e2 | e2
    · exact h3 k e2
    · have := h1.size; omega
  · rcases e with e | e
    · exact d1 k e e2
    · have := hlt k e2; omega
theorem HpQ.call {P : Program} {F : FuncId} {args : Array Value} {E : Ending → Prop} (h : HpQ B w0 Q A l W) (hc : ∀ O, HpIs O B W A l W → Calls P F args W fun e W' => E e ∧ Goes O B W A' l W') :
    Calls P F args W fun e W' => E e ∧ (∃ l', l ≤ l' ∧ l' ≤ l + 4097 ∧ HpQ B w0 Q A' l' W') ∧ ∀ k, Q k → W'.heap[k]? = W.heap[k]? := by
  obtain ⟨h1, h2, O, h3, h4, h5⟩ := h
  obtain ⟨-, O1, o1, lt1, h5'⟩ := h5.at
  have d1 : ∀ k, Q k → ¬ O1 k := fun k e e2 => by
    rcases o1 k e2 with e3 | e3
    · exact h4 k e e3
    · have := (h2 k e).2; omega
  have b1 : ∀ k, O1 k → w0.heap.size ≤ k := fun k e => by
    rcases o1 k e with e2 | e2
    · exact h3 k e2
    · have := h1.size; omega
  refine (hc O1 h5').mono ?_
  rintro e W' ⟨he, l', hl1, hl2, hi⟩
  obtain ⟨t, O', o, lt, hi'⟩ := hi.at
  have hs := t.size
  refine ⟨he, ⟨l', hl1, hl2, h1.trans (t.below h1.size b1), fun k e => ⟨(h2 k e).1, by have := (h2 k e).2; omega⟩, O', fun k e => ?_, fun k e e2 => ?_, hi'⟩, fun k e => t.2.2.2.2 k (h2 k e).2 (d1 k e)⟩
  · rcases o k e with e2 | e2
    · exact b1 k e2
    · have := h1.size; omega
  · rcases o k e2 with e3 | e3
    · exact d1 k e e3
    · have := (h2 k e).2; omega
end
end Go.Proofs.Ytndljbkjcgfdcaa
