/- A range over a method value whose body always goes on: what the caller owes, where the iterator's contract hands over a known list. No function of the program is named. -/
import Derived.Test.YtceejjgmepaonaaDoorPk1
import Derived.RangeFuncNested
import Derived.RangeFuncBound
import Derived.RangeFuncCalls
import Derived.RangeFuncLeaves
import Derived.RangeFuncBox
import Derived.Shelf.Abstract
import Derived.Shelf.RegionOpen
import Derived.OwnWalkIn
import Derived.TacticsInMore
import Derived.LoopNIn
import Derived.LoopIn
namespace Go.Proofs.YtceejjgmepaonaaDoor
open Go.RowKit
/-- A round's body falls off its end: what it keeps, and what holds then. -/
def staysOn {α : Type} (B : Nat) (I : List α → World → Prop) (ys : List α) (W : World) : Exit → Act → World → Prop
  | .normal, _, W' => KeepsFrom B W W' ∧ I ys W'
  | _, _, _ => False
/-- The range: the method value has its receiver bound ahead of yield; the iterator hands over just xs; the caller's word I speaks of its own cells. -/
theorem range_bound {α : Type} {P : Program} {n : Nat} {g : Operand} {p : Tmp} {assign body : Code} {Q : Exit → Act → World → Prop} {a : Act} {w : World} (h1 : 1 ≤ n)
    {gf : Nat} {recv : Array Value} (hg : a.eval g = .func (.func gf) recv #[]) (eg : ∀ args w, (callFunc gf args).run P w = .ok (.enter gf args) w)
    (enc : α → Value) (xs : List α) (I : List α → World → Prop) (hI : OwnFrom w.heap.size I) (h0 : I [] w)
    (hit : ∀ (l : Nat) (J : List α → World → Prop) (W : World), (∀ ys W', J ys W' → I ys W') →
      (∀ pre x rest W', xs = pre ++ x :: rest → J pre W' → YieldAt Fence.wide (n - 1 - 1) P l #[enc x] W' fun e V => e = .returned (.bool true) ∧ J (pre ++ [x]) V) → J [] W →
      CallsIn Fence.wide (n - 1) P gf (recv ++ #[.func (.yield l) #[] #[]]) W fun e V => (∃ v, e = .returned v) ∧ J xs V)
    (a₁ : α → Act)
    (hassign : ∀ (l : Nat) (x : α) (W : World) (K : Act → World → Prop), K (a₁ x) W →
      assign.wpIn (Fence.wide.inRound l) (n - 1 - 1) P (Exit.then K (fun _ _ _ => False)) { tmps := a.tmps.setIfInBounds p (enc x), defers := [] } W)
    (hbody : ∀ (l : Nat) (pre : List α) (x : α) (rest : List α) (W : World), xs = pre ++ x :: rest → I pre W → body.wpIn (Fence.wide.inRound l) (n - 1 - 1) P (staysOn w.heap.size I (pre ++ [x]) W) (a₁ x) W)
    (hdone : ∀ (D : Nat) (W : World), w.heap.size ≤ D → I xs W → W.heap[D]? = some (.deferred (some [])) → Q .normal { a with defers := { target := .collected D, args := #[] } :: a.defers } W) :
    (Code.rangeFunc g #[p] assign body).wpIn Fence.wide n P Q a w := by
  refine wpIn_rangeFunc ?_
  intro fn hfn
  let L : LoopState → Loop := fun st => { state := st, pending := none, fn := fn, tmps := a.tmps, params := #[p], assign := assign, body := body, defers := w.heap.size }
  let D := w.heap.size
  let l := w.heap.size + 1
  obtain ⟨W1, hW1⟩ : ∃ W1, W1 = (w.alloc (.deferred (some []))).alloc (.loop (L .ready)) := ⟨_, rfl⟩
  have loopAt : W1.heap[l]? = some (.loop (L .ready)) := by
    have := World.alloc_heap_new (w.alloc (.deferred (some []))) (.loop (L .ready))
    rw [World.size_alloc] at this
    rw [hW1]; exact this
  have markAt : W1.heap[D]? = some (.deferred (some [])) := by
    rw [hW1]; exact (Below.heap_alloc _ _ _ (by simp [D])).trans (World.alloc_heap_new w _)
  let J : List α → World → Prop := fun ys W => I ys W ∧ W.heap[l]? = some (.loop (L .ready)) ∧ W.heap[D]? = some (.deferred (some []))
  refine ⟨l, [{ target := .collected D, args := #[] }], W1, { target := .fn (.func gf) #[], args := recv ++ #[.func (.yield l) #[] #[]] }, W1, gf, recv ++ #[.func (.yield l) #[] #[]], W1, ?_, ?_, ?_, ?_, fun _ => h1, ?_⟩
  · rw [hW1]; exact run_enterLoop_outer _ _ _ _ _
  · simp only [resolve, hg]
    simp [go_sem]
  · intro f' hf'; trivial
  · simp [invoke, go_sem, eg]
  · refine (hit l J W1 (fun ys W' h => h.1) ?_ ⟨by rw [hW1]; exact hI.alloc _ (hI.alloc _ h0), loopAt, markAt⟩).mono ?_
    · rintro pre x rest W hx ⟨hi, hl, hd⟩
      have hlt : l < W.heap.size := (Array.getElem?_eq_some_iff.1 hl).1
      have hy : (Instr.yield l #[enc x]).run P W = .ok (.round l fn (a.tmps.setIfInBounds p (enc x)) assign body) W := by
        have h := run_yield (P := P) (args := #[enc x]) hl rfl
        simpa [L] using h
      refine ⟨fn, _, assign, body, hy, roundIn_of_wpIn hfn ?_⟩
      refine hassign l x W _ ?_
      refine ⟨_, run_beginRound hl rfl, ?_⟩
      have busy : (W.putObj l (.loop (L .busy))).heap[l]? = some (.loop (L .busy)) := World.putObj_heap_same hlt
      have mark2 : (W.putObj l (.loop (L .busy))).heap[D]? = some (.deferred (some [])) := (World.putObj_heap_other (by simp [D, l])).trans hd
      refine wpIn_mono (hbody l pre x rest (W.putObj l (.loop (L .busy))) hx (hI.putObj _ hi (by simp [l]) hl rfl)) ?_
      intro e act W3 hp
      cases e with
      | normal =>
        obtain ⟨hk, hi3⟩ := hp
        have hl3 := hk.same l _ (by simp [l]) busy rfl
        have hd3 := hk.same D _ (by simp [D]) mark2 rfl
        exact ⟨_, _, run_endRound (P := P) none hl3, rfl, hI.putObj _ hi3 (by simp [l]) hl3 rfl, World.putObj_heap_same (Array.getElem?_eq_some_iff.1 hl3).1, (World.putObj_heap_other (by simp [D, l])).trans hd3⟩
      | ret => exact hp.elim
      | exit id => exact hp.elim
      | goto t => exact hp.elim
      | panic c => exact hp.elim
      | outgrown => exact hp.elim
    · rintro e W2 ⟨⟨v, rfl⟩, hi, hl, hd⟩
      exact ⟨none, _, run_endLoop (P := P) hl (by simp [L]), hdone D _ (Nat.le_refl _) (hI.putObj _ hi (by simp [l]) hl rfl) ((World.putObj_heap_other (by simp [D, l])).trans hd)⟩
end Go.Proofs.YtceejjgmepaonaaDoor
