/- A row of words of 64 bits in memory, behind calls that turn it, draw, and make memory of their own. -/
import Derived.Sort.AssemblyPlain
import Derived.Sort.Grow
import Derived.CellFam
import Derived.BigGuard
import Derived.BigCall
import Derived.Deep.Draws
import Derived.Deep.QuietTactic
import Derived.BigQuiet
import Derived.Test.YtbebnhadgbkepaaForderMem
namespace Go.Proofs.Ytbebnhadgbkepaa
open Go.RowKit ForderPure
open Go.Sort hiding Below
/-- w0 with d in the row, further draws and new blocks: nothing else. -/
def RowAt (w0 : World) (blk off : Nat) (d : Array Nat) (w : World) : Prop := ∃ n os, w = grow (putRow encU (Sort.ahead w0 n) blk off d) os
theorem RowAt.start {w : World} {blk off : Nat} {d : Array Nat} (h : Holds encU w blk off d) : RowAt w blk off d w :=
  ⟨0, #[], by rw [ahead_zero, putRow_self _ _ _ _ _ h, grow_empty]⟩
theorem RowAt.cell {w0 w : World} {blk off : Nat} {d0 d : Array Nat} (h : RowAt w0 blk off d w) (hH : Holds encU w0 blk off d0) (hb : blk < w0.heap.size) (hs : d.size = d0.size) {x : Nat} (hx : x < d0.size) :
    w.cell? ⟨blk, off + x, none⟩ = some (.int .u64 (d[x]! : Int)) := by
  obtain ⟨n, os, rfl⟩ := h
  rw [cell?_grow _ _ _ (by simpa using hb)]
  exact cell?_putRow encU _ _ _ d0 d (holds_ahead _ _ _ _ _ _ hH) hs x (by omega)
theorem RowAt.frozen {w0 w : World} {blk off : Nat} {d0 d : Array Nat} (h : RowAt w0 blk off d w) (hH : Holds encU w0 blk off d0) (hb : blk < w0.heap.size) {x : Nat} (hx : x < d0.size) :
    w.frozen? ⟨blk, off + x, none⟩ = false := by
  obtain ⟨n, os, rfl⟩ := h
  rw [frozen?_grow _ _ _ (by simpa using hb), frozen?_putRow]
  exact (holds_ahead _ _ n _ _ _ hH x hx).2
theorem RowAt.holds {w0 w : World} {blk off : Nat} {d0 d : Array Nat} (h : RowAt w0 blk off d w) (hH : Holds encU w0 blk off d0) (hb : blk < w0.heap.size) (hs : d.size = d0.size) : Holds encU w blk off d :=
  fun j hj => ⟨h.cell hH hb hs (by omega), h.frozen hH hb (by omega)⟩
theorem RowAt.size {w0 w : World} {blk off : Nat} {d : Array Nat} (h : RowAt w0 blk off d w) : w0.heap.size ≤ w.heap.size := by
  obtain ⟨n, os, rfl⟩ := h
  simp
theorem RowAt.drewN {w0 w : World} {blk off : Nat} {d : Array Nat} (h : RowAt w0 blk off d w) (q : Nat) : RowAt w0 blk off d (w.drewN q) := by
  obtain ⟨n, os, rfl⟩ := h
  refine ⟨n + q, os, ?_⟩
  show Sort.ahead (grow (putRow encU (Sort.ahead w0 n) blk off d) os) q = _
  rw [ahead_grow, putRow_ahead encU w0 n, ahead_ahead, ← putRow_ahead]
theorem RowAt.trans {w0 w w' : World} {blk off : Nat} {d d' : Array Nat} (h : RowAt w0 blk off d w) (h' : RowAt w blk off d' w') (hb : blk < w0.heap.size) (hs : d'.size = d.size) : RowAt w0 blk off d' w' := by
  obtain ⟨n, os, rfl⟩ := h
  obtain ⟨m, os', rfl⟩ := h'
  exact ⟨n + m, os ++ os', grow_step_grow encU w0 os os' n m blk off d d' hb hs⟩
theorem RowAt.alloc {w0 w : World} {blk off : Nat} {d : Array Nat} (h : RowAt w0 blk off d w) (o : Obj) : RowAt w0 blk off d (w.alloc o) := by
  obtain ⟨n, os, rfl⟩ := h
  exact ⟨n, os ++ #[o], by rw [alloc_eq_grow, grow_grow]⟩
theorem RowAt.set {w0 w : World} {blk off : Nat} {d : Array Nat} (h : RowAt w0 blk off d w) (hb : blk < w0.heap.size) {j : Nat} (hj : j < d.size) (x : Nat) :
    RowAt w0 blk off (d.setIfInBounds j x) (w.setCell ⟨blk, off + j, none⟩ (.int .u64 (x : Int))) := by
  obtain ⟨n, os, rfl⟩ := h
  refine ⟨n, os, ?_⟩
  rw [setCell_eq, mapBlock_grow _ _ _ _ (by simpa using hb), ← setCell_eq]
  exact congrArg (fun z => grow z os) (putRow_set encU (Sort.ahead w0 n) blk off d j x hj)
theorem RowAt.swap {w0 w : World} {blk off : Nat} {d : Array Nat} (h : RowAt w0 blk off d w) (hb : blk < w0.heap.size) {j k : Nat} (hj : j < d.size) (hk : k < d.size) (q : Nat) :
    RowAt w0 blk off (swp d j k) (((w.drewN q).setCell ⟨blk, off + j, none⟩ (.int .u64 (d[k]! : Int))).setCell ⟨blk, off + k, none⟩ (.int .u64 (d[j]! : Int))) :=
  ((h.drewN q).set hb hj _).set hb (by simpa using hk) _
theorem RowAt.below {w0 w : World} {blk off : Nat} {d : Array Nat} (h : RowAt w0 blk off d w) (hb : blk < w0.heap.size) : Below blk w0 w := by
  obtain ⟨n, os, rfl⟩ := h
  refine ⟨rfl, rfl, rfl, by simp, fun k hk => ?_⟩
  rw [heap_grow_old _ _ (by simp; omega)]
  simp only [putRow, mapBlock, Array.getElem?_modify, heap_ahead]
  rw [if_neg (by omega)]
/-- What a call leaves that turns the row's places from a to b among themselves. -/
def Turned (w0 : World) (blk off a b : Nat) (d : Array Nat) (Q : Array Nat → Prop) (w : World) : Prop := ∃ d', RowAt w0 blk off d' w ∧ PermIn a b d d' ∧ Q d'
theorem swo_lt : SWO ltB where
  irrefl x := by unfold ltB; simp
  trans x y z := by unfold ltB; simp; omega
  ntrans x y z := by unfold ltB; simp; omega
theorem lt_total (x y : Nat) (h1 : ltB x y = false) (h2 : ltB y x = false) : x = y := by unfold ltB at h1 h2; simp at h1 h2; omega
/-- A row's contents under a name of their own. -/
theorem named (d : Array Nat) : ∃ G : Nat → Nat, ∀ t, G t = d[t]! := ⟨fun t => d[t]!, fun _ => rfl⟩
theorem key_less (x y : Nat) (w : World) : Calls Try.prog 47 #[.int .u64 x, .int .u64 y] w fun e w' => e = .returned (.bool (ltB x y)) ∧ w' = w :=
  (less_any x y w).mono fun _ _ ⟨h1, h2⟩ => ⟨by rw [h1]; unfold ltB; simp, h2.symm⟩
end Go.Proofs.Ytbebnhadgbkepaa
