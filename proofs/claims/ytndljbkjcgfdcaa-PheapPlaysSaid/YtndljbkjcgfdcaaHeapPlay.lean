/- The law's plays in memory: the program's heap, the document's beside it, and blocks of the caller's own; what a call makes of what is meant; a list of calls. -/
import Derived.Test.YtndljbkjcgfdcaaHeapPopR
import Derived.ChangeSlices
import Derived.Deep.Slices
import Derived.Deep.SlicePairs
import Derived.ChangeSame
namespace Go.Proofs.Ytndljbkjcgfdcaa
open Go.RowKit Go.ChangeShapes NdPure HpPure HeapPure
/-- What a call makes of a heap: 0 Push, 1 Raise, 2 Pop, 3 Drop; else nothing. -/
def stepA (A : List (Option Int)) (ko v key : Int) : List (Option Int) :=
  if ko = 0 then pushA A v key else if ko = 1 then raiseA A v key else if ko = 3 then dropA A v else if ko = 2 then popA A else A
theorem len_push' (A : List (Option Int)) (v key : Int) : (pushA A v key).length = A.length := by unfold pushA; split <;> simp
/-- The program's heap tells A, the document's A2; both, and the caller's own, lie apart. -/
def PlayQ (w : World) (B : Bl) (R : Rb) (Q : Nat → Prop) (A A2 : List (Option Int)) (lk : Int) (W : World) : Prop :=
  HpQ B w Q A lk W ∧ RfAt R W A2 ∧ ∀ k, RQ R k → Q k
section
variable {w W W' : World} {B : Bl} {R : Rb} {Q : Nat → Prop} {A A2 A' A2' : List (Option Int)} {lk : Int}
theorem PlayQ.below (h : PlayQ w B R Q A A2 lk W) : Below w.heap.size w W := h.1.1
theorem PlayQ.keep (h : PlayQ w B R Q A A2 lk W) (hb : Below W.heap.size W W') : PlayQ w B R Q A A2 lk W' := ⟨h.1.keep hb, h.2.1.keep hb, h.2.2⟩
theorem PlayQ.drawn (h : PlayQ w B R Q A A2 lk W) (n : Nat) : PlayQ w B R Q A A2 lk (W.drewN n) := h.keep (below_drewN (Below.refl _ _) n)
theorem PlayQ.more (h : PlayQ w B R Q A A2 lk W) (o : Obj) : PlayQ w B R (fun k => Q k ∨ k = W.heap.size) A A2 lk (W.alloc o) :=
  ⟨h.1.more o, h.2.1.keep ((Below.refl _ _).alloc (Nat.le_refl _) o), fun k e => Or.inl (h.2.2 k e)⟩
theorem PlayQ.mono {Q' : Nat → Prop} (h : PlayQ w B R Q A A2 lk W) (hq : ∀ k, Q' k → Q k) (hr : ∀ k, RQ R k → Q' k) : PlayQ w B R Q' A A2 lk W := ⟨h.1.mono hq, h.2.1, hr⟩
/-- A call on the program's heap. -/
theorem PlayQ.call {P : Program} {F : FuncId} {args : Array Value} {E : Ending → Prop} (h : PlayQ w B R Q A A2 lk W) (hc : ∀ O, HpIs O B W A lk W → Calls P F args W fun e W' => E e ∧ Goes O B W A' lk W') :
    Calls P F args W fun e W' => E e ∧ (∃ l', lk ≤ l' ∧ l' ≤ lk + 4097 ∧ PlayQ w B R Q A' A2 l' W') ∧ ∀ k, Q k → W'.heap[k]? = W.heap[k]? := by
  obtain ⟨h1, h2, h3⟩ := h
  refine (h1.call hc).mono ?_
  rintro e W' ⟨he, ⟨l', b1, b2, h4⟩, hk⟩
  exact ⟨he, ⟨l', b1, b2, h4, h2.same (fun k e => hk k (h3 k e)) (fun k e => (h4.2.1 k (h3 k e)).2), h3⟩, hk⟩
/-- A call on the document's heap. -/
theorem PlayQ.ref (h : PlayQ w B R Q A A2 lk W) (ht : Turn (RQ R) W W') (hr : RfAt R W' A2') : PlayQ w B R Q A A2' lk W' ∧ ∀ k, Q k → ¬ RQ R k → W'.heap[k]? = W.heap[k]? :=
  ⟨⟨h.1.turn ht h.2.2, hr, h.2.2⟩, fun k hk hn => ht.2.2.2.2 k (h.1.2.1 k hk).2 hn⟩
/-- A store into a block of the caller's own. -/
theorem PlayQ.put {P : Nat → Prop} (h : PlayQ w B R Q A A2 lk W) (ht : Turn P W W') (hp : ∀ k, P k → Q k) (hn : ∀ k, P k → ¬ RQ R k) : PlayQ w B R Q A A2 lk W' :=
  ⟨h.1.turn ht hp, h.2.1.same (fun k e => ht.2.2.2.2 k (h.2.1.lt k e) (fun e2 => hn k e2 e)) (fun k e => Nat.lt_of_lt_of_le (h.2.1.lt k e) ht.size), h.2.2⟩
end
/-- A list of calls in memory. -/
def ReadsOp (N : Nat) (w : World) (a : Option Addr) (l : List (Int × Int × Int)) : Prop :=
  l = [] ∨ ∃ b off, a = some ⟨b, off, none⟩ ∧ b < N ∧ ∀ i (h : i < l.length), w.cell? ⟨b, off + i * 3, none⟩ = some (.int .i64 l[i].1) ∧ w.cell? ⟨b, off + i * 3 + 1, none⟩ = some (.int .i64 l[i].2.1) ∧ w.cell? ⟨b, off + i * 3 + 2, none⟩ = some (.int .i64 l[i].2.2)
theorem ReadsOp.at {w W : World} {a : Option Addr} {l : List (Int × Int × Int)} (h : ReadsOp w.heap.size w a l) (hb : Below w.heap.size w W) {k : Nat} (hk : k < l.length) :
    ∃ b off, a = some ⟨b, off, none⟩ ∧ b < W.heap.size ∧ W.cell? ⟨b, off + k * 3, none⟩ = some (.int .i64 l[k].1) ∧ W.cell? ⟨b, off + k * 3 + 1, none⟩ = some (.int .i64 l[k].2.1) ∧ W.cell? ⟨b, off + k * 3 + 2, none⟩ = some (.int .i64 l[k].2.2) := by
  rcases h with h | ⟨b, off, ha, hN, hc⟩
  · subst h; simp at hk
  · obtain ⟨h0, h1, h2⟩ := hc k hk
    exact ⟨b, off, ha, Nat.lt_of_lt_of_le hN hb.size, (hb.cell (p := ⟨b, off + k * 3, none⟩) hN).trans h0, (hb.cell (p := ⟨b, off + k * 3 + 1, none⟩) hN).trans h1, (hb.cell (p := ⟨b, off + k * 3 + 2, none⟩) hN).trans h2⟩
open Go.WideShapes in
theorem open_ops {H : Type} {enc : TypeId × Value → H} {W : World} {base fuel : Nat} {a : Option Addr} {len cap : Nat} {x : DataW H × List MemPlace}
    (hf : DataW.trod enc Try.prog W base (fun _ => true) true fuel 22 (Value.slice a len cap).cells.toList = some x) :
    ∃ l : List (Int × Int × Int), l.length = len ∧ ReadsOp W.heap.size W a l ∧ l.length ≤ maxLen := by
  rcases Go.Deep.open_slice Try.underlying22 hf with ⟨hcs, _⟩ | ⟨y, ln, c, m, n, D, Pl, hcs, _, hl, hm, hmm, _, hx⟩
  · simp [Value.cells] at hcs
    obtain ⟨rfl, rfl, rfl⟩ := hcs
    exact ⟨[], rfl, Or.inl rfl, Nat.zero_le _⟩
  · simp [Value.cells] at hcs
    obtain ⟨rfl, rfl, rfl⟩ := hcs
    have hmc : m = cap := by simpa using hmm
    subst hmc
    have ce : Try.prog.cellsOf 35 = 3 := by kernel_rfl
    have each : ∀ i, i < m → ∃ q : Int × Int × Int, W.cell? (y.add (i * 3)) = some (.int .i64 q.1) ∧ W.cell? (y.add (i * 3 + 1)) = some (.int .i64 q.2.1) ∧ W.cell? (y.add (i * 3 + 2)) = some (.int .i64 q.2.2) := by
      intro i hi
      obtain ⟨cs', h1, h2⟩ := hx i hi
      rw [ce] at h1
      obtain ⟨_, hlen, hcell⟩ := World.cells?_some h1
      obtain ⟨xs, k, hk, hxy, _, hxl, hfl⟩ := DataW.trod_struct Try.underlying35 h2
      match xs, hxl, cs', hlen with
      | [y0, y1, y2], _, [v0, v1, v2], _ =>
        have g0 := hfl 0 _ rfl
        have g1 := hfl 1 _ rfl
        have g2 := hfl 2 _ rfl
        have ci : Try.prog.cellsOf 3 = 1 := by kernel_rfl
        have ci2 : Try.prog.cellsOf 2 = 1 := by kernel_rfl
        simp [ci, ci2] at g0 g1 g2
        have e0 := hcell 0 (by omega)
        have e1 := hcell 1 (by omega)
        have e2 := hcell 2 (by omega)
        rw [Go.Deep.add_add] at e0 e1 e2
        obtain ⟨n0, q0, -, -⟩ := DataW.trod_int (t := 3) Try.underlying3 g0
        obtain ⟨n1, q1, -, -⟩ := DataW.trod_int (t := 3) Try.underlying3 g1
        obtain ⟨n2, q2, -, -⟩ := DataW.trod_int (t := 2) Try.underlying2 g2
        have q0' : v0 = .int .i64 n0 := by simpa using q0
        have q1' : v1 = .int .i64 n1 := by simpa using q1
        have q2' : v2 = .int .i64 n2 := by simpa using q2
        subst q0' q1' q2'
        exact ⟨(n0, n1, n2), by simpa using e0, by simpa using e1, by simpa using e2⟩
    obtain ⟨q, hq⟩ := Go.Deep.choose_lt each
    refine ⟨(List.range len).map q, by simp, ?_, by simp; omega⟩
    by_cases h0 : len = 0
    · left; simp [h0]
    · right
      have hz := (hq 0 (by omega)).1
      obtain ⟨b, off, spot⟩ := y
      have hspot : spot = none := by simpa [Addr.add] using World.cell?_spot hz
      subst hspot
      refine ⟨b, off, rfl, World.block_lt_of_cell? W _ hz, fun i h => ?_⟩
      have hil : i < len := by simpa using h
      obtain ⟨g0, g1, g2⟩ := hq i (by omega)
      rw [addr_add] at g0 g1 g2
      rw [List.getElem_map, List.getElem_range]
      exact ⟨g0, g1, g2⟩
end Go.Proofs.Ytndljbkjcgfdcaa
