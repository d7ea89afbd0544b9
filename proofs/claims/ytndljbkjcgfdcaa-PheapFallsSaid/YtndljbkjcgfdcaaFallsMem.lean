/- The law on falling keys in memory: the heap, and the list of keys as they are now beside it; an argument []int64. -/
import Derived.Test.YtndljbkjcgfdcaaHeapQ
import Derived.Test.YtndljbkjcgfdcaaFallsPure
import Derived.ChangeOld
import Derived.ChangeSlices
import Derived.WalkKit
import Derived.ProofKit
import Derived.OpenShut
import Derived.Maps.AppendAt
namespace Go.Proofs.Ytndljbkjcgfdcaa
open Go.RowKit Go.ChangeShapes Go.WideShapes Go.ChangeAt NdPure HpPure HeapPure
/-- What is told of a list of numbers that came in. -/
def ReadsC (W : World) (cap : Nat) (a : Option Addr) (l : List Int) : Prop := ReadsL encZ W.heap.size W a l ∧ (a = none → cap = 0)
theorem open_ints64C {H : Type} {enc : TypeId × Value → H} {W : World} {base fuel : Nat} {a : Option Addr} {len cap : Nat} {x : DataW H × List MemPlace}
    (hf : DataW.trod enc Try.prog W base (fun _ => true) true fuel 30 (Value.slice a len cap).cells.toList = some x) :
    ∃ l : List Int, l.length = len ∧ ReadsC W cap a l ∧ l.length ≤ maxLen := by
  obtain ⟨z0, w0, hc⟩ : ∃ zs, IsRow .i64 W a len cap zs ∧ (a = none → cap = 0) := by
    rcases open_ints Try.underlying30 Try.underlying2 (by kernel_rfl) hf with ⟨hcs, _⟩ | ⟨x, l, c, zs, hcs, _, hl, hm, hz, _, hcell, hwz⟩
    · simp [Value.cells] at hcs
      obtain ⟨rfl, rfl, rfl⟩ := hcs
      exact ⟨[], .inl ⟨rfl, rfl, rfl, rfl⟩, fun _ => rfl⟩
    · simp [Value.cells] at hcs
      obtain ⟨rfl, rfl, rfl⟩ := hcs
      exact ⟨zs, .inr ⟨_, rfl, hl, hm, by simpa using hz, hcell, hwz⟩, fun e => by cases e⟩
  obtain ⟨l, h1, -, h3, h4, -⟩ := row_reads w0
  exact ⟨l, h1, ⟨h3, hc⟩, by omega⟩
/-- The heap tells A, the list beside it N. -/
def FallAt (w : World) (B : Bl) (N : List Int) (v : Value) (A : List (Option Int)) (lk : Int) (W : World) : Prop :=
  HpQ B w (fun k => v.ownBlock = some k) A lk W ∧ W.ownsRow w.heap.size 2 1 v N.length (N.map encZ)
section
variable {w W W' : World} {B : Bl} {N : List Int} {v v' : Value} {A A' : List (Option Int)} {lk : Int}
theorem FallAt.below (h : FallAt w B N v A lk W) : Below w.heap.size w W := h.1.1
theorem FallAt.keep (h : FallAt w B N v A lk W) (hb : Below W.heap.size W W') : FallAt w B N v A lk W' := ⟨h.1.keep hb, owns_below h.2 hb⟩
theorem FallAt.drawn (h : FallAt w B N v A lk W) (k : Nat) : FallAt w B N v A lk (W.drewN k) := h.keep (below_drewN (Below.refl _ _) k)
theorem FallAt.call {P : Program} {F : FuncId} {args : Array Value} {E : Ending → Prop} (h : FallAt w B N v A lk W) (hc : ∀ O, HpIs O B W A lk W → Calls P F args W fun e W' => E e ∧ Goes O B W A' lk W') :
    Calls P F args W fun e W' => E e ∧ ∃ l', lk ≤ l' ∧ l' ≤ lk + 4097 ∧ FallAt w B N v A' l' W' := by
  refine (h.1.call hc).mono ?_
  rintro e W' ⟨he, ⟨l', h1, h2, h3⟩, hk⟩
  exact ⟨he, l', h1, h2, h3, owns_same h.2 hk⟩
theorem FallAt.get (h : FallAt w B N v A lk W) {i : Nat} (hi : i < N.length) : ∃ g c, v = .slice (some ⟨g, 0, none⟩) N.length c ∧ g < W.heap.size ∧ W.cell? ⟨g, i, none⟩ = some (.int .i64 N[i]) ∧ W.frozen? ⟨g, i, none⟩ = false := by
  obtain ⟨g, c, rfl, -, hg⟩ := owns_slice h.2 (by omega)
  have hc := h.2.cellAt i (by omega)
  rw [List.getElem?_map, List.getElem?_eq_getElem hi] at hc
  exact ⟨g, c, rfl, hg, hc, h.2.frozenAt i⟩
theorem FallAt.set {g c : Nat} {n : Nat} (hv : v = .slice (some ⟨g, 0, none⟩) n c) (hn : n = N.length) (h : FallAt w B N v A lk W) {i : Nat} (x : Int) : FallAt w B (N.set i x) v A lk (W.setCell ⟨g, i, none⟩ (.int .i64 x)) := by
  subst hv
  subst hn
  refine ⟨h.1.turn (Turn.cell (O := fun k => k = g) W i _ rfl) (fun k e => by rw [show k = g from e]; rfl), ?_⟩
  have := (h.2.stored i (.int .i64 x)).1
  rw [List.length_set, List.map_set]
  exact this
theorem FallAt.at {g c : Nat} {n : Nat} (hv : v = .slice (some ⟨g, 0, none⟩) n c) (h : FallAt w B N v A lk W) {i : Nat} (hi : i < N.length) : g < W.heap.size ∧ W.cell? ⟨g, i, none⟩ = some (.int .i64 N[i]) ∧ W.frozen? ⟨g, i, none⟩ = false := by
  obtain ⟨g', c', e, h1, h2, h3⟩ := h.get hi
  rw [hv] at e
  cases Value.slice.inj e |>.1
  exact ⟨h1, h2, h3⟩
/-- The list's header: whatever it is. -/
theorem FallAt.slice (h : FallAt w B N v A lk W) : ∃ q c, v = .slice q N.length c := owns_any h.2
end
theorem fall_none {w w1 : World} {B : Bl} {A : List (Option Int)} (h : HpQ B w (fun _ => False) A 0 w1) : FallAt w B [] (.slice (some ⟨w1.heap.size, 0, none⟩) 0 0) A 0 (w1.alloc (.cells #[] 2)) := by
  refine ⟨(h.more _).mono fun k e => ?_, World.ownsRow_lit w1 #[] 0 h.1.size (Nat.zero_le _) rfl⟩
  right
  simp [Value.ownBlock] at e
  exact e.symm
theorem fall_some {w w1 w' : World} {B : Bl} {A : List (Option Int)} {v' : Value} {n : Nat} {l : List Int} (h : HpQ B w (fun _ => False) A 0 w1) (hn : n = l.length) (hown : w'.ownsRow w.heap.size 2 1 v' (0 + n) ([] ++ l.map encZ))
    (hg : (w1.alloc (.cells #[] 2)).grownBy w' (Value.slice (some ⟨w1.heap.size, 0, none⟩) 0 0).ownBlock) (hat : v'.ownBlock = (Value.slice (some ⟨w1.heap.size, 0, none⟩) 0 0).ownBlock ∨ v'.ownBlock = some (w1.alloc (.cells #[] 2)).heap.size) : FallAt w B l v' A 0 w' := by
  subst hn
  rw [Nat.zero_add, List.nil_append] at hown
  have hlt := hown.lt
  have h2 := (h.more (.cells #[] 2)).grown (Turn.grown (O := fun k => k = w1.heap.size) hg (fun k e => by
    simp [Value.ownBlock] at e
    exact e.symm)) (fun k e => Or.inr e)
  refine ⟨h2.mono fun k e => ?_, hown⟩
  rcases hat with e2 | e2
  · rw [e2] at e
    simp [Value.ownBlock] at e
    exact Or.inl (Or.inr e.symm)
  · right
    have h3 := (hlt k e).2
    rw [e2] at e
    have := Option.some.inj e
    exact ⟨by omega, h3⟩
end Go.Proofs.Ytndljbkjcgfdcaa
