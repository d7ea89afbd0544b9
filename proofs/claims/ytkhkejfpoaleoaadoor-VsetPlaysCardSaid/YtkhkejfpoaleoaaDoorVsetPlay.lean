/- The law's plays in memory: the set that is played on, the document's set in its variable, and what both lie beside; a list of calls. -/
import Derived.Test.YtkhkejfpoaleoaaDoorVsetLaw
import Derived.Test.YtkhkejfpoaleoaaDoorVsetLaid
import Derived.Deep.SlicePairs
namespace Go.Proofs.YtkhkejfpoaleoaaDoor
open Go.RowKit Go.ChangeShapes VsetPure
theorem ref_past {w w' : World} {a : Option Addr} {m X : Nat} {p : Nat → Bool} (h : RefAt w a m p) (ho : Off a X) (hg : w.grownBy w' (some X)) : RefAt w' a m p := by
  rcases h with h | ⟨b, off, rfl, hN, hc⟩
  · exact Or.inl h
  · have hk := hg.block b hN (fun e => ho _ rfl (Option.some.inj e))
    exact Or.inr ⟨b, off, rfl, Nat.lt_of_lt_of_le hN hg.size, fun i hi => (World.cell?_of_block hk).trans (hc i hi)⟩
/-- The state of the plays: bs, gs the set's blocks, X the variable's, q, c the list that it has; ps what the set has, px what the document's set has. -/
def PlayAt (w : World) (bs gs X m : Nat) (q : Option Addr) (c : Nat) (ps px : Nat → Bool) (W : World) : Prop :=
  Below w.heap.size w W ∧ SetAt bs gs W m ps ∧ TwoAt X W (.int .i64 (m : Int)) (.slice q m c) ∧ RefAt W q m px ∧ Off q X ∧ Off q gs ∧ X ≠ gs ∧ bs ≠ X ∧ w.heap.size ≤ gs ∧ w.heap.size ≤ X
theorem PlayAt.keep {w W W' : World} {bs gs X m c : Nat} {q : Option Addr} {ps px : Nat → Bool} (h : PlayAt w bs gs X m q c ps px W) (hb : Below W.heap.size W W') : PlayAt w bs gs X m q c ps px W' := by
  obtain ⟨h1, h2, h3, h4, h5⟩ := h
  exact ⟨h1.trans (hb.mono h1.size), h2.keep hb, h3.on hb h3.lt, h4.keep hb, h5⟩
/-- The set is turned. -/
theorem PlayAt.turn {w W W' : World} {bs gs X m c : Nat} {q : Option Addr} {ps ps' px : Nat → Bool} (h : PlayAt w bs gs X m q c ps px W) (hg : W.grownBy W' (some gs)) (hs : SetAt bs gs W' m ps') : PlayAt w bs gs X m q c ps' px W' := by
  obtain ⟨h1, h2, h3, h4, h5, h6, h7, h8, h9, h10⟩ := h
  exact ⟨h1.trans (below_grown hg h9 h1.size), hs, two_past h3 hg (fun e => h7 (Option.some.inj e)), ref_past h4 h6 hg, h5, h6, h7, h8, h9, h10⟩
/-- The variable takes another list. -/
theorem PlayAt.store {w W W' : World} {bs gs X m c c' : Nat} {q q' : Option Addr} {ps px px' : Nat → Bool} (h : PlayAt w bs gs X m q c ps px W) (hb : Below W.heap.size W W') (hr : RefAt W' q' m px') (ho : ∀ Y, Y < W.heap.size → Off q Y → Off q' Y) :
    PlayAt w bs gs X m q' c' ps px' ((W'.setCell ⟨X, 0, none⟩ (.int .i64 (m : Int))).setCell ⟨X, 1, none⟩ (.slice q' m c')) := by
  have hk := h.keep hb
  obtain ⟨-, h2, h3, -, h5, h6, -⟩ := h
  have o1 := ho X h3.lt h5
  have o2 := ho gs h2.lt.2 h6
  obtain ⟨k1, k2, k3, -, -, -, k7, k8, k9, k10⟩ := hk
  have hg := grown_trans (grown_cell W' X 0 (.int .i64 (m : Int))) (grown_cell _ X 1 (.slice q' m c'))
  exact ⟨k1.trans (below_grown hg k10 k1.size), k2.past hg (fun e => k8 (Option.some.inj e)) (fun e => k7 (Option.some.inj e).symm), k3.set _ _, ref_past hr o1 hg, o1, o2, k7, k8, k9, k10⟩
/-- A list of calls in memory. -/
def ReadsO (N : Nat) (w : World) (a : Option Addr) (l : List (Int × Int)) : Prop :=
  l = [] ∨ ∃ b off, a = some ⟨b, off, none⟩ ∧ b < N ∧ ∀ i (h : i < l.length), w.cell? ⟨b, off + i * 2, none⟩ = some (.int .i64 l[i].1) ∧ w.cell? ⟨b, off + i * 2 + 1, none⟩ = some (.int .i64 l[i].2)
theorem ReadsO.at {w W : World} {a : Option Addr} {l : List (Int × Int)} (h : ReadsO w.heap.size w a l) (hb : Below w.heap.size w W) {k : Nat} (hk : k < l.length) :
    ∃ b off, a = some ⟨b, off, none⟩ ∧ b < w.heap.size ∧ W.cell? ⟨b, off + k * 2, none⟩ = some (.int .i64 l[k].1) ∧ W.cell? ⟨b, off + k * 2 + 1, none⟩ = some (.int .i64 l[k].2) := by
  rcases h with h | ⟨b, off, ha, hN, hc⟩
  · subst h; simp at hk
  · exact ⟨b, off, ha, hN, (hb.cell (p := ⟨b, off + k * 2, none⟩) hN).trans (hc k hk).1, (hb.cell (p := ⟨b, off + k * 2 + 1, none⟩) hN).trans (hc k hk).2⟩
def asI : Value → Int
  | .int _ n => n
  | _ => 0
open Go.WideShapes Go.ChangeAt in
theorem open_ops {H : Type} {enc : TypeId × Value → H} {W : World} {base fuel : Nat} {a : Option Addr} {len cap : Nat} {x : DataW H × List MemPlace}
    (hf : DataW.trod enc Tryd.prog W base (fun _ => true) true fuel 22 (Value.slice a len cap).cells.toList = some x) :
    ∃ l : List (Int × Int), l.length = len ∧ ReadsO W.heap.size W a l ∧ l.length ≤ maxLen := by
  rcases Go.Deep.open_slice_pairs Tryd.underlying22 Tryd.underlying32 (by kernel_rfl) rfl rfl (by kernel_rfl) (by kernel_rfl) hf with ⟨hcs, _⟩ | ⟨y, ln, c, m, n, V0, V1, D0, D1, P0, P1, hcs, _, hl, hm, hmm, _, hi⟩
  · simp [Value.cells] at hcs
    obtain ⟨rfl, rfl, rfl⟩ := hcs
    exact ⟨[], rfl, Or.inl rfl, Nat.zero_le _⟩
  · simp [Value.cells] at hcs
    obtain ⟨rfl, rfl, rfl⟩ := hcs
    have hmc : m = cap := by simpa using hmm
    subst hmc
    refine ⟨(List.range len).map fun i => (asI (V0 i), asI (V1 i)), by simp, ?_, by simp; omega⟩
    by_cases h0 : len = 0
    · left; simp [h0]
    · right
      have hz := (hi 0 (by omega)).1
      obtain ⟨b, off, spot⟩ := y
      have hspot : spot = none := by simpa [Addr.add] using World.cell?_spot hz
      subst hspot
      refine ⟨b, off, rfl, World.block_lt_of_cell? W _ hz, fun i h => ?_⟩
      have hil : i < len := by simpa using h
      obtain ⟨g0, g1, t0, t1⟩ := hi i (by omega)
      rw [addr_add] at g0 g1
      rw [List.getElem_map, List.getElem_range]
      obtain ⟨n0, e0, -, -⟩ := DataW.trod_int (t := 3) Tryd.underlying3 t0
      obtain ⟨n1, e1, -, -⟩ := DataW.trod_int (t := 3) Tryd.underlying3 t1
      have e0' : V0 i = .int .i64 n0 := by simpa using e0
      have e1' : V1 i = .int .i64 n1 := by simpa using e1
      rw [e0'] at g0
      rw [e1'] at g1
      rw [e0', e1']
      exact ⟨g0, g1⟩
end Go.Proofs.YtkhkejfpoaleoaaDoor
