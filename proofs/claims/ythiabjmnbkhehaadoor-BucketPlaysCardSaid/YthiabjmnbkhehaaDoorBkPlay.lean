/- The law's plays of layer 13: a call's three numbers beside both rows; a list of calls in memory. -/
import Derived.Test.YthiabjmnbkhehaaDoorBkSame
import Derived.ChangeSlices
import Derived.Deep.Slices
import Derived.Deep.SlicePairs
import Derived.ChangeSame
namespace Go.Proofs.YthiabjmnbkhehaaDoor
open Go.RowKit Go.ChangeShapes BkPure
/-- Both rows beside a call's three numbers. -/
def OpAt (w : World) (B : Bl) (b N : Nat) (D D2 : List (Nat × Nat)) (X : Nat) (x y z : Int) (W : World) : Prop :=
  PlayAt w B b N D D2 W ∧ ThreeAt X W (.int .i64 x) (.int .i64 y) (.int .i64 z) ∧ ¬ BQ B X ∧ X ≠ b
section
variable {w W W' : World} {B : Bl} {b N X : Nat} {D D2 D' : List (Nat × Nat)} {x y z : Int}
theorem OpAt.keep (h : OpAt w B b N D D2 X x y z W) (hb : Below W.heap.size W W') : OpAt w B b N D D2 X x y z W' := ⟨h.1.keep hb, three_same h.2.1 (hb.block X h.2.1.lt), h.2.2⟩
theorem OpAt.drawn (h : OpAt w B b N D D2 X x y z W) (n : Nat) : OpAt w B b N D D2 X x y z (W.drewN n) := h.keep (below_drewN (Below.refl _ _) n)
theorem OpAt.prog (h : OpAt w B b N D D2 X x y z W) (d : DropOut B N D' W W') : OpAt w B b N D' D2 X x y z W' := ⟨h.1.prog d, three_same h.2.1 (d.1.2.2.2.2 X h.2.1.lt h.2.2.1), h.2.2⟩
theorem OpAt.ref (h : OpAt w B b N D D2 X x y z W) (t : Turn (fun k => k = b) W W') (r : RfB (BQ B) b N D' W') : OpAt w B b N D D' X x y z W' := ⟨h.1.ref t r, three_same h.2.1 (t.2.2.2.2 X h.2.1.lt h.2.2.2), h.2.2⟩
theorem OpAt.new (h : PlayAt w B b N D D2 W) (x y z : Int) (T : TypeId) : OpAt w B b N D D2 W.heap.size x y z (W.alloc (.cells #[.int .i64 x, .int .i64 y, .int .i64 z] T)) :=
  ⟨h.keep ((Below.refl _ _).alloc (Nat.le_refl _) _), ThreeAt.new _ _ _ _ _, fun e => by have := h.bk.lt _ e; omega, fun e => by
    obtain ⟨-, -, vV, vL, h3, -⟩ := h.rf
    have := h3.lt
    omega⟩
theorem OpAt.cells (h : OpAt w B b N D D2 X x y z W) : W.cell? ⟨X, 0, none⟩ = some (.int .i64 x) ∧ W.cell? ⟨X, 1, none⟩ = some (.int .i64 y) ∧ W.cell? ⟨X, 2, none⟩ = some (.int .i64 z) := ⟨h.2.1.1, h.2.1.2.1, h.2.1.2.2.1⟩
end
/-- A list of calls in memory. -/
def ReadsOp (N : Nat) (w : World) (a : Option Addr) (l : List (Int × Int × Int)) : Prop :=
  l = [] ∨ ∃ b off, a = some ⟨b, off, none⟩ ∧ b < N ∧ ∀ i (h : i < l.length), w.cell? ⟨b, off + i * 3, none⟩ = some (.int .i64 l[i].1) ∧ w.cell? ⟨b, off + i * 3 + 1, none⟩ = some (.int .i64 l[i].2.1) ∧ w.cell? ⟨b, off + i * 3 + 2, none⟩ = some (.int .i64 l[i].2.2)
theorem ReadsOp.at {w W : World} {a : Option Addr} {l : List (Int × Int × Int)} (h : ReadsOp w.heap.size w a l) (hb : Below w.heap.size w W) {k : Nat} (hk : k < l.length) :
    ∃ b off, a = some ⟨b, off, none⟩ ∧ b < W.heap.size ∧ W.cell? ⟨b, off + k * 3, none⟩ = some (.int .i64 l[k].1) ∧ W.cell? ⟨b, off + k * 3 + 1, none⟩ = some (.int .i64 l[k].2.1) ∧ W.cell? ⟨b, off + k * 3 + 2, none⟩ = some (.int .i64 l[k].2.2) := by
  rcases h with h | ⟨b, off, ha, hN, hc⟩
  · subst h; simp at hk
  · obtain ⟨h0, h1, h2⟩ := hc k hk
    exact ⟨b, off, ha, Nat.lt_of_lt_of_le hN hb.size, (hb.cell (p := ⟨b, off + k * 3, none⟩) hN).trans h0, (hb.cell (p := ⟨b, off + k * 3 + 1, none⟩) hN).trans h1, (hb.cell (p := ⟨b, off + k * 3 + 2, none⟩) hN).trans h2⟩
open Go.WideShapes in
theorem open_ops {H : Type} {enc : TypeId × Value → H} {W : World} {base fuel : Nat} {a : Option Addr} {len cap : Nat} {x : DataW H × List MemPlace}
    (hf : DataW.trod enc Tryd.prog W base (fun _ => true) true fuel 22 (Value.slice a len cap).cells.toList = some x) :
    ∃ l : List (Int × Int × Int), l.length = len ∧ ReadsOp W.heap.size W a l ∧ l.length ≤ maxLen := by
  rcases Go.Deep.open_slice Tryd.underlying22 hf with ⟨hcs, _⟩ | ⟨y, ln, c, m, n, D, Pl, hcs, _, hl, hm, hmm, _, hx⟩
  · simp [Value.cells] at hcs
    obtain ⟨rfl, rfl, rfl⟩ := hcs
    exact ⟨[], rfl, Or.inl rfl, Nat.zero_le _⟩
  · simp [Value.cells] at hcs
    obtain ⟨rfl, rfl, rfl⟩ := hcs
    have hmc : m = cap := by simpa using hmm
    subst hmc
    have ce : Tryd.prog.cellsOf 29 = 3 := by kernel_rfl
    have each : ∀ i, i < m → ∃ q : Int × Int × Int, W.cell? (y.add (i * 3)) = some (.int .i64 q.1) ∧ W.cell? (y.add (i * 3 + 1)) = some (.int .i64 q.2.1) ∧ W.cell? (y.add (i * 3 + 2)) = some (.int .i64 q.2.2) := by
      intro i hi
      obtain ⟨cs', h1, h2⟩ := hx i hi
      rw [ce] at h1
      obtain ⟨_, hlen, hcell⟩ := World.cells?_some h1
      obtain ⟨xs, k, hk, hxy, _, hxl, hfl⟩ := DataW.trod_struct Tryd.underlying29 h2
      match xs, hxl, cs', hlen with
      | [y0, y1, y2], _, [v0, v1, v2], _ =>
        have g0 := hfl 0 _ rfl
        have g1 := hfl 1 _ rfl
        have g2 := hfl 2 _ rfl
        have ci : Tryd.prog.cellsOf 3 = 1 := by kernel_rfl
        simp [ci] at g0 g1 g2
        have e0 := hcell 0 (by omega)
        have e1 := hcell 1 (by omega)
        have e2 := hcell 2 (by omega)
        rw [Go.Deep.add_add] at e0 e1 e2
        obtain ⟨n0, q0, -, -⟩ := DataW.trod_int (t := 3) Tryd.underlying3 g0
        obtain ⟨n1, q1, -, -⟩ := DataW.trod_int (t := 3) Tryd.underlying3 g1
        obtain ⟨n2, q2, -, -⟩ := DataW.trod_int (t := 3) Tryd.underlying3 g2
        have q0' : v0 = .int .i64 n0 := by simpa using q0
        have q1' : v1 = .int .i64 n1 := by simpa using q1
        have q2' : v2 = .int .i64 n2 := by simpa using q2
        subst q0' q1' q2'
        exact ⟨(n0, n1, n2), by simpa using e0, by simpa using e1, by simpa using e2⟩
    obtain ⟨q, hq⟩ := Go.Deep.choose_lt each
    refine ⟨(List.range len).map q, by simp, ?_, by simp; omega⟩
    by_cases h0 : len = 0
    · left; simp [h0]
    · right
      have hz := (hq 0 (by omega)).1
      obtain ⟨b, off, spot⟩ := y
      have hspot : spot = none := by simpa [Addr.add] using World.cell?_spot hz
      subst hspot
      refine ⟨b, off, rfl, World.block_lt_of_cell? W _ hz, fun i h => ?_⟩
      have hil : i < len := by simpa using h
      obtain ⟨g0, g1, g2⟩ := hq i (by omega)
      rw [addr_add] at g0 g1 g2
      rw [List.getElem_map, List.getElem_range]
      exact ⟨g0, g1, g2⟩
end Go.Proofs.YthiabjmnbkhehaaDoor
