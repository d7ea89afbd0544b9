/- Texts that the laws of this seat stand on, part 8. -/
import Derived.Test.YtceejjgmepaonaaGreatDoorPk1
import Derived.Test.YtceejjgmepaonaaGreatDoorPk6
import Derived.Test.YtceejjgmepaonaaGreatDoorPk7
import Derived.ChangeSlices
import Derived.Deep.Slices
import Derived.Deep.SlicePairs
import Derived.ChangeSame
import Derived.WalkMore
import Derived.Maps.AppendAt
import Derived.StillTailTactics
import Derived.Deep.RegionWith
import Derived.Deep.QuietTactic
import Derived.Deep.Cut
import Derived.Deep.CutRange
import Derived.BigQuiet
import Derived.BigRegion
/- Edges in memory: a slice of structs of three numbers, what is read of it, one that a call gathers; an argument []api.Edge. -/
namespace Go.Proofs.YtceejjgmepaonaaGreatDoor
open Go.RowKit Go.ChangeShapes EdPure
def encE (e : Ed) : Value := .agg #[.int .i64 e.1, .int .i64 e.2.1, .int .i64 e.2.2]
def cellE (e : Ed) : List Value := [.int .i64 e.1, .int .i64 e.2.1, .int .i64 e.2.2]
def flatE (l : List Ed) : List Value := l.flatMap cellE
theorem flatE_cons (e : Ed) (l : List Ed) : flatE (e :: l) = .int .i64 e.1 :: .int .i64 e.2.1 :: .int .i64 e.2.2 :: flatE l := rfl
theorem flatE_snoc (l : List Ed) (e : Ed) : flatE (l ++ [e]) = flatE l ++ cellE e := by unfold flatE; rw [List.flatMap_append]; simp
theorem flatE_len (l : List Ed) : (flatE l).length = l.length * 3 := by
  induction l with
  | nil => rfl
  | cons e l ih => rw [flatE_cons]; simp [ih]; omega
theorem flatE_at {l : List Ed} {n : Nat} (h : n < l.length) :
    (flatE l)[n * 3]? = some (.int .i64 l[n].1) ∧ (flatE l)[n * 3 + 1]? = some (.int .i64 l[n].2.1) ∧ (flatE l)[n * 3 + 2]? = some (.int .i64 l[n].2.2) := by
  induction l generalizing n with
  | nil => simp at h
  | cons e l ih =>
    rw [flatE_cons]
    cases n with
    | zero => simp
    | succ n =>
      have := ih (n := n) (by simpa using h)
      rw [show (n + 1) * 3 = n * 3 + 1 + 1 + 1 by omega]
      simpa using this
/-- What is read of a list of edges. -/
def ReadsE (N : Nat) (w : World) (a : Option Addr) (l : List Ed) : Prop :=
  l = [] ∨ ∃ b off, a = some ⟨b, off, none⟩ ∧ b < N ∧ ∀ i (h : i < l.length), w.cell? ⟨b, off + i * 3, none⟩ = some (.int .i64 l[i].1) ∧ w.cell? ⟨b, off + i * 3 + 1, none⟩ = some (.int .i64 l[i].2.1) ∧ w.cell? ⟨b, off + i * 3 + 2, none⟩ = some (.int .i64 l[i].2.2)
theorem ReadsE.on {N : Nat} {w w' : World} {a : Option Addr} {l : List Ed} (h : ReadsE N w a l) (hb : Below N w w') : ReadsE N w' a l := by
  rcases h with h | ⟨b, off, ha, hN, hc⟩
  · exact Or.inl h
  · exact Or.inr ⟨b, off, ha, hN, fun i hi => ⟨(hb.cell (by exact hN)).trans (hc i hi).1, (hb.cell (by exact hN)).trans (hc i hi).2.1, (hb.cell (by exact hN)).trans (hc i hi).2.2⟩⟩
theorem ReadsE.at {N : Nat} {w : World} {a : Option Addr} {l : List Ed} (h : ReadsE N w a l) {k : Nat} (hk : k < l.length) :
    ∃ b off, a = some ⟨b, off, none⟩ ∧ b < N ∧ w.cell? ⟨b, off + k * 3, none⟩ = some (.int .i64 l[k].1) ∧ w.cell? ⟨b, off + k * 3 + 1, none⟩ = some (.int .i64 l[k].2.1) ∧ w.cell? ⟨b, off + k * 3 + 2, none⟩ = some (.int .i64 l[k].2.2) := by
  rcases h with h | ⟨b, off, ha, hN, hc⟩
  · subst h; simp at hk
  · exact ⟨b, off, ha, hN, hc k hk⟩
theorem ReadsE.mono {N N' : Nat} {w : World} {a : Option Addr} {l : List Ed} (h : ReadsE N w a l) (hN : N ≤ N') : ReadsE N' w a l := by
  rcases h with h | ⟨b, off, ha, hb, hc⟩
  · exact Or.inl h
  · exact Or.inr ⟨b, off, ha, Nat.lt_of_lt_of_le hb hN, hc⟩
theorem ReadsE.over {N : Nat} {w w' : World} {a : Option Addr} {l : List Ed} (h : ReadsE N w a l) (hb : Below w.heap.size w w') (hN : N ≤ w.heap.size) : ReadsE w'.heap.size w' a l :=
  ((h.mono hN).on hb).mono hb.size
theorem ReadsE.nil (N : Nat) (w : World) (a : Option Addr) : ReadsE N w a [] := Or.inl rfl
/-- The parts of the element at k, at any world in which the memory up to w lies. -/
theorem ReadsE.cells {w : World} {a : Option Addr} {l : List Ed} (h : ReadsE w.heap.size w a l) {k : Nat} (hk : k < l.length) {W : World} (hB : Below w.heap.size w W) {u v x : Int} (he : l[k] = (u, v, x)) :
    ∃ b off, a = some ⟨b, off, none⟩ ∧ b < w.heap.size ∧ b < W.heap.size ∧ W.cell? ⟨b, off + k * 3, none⟩ = some (.int .i64 u) ∧ W.cell? ⟨b, off + k * 3 + 1, none⟩ = some (.int .i64 v) ∧ W.cell? ⟨b, off + k * 3 + 2, none⟩ = some (.int .i64 x) := by
  obtain ⟨b, off, h1, h2, h3, h4, h5⟩ := (h.on hB).at hk
  rw [he] at h3 h4 h5
  exact ⟨b, off, h1, h2, Nat.lt_of_lt_of_le h2 hB.size, h3, h4, h5⟩
theorem owns_readsE {w : World} {B n : Nat} {e : TypeId} {v : Value} {l : List Ed} (hn : n = l.length) (h : w.ownsRow B e 3 v n (flatE l)) :
    ∃ p cap, v = .slice p l.length cap ∧ ReadsE w.heap.size w p l ∧ l.length ≤ cap ∧ ∀ b, p = some b → b.block = b.block ∧ B ≤ b.block ∧ b.off = 0 := by
  subst hn
  have hc := fun g (hg : v.ownBlock = some g) => h.cells hg
  have hlt := h.lt
  obtain ⟨h1, ⟨rfl, h2⟩ | ⟨g, cap, cur, rfl, h3, h4, h5, h6, h7, h8⟩⟩ := h
  · have : l = [] := List.length_eq_zero_iff.1 h2
    subst this
    exact ⟨none, 0, rfl, Or.inl rfl, Nat.zero_le _, fun b hb => by cases hb⟩
  · refine ⟨some ⟨g, 0, none⟩, cap, rfl, Or.inr ⟨g, 0, rfl, (hlt g rfl).2, fun i hi => ?_⟩, h5, fun b hb => by cases hb; exact ⟨rfl, h3, rfl⟩⟩
    obtain ⟨e0, e1, e2⟩ := flatE_at hi
    have c0 := hc g rfl _ _ e0
    have c1 := hc g rfl _ _ e1
    have c2 := hc g rfl _ _ e2
    rw [addr_add] at c0 c1 c2
    exact ⟨c0, by rw [Nat.add_assoc]; exact c1, by rw [Nat.add_assoc]; exact c2⟩
/-- At the head of a round: what edges were gathered by append so far. -/
def GrowE (w0 : World) (xs : List Ed) (v : Value) (w : World) : Prop := Below w0.heap.size w0 w ∧ w.ownsRow w0.heap.size 51 3 v xs.length (flatE xs)
theorem GrowE.start (w : World) : GrowE w [] (.slice none 0 0) w := ⟨Below.refl _ _, World.ownsRow_nil _ _ _ _⟩
theorem GrowE.on {w0 w w' : World} {xs : List Ed} {v : Value} (h : GrowE w0 xs v w) (hb : Below w.heap.size w w') : GrowE w0 xs v w' :=
  ⟨h.1.trans (hb.mono h.1.size), owns_below h.2 hb⟩
theorem GrowE.step {w0 w w' : World} {xs : List Ed} {v v' : Value} {o : Obj} (h : GrowE w0 xs v w) (x : Ed) (h1 : w'.ownsRow w0.heap.size 51 3 v' (xs.length + 1) (flatE xs ++ cellE x)) (hg : (w.alloc o).grownBy w' v.ownBlock) :
    GrowE w0 (xs ++ [x]) v' w' := by
  refine ⟨(h.1.alloc h.1.size o).grown hg (h.1.alloc h.1.size o).size fun j hj => (h.2.lt j hj).1, ?_⟩
  rw [flatE_snoc, List.length_append]
  exact h1
/-- Over a step of the world after which only new blocks or the row are otherwise. -/
theorem GrowE.reads {w0 w : World} {xs : List Ed} {v : Value} (h : GrowE w0 xs v w) : ∃ p cap, v = .slice p xs.length cap ∧ ReadsE w.heap.size w p xs ∧ xs.length ≤ cap := by
  obtain ⟨p, cap, h1, h2, h3, -⟩ := owns_readsE rfl h.2
  exact ⟨p, cap, h1, h2, h3⟩
theorem info_edge : ∃ i, (Tryz.prog.info? 51) = some i ∧ i.zero = some (.agg #[.int .i64 0, .int .i64 0, .int .i64 0]) ∧ i.size = 3 ∧ i.bytes = 24 := info_of (by kernel_rfl)
theorem three_newsAt {w : World} {u v x : Value} {T : TypeId} {g : Nat} (hg : g = w.heap.size) : ∀ j y, [u, v, x][j]? = some y → (w.alloc (.cells #[u, v, x] T)).cell? ((⟨g, 0, none⟩ : Addr).add j) = some y := by
  subst hg
  intro j y hj
  match j, hj with
  | 0, hj => simp at hj; subst hj; simp [Addr.add]
  | 1, hj => simp at hj; subst hj; simp [Addr.add]
  | 2, hj => simp at hj; subst hj; simp [Addr.add]
theorem ones_edge {a b c : Int} : ∀ u ∈ [Value.int .i64 a, .int .i64 b, .int .i64 c], u.oneCell' = true := by
  intro u hu
  simp at hu
  rcases hu with hu | hu | hu <;> (subst hu; rfl)
/-- make([]api.Edge, 0, c). -/
theorem make_edges (c : Nat) (hc : c ≤ 1048576) (w : World) :
    ∃ cur, cur.size = c * 3 ∧ (Instr.makeSlice 22 (.int .i64 0) (.int .i64 (c : Int))).run Tryz.prog w = .ok (.slice (some ⟨w.heap.size, 0, none⟩) 0 c) (w.alloc (.cells cur 51)) := by
  obtain ⟨i, h1, h2, h3, h4⟩ := info_edge
  have hr := run_make (P := Tryz.prog) w 22 51 i _ Tryz.underlying22 h1 h2 .i64 .i64 0 (c : Int) (by omega) (by omega) (by rw [h4]; omega) (by omega)
  simp only [Int.toNat_zero, Int.toNat_natCast] at hr
  exact ⟨_, by rw [size_madeCells, h3], hr⟩
theorem GrowE.made (w0 w : World) (cur : Array Value) (c : Nat) (hb : Below w0.heap.size w0 w) (hc : c ≤ 1048576) (hs : cur.size = c * 3) :
    GrowE w0 [] (.slice (some ⟨w.heap.size, 0, none⟩) 0 c) (w.alloc (.cells cur 51)) :=
  ⟨hb.alloc hb.size _, World.ownsRow_made w cur c hb.size (by unfold maxLen; omega) hs⟩
set_option maxRecDepth 20000 in
theorem open_edges {H : Type} {enc : TypeId × Value → H} {W : World} {sp : Nat → Bool} {hd : Bool} {f len cap : Nat} {a : Option Addr} {x : DataW H × List MemPlace} (hf : DataW.trod enc Tryz.prog W 0 sp hd f 22 (Value.cells (.slice a len cap)).toList = some x) :
    ∃ l : List Ed, l.length = len ∧ (InL l ∧ ReadsE W.heap.size W a l) ∧ l.length ≤ maxLen := by
  rcases Go.Deep.open_slice Tryz.underlying22 hf with ⟨hcs, _⟩ | ⟨y, ln, c, m, n, D, Pl, hcs, _, hl, hm, hmm, _, hx⟩
  · simp [Value.cells] at hcs
    obtain ⟨rfl, rfl, rfl⟩ := hcs
    exact ⟨[], rfl, ⟨fun e he => by simp at he, Or.inl rfl⟩, Nat.zero_le _⟩
  · simp [Value.cells] at hcs
    obtain ⟨rfl, rfl, rfl⟩ := hcs
    have ce : Tryz.prog.cellsOf 51 = 3 := by kernel_rfl
    have hlm : len ≤ m := by
      by_cases e : sp y.block = true
      · rw [if_pos e] at hmm; omega
      · rw [if_neg e] at hmm; omega
    have each : ∀ i, i < m → ∃ q : Int × Int × Int, ((Lit.int .i64 q.1).wf = true ∧ (Lit.int .i64 q.2.1).wf = true ∧ (Lit.int .i64 q.2.2).wf = true) ∧ W.cell? (y.add (i * 3)) = some (.int .i64 q.1) ∧ W.cell? (y.add (i * 3 + 1)) = some (.int .i64 q.2.1) ∧ W.cell? (y.add (i * 3 + 2)) = some (.int .i64 q.2.2) := by
      intro i hi
      obtain ⟨cs', h1, h2⟩ := hx i hi
      clear hmm hlm hm hl
      rw [ce] at h1
      obtain ⟨_, hlen, hcell⟩ := World.cells?_some h1
      obtain ⟨xs, k, hk, hxy, _, hxl, hfl⟩ := DataW.trod_struct Tryz.underlying51 h2
      match xs, hxl, cs', hlen with
      | [y0, y1, y2], _, [v0, v1, v2], _ =>
        have g0 := hfl 0 _ rfl
        have g1 := hfl 1 _ rfl
        have g2 := hfl 2 _ rfl
        have ci : Tryz.prog.cellsOf 3 = 1 := by kernel_rfl
        have ci2 : Tryz.prog.cellsOf 2 = 1 := by kernel_rfl
        simp [ci, ci2] at g0 g1 g2
        have e0 := hcell 0 (by omega)
        have e1 := hcell 1 (by omega)
        have e2 := hcell 2 (by omega)
        rw [Go.Deep.add_add] at e0 e1 e2
        obtain ⟨n0, q0, -, w0⟩ := DataW.trod_int (t := 3) Tryz.underlying3 g0
        obtain ⟨n1, q1, -, w1⟩ := DataW.trod_int (t := 3) Tryz.underlying3 g1
        obtain ⟨n2, q2, -, w2⟩ := DataW.trod_int (t := 2) Tryz.underlying2 g2
        have q0' : v0 = .int .i64 n0 := by simpa using q0
        have q1' : v1 = .int .i64 n1 := by simpa using q1
        have q2' : v2 = .int .i64 n2 := by simpa using q2
        subst q0' q1' q2'
        exact ⟨(n0, n1, n2), ⟨w0, w1, w2⟩, by simpa using e0, by simpa using e1, by simpa using e2⟩
    obtain ⟨q, hq⟩ := Go.Deep.choose_lt each
    refine ⟨(List.range len).map q, by simp, ⟨fun e he => ?_, ?_⟩, by simp; omega⟩
    · obtain ⟨i, hi, rfl⟩ := List.mem_map.1 he
      obtain ⟨⟨w0, w1, w2⟩, -⟩ := hq i (by have := List.mem_range.1 hi; omega)
      exact ⟨bounds_i64 w0, bounds_i64 w1, bounds_i64 w2⟩
    by_cases h0 : len = 0
    · left; simp [h0]
    · right
      have hz := (hq 0 (by omega)).2.1
      obtain ⟨b, off, spot⟩ := y
      have hspot : spot = none := by simpa [Addr.add] using World.cell?_spot hz
      subst hspot
      refine ⟨b, off, rfl, World.block_lt_of_cell? W _ hz, fun i h => ?_⟩
      have hil : i < len := by simpa using h
      obtain ⟨-, g0, g1, g2⟩ := hq i (by omega)
      rw [addr_add] at g0 g1 g2
      rw [List.getElem_map, List.getElem_range, Nat.add_assoc, Nat.add_assoc]
      exact ⟨g0, g1, g2⟩
end Go.Proofs.YtceejjgmepaonaaGreatDoor
/- The document's graph, as it is boxed; numbers that a call answers. No function of the program is named. -/
namespace Go.Proofs.YtceejjgmepaonaaGreatDoor.Cm
open Go.RowKit Go.ChangeShapes EdPure
/-- The graph as it is boxed, and its edges. -/
def BoxSt (w : World) (N : Nat) (n : Int) (a : Option Addr) (c : Nat) (M : List Ed) (W : World) : Prop :=
  Below w.heap.size w W ∧ TwoAt N W (.int .i64 n) (.slice a M.length c) ∧ ReadsE W.heap.size W a M
theorem BoxSt.keep {w W W' : World} {N : Nat} {n : Int} {a : Option Addr} {c : Nat} {M : List Ed} (h : BoxSt w N n a c M W) (hb : Below W.heap.size W W') : BoxSt w N n a c M W' :=
  ⟨h.1.trans (hb.mono h.1.size), h.2.1.on hb h.2.1.lt, h.2.2.over hb (Nat.le_refl _)⟩
theorem BoxSt.start {w : World} {n : Int} {a : Option Addr} {c : Nat} {M : List Ed} (hR : ReadsE w.heap.size w a M) :
    BoxSt w w.heap.size n a c M (w.alloc (.cells #[.int .i64 n, .slice a M.length c] 34)) :=
  have hb := (Below.refl w.heap.size w).alloc (Nat.le_refl _) (.cells #[.int .i64 n, .slice a M.length c] 34)
  ⟨hb, TwoAt.new _ _ _ _, hR.over hb (Nat.le_refl _)⟩
theorem two_all {N : Nat} {w : World} {u v : Value} (h : TwoAt N w u v) : w.cell? ⟨N, 0, none⟩ = some u ∧ w.cell? ⟨N, 1, none⟩ = some v := ⟨h.1, h.2.1⟩
def IntsOf (l : List Int) (w : World) (e : Ending) (w' : World) : Prop := Below w.heap.size w w' ∧ ∃ q c, e = .returned (.slice q l.length c) ∧ ReadsL encZ w'.heap.size w' q l
end Go.Proofs.YtceejjgmepaonaaGreatDoor.Cm
/- What a call turns and what it leaves: 'Turn O': nothing but the blocks of O is otherwise; rows and lists over it. No function of the program is named. -/
namespace Go.Proofs.YtceejjgmepaonaaGreatDoor
open Go.RowKit Go.ChangeShapes
/-- Nothing but the blocks of O is otherwise; new ones may lie behind. -/
def Turn (O : Nat → Prop) (w w' : World) : Prop :=
  w'.os = w.os ∧ w'.tape = w.tape ∧ w'.output = w.output ∧ w.heap.size ≤ w'.heap.size ∧ ∀ k, k < w.heap.size → ¬ O k → w'.heap[k]? = w.heap[k]?
theorem Turn.refl (O : Nat → Prop) (w : World) : Turn O w w := ⟨rfl, rfl, rfl, Nat.le_refl _, fun _ _ _ => rfl⟩
theorem Turn.trans {O O' : Nat → Prop} {a b c : World} (h : Turn O a b) (k : Turn O' b c) (ho : ∀ x, O' x → O x ∨ a.heap.size ≤ x) : Turn O a c := by
  obtain ⟨h1, h2, h3, h4, h5⟩ := h
  obtain ⟨k1, k2, k3, k4, k5⟩ := k
  refine ⟨k1.trans h1, k2.trans h2, k3.trans h3, Nat.le_trans h4 k4, fun i hi e => (k5 i (Nat.lt_of_lt_of_le hi h4) (fun e2 => ?_)).trans (h5 i hi e)⟩
  rcases ho i e2 with e3 | e3
  · exact e e3
  · omega
theorem Turn.grown {O : Nat → Prop} {w w' : World} {row : Option Nat} (h : w.grownBy w' row) (ho : ∀ k, row = some k → O k) : Turn O w w' :=
  ⟨h.os, h.tape, h.output, h.size, fun k hk e => h.block k hk (fun e2 => e (ho k e2.symm))⟩
theorem Turn.cell {O : Nat → Prop} {b : Nat} (w : World) (i : Nat) (v : Value) (ho : O b) : Turn O w (w.setCell ⟨b, i, none⟩ v) :=
  ⟨rfl, rfl, rfl, by simp, fun k _ hk => Below.heap_setCell _ _ _ k (fun e => hk (by rw [show k = b from e]; exact ho))⟩
theorem Turn.ofBelow {O : Nat → Prop} {w w' : World} (h : Below w.heap.size w w') : Turn O w w' := ⟨h.os, h.tape, h.output, h.size, fun k hk _ => h.block k hk⟩
theorem Turn.drawn {O : Nat → Prop} {w w' : World} (h : Turn O w w') (k : Nat) : Turn O w (w'.drewN k) := h
theorem Turn.below {O : Nat → Prop} {M : Nat} {w w' : World} (h : Turn O w w') (hs : M ≤ w.heap.size) (ho : ∀ k, O k → M ≤ k) : Below M w w' := by
  obtain ⟨h1, h2, h3, h4, h5⟩ := h
  exact ⟨h1, h2, h3, h4, fun k hk => h5 k (by omega) (fun e => by have := ho k e; omega)⟩
theorem Turn.size {O : Nat → Prop} {w w' : World} (h : Turn O w w') : w.heap.size ≤ w'.heap.size := h.2.2.2.1
/-- Four cells of one block. -/
def FourAt (N : Nat) (w : World) (a b c d : Value) : Prop := RowIs N w [a, b, c, d]
theorem FourAt.cells {N : Nat} {w : World} {a b c d : Value} (h : FourAt N w a b c d) :
    (w.cell? ⟨N, 0, none⟩ = some a ∧ w.cell? ⟨N, 1, none⟩ = some b ∧ w.cell? ⟨N, 2, none⟩ = some c ∧ w.cell? ⟨N, 3, none⟩ = some d) ∧
    (w.frozen? ⟨N, 0, none⟩ = false ∧ w.frozen? ⟨N, 1, none⟩ = false ∧ w.frozen? ⟨N, 2, none⟩ = false ∧ w.frozen? ⟨N, 3, none⟩ = false) :=
  ⟨⟨(h 0 (by simp)).1, (h 1 (by simp)).1, (h 2 (by simp)).1, (h 3 (by simp)).1⟩, (h 0 (by simp)).2, (h 1 (by simp)).2, (h 2 (by simp)).2, (h 3 (by simp)).2⟩
theorem FourAt.lt {N : Nat} {w : World} {a b c d : Value} (h : FourAt N w a b c d) : N < w.heap.size := RowIs.lt h (by simp)
theorem FourAt.new (w : World) (a b c d : Value) (T : TypeId) : FourAt w.heap.size (w.alloc (.cells #[a, b, c, d] T)) a b c d := by
  intro i hi
  match i, hi with
  | 0, _ => exact ⟨by simp, by simp⟩
  | 1, _ => exact ⟨by simp, by simp⟩
  | 2, _ => exact ⟨by simp, by simp⟩
  | 3, _ => exact ⟨by simp, by simp⟩
theorem row_same {b : Nat} {w w' : World} {vs : List Value} (h : RowIs b w vs) (hk : w'.heap[b]? = w.heap[b]?) : RowIs b w' vs :=
  fun i hi => ⟨(World.cell?_of_block hk).trans (h i hi).1, (World.frozen?_of_block hk).trans (h i hi).2⟩
theorem owns_same {w w' : World} {B : Nat} {e : TypeId} {size n : Nat} {v : Value} {xs : List Value} (h : w.ownsRow B e size v n xs) (hk : ∀ k, v.ownBlock = some k → w'.heap[k]? = w.heap[k]?) : w'.ownsRow B e size v n xs := by
  obtain ⟨h1, h2 | ⟨g, cap, cur, rfl, h3, h4, h5⟩⟩ := h
  · exact ⟨h1, Or.inl h2⟩
  · exact ⟨h1, Or.inr ⟨g, cap, cur, rfl, h3, (hk g rfl).trans h4, h5⟩⟩
/-- Where there are cells they lie in a block of their own. -/
theorem owns_slice {w : World} {B n : Nat} {e : TypeId} {size : Nat} {v : Value} {xs : List Value} (h : w.ownsRow B e size v n xs) (hn : 0 < n) : ∃ g cap, v = .slice (some ⟨g, 0, none⟩) n cap ∧ B ≤ g ∧ g < w.heap.size := by
  have hl := h.lt
  obtain ⟨h1, ⟨h2, h3⟩ | ⟨g, cap, cur, rfl, h3, h4, h5⟩⟩ := h
  · omega
  · exact ⟨g, cap, rfl, h3, (hl g rfl).2⟩
theorem owns_any {w : World} {B n : Nat} {e : TypeId} {size : Nat} {v : Value} {xs : List Value} (h : w.ownsRow B e size v n xs) : ∃ q cap, v = .slice q n cap := by
  obtain ⟨h1, ⟨h2, h3⟩ | ⟨g, cap, cur, rfl, h3, h4, h5⟩⟩ := h
  · exact ⟨none, 0, by rw [h2, h3]⟩
  · exact ⟨_, cap, rfl⟩
theorem four_set {b : Nat} {w : World} {v0 v1 v2 v3 : Value} (h : FourAt b w v0 v1 v2 v3) (u : Value) :
    FourAt b (w.setCell ⟨b, 1, none⟩ u) v0 u v2 v3 ∧ FourAt b (w.setCell ⟨b, 2, none⟩ u) v0 v1 u v3 ∧ FourAt b (w.setCell ⟨b, 3, none⟩ u) v0 v1 v2 u :=
  ⟨RowIs.set h (k := 1) (by simp) u, RowIs.set h (k := 2) (by simp) u, RowIs.set h (k := 3) (by simp) u⟩
theorem cell_other {w : World} {b i k : Nat} {v : Value} (h : k ≠ b) : (w.setCell ⟨b, i, none⟩ v).heap[k]? = w.heap[k]? := Below.heap_setCell _ _ _ k (fun e => h e)
theorem reads_same {α : Type} {enc : α → Value} {w w' : World} {q : Option Addr} {l : List α} (h : ReadsL enc w.heap.size w q l) (hk : ∀ z, q = some z → w'.heap[z.block]? = w.heap[z.block]?) (hs : w.heap.size ≤ w'.heap.size) : ReadsL enc w'.heap.size w' q l := by
  rcases h with h | ⟨b, off, rfl, hN, hc⟩
  · exact Or.inl h
  · exact Or.inr ⟨b, off, rfl, Nat.lt_of_lt_of_le hN hs, fun i hi => (World.cell?_of_block (a := ⟨b, off + i, none⟩) (hk ⟨b, off, none⟩ rfl)).trans (hc i hi)⟩
theorem reads_news {α : Type} {enc : α → Value} {N : Nat} {w : World} {ad : Addr} {l : List α} (h : ReadsL enc N w (some ad) l) : ∀ j u, (l.map enc)[j]? = some u → w.cell? (ad.add j) = some u := by
  intro j u hj
  rcases h with h | ⟨b, off, e, -, hc⟩
  · subst h; simp at hj
  · cases e
    obtain ⟨hjl, rfl⟩ := List.getElem?_eq_some_iff.1 hj
    rw [List.getElem_map, addr_add]
    exact hc j (by simpa using hjl)
theorem owns_apart {w : World} {B B' n n' s s' : Nat} {e e' : TypeId} {v v' : Value} {xs xs' : List Value} (h : w.ownsRow B e s v n xs) (h' : w.ownsRow B' e' s' v' n' xs') (hne : e ≠ e') : ∀ k, v.ownBlock = some k → v'.ownBlock ≠ some k := by
  intro k hk hk'
  obtain ⟨-, ⟨rfl, -⟩ | ⟨g, cap, cur, rfl, -, hg, -⟩⟩ := h
  · simp [Value.ownBlock] at hk
  obtain ⟨-, ⟨rfl, -⟩ | ⟨g', cap', cur', rfl, -, hg', -⟩⟩ := h'
  · simp [Value.ownBlock] at hk'
  simp [Value.ownBlock] at hk hk'
  subst hk
  subst hk'
  rw [hg] at hg'
  simp at hg'
  exact hne hg'.2
theorem info_int : ∃ i, (Tryz.prog.info? 3) = some i ∧ i.zero = some (.int .i64 0) ∧ i.size = 1 ∧ i.bytes = 8 := info_of (by kernel_rfl)
/-- What a call that gathers numbers answers. -/
def ListOut (l : List Int) (w w' : World) (v : Value) : Prop := ∃ q c, v = .slice q l.length c ∧ ReadsL encZ w'.heap.size w' q l ∧ Below w.heap.size w w'
end Go.Proofs.YtceejjgmepaonaaGreatDoor
