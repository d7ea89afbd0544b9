/- Texts that the laws of this seat stand on, part 9. -/
import Derived.Test.YtmohfmhkhldhnaaGreatPk8
import Derived.Test.YtmohfmhkhldhnaaGreatPk1
import Derived.ChangeSlices
import Derived.Deep.Slices
import Derived.Deep.SlicePairs
import Derived.ChangeSame
import Derived.Maps.OwnSet
import Derived.Maps.RangeWalk
import Derived.WideKeyPair
import Derived.WalkMore
import Derived.Ground.SlgcProg
import Derived.Shelf.SlicesG.Cmp
import Derived.Ground.SlsfProg
import Derived.Shelf.SlLaysF0
import Derived.Test.YtmohfmhkhldhnaaGreatProg
/- Edges in memory: a slice of structs of three numbers, what is read of it, one that a call gathers; an argument []api.Edge. -/
namespace Go.Proofs.YtmohfmhkhldhnaaGreat
open Go.RowKit Go.ChangeShapes EdPure
def encE (e : Ed) : Value := .agg #[.int .i64 e.1, .int .i64 e.2.1, .int .i64 e.2.2]
def cellE (e : Ed) : List Value := [.int .i64 e.1, .int .i64 e.2.1, .int .i64 e.2.2]
def flatE (l : List Ed) : List Value := l.flatMap cellE
theorem flatE_cons (e : Ed) (l : List Ed) : flatE (e :: l) = .int .i64 e.1 :: .int .i64 e.2.1 :: .int .i64 e.2.2 :: flatE l := rfl
theorem flatE_snoc (l : List Ed) (e : Ed) : flatE (l ++ [e]) = flatE l ++ cellE e := by unfold flatE; rw [List.flatMap_append]; simp
theorem flatE_len (l : List Ed) : (flatE l).length = l.length * 3 := by
  induction l with
  | nil => rfl
  | cons e l ih => rw [flatE_cons]; simp [ih]; omega
theorem flatE_at {l : List Ed} {n : Nat} (h : n < l.length) :
    (flatE l)[n * 3]? = some (.int .i64 l[n].1) ∧ (flatE l)[n * 3 + 1]? = some (.int .i64 l[n].2.1) ∧ (flatE l)[n * 3 + 2]? = some (.int .i64 l[n].2.2) := by
  induction l generalizing n with
  | nil => simp at h
  | cons e l ih =>
    rw [flatE_cons]
    cases n with
    | zero => simp
    | succ n =>
      have := ih (n := n) (by simpa using h)
      rw [show (n + 1) * 3 = n * 3 + 1 + 1 + 1 by omega]
      simpa using this
/-- What is read of a list of edges. -/
def ReadsE (N : Nat) (w : World) (a : Option Addr) (l : List Ed) : Prop :=
  l = [] ∨ ∃ b off, a = some ⟨b, off, none⟩ ∧ b < N ∧ ∀ i (h : i < l.length), w.cell? ⟨b, off + i * 3, none⟩ = some (.int .i64 l[i].1) ∧ w.cell? ⟨b, off + i * 3 + 1, none⟩ = some (.int .i64 l[i].2.1) ∧ w.cell? ⟨b, off + i * 3 + 2, none⟩ = some (.int .i64 l[i].2.2)
theorem ReadsE.on {N : Nat} {w w' : World} {a : Option Addr} {l : List Ed} (h : ReadsE N w a l) (hb : Below N w w') : ReadsE N w' a l := by
  rcases h with h | ⟨b, off, ha, hN, hc⟩
  · exact Or.inl h
  · exact Or.inr ⟨b, off, ha, hN, fun i hi => ⟨(hb.cell (by exact hN)).trans (hc i hi).1, (hb.cell (by exact hN)).trans (hc i hi).2.1, (hb.cell (by exact hN)).trans (hc i hi).2.2⟩⟩
theorem ReadsE.at {N : Nat} {w : World} {a : Option Addr} {l : List Ed} (h : ReadsE N w a l) {k : Nat} (hk : k < l.length) :
    ∃ b off, a = some ⟨b, off, none⟩ ∧ b < N ∧ w.cell? ⟨b, off + k * 3, none⟩ = some (.int .i64 l[k].1) ∧ w.cell? ⟨b, off + k * 3 + 1, none⟩ = some (.int .i64 l[k].2.1) ∧ w.cell? ⟨b, off + k * 3 + 2, none⟩ = some (.int .i64 l[k].2.2) := by
  rcases h with h | ⟨b, off, ha, hN, hc⟩
  · subst h; simp at hk
  · exact ⟨b, off, ha, hN, hc k hk⟩
theorem ReadsE.mono {N N' : Nat} {w : World} {a : Option Addr} {l : List Ed} (h : ReadsE N w a l) (hN : N ≤ N') : ReadsE N' w a l := by
  rcases h with h | ⟨b, off, ha, hb, hc⟩
  · exact Or.inl h
  · exact Or.inr ⟨b, off, ha, Nat.lt_of_lt_of_le hb hN, hc⟩
theorem ReadsE.over {N : Nat} {w w' : World} {a : Option Addr} {l : List Ed} (h : ReadsE N w a l) (hb : Below w.heap.size w w') (hN : N ≤ w.heap.size) : ReadsE w'.heap.size w' a l :=
  ((h.mono hN).on hb).mono hb.size
theorem ReadsE.nil (N : Nat) (w : World) (a : Option Addr) : ReadsE N w a [] := Or.inl rfl
/-- The parts of the element at k, at any world in which the memory up to w lies. -/
theorem ReadsE.cells {w : World} {a : Option Addr} {l : List Ed} (h : ReadsE w.heap.size w a l) {k : Nat} (hk : k < l.length) {W : World} (hB : Below w.heap.size w W) {u v x : Int} (he : l[k] = (u, v, x)) :
    ∃ b off, a = some ⟨b, off, none⟩ ∧ b < w.heap.size ∧ b < W.heap.size ∧ W.cell? ⟨b, off + k * 3, none⟩ = some (.int .i64 u) ∧ W.cell? ⟨b, off + k * 3 + 1, none⟩ = some (.int .i64 v) ∧ W.cell? ⟨b, off + k * 3 + 2, none⟩ = some (.int .i64 x) := by
  obtain ⟨b, off, h1, h2, h3, h4, h5⟩ := (h.on hB).at hk
  rw [he] at h3 h4 h5
  exact ⟨b, off, h1, h2, Nat.lt_of_lt_of_le h2 hB.size, h3, h4, h5⟩
theorem owns_readsE {w : World} {B n : Nat} {e : TypeId} {v : Value} {l : List Ed} (hn : n = l.length) (h : w.ownsRow B e 3 v n (flatE l)) :
    ∃ p cap, v = .slice p l.length cap ∧ ReadsE w.heap.size w p l ∧ l.length ≤ cap ∧ ∀ b, p = some b → b.block = b.block ∧ B ≤ b.block ∧ b.off = 0 := by
  subst hn
  have hc := fun g (hg : v.ownBlock = some g) => h.cells hg
  have hlt := h.lt
  obtain ⟨h1, ⟨rfl, h2⟩ | ⟨g, cap, cur, rfl, h3, h4, h5, h6, h7, h8⟩⟩ := h
  · have : l = [] := List.length_eq_zero_iff.1 h2
    subst this
    exact ⟨none, 0, rfl, Or.inl rfl, Nat.zero_le _, fun b hb => by cases hb⟩
  · refine ⟨some ⟨g, 0, none⟩, cap, rfl, Or.inr ⟨g, 0, rfl, (hlt g rfl).2, fun i hi => ?_⟩, h5, fun b hb => by cases hb; exact ⟨rfl, h3, rfl⟩⟩
    obtain ⟨e0, e1, e2⟩ := flatE_at hi
    have c0 := hc g rfl _ _ e0
    have c1 := hc g rfl _ _ e1
    have c2 := hc g rfl _ _ e2
    rw [addr_add] at c0 c1 c2
    exact ⟨c0, by rw [Nat.add_assoc]; exact c1, by rw [Nat.add_assoc]; exact c2⟩
/-- At the head of a round: what edges were gathered by append so far. -/
def GrowE (w0 : World) (xs : List Ed) (v : Value) (w : World) : Prop := Below w0.heap.size w0 w ∧ w.ownsRow w0.heap.size 54 3 v xs.length (flatE xs)
theorem GrowE.start (w : World) : GrowE w [] (.slice none 0 0) w := ⟨Below.refl _ _, World.ownsRow_nil _ _ _ _⟩
theorem GrowE.on {w0 w w' : World} {xs : List Ed} {v : Value} (h : GrowE w0 xs v w) (hb : Below w.heap.size w w') : GrowE w0 xs v w' :=
  ⟨h.1.trans (hb.mono h.1.size), owns_below h.2 hb⟩
theorem GrowE.step {w0 w w' : World} {xs : List Ed} {v v' : Value} {o : Obj} (h : GrowE w0 xs v w) (x : Ed) (h1 : w'.ownsRow w0.heap.size 54 3 v' (xs.length + 1) (flatE xs ++ cellE x)) (hg : (w.alloc o).grownBy w' v.ownBlock) :
    GrowE w0 (xs ++ [x]) v' w' := by
  refine ⟨(h.1.alloc h.1.size o).grown hg (h.1.alloc h.1.size o).size fun j hj => (h.2.lt j hj).1, ?_⟩
  rw [flatE_snoc, List.length_append]
  exact h1
/-- Over a step of the world after which only new blocks or the row are otherwise. -/
theorem GrowE.reads {w0 w : World} {xs : List Ed} {v : Value} (h : GrowE w0 xs v w) : ∃ p cap, v = .slice p xs.length cap ∧ ReadsE w.heap.size w p xs ∧ xs.length ≤ cap := by
  obtain ⟨p, cap, h1, h2, h3, -⟩ := owns_readsE rfl h.2
  exact ⟨p, cap, h1, h2, h3⟩
theorem info_edge : ∃ i, (Tryz.prog.info? 54) = some i ∧ i.zero = some (.agg #[.int .i64 0, .int .i64 0, .int .i64 0]) ∧ i.size = 3 ∧ i.bytes = 24 := info_of (by kernel_rfl)
theorem three_newsAt {w : World} {u v x : Value} {T : TypeId} {g : Nat} (hg : g = w.heap.size) : ∀ j y, [u, v, x][j]? = some y → (w.alloc (.cells #[u, v, x] T)).cell? ((⟨g, 0, none⟩ : Addr).add j) = some y := by
  subst hg
  intro j y hj
  match j, hj with
  | 0, hj => simp at hj; subst hj; simp [Addr.add]
  | 1, hj => simp at hj; subst hj; simp [Addr.add]
  | 2, hj => simp at hj; subst hj; simp [Addr.add]
theorem ones_edge {a b c : Int} : ∀ u ∈ [Value.int .i64 a, .int .i64 b, .int .i64 c], u.oneCell' = true := by
  intro u hu
  simp at hu
  rcases hu with hu | hu | hu <;> (subst hu; rfl)
/-- make([]api.Edge, 0, c). -/
theorem make_edges (c : Nat) (hc : c ≤ 1048576) (w : World) :
    ∃ cur, cur.size = c * 3 ∧ (Instr.makeSlice 22 (.int .i64 0) (.int .i64 (c : Int))).run Tryz.prog w = .ok (.slice (some ⟨w.heap.size, 0, none⟩) 0 c) (w.alloc (.cells cur 54)) := by
  obtain ⟨i, h1, h2, h3, h4⟩ := info_edge
  have hr := run_make (P := Tryz.prog) w 22 54 i _ Tryz.underlying22 h1 h2 .i64 .i64 0 (c : Int) (by omega) (by omega) (by rw [h4]; omega) (by omega)
  simp only [Int.toNat_zero, Int.toNat_natCast] at hr
  exact ⟨_, by rw [size_madeCells, h3], hr⟩
theorem GrowE.made (w0 w : World) (cur : Array Value) (c : Nat) (hb : Below w0.heap.size w0 w) (hc : c ≤ 1048576) (hs : cur.size = c * 3) :
    GrowE w0 [] (.slice (some ⟨w.heap.size, 0, none⟩) 0 c) (w.alloc (.cells cur 54)) :=
  ⟨hb.alloc hb.size _, World.ownsRow_made w cur c hb.size (by unfold maxLen; omega) hs⟩
set_option maxRecDepth 20000 in
theorem open_edges {H : Type} {enc : TypeId × Value → H} {W : World} {sp : Nat → Bool} {hd : Bool} {f len cap : Nat} {a : Option Addr} {x : DataW H × List MemPlace} (hf : DataW.trod enc Tryz.prog W 0 sp hd f 22 (Value.cells (.slice a len cap)).toList = some x) :
    ∃ l : List Ed, l.length = len ∧ (InL l ∧ ReadsE W.heap.size W a l) ∧ l.length ≤ maxLen := by
  rcases Go.Deep.open_slice Tryz.underlying22 hf with ⟨hcs, _⟩ | ⟨y, ln, c, m, n, D, Pl, hcs, _, hl, hm, hmm, _, hx⟩
  · simp [Value.cells] at hcs
    obtain ⟨rfl, rfl, rfl⟩ := hcs
    exact ⟨[], rfl, ⟨fun e he => by simp at he, Or.inl rfl⟩, Nat.zero_le _⟩
  · simp [Value.cells] at hcs
    obtain ⟨rfl, rfl, rfl⟩ := hcs
    have ce : Tryz.prog.cellsOf 54 = 3 := by kernel_rfl
    have hlm : len ≤ m := by
      by_cases e : sp y.block = true
      · rw [if_pos e] at hmm; omega
      · rw [if_neg e] at hmm; omega
    have each : ∀ i, i < m → ∃ q : Int × Int × Int, ((Lit.int .i64 q.1).wf = true ∧ (Lit.int .i64 q.2.1).wf = true ∧ (Lit.int .i64 q.2.2).wf = true) ∧ W.cell? (y.add (i * 3)) = some (.int .i64 q.1) ∧ W.cell? (y.add (i * 3 + 1)) = some (.int .i64 q.2.1) ∧ W.cell? (y.add (i * 3 + 2)) = some (.int .i64 q.2.2) := by
      intro i hi
      obtain ⟨cs', h1, h2⟩ := hx i hi
      clear hmm hlm hm hl
      rw [ce] at h1
      obtain ⟨_, hlen, hcell⟩ := World.cells?_some h1
      obtain ⟨xs, k, hk, hxy, _, hxl, hfl⟩ := DataW.trod_struct Tryz.underlying54 h2
      match xs, hxl, cs', hlen with
      | [y0, y1, y2], _, [v0, v1, v2], _ =>
        have g0 := hfl 0 _ rfl
        have g1 := hfl 1 _ rfl
        have g2 := hfl 2 _ rfl
        have ci : Tryz.prog.cellsOf 3 = 1 := by kernel_rfl
        have ci2 : Tryz.prog.cellsOf 2 = 1 := by kernel_rfl
        simp [ci, ci2] at g0 g1 g2
        have e0 := hcell 0 (by omega)
        have e1 := hcell 1 (by omega)
        have e2 := hcell 2 (by omega)
        rw [Go.Deep.add_add] at e0 e1 e2
        obtain ⟨n0, q0, -, w0⟩ := DataW.trod_int (t := 3) Tryz.underlying3 g0
        obtain ⟨n1, q1, -, w1⟩ := DataW.trod_int (t := 3) Tryz.underlying3 g1
        obtain ⟨n2, q2, -, w2⟩ := DataW.trod_int (t := 2) Tryz.underlying2 g2
        have q0' : v0 = .int .i64 n0 := by simpa using q0
        have q1' : v1 = .int .i64 n1 := by simpa using q1
        have q2' : v2 = .int .i64 n2 := by simpa using q2
        subst q0' q1' q2'
        exact ⟨(n0, n1, n2), ⟨w0, w1, w2⟩, by simpa using e0, by simpa using e1, by simpa using e2⟩
    obtain ⟨q, hq⟩ := Go.Deep.choose_lt each
    refine ⟨(List.range len).map q, by simp, ⟨fun e he => ?_, ?_⟩, by simp; omega⟩
    · obtain ⟨i, hi, rfl⟩ := List.mem_map.1 he
      obtain ⟨⟨w0, w1, w2⟩, -⟩ := hq i (by have := List.mem_range.1 hi; omega)
      exact ⟨bounds_i64 w0, bounds_i64 w1, bounds_i64 w2⟩
    by_cases h0 : len = 0
    · left; simp [h0]
    · right
      have hz := (hq 0 (by omega)).2.1
      obtain ⟨b, off, spot⟩ := y
      have hspot : spot = none := by simpa [Addr.add] using World.cell?_spot hz
      subst hspot
      refine ⟨b, off, rfl, World.block_lt_of_cell? W _ hz, fun i h => ?_⟩
      have hil : i < len := by simpa using h
      obtain ⟨-, g0, g1, g2⟩ := hq i (by omega)
      rw [addr_add] at g0 g1 g2
      rw [List.getElem_map, List.getElem_range, Nat.add_assoc, Nat.add_assoc]
      exact ⟨g0, g1, g2⟩
end Go.Proofs.YtmohfmhkhldhnaaGreat
/- A map keyed by pairs that the call makes: what it tells, beside the list of merged edges that it stands for. -/
namespace Go.Proofs.YtmohfmhkhldhnaaGreat
open Go.RowKit Go.ChangeShapes Go.Maps Go.WideMaps EdPure NumPure
/-- A pair, as an array. -/
def encP (p : Int × Int) : Value := .agg #[.int .i64 p.1, .int .i64 p.2]
theorem arrP : ArrKey Tryz.prog 23 3 2 := ⟨Tryz.underlying23, by kernel_rfl, by kernel_rfl, by kernel_rfl⟩
theorem lawP : Keyed Tryz.prog 23 := Keyed.of_law arrP.law
theorem typesP : ∃ m, Tryz.prog.types.size = m + 1 := ⟨Tryz.prog.types.size - 1, by kernel_rfl⟩
/-- What a pair reads as. -/
def kP (u v : Int) : Lit := .string (keyBytes [.int .i64 u, .int .i64 v])
theorem keyP {u v : Int} (hu : In u) (hv : In v) : keyOf Tryz.prog 23 (encP (u, v)) = some (kP u v) :=
  keyOf_pair arrP Tryz.underlying3 typesP (WalkArith.wf_i64 (by unfold In at hu; omega)) (WalkArith.wf_i64 (by unfold In at hv; omega))
theorem kP_key {u v : Int} (hu : In u) (hv : In v) : WideAt.IsKeyLit (kP u v) := lawP.key (keyP hu hv)
theorem kP_inj {u v u' v' : Int} (hu : In u) (hv : In v) (hu' : In u') (hv' : In v') (h : kP u v = kP u' v') : u = u' ∧ v = v' := by
  have := lawP.inj (keyP hu hv) (by rw [h]; exact keyP hu' hv')
  unfold encP at this
  simp only [Value.agg.injEq, Array.mk.injEq, List.cons.injEq, Value.int.injEq, true_and, and_true] at this
  exact this
theorem kP_ne {u v u' v' : Int} (hu : In u) (hv : In v) (hu' : In u') (hv' : In v') (h : ¬ (u = u' ∧ v = v')) : kP u v ≠ kP u' v' := fun e => h (kP_inj hu hv hu' hv' e)
set_option maxRecDepth 20000 in
theorem keyP_inv {v : Value} {kl : Lit} (h : keyOf Tryz.prog 23 v = some kl) : ∃ a b : Int, v = encP (a, b) ∧ In a ∧ In b ∧ kl = kP a b := by
  have h0 := h
  obtain ⟨m, hm⟩ := typesP
  unfold keyOf at h
  simp only [Tryz.underlying23] at h
  split at h
  · rename_i hc
    rw [Bool.and_eq_true] at hc
    have hf := hc.2
    cases v with
    | agg cs =>
      have hs : cs.size = 2 := by simpa [Value.formed, Tryz.underlying23, arrP.size] using hf
      obtain ⟨l⟩ := cs
      match l, hs with
      | [c0, c1], _ =>
        rw [Option.map_eq_some_iff] at h
        obtain ⟨ls, h1, -⟩ := h
        rw [hm] at h1
        unfold Program.keyLits at h1
        simp only [Tryz.underlying23, Value.cells] at h1
        rw [if_pos (by rw [arrP.size]; rfl), show List.range 2 = [0, 1] from rfl, List.mapM_cons, List.mapM_cons, List.mapM_nil] at h1
        simp only [bind, Option.bind_eq_some_iff, pure, Option.some.injEq, arrP.one, Option.map_eq_some_iff] at h1
        obtain ⟨xs, ⟨y0, g0, _, ⟨y1, g1, _, rfl, rfl⟩, rfl⟩, -⟩ := h1
        have one : ∀ {c : Value} {y : List Lit}, Tryz.prog.keyLits (m + 1) 3 [c] = some y → ∃ n, c = .int .i64 n ∧ (Lit.int .i64 n).wf = true := by
          intro c y hy
          unfold Program.keyLits at hy
          simp only [Tryz.underlying3] at hy
          cases c <;> simp at hy
          obtain ⟨⟨rfl, hw⟩, -⟩ := hy
          exact ⟨_, rfl, hw⟩
        have o0 : ∃ n, c0 = .int .i64 n ∧ (Lit.int .i64 n).wf = true := one (y := y0) (by simpa using g0)
        have o1 : ∃ n, c1 = .int .i64 n ∧ (Lit.int .i64 n).wf = true := one (y := y1) (by simpa using g1)
        obtain ⟨a, rfl, wa⟩ := o0
        obtain ⟨b, rfl, wb⟩ := o1
        have ia : In a := bounds_i64 wa
        have ib : In b := bounds_i64 wb
        exact ⟨a, b, rfl, ia, ib, Option.some.inj (h0.symm.trans (keyP ia ib))⟩
    | _ => simp [Value.formed, Tryz.underlying23] at hf
  · cases h
def dI (z : Int) : DataW Unit := .lit (.int .i64 z)
/-- What the map tells: of each pair whether it is there, and what it weighs. -/
def MapIs (M : List Ed) (D : DataW Unit) : Prop :=
  Tidy D ∧ (∀ u v, In u → In v → has D (kP u v) = hasM M u v) ∧ (∀ u v, In u → In v → D.atKey (kP u v) (dI 0) = dI (wOf M u v)) ∧ size D = M.length
theorem MapIs.empty : MapIs [] (.map []) := ⟨tidy_empty, fun _ _ _ _ => rfl, fun _ _ _ _ => rfl, rfl⟩
theorem MapIs.add {M M' : List Ed} {D : DataW Unit} (h : MapIs M D) (hM : M.Pairwise lt2) {e : Ed} (hu : In e.1) (hv : In e.2.1) (ha : addL M e = some M') : MapIs M' (D.put (kP e.1 e.2.1) (dI (wOf M e.1 e.2.1 + e.2.2))) := by
  obtain ⟨h1, h2, h3, h4⟩ := h
  obtain ⟨a1, a2, -, -, a5⟩ := add_some hM ha
  have hk := kP_key hu hv
  refine ⟨h1.put hk _, fun u v iu iv => ?_, fun u v iu iv => ?_, ?_⟩
  · rw [a1]
    by_cases hx : isAt u v e
    · obtain ⟨x1, x2⟩ := hx
      subst x1 x2
      rw [has_put_same h1.isMap hk, decide_eq_true (p := isAt e.1 e.2.1 e) ⟨rfl, rfl⟩, Bool.or_true]
    · rw [has_put_other (kP_ne iu iv hu hv (fun e2 => hx ⟨e2.1.symm, e2.2.symm⟩)), h2 u v iu iv, decide_eq_false hx, Bool.or_false]
  · rw [a2]
    by_cases hx : isAt u v e
    · rw [if_pos hx]
      obtain ⟨x1, x2⟩ := hx
      subst x1 x2
      rw [atKey_put_same h1.isMap hk]
    · rw [atKey_put_other (kP_ne iu iv hu hv (fun e2 => hx ⟨e2.1.symm, e2.2.symm⟩)), if_neg hx, h3 u v iu iv]
  · rw [size_put h1, h2 _ _ hu hv, h4, a5]
theorem map_addP {M M' : List Ed} {D : DataW Unit} (h : MapIs M D) (hM : M.Pairwise lt2) {p q y : Int} (hu : In p) (hv : In q) (ha : addL M (p, q, y) = some M') {z : Int} (hz : wOf M p q = z) : MapIs M' (D.put (kP p q) (dI (z + y))) := by
  have := MapIs.add (e := (p, q, y)) h hM hu hv ha
  rw [← hz]
  exact this
def OwnsD (w : World) (m k : Nat) (D : DataW Unit) : Prop := w.ownsMap Tryz.prog 23 (plainElem (H := Unit) Tryz.prog 2) m k D
theorem map_tight {w : World} {m k : Nat} {D : DataW Unit} (h : OwnsD w m k D) : OwnsD w m (size D) D := by
  obtain ⟨es, clock, hb, F, _, rfl⟩ := h
  exact ⟨es, clock, hb, F, by simp [Maps.size, length_sorted], rfl⟩
theorem map_over {w w' : World} {m k : Nat} {D : DataW Unit} (h : OwnsD w m k D) (e : w'.heap[m]? = w.heap[m]?) : OwnsD w' m k D := by
  obtain ⟨es, clock, hb, r⟩ := h
  exact ⟨es, clock, e.trans hb, r⟩
theorem map_on {w w' : World} {m k : Nat} {D : DataW Unit} (h : OwnsD w m k D) (hb : Below w.heap.size w w') : OwnsD w' m k D := map_over h (hb.block m h.lt)
theorem zero64 (w : World) : (zeroValue 2).run Tryz.prog w = .ok (.int .i64 0) w := by kernel_rfl
set_option maxRecDepth 20000 in
/-- What a look-up tells. -/
theorem look_any {w : World} {m k : Nat} {M : List Ed} {D : DataW Unit} (h : OwnsD w m k D) (hD : MapIs M D) {u v : Int} (hu : In u) (hv : In v) :
    (Instr.lookup 90 (.map (some m)) (.agg #[.int .i64 u, .int .i64 v]) false).run Tryz.prog w = .ok (.int .i64 (wOf M u v)) w := by
  obtain ⟨c, hrun, hat, -⟩ := h.lookup_int lawP Tryz.underlying90 Tryz.underlying2 (zero64 w) (keyP hu hv)
  have := hat.symm.trans (hD.2.2.1 u v hu hv)
  unfold dI at this
  injection this with e
  injection e with _ e
  unfold encP at hrun
  rw [hrun, e]
end Go.Proofs.YtmohfmhkhldhnaaGreat
/- The library's contracts that edges lean on, laid at this program: cmp.Compare at both kinds and slices.SortFunc at api.Edge. -/
namespace Go.Proofs
open Go.Shelf
def Tryz.laysCmp64_ren : Go.Shelf.Ren := ⟨fun | 5 => 72 | 7 => 98 | n => n, fun | 22 => 2 | 3 => 3 | 4 => 4 | n => n, fun | n => n⟩
theorem Tryz.laysCmp64 : Go.Proofs.SlLaysC2.n5 Tryz.prog Tryz.laysCmp64_ren := {
  mixed := by kernel_rfl
  f5 := ⟨Tryz.f72.name, by decide, Tryz.func72.trans (congrArg some (by kernel_rfl))⟩
  f7 := ⟨Tryz.f98.name, by decide, Tryz.func98.trans (congrArg some (by kernel_rfl))⟩
  t3 := Tryz.underlying3
  a3 := Tryz.isAgg3
  z3 := Tryz.sizeOf3
  v3 := Tryz.zeroValue3
  t4 := Tryz.underlying4
  a4 := Tryz.isAgg4
  z4 := Tryz.sizeOf4
  v4 := Tryz.zeroValue4
  t22 := Tryz.underlying2
  a22 := Tryz.isAgg2
  z22 := Tryz.sizeOf2
  v22 := Tryz.zeroValue2 }
def Tryz.laysCmp_ren : Go.Shelf.Ren := ⟨fun | 5 => 71 | 7 => 97 | n => n, fun | 22 => 3 | 3 => 3 | 4 => 4 | n => n, fun | n => n⟩
theorem Tryz.laysCmp : Go.Proofs.SlLaysC2.n5 Tryz.prog Tryz.laysCmp_ren := {
  mixed := by kernel_rfl
  f5 := ⟨Tryz.f71.name, by decide, Tryz.func71.trans (congrArg some (by kernel_rfl))⟩
  f7 := ⟨Tryz.f97.name, by decide, Tryz.func97.trans (congrArg some (by kernel_rfl))⟩
  t3 := Tryz.underlying3
  a3 := Tryz.isAgg3
  z3 := Tryz.sizeOf3
  v3 := Tryz.zeroValue3
  t4 := Tryz.underlying4
  a4 := Tryz.isAgg4
  z4 := Tryz.sizeOf4
  v4 := Tryz.zeroValue4
  t22 := Tryz.underlying3
  a22 := Tryz.isAgg3
  z22 := Tryz.sizeOf3
  v22 := Tryz.zeroValue3 }
def Tryz.laysSortF_ren : Go.Shelf.Ren := ⟨fun | 6 => 47 | 15 => 58 | 14 => 69 | 28 => 85 | 29 => 86 | 20 => 89 | 21 => 90 | 22 => 91 | 23 => 92 | 24 => 93 | 25 => 94 | 26 => 95 | 27 => 96 | 46 => 106 | 47 => 102 | 48 => 103 | 49 => 107 | 50 => 108 | 57 => 110 | n => n, fun | 22 => 22 | 24 => 54 | 25 => 94 | 3 => 3 | 39 => 88 | 0 => 0 | 53 => 134 | 55 => 136 | 4 => 4 | 46 => 128 | 45 => 127 | 50 => 110 | 5 => 5 | 9 => 9 | 66 => 150 | 70 => 154 | 76 => 158 | 77 => 159 | n => n, fun | n => n⟩
theorem Tryz.laysSortF : Go.Proofs.SlLaysF0.n6 Tryz.prog Tryz.laysSortF_ren := {
  mixed := by kernel_rfl
  f6 := ⟨Tryz.f47.name, by decide, Tryz.func47.trans (congrArg some (by kernel_rfl))⟩
  f14 := ⟨Tryz.f69.name, by decide, Tryz.func69.trans (congrArg some (by kernel_rfl))⟩
  f15 := Tryz.func58.trans (congrArg some (by kernel_rfl))
  f20 := ⟨Tryz.f89.name, by decide, Tryz.func89.trans (congrArg some (by kernel_rfl))⟩
  f21 := ⟨Tryz.f90.name, by decide, Tryz.func90.trans (congrArg some (by kernel_rfl))⟩
  f22 := ⟨Tryz.f91.name, by decide, Tryz.func91.trans (congrArg some (by kernel_rfl))⟩
  f23 := ⟨Tryz.f92.name, by decide, Tryz.func92.trans (congrArg some (by kernel_rfl))⟩
  f24 := ⟨Tryz.f93.name, by decide, Tryz.func93.trans (congrArg some (by kernel_rfl))⟩
  f25 := ⟨Tryz.f94.name, by decide, Tryz.func94.trans (congrArg some (by kernel_rfl))⟩
  f26 := ⟨Tryz.f95.name, by decide, Tryz.func95.trans (congrArg some (by kernel_rfl))⟩
  f27 := ⟨Tryz.f96.name, by decide, Tryz.func96.trans (congrArg some (by kernel_rfl))⟩
  f28 := Tryz.func85.trans (congrArg some (by kernel_rfl))
  f29 := Tryz.func86.trans (congrArg some (by kernel_rfl))
  f46 := ⟨Tryz.f106.name, by decide, Tryz.func106.trans (congrArg some (by kernel_rfl))⟩
  f47 := Tryz.func102.trans (congrArg some (by kernel_rfl))
  f48 := Tryz.func103.trans (congrArg some (by kernel_rfl))
  f49 := ⟨Tryz.f107.name, by decide, Tryz.func107.trans (congrArg some (by kernel_rfl))⟩
  f50 := ⟨Tryz.f108.name, by decide, Tryz.func108.trans (congrArg some (by kernel_rfl))⟩
  f57 := ⟨Tryz.f110.name, by decide, Tryz.func110.trans (congrArg some (by kernel_rfl))⟩
  t0 := Tryz.underlying0
  a0 := Tryz.isAgg0
  z0 := Tryz.sizeOf0
  v0 := Tryz.zeroValue0
  t3 := Tryz.underlying3
  a3 := Tryz.isAgg3
  z3 := Tryz.sizeOf3
  v3 := Tryz.zeroValue3
  t4 := Tryz.underlying4
  a4 := Tryz.isAgg4
  z4 := Tryz.sizeOf4
  v4 := Tryz.zeroValue4
  t5 := Tryz.underlying5
  a5 := Tryz.isAgg5
  z5 := Tryz.sizeOf5
  v5 := Tryz.zeroValue5
  t9 := Tryz.underlying9
  a9 := Tryz.isAgg9
  z9 := Tryz.sizeOf9
  v9 := Tryz.zeroValue9
  t22 := Tryz.underlying22
  a22 := Tryz.isAgg22
  z22 := Tryz.sizeOf22
  v22 := Tryz.zeroValue22
  t25 := Tryz.underlying94
  a25 := Tryz.isAgg94
  z25 := Tryz.sizeOf94
  v25 := Tryz.zeroValue94
  t39 := Tryz.underlying88
  a39 := Tryz.isAgg88
  z39 := Tryz.sizeOf88
  v39 := Tryz.zeroValue88
  t45 := Tryz.underlying127
  a45 := Tryz.isAgg127
  z45 := Tryz.sizeOf127
  v45 := Tryz.zeroValue127
  t46 := Tryz.underlying128
  a46 := Tryz.isAgg128
  z46 := Tryz.sizeOf128
  v46 := Tryz.zeroValue128
  t50 := Tryz.underlying110
  a50 := Tryz.isAgg110
  z50 := Tryz.sizeOf110
  v50 := Tryz.zeroValue110
  t53 := Tryz.underlying134
  a53 := Tryz.isAgg134
  z53 := Tryz.sizeOf134
  v53 := Tryz.zeroValue134
  t55 := Tryz.underlying136
  a55 := Tryz.isAgg136
  z55 := Tryz.sizeOf136
  v55 := Tryz.zeroValue136
  t66 := Tryz.underlying150
  a66 := Tryz.isAgg150
  z66 := Tryz.sizeOf150
  v66 := Tryz.zeroValue150
  t70 := Tryz.underlying154
  a70 := Tryz.isAgg154
  z70 := Tryz.sizeOf154
  v70 := Tryz.zeroValue154
  t76 := Tryz.underlying158
  a76 := Tryz.isAgg158
  z76 := Tryz.sizeOf158
  v76 := Tryz.zeroValue158
  t77 := Tryz.underlying159
  a77 := Tryz.isAgg159
  z77 := Tryz.sizeOf159
  v77 := Tryz.zeroValue159 }
end Go.Proofs
