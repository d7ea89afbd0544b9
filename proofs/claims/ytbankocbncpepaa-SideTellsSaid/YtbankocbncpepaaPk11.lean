/- Texts that the laws of this seat stand on, part 11. -/
import Derived.Test.YtbankocbncpepaaPk6
import Derived.Test.YtbankocbncpepaaPk1
import Derived.Test.YtbankocbncpepaaPk2
import Derived.ChangeSlices
import Derived.Deep.Slices
import Derived.Deep.SlicePairs
import Derived.ChangeSame
import Derived.Deep.QuietTactic
import Derived.BigQuiet
/- Edges in memory: a slice of structs of three numbers, what is read of it, one that a call gathers; an argument []api.Edge. -/
namespace Go.Proofs.Ytbankocbncpepaa
open Go.RowKit Go.ChangeShapes EdPure
def encE (e : Ed) : Value := .agg #[.int .i64 e.1, .int .i64 e.2.1, .int .i64 e.2.2]
def cellE (e : Ed) : List Value := [.int .i64 e.1, .int .i64 e.2.1, .int .i64 e.2.2]
def flatE (l : List Ed) : List Value := l.flatMap cellE
theorem flatE_cons (e : Ed) (l : List Ed) : flatE (e :: l) = .int .i64 e.1 :: .int .i64 e.2.1 :: .int .i64 e.2.2 :: flatE l := rfl
theorem flatE_snoc (l : List Ed) (e : Ed) : flatE (l ++ [e]) = flatE l ++ cellE e := by unfold flatE; rw [List.flatMap_append]; simp
theorem flatE_len (l : List Ed) : (flatE l).length = l.length * 3 := by
  induction l with
  | nil => rfl
  | cons e l ih => rw [flatE_cons]; simp [ih]; omega
theorem flatE_at {l : List Ed} {n : Nat} (h : n < l.length) :
    (flatE l)[n * 3]? = some (.int .i64 l[n].1) ∧ (flatE l)[n * 3 + 1]? = some (.int .i64 l[n].2.1) ∧ (flatE l)[n * 3 + 2]? = some (.int .i64 l[n].2.2) := by
  induction l generalizing n with
  | nil => simp at h
  | cons e l ih =>
    rw [flatE_cons]
    cases n with
    | zero => simp
    | succ n =>
      have := ih (n := n) (by simpa using h)
      rw [show (n + 1) * 3 = n * 3 + 1 + 1 + 1 by omega]
      simpa using this
/-- What is read of a list of edges. -/
def ReadsE (N : Nat) (w : World) (a : Option Addr) (l : List Ed) : Prop :=
  l = [] ∨ ∃ b off, a = some ⟨b, off, none⟩ ∧ b < N ∧ ∀ i (h : i < l.length), w.cell? ⟨b, off + i * 3, none⟩ = some (.int .i64 l[i].1) ∧ w.cell? ⟨b, off + i * 3 + 1, none⟩ = some (.int .i64 l[i].2.1) ∧ w.cell? ⟨b, off + i * 3 + 2, none⟩ = some (.int .i64 l[i].2.2)
theorem ReadsE.on {N : Nat} {w w' : World} {a : Option Addr} {l : List Ed} (h : ReadsE N w a l) (hb : Below N w w') : ReadsE N w' a l := by
  rcases h with h | ⟨b, off, ha, hN, hc⟩
  · exact Or.inl h
  · exact Or.inr ⟨b, off, ha, hN, fun i hi => ⟨(hb.cell (by exact hN)).trans (hc i hi).1, (hb.cell (by exact hN)).trans (hc i hi).2.1, (hb.cell (by exact hN)).trans (hc i hi).2.2⟩⟩
theorem ReadsE.at {N : Nat} {w : World} {a : Option Addr} {l : List Ed} (h : ReadsE N w a l) {k : Nat} (hk : k < l.length) :
    ∃ b off, a = some ⟨b, off, none⟩ ∧ b < N ∧ w.cell? ⟨b, off + k * 3, none⟩ = some (.int .i64 l[k].1) ∧ w.cell? ⟨b, off + k * 3 + 1, none⟩ = some (.int .i64 l[k].2.1) ∧ w.cell? ⟨b, off + k * 3 + 2, none⟩ = some (.int .i64 l[k].2.2) := by
  rcases h with h | ⟨b, off, ha, hN, hc⟩
  · subst h; simp at hk
  · exact ⟨b, off, ha, hN, hc k hk⟩
theorem ReadsE.mono {N N' : Nat} {w : World} {a : Option Addr} {l : List Ed} (h : ReadsE N w a l) (hN : N ≤ N') : ReadsE N' w a l := by
  rcases h with h | ⟨b, off, ha, hb, hc⟩
  · exact Or.inl h
  · exact Or.inr ⟨b, off, ha, Nat.lt_of_lt_of_le hb hN, hc⟩
theorem ReadsE.over {N : Nat} {w w' : World} {a : Option Addr} {l : List Ed} (h : ReadsE N w a l) (hb : Below w.heap.size w w') (hN : N ≤ w.heap.size) : ReadsE w'.heap.size w' a l :=
  ((h.mono hN).on hb).mono hb.size
theorem ReadsE.nil (N : Nat) (w : World) (a : Option Addr) : ReadsE N w a [] := Or.inl rfl
/-- The parts of the element at k, at any world in which the memory up to w lies. -/
theorem ReadsE.cells {w : World} {a : Option Addr} {l : List Ed} (h : ReadsE w.heap.size w a l) {k : Nat} (hk : k < l.length) {W : World} (hB : Below w.heap.size w W) {u v x : Int} (he : l[k] = (u, v, x)) :
    ∃ b off, a = some ⟨b, off, none⟩ ∧ b < w.heap.size ∧ b < W.heap.size ∧ W.cell? ⟨b, off + k * 3, none⟩ = some (.int .i64 u) ∧ W.cell? ⟨b, off + k * 3 + 1, none⟩ = some (.int .i64 v) ∧ W.cell? ⟨b, off + k * 3 + 2, none⟩ = some (.int .i64 x) := by
  obtain ⟨b, off, h1, h2, h3, h4, h5⟩ := (h.on hB).at hk
  rw [he] at h3 h4 h5
  exact ⟨b, off, h1, h2, Nat.lt_of_lt_of_le h2 hB.size, h3, h4, h5⟩
theorem owns_readsE {w : World} {B n : Nat} {e : TypeId} {v : Value} {l : List Ed} (hn : n = l.length) (h : w.ownsRow B e 3 v n (flatE l)) :
    ∃ p cap, v = .slice p l.length cap ∧ ReadsE w.heap.size w p l ∧ l.length ≤ cap ∧ ∀ b, p = some b → b.block = b.block ∧ B ≤ b.block ∧ b.off = 0 := by
  subst hn
  have hc := fun g (hg : v.ownBlock = some g) => h.cells hg
  have hlt := h.lt
  obtain ⟨h1, ⟨rfl, h2⟩ | ⟨g, cap, cur, rfl, h3, h4, h5, h6, h7, h8⟩⟩ := h
  · have : l = [] := List.length_eq_zero_iff.1 h2
    subst this
    exact ⟨none, 0, rfl, Or.inl rfl, Nat.zero_le _, fun b hb => by cases hb⟩
  · refine ⟨some ⟨g, 0, none⟩, cap, rfl, Or.inr ⟨g, 0, rfl, (hlt g rfl).2, fun i hi => ?_⟩, h5, fun b hb => by cases hb; exact ⟨rfl, h3, rfl⟩⟩
    obtain ⟨e0, e1, e2⟩ := flatE_at hi
    have c0 := hc g rfl _ _ e0
    have c1 := hc g rfl _ _ e1
    have c2 := hc g rfl _ _ e2
    rw [addr_add] at c0 c1 c2
    exact ⟨c0, by rw [Nat.add_assoc]; exact c1, by rw [Nat.add_assoc]; exact c2⟩
/-- At the head of a round: what edges were gathered by append so far. -/
def GrowE (w0 : World) (xs : List Ed) (v : Value) (w : World) : Prop := Below w0.heap.size w0 w ∧ w.ownsRow w0.heap.size 58 3 v xs.length (flatE xs)
theorem GrowE.start (w : World) : GrowE w [] (.slice none 0 0) w := ⟨Below.refl _ _, World.ownsRow_nil _ _ _ _⟩
theorem GrowE.on {w0 w w' : World} {xs : List Ed} {v : Value} (h : GrowE w0 xs v w) (hb : Below w.heap.size w w') : GrowE w0 xs v w' :=
  ⟨h.1.trans (hb.mono h.1.size), owns_below h.2 hb⟩
theorem GrowE.step {w0 w w' : World} {xs : List Ed} {v v' : Value} {o : Obj} (h : GrowE w0 xs v w) (x : Ed) (h1 : w'.ownsRow w0.heap.size 58 3 v' (xs.length + 1) (flatE xs ++ cellE x)) (hg : (w.alloc o).grownBy w' v.ownBlock) :
    GrowE w0 (xs ++ [x]) v' w' := by
  refine ⟨(h.1.alloc h.1.size o).grown hg (h.1.alloc h.1.size o).size fun j hj => (h.2.lt j hj).1, ?_⟩
  rw [flatE_snoc, List.length_append]
  exact h1
/-- Over a step of the world after which only new blocks or the row are otherwise. -/
theorem GrowE.reads {w0 w : World} {xs : List Ed} {v : Value} (h : GrowE w0 xs v w) : ∃ p cap, v = .slice p xs.length cap ∧ ReadsE w.heap.size w p xs ∧ xs.length ≤ cap := by
  obtain ⟨p, cap, h1, h2, h3, -⟩ := owns_readsE rfl h.2
  exact ⟨p, cap, h1, h2, h3⟩
theorem info_edge : ∃ i, (Try.prog.info? 58) = some i ∧ i.zero = some (.agg #[.int .i64 0, .int .i64 0, .int .i64 0]) ∧ i.size = 3 ∧ i.bytes = 24 := info_of (by kernel_rfl)
theorem three_newsAt {w : World} {u v x : Value} {T : TypeId} {g : Nat} (hg : g = w.heap.size) : ∀ j y, [u, v, x][j]? = some y → (w.alloc (.cells #[u, v, x] T)).cell? ((⟨g, 0, none⟩ : Addr).add j) = some y := by
  subst hg
  intro j y hj
  match j, hj with
  | 0, hj => simp at hj; subst hj; simp [Addr.add]
  | 1, hj => simp at hj; subst hj; simp [Addr.add]
  | 2, hj => simp at hj; subst hj; simp [Addr.add]
theorem ones_edge {a b c : Int} : ∀ u ∈ [Value.int .i64 a, .int .i64 b, .int .i64 c], u.oneCell' = true := by
  intro u hu
  simp at hu
  rcases hu with hu | hu | hu <;> (subst hu; rfl)
/-- make([]api.Edge, 0, c). -/
theorem make_edges (c : Nat) (hc : c ≤ 1048576) (w : World) :
    ∃ cur, cur.size = c * 3 ∧ (Instr.makeSlice 22 (.int .i64 0) (.int .i64 (c : Int))).run Try.prog w = .ok (.slice (some ⟨w.heap.size, 0, none⟩) 0 c) (w.alloc (.cells cur 58)) := by
  obtain ⟨i, h1, h2, h3, h4⟩ := info_edge
  have hr := run_make (P := Try.prog) w 22 58 i _ Try.underlying22 h1 h2 .i64 .i64 0 (c : Int) (by omega) (by omega) (by rw [h4]; omega) (by omega)
  simp only [Int.toNat_zero, Int.toNat_natCast] at hr
  exact ⟨_, by rw [size_madeCells, h3], hr⟩
theorem GrowE.made (w0 w : World) (cur : Array Value) (c : Nat) (hb : Below w0.heap.size w0 w) (hc : c ≤ 1048576) (hs : cur.size = c * 3) :
    GrowE w0 [] (.slice (some ⟨w.heap.size, 0, none⟩) 0 c) (w.alloc (.cells cur 58)) :=
  ⟨hb.alloc hb.size _, World.ownsRow_made w cur c hb.size (by unfold maxLen; omega) hs⟩
set_option maxRecDepth 20000 in
theorem open_edges {H : Type} {enc : TypeId × Value → H} {W : World} {sp : Nat → Bool} {hd : Bool} {f len cap : Nat} {a : Option Addr} {x : DataW H × List MemPlace} (hf : DataW.trod enc Try.prog W 0 sp hd f 22 (Value.cells (.slice a len cap)).toList = some x) :
    ∃ l : List Ed, l.length = len ∧ (InL l ∧ ReadsE W.heap.size W a l) ∧ l.length ≤ maxLen := by
  rcases Go.Deep.open_slice Try.underlying22 hf with ⟨hcs, _⟩ | ⟨y, ln, c, m, n, D, Pl, hcs, _, hl, hm, hmm, _, hx⟩
  · simp [Value.cells] at hcs
    obtain ⟨rfl, rfl, rfl⟩ := hcs
    exact ⟨[], rfl, ⟨fun e he => by simp at he, Or.inl rfl⟩, Nat.zero_le _⟩
  · simp [Value.cells] at hcs
    obtain ⟨rfl, rfl, rfl⟩ := hcs
    have ce : Try.prog.cellsOf 58 = 3 := by kernel_rfl
    have hlm : len ≤ m := by
      by_cases e : sp y.block = true
      · rw [if_pos e] at hmm; omega
      · rw [if_neg e] at hmm; omega
    have each : ∀ i, i < m → ∃ q : Int × Int × Int, ((Lit.int .i64 q.1).wf = true ∧ (Lit.int .i64 q.2.1).wf = true ∧ (Lit.int .i64 q.2.2).wf = true) ∧ W.cell? (y.add (i * 3)) = some (.int .i64 q.1) ∧ W.cell? (y.add (i * 3 + 1)) = some (.int .i64 q.2.1) ∧ W.cell? (y.add (i * 3 + 2)) = some (.int .i64 q.2.2) := by
      intro i hi
      obtain ⟨cs', h1, h2⟩ := hx i hi
      clear hmm hlm hm hl
      rw [ce] at h1
      obtain ⟨_, hlen, hcell⟩ := World.cells?_some h1
      obtain ⟨xs, k, hk, hxy, _, hxl, hfl⟩ := DataW.trod_struct Try.underlying58 h2
      match xs, hxl, cs', hlen with
      | [y0, y1, y2], _, [v0, v1, v2], _ =>
        have g0 := hfl 0 _ rfl
        have g1 := hfl 1 _ rfl
        have g2 := hfl 2 _ rfl
        have ci : Try.prog.cellsOf 3 = 1 := by kernel_rfl
        have ci2 : Try.prog.cellsOf 2 = 1 := by kernel_rfl
        simp [ci, ci2] at g0 g1 g2
        have e0 := hcell 0 (by omega)
        have e1 := hcell 1 (by omega)
        have e2 := hcell 2 (by omega)
        rw [Go.Deep.add_add] at e0 e1 e2
        obtain ⟨n0, q0, -, w0⟩ := DataW.trod_int (t := 3) Try.underlying3 g0
        obtain ⟨n1, q1, -, w1⟩ := DataW.trod_int (t := 3) Try.underlying3 g1
        obtain ⟨n2, q2, -, w2⟩ := DataW.trod_int (t := 2) Try.underlying2 g2
        have q0' : v0 = .int .i64 n0 := by simpa using q0
        have q1' : v1 = .int .i64 n1 := by simpa using q1
        have q2' : v2 = .int .i64 n2 := by simpa using q2
        subst q0' q1' q2'
        exact ⟨(n0, n1, n2), ⟨w0, w1, w2⟩, by simpa using e0, by simpa using e1, by simpa using e2⟩
    obtain ⟨q, hq⟩ := Go.Deep.choose_lt each
    refine ⟨(List.range len).map q, by simp, ⟨fun e he => ?_, ?_⟩, by simp; omega⟩
    · obtain ⟨i, hi, rfl⟩ := List.mem_map.1 he
      obtain ⟨⟨w0, w1, w2⟩, -⟩ := hq i (by have := List.mem_range.1 hi; omega)
      exact ⟨bounds_i64 w0, bounds_i64 w1, bounds_i64 w2⟩
    by_cases h0 : len = 0
    · left; simp [h0]
    · right
      have hz := (hq 0 (by omega)).2.1
      obtain ⟨b, off, spot⟩ := y
      have hspot : spot = none := by simpa [Addr.add] using World.cell?_spot hz
      subst hspot
      refine ⟨b, off, rfl, World.block_lt_of_cell? W _ hz, fun i h => ?_⟩
      have hil : i < len := by simpa using h
      obtain ⟨-, g0, g1, g2⟩ := hq i (by omega)
      rw [addr_add] at g0 g1 g2
      rw [List.getElem_map, List.getElem_range, Nat.add_assoc, Nat.add_assoc]
      exact ⟨g0, g1, g2⟩
end Go.Proofs.Ytbankocbncpepaa
/- Ints (of the document's answers of layer 9) tells of any two lists whether they are the same. -/
namespace Go.Proofs.Ytbankocbncpepaa
open Go.RowKit Go.ChangeShapes
def encZ (z : Int) : Value := .int .i64 z
/-- Ints of any two lists. -/
def EqRel (l r : List Int) (w0 : World) (k : Nat) (w : World) : Prop := k ≤ l.length ∧ (∃ m, w = w0.drewN m) ∧ l.take k = r.take k
theorem ints_any (a a' : Option Addr) (c1 c2 : Nat) (l r : List Int) (w : World) (h1 : ReadsL encZ w.heap.size w a l) (h2 : ReadsL encZ w.heap.size w a' r) (hl1 : l.length ≤ 1000000000) :
    Calls Try.prog 17 #[.slice a l.length c1, .slice a' r.length c2] w fun e w' => e = .returned (.bool (decide (l = r))) ∧ ∃ m, w' = w.drewN m := by
  have H1 := Lib.hid h1
  have H2 := Lib.hid h2
  clear h1 h2
  by_cases hn : l.length = r.length
  · have t : ((l.length : Int) != (r.length : Int)) = false := by simp [hn]
    have HN := Lib.hid hn
    go_enter Try.func17, Try.ntmps17
    clear hn
    go_wp2
    go_loopw [5] (fun i wr => ∃ k : Nat, i = .int .i64 k ∧ Hid (EqRel l r w k wr)) (fun i _ => l.length - (intOf i).toNat)
    case atStart => exact ⟨0, rfl, Lib.hid ⟨Nat.zero_le _, ⟨0, rfl⟩, rfl⟩⟩
    case round =>
      obtain ⟨k, rfl, HK⟩ := hrel
      have hk := HK.out.1
      obtain ⟨m, rfl⟩ := HK.out.2.1
      have i0 : (0 : Int) ≤ (k : Int) := by omega
      by_cases hlt : k < l.length
      · have hlt2 : k < r.length := by have := HN.out; omega
        have i1 : (k : Int) < (l.length : Int) := by omega
        have i2 : (k : Int) < (r.length : Int) := by omega
        obtain ⟨b, off, rfl, hbN, d1⟩ := H1.out.at hlt
        obtain ⟨b', off', rfl, hbN', d2⟩ := H2.out.at hlt2
        unfold encZ at d1 d2
        by_cases he : l[k] = r[k]
        · have hN : Hid (l.take (k + 1) = r.take (k + 1)) := Lib.hid (by rw [take_snoc l k hlt, take_snoc r k hlt2, HK.out.2.2, he])
          rw [he] at d1
          clear he
          generalize r[k] = x at *
          go_wp2
          go_quiet (fail)
          go_wp2
          go_roundw
          case rel => exact ⟨k + 1, by go_num, Lib.hid ⟨by omega, ⟨_, rfl⟩, hN.out⟩⟩
          case measure => (simp [intOf] <;> omega)
        · have hN : Hid (decide (l = r) = false) := Lib.hid (by refine decide_eq_false (fun h => he ?_); subst h; rfl)
          have t2 : (l[k] != r[k]) = true := by simpa using he
          clear he
          generalize l[k] = x at *
          generalize r[k] = y at *
          go_wp2
          go_quiet (fail)
          go_wp2
          go_ret
          exact ⟨bool_ret hN.out.symm, _, World.drewN_drewN _ _ _⟩
      · have hke : k = l.length := by omega
        have hfin : l = r := by
          have := HK.out.2.2
          rw [hke, List.take_length, HN.out, List.take_length] at this
          exact this
        have HF := Lib.hid hfin
        clear hfin
        go_wp2
        go_ret
        exact ⟨bool_ret (by rw [decide_eq_true HF.out]), _, rfl⟩
  · have t : ((l.length : Int) != (r.length : Int)) = true := by
      have : (l.length : Int) ≠ (r.length : Int) := fun e => hn (by omega)
      simpa using this
    have HN : Hid (decide (l = r) = false) := Lib.hid (decide_eq_false (fun e => hn (by rw [e])))
    clear hn
    go_enter Try.func17, Try.ntmps17
    go_wp2
    go_ret
    exact ⟨bool_ret HN.out.symm, 0, rfl⟩
end Go.Proofs.Ytbankocbncpepaa
/- The document's graph, as it is boxed; numbers that a call answers. No function of the program is named. -/
namespace Go.Proofs.Ytbankocbncpepaa.Cm
open Go.RowKit Go.ChangeShapes EdPure
/-- The graph as it is boxed, and its edges. -/
def BoxSt (w : World) (N : Nat) (n : Int) (a : Option Addr) (c : Nat) (M : List Ed) (W : World) : Prop :=
  Below w.heap.size w W ∧ TwoAt N W (.int .i64 n) (.slice a M.length c) ∧ ReadsE W.heap.size W a M
theorem BoxSt.keep {w W W' : World} {N : Nat} {n : Int} {a : Option Addr} {c : Nat} {M : List Ed} (h : BoxSt w N n a c M W) (hb : Below W.heap.size W W') : BoxSt w N n a c M W' :=
  ⟨h.1.trans (hb.mono h.1.size), h.2.1.on hb h.2.1.lt, h.2.2.over hb (Nat.le_refl _)⟩
theorem BoxSt.start {w : World} {n : Int} {a : Option Addr} {c : Nat} {M : List Ed} (hR : ReadsE w.heap.size w a M) :
    BoxSt w w.heap.size n a c M (w.alloc (.cells #[.int .i64 n, .slice a M.length c] 36)) :=
  have hb := (Below.refl w.heap.size w).alloc (Nat.le_refl _) (.cells #[.int .i64 n, .slice a M.length c] 36)
  ⟨hb, TwoAt.new _ _ _ _, hR.over hb (Nat.le_refl _)⟩
theorem two_all {N : Nat} {w : World} {u v : Value} (h : TwoAt N w u v) : w.cell? ⟨N, 0, none⟩ = some u ∧ w.cell? ⟨N, 1, none⟩ = some v := ⟨h.1, h.2.1⟩
def IntsOf (l : List Int) (w : World) (e : Ending) (w' : World) : Prop := Below w.heap.size w w' ∧ ∃ q c, e = .returned (.slice q l.length c) ∧ ReadsL encZ w'.heap.size w' q l
end Go.Proofs.Ytbankocbncpepaa.Cm
