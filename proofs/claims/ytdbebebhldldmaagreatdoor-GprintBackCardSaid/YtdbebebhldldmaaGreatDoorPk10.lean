/- Texts that the laws of this seat stand on, part 10. -/
import Derived.Test.YtdbebebhldldmaaGreatDoorPk5
import Derived.Test.YtdbebebhldldmaaGreatDoorPk0
import Derived.Test.YtdbebebhldldmaaGreatDoorPk9
import Derived.ChangeSlices
import Derived.Deep.Slices
import Derived.Deep.SlicePairs
import Derived.ChangeSame
import Derived.Deep.Cut
import Derived.Deep.RegionHeld3
/- Edges in memory: a slice of structs of three numbers, what is read of it, one that a call gathers; an argument []api.Edge. -/
namespace Go.Proofs.YtdbebebhldldmaaGreatDoor
open Go.RowKit Go.ChangeShapes EdPure
def encE (e : Ed) : Value := .agg #[.int .i64 e.1, .int .i64 e.2.1, .int .i64 e.2.2]
def cellE (e : Ed) : List Value := [.int .i64 e.1, .int .i64 e.2.1, .int .i64 e.2.2]
def flatE (l : List Ed) : List Value := l.flatMap cellE
theorem flatE_cons (e : Ed) (l : List Ed) : flatE (e :: l) = .int .i64 e.1 :: .int .i64 e.2.1 :: .int .i64 e.2.2 :: flatE l := rfl
theorem flatE_snoc (l : List Ed) (e : Ed) : flatE (l ++ [e]) = flatE l ++ cellE e := by unfold flatE; rw [List.flatMap_append]; simp
theorem flatE_len (l : List Ed) : (flatE l).length = l.length * 3 := by
  induction l with
  | nil => rfl
  | cons e l ih => rw [flatE_cons]; simp [ih]; omega
theorem flatE_at {l : List Ed} {n : Nat} (h : n < l.length) :
    (flatE l)[n * 3]? = some (.int .i64 l[n].1) ∧ (flatE l)[n * 3 + 1]? = some (.int .i64 l[n].2.1) ∧ (flatE l)[n * 3 + 2]? = some (.int .i64 l[n].2.2) := by
  induction l generalizing n with
  | nil => simp at h
  | cons e l ih =>
    rw [flatE_cons]
    cases n with
    | zero => simp
    | succ n =>
      have := ih (n := n) (by simpa using h)
      rw [show (n + 1) * 3 = n * 3 + 1 + 1 + 1 by omega]
      simpa using this
/-- What is read of a list of edges. -/
def ReadsE (N : Nat) (w : World) (a : Option Addr) (l : List Ed) : Prop :=
  l = [] ∨ ∃ b off, a = some ⟨b, off, none⟩ ∧ b < N ∧ ∀ i (h : i < l.length), w.cell? ⟨b, off + i * 3, none⟩ = some (.int .i64 l[i].1) ∧ w.cell? ⟨b, off + i * 3 + 1, none⟩ = some (.int .i64 l[i].2.1) ∧ w.cell? ⟨b, off + i * 3 + 2, none⟩ = some (.int .i64 l[i].2.2)
theorem ReadsE.on {N : Nat} {w w' : World} {a : Option Addr} {l : List Ed} (h : ReadsE N w a l) (hb : Below N w w') : ReadsE N w' a l := by
  rcases h with h | ⟨b, off, ha, hN, hc⟩
  · exact Or.inl h
  · exact Or.inr ⟨b, off, ha, hN, fun i hi => ⟨(hb.cell (by exact hN)).trans (hc i hi).1, (hb.cell (by exact hN)).trans (hc i hi).2.1, (hb.cell (by exact hN)).trans (hc i hi).2.2⟩⟩
theorem ReadsE.at {N : Nat} {w : World} {a : Option Addr} {l : List Ed} (h : ReadsE N w a l) {k : Nat} (hk : k < l.length) :
    ∃ b off, a = some ⟨b, off, none⟩ ∧ b < N ∧ w.cell? ⟨b, off + k * 3, none⟩ = some (.int .i64 l[k].1) ∧ w.cell? ⟨b, off + k * 3 + 1, none⟩ = some (.int .i64 l[k].2.1) ∧ w.cell? ⟨b, off + k * 3 + 2, none⟩ = some (.int .i64 l[k].2.2) := by
  rcases h with h | ⟨b, off, ha, hN, hc⟩
  · subst h; simp at hk
  · exact ⟨b, off, ha, hN, hc k hk⟩
theorem ReadsE.mono {N N' : Nat} {w : World} {a : Option Addr} {l : List Ed} (h : ReadsE N w a l) (hN : N ≤ N') : ReadsE N' w a l := by
  rcases h with h | ⟨b, off, ha, hb, hc⟩
  · exact Or.inl h
  · exact Or.inr ⟨b, off, ha, Nat.lt_of_lt_of_le hb hN, hc⟩
theorem ReadsE.over {N : Nat} {w w' : World} {a : Option Addr} {l : List Ed} (h : ReadsE N w a l) (hb : Below w.heap.size w w') (hN : N ≤ w.heap.size) : ReadsE w'.heap.size w' a l :=
  ((h.mono hN).on hb).mono hb.size
theorem ReadsE.nil (N : Nat) (w : World) (a : Option Addr) : ReadsE N w a [] := Or.inl rfl
/-- The parts of the element at k, at any world in which the memory up to w lies. -/
theorem ReadsE.cells {w : World} {a : Option Addr} {l : List Ed} (h : ReadsE w.heap.size w a l) {k : Nat} (hk : k < l.length) {W : World} (hB : Below w.heap.size w W) {u v x : Int} (he : l[k] = (u, v, x)) :
    ∃ b off, a = some ⟨b, off, none⟩ ∧ b < w.heap.size ∧ b < W.heap.size ∧ W.cell? ⟨b, off + k * 3, none⟩ = some (.int .i64 u) ∧ W.cell? ⟨b, off + k * 3 + 1, none⟩ = some (.int .i64 v) ∧ W.cell? ⟨b, off + k * 3 + 2, none⟩ = some (.int .i64 x) := by
  obtain ⟨b, off, h1, h2, h3, h4, h5⟩ := (h.on hB).at hk
  rw [he] at h3 h4 h5
  exact ⟨b, off, h1, h2, Nat.lt_of_lt_of_le h2 hB.size, h3, h4, h5⟩
theorem owns_readsE {w : World} {B n : Nat} {e : TypeId} {v : Value} {l : List Ed} (hn : n = l.length) (h : w.ownsRow B e 3 v n (flatE l)) :
    ∃ p cap, v = .slice p l.length cap ∧ ReadsE w.heap.size w p l ∧ l.length ≤ cap ∧ ∀ b, p = some b → b.block = b.block ∧ B ≤ b.block ∧ b.off = 0 := by
  subst hn
  have hc := fun g (hg : v.ownBlock = some g) => h.cells hg
  have hlt := h.lt
  obtain ⟨h1, ⟨rfl, h2⟩ | ⟨g, cap, cur, rfl, h3, h4, h5, h6, h7, h8⟩⟩ := h
  · have : l = [] := List.length_eq_zero_iff.1 h2
    subst this
    exact ⟨none, 0, rfl, Or.inl rfl, Nat.zero_le _, fun b hb => by cases hb⟩
  · refine ⟨some ⟨g, 0, none⟩, cap, rfl, Or.inr ⟨g, 0, rfl, (hlt g rfl).2, fun i hi => ?_⟩, h5, fun b hb => by cases hb; exact ⟨rfl, h3, rfl⟩⟩
    obtain ⟨e0, e1, e2⟩ := flatE_at hi
    have c0 := hc g rfl _ _ e0
    have c1 := hc g rfl _ _ e1
    have c2 := hc g rfl _ _ e2
    rw [addr_add] at c0 c1 c2
    exact ⟨c0, by rw [Nat.add_assoc]; exact c1, by rw [Nat.add_assoc]; exact c2⟩
/-- At the head of a round: what edges were gathered by append so far. -/
def GrowE (w0 : World) (xs : List Ed) (v : Value) (w : World) : Prop := Below w0.heap.size w0 w ∧ w.ownsRow w0.heap.size 51 3 v xs.length (flatE xs)
theorem GrowE.start (w : World) : GrowE w [] (.slice none 0 0) w := ⟨Below.refl _ _, World.ownsRow_nil _ _ _ _⟩
theorem GrowE.on {w0 w w' : World} {xs : List Ed} {v : Value} (h : GrowE w0 xs v w) (hb : Below w.heap.size w w') : GrowE w0 xs v w' :=
  ⟨h.1.trans (hb.mono h.1.size), owns_below h.2 hb⟩
theorem GrowE.step {w0 w w' : World} {xs : List Ed} {v v' : Value} {o : Obj} (h : GrowE w0 xs v w) (x : Ed) (h1 : w'.ownsRow w0.heap.size 51 3 v' (xs.length + 1) (flatE xs ++ cellE x)) (hg : (w.alloc o).grownBy w' v.ownBlock) :
    GrowE w0 (xs ++ [x]) v' w' := by
  refine ⟨(h.1.alloc h.1.size o).grown hg (h.1.alloc h.1.size o).size fun j hj => (h.2.lt j hj).1, ?_⟩
  rw [flatE_snoc, List.length_append]
  exact h1
/-- Over a step of the world after which only new blocks or the row are otherwise. -/
theorem GrowE.reads {w0 w : World} {xs : List Ed} {v : Value} (h : GrowE w0 xs v w) : ∃ p cap, v = .slice p xs.length cap ∧ ReadsE w.heap.size w p xs ∧ xs.length ≤ cap := by
  obtain ⟨p, cap, h1, h2, h3, -⟩ := owns_readsE rfl h.2
  exact ⟨p, cap, h1, h2, h3⟩
theorem info_edge : ∃ i, (Tryz.prog.info? 51) = some i ∧ i.zero = some (.agg #[.int .i64 0, .int .i64 0, .int .i64 0]) ∧ i.size = 3 ∧ i.bytes = 24 := info_of (by kernel_rfl)
theorem three_newsAt {w : World} {u v x : Value} {T : TypeId} {g : Nat} (hg : g = w.heap.size) : ∀ j y, [u, v, x][j]? = some y → (w.alloc (.cells #[u, v, x] T)).cell? ((⟨g, 0, none⟩ : Addr).add j) = some y := by
  subst hg
  intro j y hj
  match j, hj with
  | 0, hj => simp at hj; subst hj; simp [Addr.add]
  | 1, hj => simp at hj; subst hj; simp [Addr.add]
  | 2, hj => simp at hj; subst hj; simp [Addr.add]
theorem ones_edge {a b c : Int} : ∀ u ∈ [Value.int .i64 a, .int .i64 b, .int .i64 c], u.oneCell' = true := by
  intro u hu
  simp at hu
  rcases hu with hu | hu | hu <;> (subst hu; rfl)
/-- make([]api.Edge, 0, c). -/
theorem make_edges (c : Nat) (hc : c ≤ 1048576) (w : World) :
    ∃ cur, cur.size = c * 3 ∧ (Instr.makeSlice 22 (.int .i64 0) (.int .i64 (c : Int))).run Tryz.prog w = .ok (.slice (some ⟨w.heap.size, 0, none⟩) 0 c) (w.alloc (.cells cur 51)) := by
  obtain ⟨i, h1, h2, h3, h4⟩ := info_edge
  have hr := run_make (P := Tryz.prog) w 22 51 i _ Tryz.underlying22 h1 h2 .i64 .i64 0 (c : Int) (by omega) (by omega) (by rw [h4]; omega) (by omega)
  simp only [Int.toNat_zero, Int.toNat_natCast] at hr
  exact ⟨_, by rw [size_madeCells, h3], hr⟩
theorem GrowE.made (w0 w : World) (cur : Array Value) (c : Nat) (hb : Below w0.heap.size w0 w) (hc : c ≤ 1048576) (hs : cur.size = c * 3) :
    GrowE w0 [] (.slice (some ⟨w.heap.size, 0, none⟩) 0 c) (w.alloc (.cells cur 51)) :=
  ⟨hb.alloc hb.size _, World.ownsRow_made w cur c hb.size (by unfold maxLen; omega) hs⟩
set_option maxRecDepth 20000 in
theorem open_edges {H : Type} {enc : TypeId × Value → H} {W : World} {sp : Nat → Bool} {hd : Bool} {f len cap : Nat} {a : Option Addr} {x : DataW H × List MemPlace} (hf : DataW.trod enc Tryz.prog W 0 sp hd f 22 (Value.cells (.slice a len cap)).toList = some x) :
    ∃ l : List Ed, l.length = len ∧ (InL l ∧ ReadsE W.heap.size W a l) ∧ l.length ≤ maxLen := by
  rcases Go.Deep.open_slice Tryz.underlying22 hf with ⟨hcs, _⟩ | ⟨y, ln, c, m, n, D, Pl, hcs, _, hl, hm, hmm, _, hx⟩
  · simp [Value.cells] at hcs
    obtain ⟨rfl, rfl, rfl⟩ := hcs
    exact ⟨[], rfl, ⟨fun e he => by simp at he, Or.inl rfl⟩, Nat.zero_le _⟩
  · simp [Value.cells] at hcs
    obtain ⟨rfl, rfl, rfl⟩ := hcs
    have ce : Tryz.prog.cellsOf 51 = 3 := by kernel_rfl
    have hlm : len ≤ m := by
      by_cases e : sp y.block = true
      · rw [if_pos e] at hmm; omega
      · rw [if_neg e] at hmm; omega
    have each : ∀ i, i < m → ∃ q : Int × Int × Int, ((Lit.int .i64 q.1).wf = true ∧ (Lit.int .i64 q.2.1).wf = true ∧ (Lit.int .i64 q.2.2).wf = true) ∧ W.cell? (y.add (i * 3)) = some (.int .i64 q.1) ∧ W.cell? (y.add (i * 3 + 1)) = some (.int .i64 q.2.1) ∧ W.cell? (y.add (i * 3 + 2)) = some (.int .i64 q.2.2) := by
      intro i hi
      obtain ⟨cs', h1, h2⟩ := hx i hi
      clear hmm hlm hm hl
      rw [ce] at h1
      obtain ⟨_, hlen, hcell⟩ := World.cells?_some h1
      obtain ⟨xs, k, hk, hxy, _, hxl, hfl⟩ := DataW.trod_struct Tryz.underlying51 h2
      match xs, hxl, cs', hlen with
      | [y0, y1, y2], _, [v0, v1, v2], _ =>
        have g0 := hfl 0 _ rfl
        have g1 := hfl 1 _ rfl
        have g2 := hfl 2 _ rfl
        have ci : Tryz.prog.cellsOf 3 = 1 := by kernel_rfl
        have ci2 : Tryz.prog.cellsOf 2 = 1 := by kernel_rfl
        simp [ci, ci2] at g0 g1 g2
        have e0 := hcell 0 (by omega)
        have e1 := hcell 1 (by omega)
        have e2 := hcell 2 (by omega)
        rw [Go.Deep.add_add] at e0 e1 e2
        obtain ⟨n0, q0, -, w0⟩ := DataW.trod_int (t := 3) Tryz.underlying3 g0
        obtain ⟨n1, q1, -, w1⟩ := DataW.trod_int (t := 3) Tryz.underlying3 g1
        obtain ⟨n2, q2, -, w2⟩ := DataW.trod_int (t := 2) Tryz.underlying2 g2
        have q0' : v0 = .int .i64 n0 := by simpa using q0
        have q1' : v1 = .int .i64 n1 := by simpa using q1
        have q2' : v2 = .int .i64 n2 := by simpa using q2
        subst q0' q1' q2'
        exact ⟨(n0, n1, n2), ⟨w0, w1, w2⟩, by simpa using e0, by simpa using e1, by simpa using e2⟩
    obtain ⟨q, hq⟩ := Go.Deep.choose_lt each
    refine ⟨(List.range len).map q, by simp, ⟨fun e he => ?_, ?_⟩, by simp; omega⟩
    · obtain ⟨i, hi, rfl⟩ := List.mem_map.1 he
      obtain ⟨⟨w0, w1, w2⟩, -⟩ := hq i (by have := List.mem_range.1 hi; omega)
      exact ⟨bounds_i64 w0, bounds_i64 w1, bounds_i64 w2⟩
    by_cases h0 : len = 0
    · left; simp [h0]
    · right
      have hz := (hq 0 (by omega)).2.1
      obtain ⟨b, off, spot⟩ := y
      have hspot : spot = none := by simpa [Addr.add] using World.cell?_spot hz
      subst hspot
      refine ⟨b, off, rfl, World.block_lt_of_cell? W _ hz, fun i h => ?_⟩
      have hil : i < len := by simpa using h
      obtain ⟨-, g0, g1, g2⟩ := hq i (by omega)
      rw [addr_add] at g0 g1 g2
      rw [List.getElem_map, List.getElem_range, Nat.add_assoc, Nat.add_assoc]
      exact ⟨g0, g1, g2⟩
end Go.Proofs.YtdbebebhldldmaaGreatDoor
/- Contract: the text of edges, as the program puts it together. -/
namespace Go.Proofs.YtdbebebhldldmaaGreatDoor.Gp
open Go.RowKit Go.ChangeShapes WordPure GrPure Str Wd EdPure GpPure
/-- While a text grows in a block that the call made. -/
def TxSt (w0 : World) (T : List UInt8) (w : World) : Prop := Below w0.heap.size w0 w ∧ BufAt w0.heap.size w0.heap.size T w
theorem TxSt.keep {w0 w w' : World} {T : List UInt8} (h : TxSt w0 T w) (hb : Below w.heap.size w w') : TxSt w0 T w' := ⟨h.1.trans (hb.mono h.1.size), h.2.on hb⟩
theorem txt_one {X : ByteArray} {p : List UInt8} (hX : X = ⟨p.toArray⟩) (w : World) (T : TypeId) : ReadsL encS (w.alloc (.cells #[.string X] T)).heap.size (w.alloc (.cells #[.string X] T)) (some ⟨w.heap.size, 0, none⟩) [p] := by
  refine Or.inr ⟨w.heap.size, 0, rfl, by simp, fun i hi => ?_⟩
  match i, hi with
  | 0, _ => subst hX; simp [encS]
theorem txt_two {X Y : ByteArray} {p q : List UInt8} (hX : X = ⟨p.toArray⟩) (hY : Y = ⟨q.toArray⟩) (w : World) (T : TypeId) : ReadsL encS (w.alloc (.cells #[.string X, .string Y] T)).heap.size (w.alloc (.cells #[.string X, .string Y] T)) (some ⟨w.heap.size, 0, none⟩) [p, q] := by
  refine Or.inr ⟨w.heap.size, 0, rfl, by simp, fun i hi => ?_⟩
  match i, hi with
  | 0, _ => subst hX; simp [encS]
  | 1, _ => subst hY; simp [encS]
theorem txt_three {X Y Z : ByteArray} {p q r : List UInt8} (hX : X = ⟨p.toArray⟩) (hY : Y = ⟨q.toArray⟩) (hZ : Z = ⟨r.toArray⟩) (w : World) (T : TypeId) : ReadsL encS (w.alloc (.cells #[.string X, .string Y, .string Z] T)).heap.size (w.alloc (.cells #[.string X, .string Y, .string Z] T)) (some ⟨w.heap.size, 0, none⟩) [p, q, r] := by
  refine Or.inr ⟨w.heap.size, 0, rfl, by simp, fun i hi => ?_⟩
  match i, hi with
  | 0, _ => subst hX; simp [encS]
  | 1, _ => subst hY; simp [encS]
  | 2, _ => subst hZ; simp [encS]
theorem txt_four {X Y Z U : ByteArray} {p q r s : List UInt8} (hX : X = ⟨p.toArray⟩) (hY : Y = ⟨q.toArray⟩) (hZ : Z = ⟨r.toArray⟩) (hU : U = ⟨s.toArray⟩) (w : World) (T : TypeId) : ReadsL encS (w.alloc (.cells #[.string X, .string Y, .string Z, .string U] T)).heap.size (w.alloc (.cells #[.string X, .string Y, .string Z, .string U] T)) (some ⟨w.heap.size, 0, none⟩) [p, q, r, s] := by
  refine Or.inr ⟨w.heap.size, 0, rfl, by simp, fun i hi => ?_⟩
  match i, hi with
  | 0, _ => subst hX; simp [encS]
  | 1, _ => subst hY; simp [encS]
  | 2, _ => subst hZ; simp [encS]
  | 3, _ => subst hU; simp [encS]
/-- A line of words that were just made. -/
theorem putLine_any {w0 w W : World} {T : List UInt8} (h : TxSt w0 T w) (hb : Below w.heap.size w W) (a : Option Addr) (l : List (List UInt8)) (n : Nat) (hn : n = l.length) (hl : ReadsL encS W.heap.size W a l) (hs : Short 10000000 l) (hT : T.length ≤ 100000000000) :
    Calls Tryz.prog 57 #[.slice a n n, .pointer (some ⟨w0.heap.size, 0, none⟩)] W fun e w' => e = .returned (.tuple #[]) ∧ TxSt w0 (T ++ (joinC 32 l ++ [10])) w' ∧ Kept w0.heap.size W w' := by
  subst hn
  have h2 := h.keep hb
  refine (line_any _ _ T a _ l W h2.2 h2.1.size hl (Nat.le_refl _) hs hT).mono ?_
  rintro e w' ⟨he, hu, hb', hk⟩
  exact ⟨he, ⟨h2.1.trans hb', hu⟩, hk⟩
theorem told_text {w0 w : World} {T : List UInt8} (h : TxSt w0 T w) :
    Calls Tryz.prog 60 #[.pointer (some ⟨w0.heap.size, 0, none⟩)] w fun e w' => e = .returned (.string ⟨T.toArray⟩) ∧ Below w0.heap.size w0 w' :=
  (told_any _ _ T w h.2 h.1.size).mono fun _ _ ⟨he, hb⟩ => ⟨he, h.1.trans hb⟩
theorem newTx_any (w : World) :
    Calls Tryz.prog 27 #[] w fun e w' => e = .returned (.tuple #[.func (.func 57) #[] #[.pointer (some ⟨w.heap.size, 0, none⟩)], .func (.func 60) #[.pointer (some ⟨w.heap.size, 0, none⟩)] #[]]) ∧ TxSt w [] w' :=
  (newText_any w).mono fun _ _ ⟨he, hu, hb⟩ => ⟨he, hb, hu⟩
theorem short_itoa {l : List Int} (h : ∀ n ∈ l, In n) (hl : l.length ≤ 100) : Short 10000 (l.map Lib.itoa) := by
  unfold Short
  have : ∀ l : List Int, (∀ n ∈ l, In n) → Lib.lens (l.map Lib.itoa) ≤ 20 * l.length := by
    intro l
    induction l with
    | nil => intro _; simp [Lib.lens]
    | cons x r ih =>
      intro h
      have h1 := itoa_size (h x (by simp))
      have h2 := ih fun y hy => h y (by simp [hy])
      simp only [Lib.lens, List.map_cons, List.sum_cons, List.length_cons] at h2 ⊢
      omega
  have := this l h
  rw [List.length_map]
  omega
/-- An edge's variable. -/
def VarE (X : Nat) (u v x : Int) (w : World) : Prop := w.heap[X]? = some (.cells #[.int .i64 u, .int .i64 v, .int .i64 x] 51 (0, 0))
theorem VarE.cells {X : Nat} {u v x : Int} {w : World} (h : VarE X u v x w) : w.cell? ⟨X, 0, none⟩ = some (.int .i64 u) ∧ w.cell? ⟨X, 1, none⟩ = some (.int .i64 v) ∧ w.cell? ⟨X, 2, none⟩ = some (.int .i64 x) := by
  unfold VarE at h
  refine ⟨?_, ?_, ?_⟩ <;> simp [World.cell?, h]
theorem VarE.new (w : World) (u v x : Int) : VarE w.heap.size u v x (w.alloc (.cells #[.int .i64 u, .int .i64 v, .int .i64 x] 51)) := (MapKept.heap_alloc w _).1
theorem VarE.keep {X : Nat} {u v x : Int} {w w' : World} (h : VarE X u v x w) (hb : Below w.heap.size w w') : VarE X u v x w' :=
  (hb.block X (Array.getElem?_eq_some_iff.1 h).1).trans h
theorem VarE.kept {X b : Nat} {u v x : Int} {w w' : World} (h : VarE X u v x w) (hk : Kept b w w') (hX : X ≠ b) : VarE X u v x w' :=
  hk X _ h (fun e => hX (Option.some.inj e)) fun c fz e => by
    injection e with _ e2 _
    exact absurd e2 (by decide)
/-- An edge's variable beside a text that grows. -/
def EvSt (w0 : World) (T : List UInt8) (X : Nat) (u v x : Int) (w : World) : Prop := TxSt w0 T w ∧ VarE X u v x w ∧ X ≠ w0.heap.size
theorem EvSt.keep {w0 w w' : World} {T : List UInt8} {X : Nat} {u v x : Int} (h : EvSt w0 T X u v x w) (hb : Below w.heap.size w w') : EvSt w0 T X u v x w' := ⟨h.1.keep hb, h.2.1.keep hb, h.2.2⟩
set_option maxRecDepth 100000 in
set_option maxHeartbeats 4000000 in
theorem textOf_any (n : Int) (hn : In n) (a : Option Addr) (c : Nat) (l : List Ed) (hl : l.length ≤ 1048576) (hI : InL l) (w : World) (hR : ReadsE w.heap.size w a l) (hT : Ten w) :
    Calls Tryz.prog 25 #[.int .i64 n, .slice a l.length c] w fun e w' => e = .returned (.string ⟨(textP n l).toArray⟩) ∧ Below w.heap.size w w' := by
  have HT := Lib.hid hT
  have HR := Lib.hid hR
  have HI := Lib.hid hI
  have HM : Hid (In (l.length : Int)) := Lib.hid (by unfold In; omega)
  have HN := Lib.hid hn
  obtain ⟨X, hX⟩ : ∃ X : ByteArray, X = ⟨(Lib.itoa n).toArray⟩ := ⟨_, rfl⟩
  obtain ⟨Y, hY⟩ : ∃ Y : ByteArray, Y = ⟨(Lib.itoa (l.length : Int)).toArray⟩ := ⟨_, rfl⟩
  have HX := Lib.hid hX
  have HY := Lib.hid hY
  have HP1 := Lib.hid (fun w hT => number_any n hn w hT)
  have HP2 := Lib.hid (fun w hT => number_any (l.length : Int) HM.out w hT)
  rw [← hX] at HP1
  rw [← hY] at HP2
  have HS1 : Hid (Short 10000000 [graphW, Lib.itoa n, Lib.itoa (l.length : Int)]) := Lib.hid (by
    have h1 := itoa_size hn
    have h2 := itoa_size HM.out
    have h3 : graphW.length = 5 := rfl
    unfold Short
    simp only [Lib.lens, List.map_cons, List.map_nil, List.sum_cons, List.sum_nil, List.length_cons, List.length_nil]
    omega)
  have HSZ : Hid (∀ k, k ≤ l.length → (headT n l.length ++ 10 :: linesP (l.take k)).length ≤ 100000000000) := Lib.hid (fun k hk => by
    have h1 := head_size hn HM.out
    have h2 := lines_size (L := l.take k) fun e he => hI e (List.mem_of_mem_take he)
    rw [List.length_take] at h2
    simp only [List.length_append, List.length_cons]
    omega)
  clear hT hR hX hY hn hI
  go_enter Tryz.func25, Tryz.ntmps25
  go_wp2_with fail
  refine (newTx_any w).mono ?_
  rintro e w1 ⟨rfl, hs1⟩
  have HF1 := Lib.hid hs1
  clear hs1
  go_wp2_with fail
  refine (HP1.out w1 (HT.out.on HF1.out.1)).mono ?_
  rintro e w2 ⟨rfl, hb2⟩
  have HF2 := Lib.hid (HF1.out.keep hb2)
  clear hb2 HF1 HP1
  go_wp2_with fail
  refine (HP2.out w2 (HT.out.on HF2.out.1)).mono ?_
  rintro e w3 ⟨rfl, hb3⟩
  have HF3 := Lib.hid (HF2.out.keep hb3)
  clear hb3 HF2 HP2
  go_wp2_with fail
  refine (putLine_any HF3.out ((Below.refl _ _).alloc (Nat.le_refl _) _) _ [graphW, Lib.itoa n, Lib.itoa (l.length : Int)] _ rfl (txt_three rfl HX.out HY.out w3 _) HS1.out (by simp)).mono ?_
  rintro e w4 ⟨rfl, hs4, -⟩
  have HF4 : Hid (TxSt w (headT n l.length ++ 10 :: linesP (l.take 0)) w4) := Lib.hid (by
    have : [] ++ (joinC 32 [graphW, Lib.itoa n, Lib.itoa (l.length : Int)] ++ [10]) = headT n l.length ++ 10 :: linesP (l.take 0) := rfl
    rw [← this]; exact hs4)
  clear hs4 HF3 HS1 HX HY
  go_wp2
  go_loopw [23] (fun i wr => ∃ k : Nat, i = .int .i64 k ∧ k ≤ l.length ∧ Hid (TxSt w (headT n l.length ++ 10 :: linesP (l.take k)) wr)) (fun i _ => l.length - (intOf i).toNat)
  case atStart => exact ⟨0, rfl, Nat.zero_le _, HF4⟩
  case round =>
    clear HF4
    obtain ⟨k, rfl, hk, HF⟩ := hrel
    by_cases hlt : k < l.length
    · obtain ⟨u, v, x, he⟩ : ∃ u v x, l[k] = (u, v, x) := ⟨_, _, _, rfl⟩
      obtain ⟨b, off, hae, hbw, hbr, c0, c1, c2⟩ := HR.out.cells hlt HF.out.1 he
      have hin := HI.out _ (List.getElem_mem hlt)
      rw [he] at hin
      have HQ := Lib.hid hin
      have HL : Hid (linesP (l.take (k + 1)) = linesP (l.take k) ++ (joinC 32 [Lib.itoa u, Lib.itoa v, Lib.itoa x] ++ [10])) := Lib.hid (by rw [lines_take hlt, he]; rfl)
      have HZ := Lib.hid (HSZ.out k hk)
      obtain ⟨X, hX⟩ : ∃ X : ByteArray, X = ⟨(Lib.itoa u).toArray⟩ := ⟨_, rfl⟩
      obtain ⟨Y, hY⟩ : ∃ Y : ByteArray, Y = ⟨(Lib.itoa v).toArray⟩ := ⟨_, rfl⟩
      obtain ⟨Z, hZ⟩ : ∃ Z : ByteArray, Z = ⟨(Lib.itoa x).toArray⟩ := ⟨_, rfl⟩
      have HX := Lib.hid hX
      have HY := Lib.hid hY
      have HZZ := Lib.hid hZ
      have HP1 := Lib.hid (fun w hT => number_any u hin.1 w hT)
      have HP2 := Lib.hid (fun w hT => number_any v hin.2.1 w hT)
      have HP3 := Lib.hid (fun w hT => print_any x hin.2.2.1 hin.2.2.2 w hT)
      rw [← hX] at HP1
      rw [← hY] at HP2
      rw [← hZ] at HP3
      have HSH : Hid (Short 10000000 [Lib.itoa u, Lib.itoa v, Lib.itoa x]) := Lib.hid (by
        have h1 := short_itoa (l := [u, v, x]) (fun n hn => by
          simp only [List.mem_cons, List.not_mem_nil, or_false] at hn
          rcases hn with rfl | rfl | rfl
          · exact hin.1
          · exact hin.2.1
          · exact hin.2.2) (by simp)
        have h2 : Short 10000 [Lib.itoa u, Lib.itoa v, Lib.itoa x] := h1
        unfold Short at h2 ⊢
        omega)
      have i1 : (k : Int) < (l.length : Int) := by omega
      clear hX hY hZ he hin
      subst hae
      have hbA : Below wr.heap.size wr (wr.alloc (.cells #[.int .i64 u, .int .i64 v, .int .i64 x] 51)) := (Below.refl _ _).alloc (Nat.le_refl _) _
      have HE0 : Hid (EvSt w (headT n l.length ++ 10 :: linesP (l.take k)) wr.heap.size u v x (wr.alloc (.cells #[.int .i64 u, .int .i64 v, .int .i64 x] 51))) := Lib.hid ⟨HF.out.keep hbA, VarE.new _ _ _ _, fun e => by have := HF.out.2.lt; omega⟩
      clear hbA
      go_upto_region 6 with fail
      generalize wr.alloc (.cells #[.int .i64 u, .int .i64 v, .int .i64 x] 51) = V0 at *
      generalize wr.heap.size = B at *
      have HE1 := Lib.hid (HE0.out.keep ((Below.refl _ _).drew))
      clear HE0 c0 c1 c2
      refine wp_region_held_drew (S := fun W' => W'.cell? ⟨B, 0, none⟩ = some (.int .i64 u) ∧ W'.cell? ⟨B, 1, none⟩ = some (.int .i64 v) ∧ W'.cell? ⟨B, 2, none⟩ = some (.int .i64 x)) (by kernel_rfl) HE1.out.2.1.cells (fun hHeld => ?_)
      refine wpAnyH_take (i := 0) (v := ?vt0) rfl (by kernel_rfl) (by kernel_rfl) (by kernel_rfl) (fun _ _ _ h => h) (Or.inl ⟨by kernel_rfl, fun w' hSw => ?hyt0⟩) (by assumption) ?restt0
      case hyt0 => ((try dsimp only at hSw); go_simp; (try with_reducible rfl))
      simp only [Act.put]
      refine wpAnyH_take (i := 1) (v := ?vt1) rfl (by kernel_rfl) (by kernel_rfl) (by kernel_rfl) (fun _ _ _ h => h) (Or.inl ⟨by kernel_rfl, fun w' hSw => ?hyt1⟩) (by assumption) ?restt1
      case hyt1 => ((try dsimp only at hSw); go_simp; (try with_reducible rfl))
      simp only [Act.put]
      refine wpAnyH_take (i := 2) (v := ?vt2) rfl (by kernel_rfl) (by kernel_rfl) (by kernel_rfl) (fun _ _ _ h => h) (Or.inl ⟨by kernel_rfl, fun w' hSw => ?hyt2⟩) (by assumption) ?restt2
      case hyt2 => ((try dsimp only at hSw); go_simp; (try with_reducible rfl))
      simp only [Act.put]
      refine wpAnyH_take (i := 4) (v := ?vt4) rfl (by kernel_rfl) (by kernel_rfl) (by kernel_rfl) (fun _ _ _ h => h) (Or.inl ⟨by kernel_rfl, fun w' hSw => ?hyt4⟩) (by assumption) ?restt4
      case hyt4 => ((try dsimp only at hSw); go_simp; (try with_reducible rfl))
      simp only [Act.put]
      refine wpAnyH_take (i := 5) (v := ?vt5) rfl (by kernel_rfl) (by kernel_rfl) (by kernel_rfl) (fun _ _ _ h => h) (Or.inl ⟨by kernel_rfl, fun w' hSw => ?hyt5⟩) (by assumption) ?restt5
      case hyt5 => ((try dsimp only at hSw); go_simp; (try with_reducible rfl))
      simp only [Act.put]
      refine wpAnyH_take (i := 7) (v := ?vt7) rfl (by kernel_rfl) (by kernel_rfl) (by kernel_rfl) (fun _ _ _ h => h) (Or.inl ⟨by kernel_rfl, fun w' hSw => ?hyt7⟩) (by assumption) ?restt7
      case hyt7 => ((try dsimp only at hSw); go_simp; (try with_reducible rfl))
      simp only [Act.put]
      refine wpAnyH_take (i := 8) (v := ?vt8) rfl (by kernel_rfl) (by kernel_rfl) (by kernel_rfl) (fun _ _ _ h => h) (Or.inl ⟨by kernel_rfl, fun w' hSw => ?hyt8⟩) (by assumption) ?restt8
      case hyt8 => ((try dsimp only at hSw); go_simp; (try with_reducible rfl))
      simp only [Act.put]
      refine wpAnyH_ready (rs := [3]) (by kernel_rfl) (by simp) ?_
      refine AllReadyH.cons rfl (fun K hK => ?_) AllReadyH.nil
      go_simp
      refine (HP1.out _ (HT.out.on HE1.out.1.1)).mono ?_
      rintro e y1 ⟨rfl, hb1⟩
      have HE2 := Lib.hid (HE1.out.keep hb1)
      clear hb1 HE1
      go_wp2_with fail
      refine hK.out _ _ ?hSt3 (fun hHeld => ?restt3)
      case hSt3 => exact HE2.out.2.1.cells
      clear hK K
      refine wpAnyH_ready (rs := [6]) (by kernel_rfl) (by simp) ?_
      refine AllReadyH.cons rfl (fun K hK => ?_) AllReadyH.nil
      go_simp
      refine (HP2.out _ (HT.out.on HE2.out.1.1)).mono ?_
      rintro e y2 ⟨rfl, hb2⟩
      have HE3 := Lib.hid (HE2.out.keep hb2)
      clear hb2 HE2
      go_wp2_with fail
      refine hK.out _ _ ?hSt6 (fun hHeld => ?restt6)
      case hSt6 => exact HE3.out.2.1.cells
      clear hK K
      refine wpAnyH_ready (rs := [9]) (by kernel_rfl) (by simp) ?_
      refine AllReadyH.cons rfl (fun K hK => ?_) AllReadyH.nil
      go_simp
      refine (HP3.out _ (HT.out.on HE3.out.1.1)).mono ?_
      rintro e y3 ⟨rfl, hb3⟩
      have HE4 := Lib.hid (HE3.out.keep hb3)
      clear hb3 HE3
      go_wp2_with fail
      refine hK.out _ _ ?hSt9 (fun hHeld => ?restt9)
      case hSt9 => exact HE4.out.2.1.cells
      clear hK K
      refine wpAnyH_ready (rs := [10]) (by kernel_rfl) (by simp) ?_
      refine AllReadyH.cons rfl (fun K hK => ?_) AllReadyH.nil
      go_simp
      have HEA := Lib.hid (HE4.out.keep ((Below.refl y3.heap.size y3).alloc (Nat.le_refl _) (.cells #[.string X, .string Y, .string Z] 9)))
      go_wp2_with fail
      refine hK.out _ _ ?hSt10 (fun hHeld => ?restt10)
      case hSt10 => exact HEA.out.2.1.cells
      clear hK K
      refine wpAnyH_ready (rs := [11]) (by kernel_rfl) (by simp) ?_
      refine AllReadyH.cons rfl (fun K hK => ?_) AllReadyH.nil
      go_simp
      refine (putLine_any HE4.out.1 ((Below.refl _ _).alloc (Nat.le_refl _) _) _ [Lib.itoa u, Lib.itoa v, Lib.itoa x] _ rfl (txt_three HX.out HY.out HZZ.out y3 _) HSH.out HZ.out).mono ?_
      rintro e y5 ⟨rfl, hs5, hb5⟩
      have HE5 := hs5
      have HQ5 := Lib.hid (HEA.out.2.1.kept hb5 HEA.out.2.2)
      go_wp2_with fail
      refine hK.out _ _ ?hSt11 (fun hHeld => ?restt11)
      case hSt11 => exact HQ5.out.cells
      clear hK K
      refine wpAnyH_done (by kernel_rfl) ?_ _
      have HF9 : Hid (TxSt w (headT n l.length ++ 10 :: linesP (l.take (k + 1))) y5) := Lib.hid (by rw [HL.out, ← List.cons_append, ← List.append_assoc]; exact HE5)
      clear HF HL HZ
      go_wp2
      go_roundw
      case rel => exact ⟨k + 1, by go_num, hlt, HF9⟩
      case measure => simp [intOf]; omega
    · have hke : k = l.length := by omega
      have HE : Hid (TxSt w (textP n l) wr) := Lib.hid (by have h := HF.out; rw [hke, List.take_length] at h; exact h)
      go_wp2_with fail
      refine (told_text HE.out).mono ?_
      rintro e w9 ⟨rfl, hb9⟩
      have HB9 := Lib.hid hb9
      clear hb9
      go_wp2
      go_ret
      exact ⟨rfl, HB9.out⟩
end Go.Proofs.YtdbebebhldldmaaGreatDoor.Gp
