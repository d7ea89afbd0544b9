/- The law's plays in memory: the program's arena, the document's beside it, and in each round the call and what the document wants; a list of calls. -/
import Derived.Test.YtjemahnhdgkpcaaArenaAwake
import Derived.Test.YtjemahnhdgkpcaaArenaRef3
import Derived.ChangeSlices
import Derived.Deep.Slices
import Derived.Deep.SlicePairs
import Derived.ChangeSame
namespace Go.Proofs.Ytjemahnhdgkpcaa
open Go.RowKit Go.ChangeShapes ArenaPure
def PlayAt (w : World) (b b2 N : Nat) (S T : St) (W : World) : Prop :=
  Below w.heap.size w W ∧ (w.heap.size ≤ b ∧ w.heap.size ≤ b2) ∧ ∃ O O2, ArAt O b W N S ∧ RfAt O2 b2 W N T ∧ ∀ k, O k → ¬ O2 k
def RoundAt (w : World) (b b2 N : Nat) (S T : St) (Bo Bw : Nat) (ko no xo u : Int) (v : Bool) (W : World) : Prop :=
  Below w.heap.size w W ∧ (w.heap.size ≤ b ∧ w.heap.size ≤ b2 ∧ w.heap.size ≤ Bw ∧ Bo ≠ Bw) ∧
  (∃ O O2, ArAt O b W N S ∧ RfAt O2 b2 W N T ∧ (∀ k, O k → ¬ O2 k) ∧ (¬ O Bo ∧ ¬ O2 Bo ∧ ¬ O Bw ∧ ¬ O2 Bw)) ∧
  ThreeAt Bo W (.int .i64 ko) (.int .i64 no) (.int .i64 xo) ∧ TwoAt Bw W (.int .i64 u) (.bool v)
section
variable {w W W' : World} {b b2 N Bo Bw : Nat} {S T S' T' : St} {ko no xo u : Int} {v : Bool}
theorem three_same {b : Nat} {w w' : World} {u v x : Value} (h : ThreeAt b w u v x) (hk : w'.heap[b]? = w.heap[b]?) : ThreeAt b w' u v x := by
  obtain ⟨h0, h1, h2, f0, f1, f2⟩ := h
  exact ⟨(World.cell?_of_block hk).trans h0, (World.cell?_of_block hk).trans h1, (World.cell?_of_block hk).trans h2, (World.frozen?_of_block hk).trans f0, (World.frozen?_of_block hk).trans f1, (World.frozen?_of_block hk).trans f2⟩
theorem RoundAt.cells (h : RoundAt w b b2 N S T Bo Bw ko no xo u v W) : (W.cell? ⟨Bo, 0, none⟩ = some (.int .i64 ko) ∧ W.cell? ⟨Bo, 1, none⟩ = some (.int .i64 no) ∧ W.cell? ⟨Bo, 2, none⟩ = some (.int .i64 xo)) ∧
    (W.cell? ⟨Bw, 0, none⟩ = some (.int .i64 u) ∧ W.cell? ⟨Bw, 1, none⟩ = some (.bool v)) ∧ (W.frozen? ⟨Bw, 0, none⟩ = false ∧ W.frozen? ⟨Bw, 1, none⟩ = false) ∧ (Bo < W.heap.size ∧ Bw < W.heap.size) := by
  obtain ⟨-, -, -, h3, h4⟩ := h
  exact ⟨⟨h3.1, h3.2.1, h3.2.2.1⟩, ⟨h4.1, h4.2.1⟩, h4.2.2, h3.lt, h4.lt⟩
/-- The program's arena is turned. -/
theorem RoundAt.turn {O O2 O' : Nat → Prop} (h : RoundAt w b b2 N S T Bo Bw ko no xo u v W) (ha : ArAt O b W N S) (hr : RfAt O2 b2 W N T) (hd : ∀ k, O k → ¬ O2 k) (hn : ¬ O Bo ∧ ¬ O2 Bo ∧ ¬ O Bw ∧ ¬ O2 Bw) (ht : Turn O W W') (ho : ∀ k, O' k → O k ∨ W.heap.size ≤ k) (ha' : ArAt O' b W' N S') :
    RoundAt w b b2 N S' T Bo Bw ko no xo u v W' := by
  obtain ⟨h1, h2, -, h3, h4⟩ := h
  have l3 := h3.lt
  have l4 := h4.lt
  have out : ∀ k, k < W.heap.size → ¬ O k → ¬ O' k := fun k hk hnk e => by
    rcases ho k e with e | e
    · exact hnk e
    · omega
  refine ⟨h1.trans (ht.below h1.size (fun k e => Nat.le_trans h2.1 (ha.lt k e).1)), h2, ⟨O', O2, ha', hr.past ht (fun k e e2 => hd k e2 e), fun k e e2 => out k (hr.lt k e2).2 (fun e3 => hd k e3 e2) e, out _ l3 hn.1, hn.2.1, out _ l4 hn.2.2.1, hn.2.2.2⟩, three_same h3 (ht.2.2.2.2 Bo l3 hn.1), two_same h4 (ht.2.2.2.2 Bw l4 hn.2.2.1)⟩
/-- The document's arena is turned. -/
theorem RoundAt.turn2 {O O2 O' : Nat → Prop} (h : RoundAt w b b2 N S T Bo Bw ko no xo u v W) (ha : ArAt O b W N S) (hr : RfAt O2 b2 W N T) (hd : ∀ k, O k → ¬ O2 k) (hn : ¬ O Bo ∧ ¬ O2 Bo ∧ ¬ O Bw ∧ ¬ O2 Bw) (ht : Turn O2 W W') (ho : ∀ k, O' k → O2 k ∨ W.heap.size ≤ k) (hr' : RfAt O' b2 W' N T') :
    RoundAt w b b2 N S T' Bo Bw ko no xo u v W' := by
  obtain ⟨h1, h2, -, h3, h4⟩ := h
  have l3 := h3.lt
  have l4 := h4.lt
  have out : ∀ k, k < W.heap.size → ¬ O2 k → ¬ O' k := fun k hk hnk e => by
    rcases ho k e with e | e
    · exact hnk e
    · omega
  refine ⟨h1.trans (ht.below h1.size (fun k e => Nat.le_trans h2.2.1 (hr.lt k e).1)), h2, ⟨O, O', ha.past ht hd, hr', fun k e e2 => out k (ha.lt k e).2 (hd k e) e2, hn.1, out _ l3 hn.2.1, hn.2.2.1, out _ l4 hn.2.2.2⟩, three_same h3 (ht.2.2.2.2 Bo l3 hn.2.1), two_same h4 (ht.2.2.2.2 Bw l4 hn.2.2.2)⟩
theorem RoundAt.keep (h : RoundAt w b b2 N S T Bo Bw ko no xo u v W) (hb : Below W.heap.size W W') : RoundAt w b b2 N S T Bo Bw ko no xo u v W' := by
  obtain ⟨O, O2, ha, hr, hd, hn⟩ := h.2.2.1
  exact h.turn ha hr hd hn (Turn.ofBelow hb) (fun _ e => Or.inl e) (ha.keep hb)
/-- What is wanted is laid anew. -/
theorem RoundAt.want (h : RoundAt w b b2 N S T Bo Bw ko no xo u v W) (u' : Int) (v' : Bool) : RoundAt w b b2 N S T Bo Bw ko no xo u' v' ((W.setCell ⟨Bw, 0, none⟩ (.int .i64 u')).setCell ⟨Bw, 1, none⟩ (.bool v')) := by
  obtain ⟨h1, h2, ⟨O, O2, ha, hr, hd, hn⟩, h3, h4⟩ := h
  have ht : Turn (fun k => k = Bw) W ((W.setCell ⟨Bw, 0, none⟩ (.int .i64 u')).setCell ⟨Bw, 1, none⟩ (.bool v')) := (Turn.cell (O := fun k => k = Bw) W 0 _ rfl).trans (Turn.cell (O := fun k => k = Bw) _ 1 _ rfl) (fun _ e => Or.inl e)
  exact ⟨h1.trans (ht.below h1.size (fun k e => by rw [show k = Bw from e]; exact h2.2.2.1)), h2, ⟨O, O2, ha.past ht (fun k e e2 => hn.2.2.1 (by rw [← show k = Bw from e2]; exact e)), hr.past ht (fun k e e2 => hn.2.2.2 (by rw [← show k = Bw from e2]; exact e)), hd, hn⟩, three_same h3 (ht.2.2.2.2 Bo h3.lt h2.2.2.2), h4.set _ _⟩
theorem RoundAt.wantOk (h : RoundAt w b b2 N S T Bo Bw ko no xo u v W) (v' : Bool) : RoundAt w b b2 N S T Bo Bw ko no xo u v' (W.setCell ⟨Bw, 1, none⟩ (.bool v')) := by
  obtain ⟨h1, h2, ⟨O, O2, ha, hr, hd, hn⟩, h3, h4⟩ := h
  have ht : Turn (fun k => k = Bw) W (W.setCell ⟨Bw, 1, none⟩ (.bool v')) := Turn.cell (O := fun k => k = Bw) W 1 _ rfl
  refine ⟨h1.trans (ht.below h1.size (fun k e => by rw [show k = Bw from e]; exact h2.2.2.1)), h2, ⟨O, O2, ha.past ht (fun k e e2 => hn.2.2.1 (by rw [← show k = Bw from e2]; exact e)), hr.past ht (fun k e e2 => hn.2.2.2 (by rw [← show k = Bw from e2]; exact e)), hd, hn⟩, three_same h3 (ht.2.2.2.2 Bo h3.lt h2.2.2.2), ?_, ?_, by simpa using h4.2.2.1, by simpa using h4.2.2.2⟩
  · exact (World.cell?_setCell_other W ⟨Bw, 1, none⟩ ⟨Bw, 0, none⟩ _ (by simp)).trans h4.1
  · exact World.cell?_setCell_same _ _ _ h4.2.1
theorem RoundAt.end (h : RoundAt w b b2 N S T Bo Bw ko no xo u v W) : PlayAt w b b2 N S T W := by
  obtain ⟨h1, h2, ⟨O, O2, ha, hr, hd, -⟩, -⟩ := h
  exact ⟨h1, ⟨h2.1, h2.2.1⟩, O, O2, ha, hr, hd⟩
theorem PlayAt.keep (h : PlayAt w b b2 N S T W) (hb : Below W.heap.size W W') : PlayAt w b b2 N S T W' := by
  obtain ⟨h1, h2, O, O2, ha, hr, hd⟩ := h
  exact ⟨h1.trans (hb.mono h1.size), h2, O, O2, ha.keep hb, hr.keep hb, hd⟩
theorem PlayAt.round (h : PlayAt w b b2 N S T W) (ko no xo : Int) (T1 T2 : TypeId) :
    RoundAt w b b2 N S T W.heap.size (W.heap.size + 1) ko no xo 0 false ((W.alloc (.cells #[.int .i64 ko, .int .i64 no, .int .i64 xo] T1)).alloc (.cells #[.int .i64 0, .bool false] T2)) := by
  have b1 := (Below.refl _ W).alloc (Nat.le_refl _) (.cells #[.int .i64 ko, .int .i64 no, .int .i64 xo] T1)
  have t1 := ThreeAt.new W (.int .i64 ko) (.int .i64 no) (.int .i64 xo) T1
  generalize hW1 : W.alloc (.cells #[.int .i64 ko, .int .i64 no, .int .i64 xo] T1) = W1 at *
  have s1 : W1.heap.size = W.heap.size + 1 := by rw [← hW1]; simp
  have b2 := (Below.refl _ W1).alloc (Nat.le_refl _) (.cells #[.int .i64 0, .bool false] T2)
  have t2 := TwoAt.new W1 (.int .i64 0) (.bool false) T2
  rw [s1] at t2
  have h' := (h.keep (b1.trans (b2.mono b1.size))).1
  obtain ⟨g1, g2, O, O2, ga, gr, gd⟩ := h
  have := g1.size
  refine ⟨h', ⟨g2.1, g2.2, by omega, by omega⟩, ⟨O, O2, ga.keep (b1.trans (b2.mono b1.size)), gr.keep (b1.trans (b2.mono b1.size)), gd, fun e => ?_, fun e => ?_, fun e => ?_, fun e => ?_⟩, t1.on b2 t1.lt, t2⟩
  · have := ga.lt _ e; omega
  · have := gr.lt _ e; omega
  · have := ga.lt _ e; omega
  · have := gr.lt _ e; omega
end
theorem play_start {w w1 w2 : World} {N : Nat} (hb1 : Below w.heap.size w w1) (h1 : w.heap.size < w1.heap.size) (ha : ArAt (fun k => k = w.heap.size) w.heap.size w1 N emptyS) (hb2 : Below w1.heap.size w1 w2) (hr : RfAt (fun k => k = w1.heap.size) w1.heap.size w2 N emptyS) :
    PlayAt w w.heap.size w1.heap.size N emptyS emptyS w2 :=
  ⟨hb1.trans (hb2.mono hb1.size), ⟨Nat.le_refl _, hb1.size⟩, _, _, ha.keep hb2, hr, fun k e e2 => by have e : k = w.heap.size := e; have e2 : k = w1.heap.size := e2; omega⟩
/-- A list of calls in memory. -/
def ReadsOp (N : Nat) (w : World) (a : Option Addr) (l : List (Int × Int × Int)) : Prop :=
  l = [] ∨ ∃ b off, a = some ⟨b, off, none⟩ ∧ b < N ∧ ∀ i (h : i < l.length), w.cell? ⟨b, off + i * 3, none⟩ = some (.int .i64 l[i].1) ∧ w.cell? ⟨b, off + i * 3 + 1, none⟩ = some (.int .i64 l[i].2.1) ∧ w.cell? ⟨b, off + i * 3 + 2, none⟩ = some (.int .i64 l[i].2.2)
theorem ReadsOp.at {w W : World} {a : Option Addr} {l : List (Int × Int × Int)} (h : ReadsOp w.heap.size w a l) (hb : Below w.heap.size w W) {k : Nat} (hk : k < l.length) :
    ∃ b off, a = some ⟨b, off, none⟩ ∧ b < W.heap.size ∧ W.cell? ⟨b, off + k * 3, none⟩ = some (.int .i64 l[k].1) ∧ W.cell? ⟨b, off + k * 3 + 1, none⟩ = some (.int .i64 l[k].2.1) ∧ W.cell? ⟨b, off + k * 3 + 2, none⟩ = some (.int .i64 l[k].2.2) := by
  rcases h with h | ⟨b, off, ha, hN, hc⟩
  · subst h; simp at hk
  · obtain ⟨h0, h1, h2⟩ := hc k hk
    exact ⟨b, off, ha, Nat.lt_of_lt_of_le hN hb.size, (hb.cell (p := ⟨b, off + k * 3, none⟩) hN).trans h0, (hb.cell (p := ⟨b, off + k * 3 + 1, none⟩) hN).trans h1, (hb.cell (p := ⟨b, off + k * 3 + 2, none⟩) hN).trans h2⟩
open Go.WideShapes in
theorem open_ops {H : Type} {enc : TypeId × Value → H} {W : World} {base fuel : Nat} {a : Option Addr} {len cap : Nat} {x : DataW H × List MemPlace}
    (hf : DataW.trod enc Try.prog W base (fun _ => true) true fuel 22 (Value.slice a len cap).cells.toList = some x) :
    ∃ l : List (Int × Int × Int), l.length = len ∧ ReadsOp W.heap.size W a l ∧ l.length ≤ maxLen := by
  rcases Go.Deep.open_slice Try.underlying22 hf with ⟨hcs, _⟩ | ⟨y, ln, c, m, n, D, Pl, hcs, _, hl, hm, hmm, _, hx⟩
  · simp [Value.cells] at hcs
    obtain ⟨rfl, rfl, rfl⟩ := hcs
    exact ⟨[], rfl, Or.inl rfl, Nat.zero_le _⟩
  · simp [Value.cells] at hcs
    obtain ⟨rfl, rfl, rfl⟩ := hcs
    have hmc : m = cap := by simpa using hmm
    subst hmc
    have ce : Try.prog.cellsOf 29 = 3 := by kernel_rfl
    have each : ∀ i, i < m → ∃ q : Int × Int × Int, W.cell? (y.add (i * 3)) = some (.int .i64 q.1) ∧ W.cell? (y.add (i * 3 + 1)) = some (.int .i64 q.2.1) ∧ W.cell? (y.add (i * 3 + 2)) = some (.int .i64 q.2.2) := by
      intro i hi
      obtain ⟨cs', h1, h2⟩ := hx i hi
      rw [ce] at h1
      obtain ⟨_, hlen, hcell⟩ := World.cells?_some h1
      obtain ⟨xs, k, hk, hxy, _, hxl, hfl⟩ := DataW.trod_struct Try.underlying29 h2
      match xs, hxl, cs', hlen with
      | [y0, y1, y2], _, [v0, v1, v2], _ =>
        have g0 := hfl 0 _ rfl
        have g1 := hfl 1 _ rfl
        have g2 := hfl 2 _ rfl
        have ci : Try.prog.cellsOf 3 = 1 := by kernel_rfl
        simp [ci] at g0 g1 g2
        have e0 := hcell 0 (by omega)
        have e1 := hcell 1 (by omega)
        have e2 := hcell 2 (by omega)
        rw [Go.Deep.add_add] at e0 e1 e2
        obtain ⟨n0, q0, -, -⟩ := DataW.trod_int (t := 3) Try.underlying3 g0
        obtain ⟨n1, q1, -, -⟩ := DataW.trod_int (t := 3) Try.underlying3 g1
        obtain ⟨n2, q2, -, -⟩ := DataW.trod_int (t := 3) Try.underlying3 g2
        have q0' : v0 = .int .i64 n0 := by simpa using q0
        have q1' : v1 = .int .i64 n1 := by simpa using q1
        have q2' : v2 = .int .i64 n2 := by simpa using q2
        subst q0' q1' q2'
        exact ⟨(n0, n1, n2), by simpa using e0, by simpa using e1, by simpa using e2⟩
    obtain ⟨q, hq⟩ := Go.Deep.choose_lt each
    refine ⟨(List.range len).map q, by simp, ?_, by simp; omega⟩
    by_cases h0 : len = 0
    · left; simp [h0]
    · right
      have hz := (hq 0 (by omega)).1
      obtain ⟨b, off, spot⟩ := y
      have hspot : spot = none := by simpa [Addr.add] using World.cell?_spot hz
      subst hspot
      refine ⟨b, off, rfl, World.block_lt_of_cell? W _ hz, fun i h => ?_⟩
      have hil : i < len := by simpa using h
      obtain ⟨g0, g1, g2⟩ := hq i (by omega)
      rw [addr_add] at g0 g1 g2
      rw [List.getElem_map, List.getElem_range]
      exact ⟨g0, g1, g2⟩
end Go.Proofs.Ytjemahnhdgkpcaa
