/- A row of buckets in memory: a struct of four parts, cells of two parts, cells of three; the two package-level values beside it; over calls and over stores. -/
import Derived.Test.YthiabjmnbkhehaaDoorBkGood
import Derived.Test.YthiabjmnbkhehaaDoorTurn
namespace Go.Proofs.YthiabjmnbkhehaaDoor
open Go.RowKit Go.ChangeShapes BkPure
def enc2 (c : Int × Int) : List Value := [.int .i64 c.1, .int .i64 c.2]
def flat2 (F : List (Int × Int)) : List Value := F.flatMap enc2
def enc3 (c : Int × Int × Int) : List Value := [.int .i64 c.1, .int .i64 c.2.1, .int .i64 c.2.2]
def flat3 (S : List (Int × Int × Int)) : List Value := S.flatMap enc3
theorem flat2_cons (c : Int × Int) (F : List (Int × Int)) : flat2 (c :: F) = .int .i64 c.1 :: .int .i64 c.2 :: flat2 F := rfl
theorem flat3_cons (c : Int × Int × Int) (F : List (Int × Int × Int)) : flat3 (c :: F) = .int .i64 c.1 :: .int .i64 c.2.1 :: .int .i64 c.2.2 :: flat3 F := rfl
theorem flat2_len (F : List (Int × Int)) : (flat2 F).length = F.length * 2 := by
  induction F with
  | nil => rfl
  | cons c F ih => rw [flat2_cons]; simp [ih]; omega
theorem flat3_len (F : List (Int × Int × Int)) : (flat3 F).length = F.length * 3 := by
  induction F with
  | nil => rfl
  | cons c F ih => rw [flat3_cons]; simp [ih]; omega
theorem flat2_at {F : List (Int × Int)} {n : Nat} {c : Int × Int} (h : F[n]? = some c) : (flat2 F)[n * 2]? = some (.int .i64 c.1) ∧ (flat2 F)[n * 2 + 1]? = some (.int .i64 c.2) := by
  induction F generalizing n with
  | nil => simp at h
  | cons d F ih =>
    rw [flat2_cons]
    cases n with
    | zero => simp at h; subst h; exact ⟨rfl, rfl⟩
    | succ n =>
      have := ih (n := n) (by simpa using h)
      rw [show (n + 1) * 2 = n * 2 + 1 + 1 by omega]
      simpa using this
theorem flat3_at {F : List (Int × Int × Int)} {n : Nat} {c : Int × Int × Int} (h : F[n]? = some c) : (flat3 F)[n * 3]? = some (.int .i64 c.1) ∧ (flat3 F)[n * 3 + 1]? = some (.int .i64 c.2.1) ∧ (flat3 F)[n * 3 + 2]? = some (.int .i64 c.2.2) := by
  induction F generalizing n with
  | nil => simp at h
  | cons d F ih =>
    rw [flat3_cons]
    cases n with
    | zero => simp at h; subst h; exact ⟨rfl, rfl, rfl⟩
    | succ n =>
      have := ih (n := n) (by simpa using h)
      rw [show (n + 1) * 3 = n * 3 + 1 + 1 + 1 by omega]
      simpa using this
theorem flat2_set {F : List (Int × Int)} {n : Nat} (h : n < F.length) (c : Int × Int) : ((flat2 F).set (n * 2) (.int .i64 c.1)).set (n * 2 + 1) (.int .i64 c.2) = flat2 (F.set n c) := by
  induction F generalizing n with
  | nil => simp at h
  | cons d F ih =>
    cases n with
    | zero => rfl
    | succ n =>
      rw [List.set_cons_succ, flat2_cons, flat2_cons, ← ih (n := n) (by simpa using h), show (n + 1) * 2 = n * 2 + 1 + 1 by omega]
      rfl
theorem flat2_set0 {F : List (Int × Int)} {n : Nat} {c : Int × Int} (h : F[n]? = some c) (x : Int) : (flat2 F).set (n * 2) (.int .i64 x) = flat2 (F.set n (x, c.2)) := by
  induction F generalizing n with
  | nil => simp at h
  | cons d F ih =>
    cases n with
    | zero => simp at h; subst h; rfl
    | succ n =>
      rw [List.set_cons_succ, flat2_cons, flat2_cons, ← ih (n := n) (by simpa using h), show (n + 1) * 2 = n * 2 + 1 + 1 by omega]
      rfl
theorem flat2_set1 {F : List (Int × Int)} {n : Nat} {c : Int × Int} (h : F[n]? = some c) (x : Int) : (flat2 F).set (n * 2 + 1) (.int .i64 x) = flat2 (F.set n (c.1, x)) := by
  induction F generalizing n with
  | nil => simp at h
  | cons d F ih =>
    cases n with
    | zero => simp at h; subst h; rfl
    | succ n =>
      rw [List.set_cons_succ, flat2_cons, flat2_cons, ← ih (n := n) (by simpa using h), show (n + 1) * 2 = n * 2 + 1 + 1 by omega]
      rfl
theorem flat3_set {F : List (Int × Int × Int)} {n : Nat} (h : n < F.length) (c : Int × Int × Int) : (((flat3 F).set (n * 3) (.int .i64 c.1)).set (n * 3 + 1) (.int .i64 c.2.1)).set (n * 3 + 2) (.int .i64 c.2.2) = flat3 (F.set n c) := by
  induction F generalizing n with
  | nil => simp at h
  | cons d F ih =>
    cases n with
    | zero => rfl
    | succ n =>
      rw [List.set_cons_succ, flat3_cons, flat3_cons, ← ih (n := n) (by simpa using h), show (n + 1) * 3 = n * 3 + 1 + 1 + 1 by omega]
      rfl
theorem flat3_mod1 (F : List (Int × Int × Int)) (n : Nat) (x : Int) (h : n < F.length) : (flat3 F).set (n * 3 + 1) (.int .i64 x) = flat3 (F.modify n (fun s => (s.1, x, s.2.2))) := by
  induction F generalizing n with
  | nil => simp at h
  | cons d F ih =>
    cases n with
    | zero => rfl
    | succ n =>
      rw [List.modify_succ_cons, flat3_cons, flat3_cons, ← ih n (by simpa using h), show (n + 1) * 3 = n * 3 + 1 + 1 + 1 by omega]
      rfl
theorem flat3_mod2 (F : List (Int × Int × Int)) (n : Nat) (x : Int) (h : n < F.length) : (flat3 F).set (n * 3 + 2) (.int .i64 x) = flat3 (F.modify n (fun s => (s.1, s.2.1, x))) := by
  induction F generalizing n with
  | nil => simp at h
  | cons d F ih =>
    cases n with
    | zero => rfl
    | succ n =>
      rw [List.modify_succ_cons, flat3_cons, flat3_cons, ← ih n (by simpa using h), show (n + 1) * 3 = n * 3 + 1 + 1 + 1 by omega]
      rfl
/-- The two package-level values lie as they are laid. -/
def GlobAt (W : World) : Prop :=
  (W.cell? ⟨0, 0, none⟩ = some (.int .i64 (-1)) ∧ W.cell? ⟨0, 1, none⟩ = some (.int .i64 0)) ∧
  (W.cell? ⟨1, 0, none⟩ = some (.int .i64 (-1)) ∧ W.cell? ⟨1, 1, none⟩ = some (.int .i64 (-1)) ∧ W.cell? ⟨1, 2, none⟩ = some (.int .i64 (-1)))
def GQ (k : Nat) : Prop := k = 0 ∨ k = 1
theorem GlobAt.lt {W : World} (h : GlobAt W) : ∀ k, GQ k → k < W.heap.size := by
  intro k hk
  rcases hk with rfl | rfl
  · exact World.block_lt_of_cell? W _ h.1.1
  · exact World.block_lt_of_cell? W _ h.2.1
theorem GlobAt.same {W W' : World} (h : GlobAt W) (hk : ∀ k, GQ k → W'.heap[k]? = W.heap[k]?) : GlobAt W' := by
  obtain ⟨⟨h1, h2⟩, h3, h4, h5⟩ := h
  have e := hk _ (Or.inl rfl)
  have o := hk _ (Or.inr rfl)
  exact ⟨⟨(World.cell?_of_block e).trans h1, (World.cell?_of_block e).trans h2⟩, (World.cell?_of_block o).trans h3, (World.cell?_of_block o).trans h4, (World.cell?_of_block o).trans h5⟩
theorem GlobAt.keep {W W' : World} (h : GlobAt W) (hb : Below W.heap.size W W') : GlobAt W' := h.same fun k hk => hb.block k (h.lt k hk)
theorem GlobAt.past {O : Nat → Prop} {W W' : World} (h : GlobAt W) (ht : Turn O W W') (hd : ∀ k, GQ k → ¬ O k) : GlobAt W' := h.same fun k hk => ht.2.2.2.2 k (h.lt k hk) (hd k hk)
/-- Where a row of buckets lies: its struct, its buckets, its seats. -/
structure Bl where
  b : Nat
  gL : Nat
  gS : Nat
def BQ (B : Bl) (k : Nat) : Prop := k = B.b ∨ k = B.gL ∨ k = B.gS
def BkM (B : Bl) (M : Mb) (W : World) : Prop :=
  RowIs B.b W [.slice (some ⟨B.gL, 0, none⟩) M.F.length M.F.length, .slice (some ⟨B.gS, 0, none⟩) M.S.length M.S.length, .int .i64 M.inn, .int .i64 M.high] ∧ RowIs B.gL W (flat2 M.F) ∧ RowIs B.gS W (flat3 M.S) ∧
    (B.gL < W.heap.size ∧ B.gS < W.heap.size) ∧ (B.b ≠ B.gL ∧ B.b ≠ B.gS ∧ B.gL ≠ B.gS) ∧ GlobAt W ∧ ∀ k, GQ k → ¬ BQ B k
section
variable {B : Bl} {M : Mb} {W W' : World}
theorem BkM.lt (h : BkM B M W) : ∀ k, BQ B k → k < W.heap.size := by
  obtain ⟨h1, h2, h3, h4, h5, h6, h7⟩ := h
  intro k hk
  rcases hk with rfl | rfl | rfl
  · exact h1.lt (by simp)
  · exact h4.1
  · exact h4.2
theorem BkM.past {O : Nat → Prop} (h : BkM B M W) (ht : Turn O W W') (hd : ∀ k, BQ B k → ¬ O k) (hg : ∀ k, GQ k → ¬ O k) : BkM B M W' := by
  have hl := h.lt
  obtain ⟨h1, h2, h3, h4, h5, h6, h7⟩ := h
  have hk : ∀ k, BQ B k → W'.heap[k]? = W.heap[k]? := fun k e => ht.2.2.2.2 k (hl k e) (hd k e)
  have hs := ht.size
  exact ⟨row_same h1 (hk _ (Or.inl rfl)), row_same h2 (hk _ (Or.inr (Or.inl rfl))), row_same h3 (hk _ (Or.inr (Or.inr rfl))), ⟨by omega, by omega⟩, h5, h6.past ht hg, h7⟩
theorem BkM.keep (h : BkM B M W) (hb : Below W.heap.size W W') : BkM B M W' := h.past (Turn.ofBelow (O := fun _ => False) hb) (fun _ _ e => e) (fun _ _ e => e)
theorem BkM.glob (h : BkM B M W) : GlobAt W := h.2.2.2.2.2.1
theorem BkM.cells (h : BkM B M W) : (W.cell? ⟨B.b, 0, none⟩ = some (.slice (some ⟨B.gL, 0, none⟩) M.F.length M.F.length) ∧ W.cell? ⟨B.b, 1, none⟩ = some (.slice (some ⟨B.gS, 0, none⟩) M.S.length M.S.length) ∧ W.cell? ⟨B.b, 2, none⟩ = some (.int .i64 M.inn) ∧ W.cell? ⟨B.b, 3, none⟩ = some (.int .i64 M.high)) ∧
    (W.frozen? ⟨B.b, 2, none⟩ = false ∧ W.frozen? ⟨B.b, 3, none⟩ = false) ∧ (B.b < W.heap.size ∧ B.gL < W.heap.size ∧ B.gS < W.heap.size) ∧ (B.b ≠ B.gL ∧ B.gL ≠ B.b ∧ B.b ≠ B.gS ∧ B.gS ≠ B.b ∧ B.gL ≠ B.gS ∧ B.gS ≠ B.gL) := by
  obtain ⟨h1, h2, h3, h4, ⟨n1, n2, n3⟩, h6, h7⟩ := h
  exact ⟨⟨(h1 0 (by simp)).1, (h1 1 (by simp)).1, (h1 2 (by simp)).1, (h1 3 (by simp)).1⟩, ⟨(h1 2 (by simp)).2, (h1 3 (by simp)).2⟩, ⟨h1.lt (by simp), h4⟩, n1, fun e => n1 e.symm, n2, fun e => n2 e.symm, n3, fun e => n3 e.symm⟩
theorem BkM.lts (h : BkM B M W) : (0 < W.heap.size ∧ 1 < W.heap.size) := ⟨h.glob.lt _ (Or.inl rfl), h.glob.lt _ (Or.inr rfl)⟩
theorem BkM.getF (h : BkM B M W) {i : Nat} {c : Int × Int} (hi : M.F[i]? = some c) : (W.cell? ⟨B.gL, i * 2, none⟩ = some (.int .i64 c.1) ∧ W.cell? ⟨B.gL, i * 2 + 1, none⟩ = some (.int .i64 c.2)) ∧ (W.frozen? ⟨B.gL, i * 2, none⟩ = false ∧ W.frozen? ⟨B.gL, i * 2 + 1, none⟩ = false) := by
  obtain ⟨h1, h2, h3, h4, h5, h6, h7⟩ := h
  obtain ⟨e0, e1⟩ := flat2_at hi
  obtain ⟨l0, q0⟩ := List.getElem?_eq_some_iff.1 e0
  obtain ⟨l1, q1⟩ := List.getElem?_eq_some_iff.1 e1
  have g0 := h2 _ l0
  have g1 := h2 _ l1
  rw [q0] at g0
  rw [q1] at g1
  exact ⟨⟨g0.1, g1.1⟩, g0.2, g1.2⟩
theorem BkM.getS (h : BkM B M W) {i : Nat} {c : Int × Int × Int} (hi : M.S[i]? = some c) : (W.cell? ⟨B.gS, i * 3, none⟩ = some (.int .i64 c.1) ∧ W.cell? ⟨B.gS, i * 3 + 1, none⟩ = some (.int .i64 c.2.1) ∧ W.cell? ⟨B.gS, i * 3 + 2, none⟩ = some (.int .i64 c.2.2)) ∧ (W.frozen? ⟨B.gS, i * 3, none⟩ = false ∧ W.frozen? ⟨B.gS, i * 3 + 1, none⟩ = false ∧ W.frozen? ⟨B.gS, i * 3 + 2, none⟩ = false) := by
  obtain ⟨h1, h2, h3, h4, h5, h6, h7⟩ := h
  obtain ⟨e0, e1, e2⟩ := flat3_at hi
  obtain ⟨l0, q0⟩ := List.getElem?_eq_some_iff.1 e0
  obtain ⟨l1, q1⟩ := List.getElem?_eq_some_iff.1 e1
  obtain ⟨l2, q2⟩ := List.getElem?_eq_some_iff.1 e2
  have g0 := h3 _ l0
  have g1 := h3 _ l1
  have g2 := h3 _ l2
  rw [q0] at g0
  rw [q1] at g1
  rw [q2] at g2
  exact ⟨⟨g0.1, g1.1, g2.1⟩, g0.2, g1.2, g2.2⟩
theorem cell_far {b b' i : Nat} {w : World} {v : Value} {vs : List Value} (h : RowIs b w vs) (hne : b ≠ b') : RowIs b (w.setCell ⟨b', i, none⟩ v) vs := row_same h (cell_other hne)
/-- What a store into one of the row's own blocks makes. -/
theorem BkM.store {b' i : Nat} {v : Value} {M' : Mb} (h : BkM B M W) (hb : BQ B b') (hF : M'.F.length = M.F.length) (hS : M'.S.length = M.S.length)
    (h1 : RowIs B.b W [.slice (some ⟨B.gL, 0, none⟩) M.F.length M.F.length, .slice (some ⟨B.gS, 0, none⟩) M.S.length M.S.length, .int .i64 M.inn, .int .i64 M.high] → RowIs B.b (W.setCell ⟨b', i, none⟩ v) [.slice (some ⟨B.gL, 0, none⟩) M.F.length M.F.length, .slice (some ⟨B.gS, 0, none⟩) M.S.length M.S.length, .int .i64 M'.inn, .int .i64 M'.high])
    (h2 : RowIs B.gL W (flat2 M.F) → RowIs B.gL (W.setCell ⟨b', i, none⟩ v) (flat2 M'.F)) (h3 : RowIs B.gS W (flat3 M.S) → RowIs B.gS (W.setCell ⟨b', i, none⟩ v) (flat3 M'.S)) : BkM B M' (W.setCell ⟨b', i, none⟩ v) := by
  obtain ⟨g1, g2, g3, g4, g5, g6, g7⟩ := h
  refine ⟨?_, h2 g2, h3 g3, ⟨by simpa using g4.1, by simpa using g4.2⟩, g5, g6.past (Turn.cell (O := fun x => x = b') W i v rfl) (fun k hk e => g7 k hk (by rw [show k = b' from e]; exact hb)), g7⟩
  rw [hF, hS]; exact h1 g1
theorem BkM.names (h : BkM B M W) : B.b ≠ B.gL ∧ B.b ≠ B.gS ∧ B.gL ≠ B.gS := h.2.2.2.2.1
theorem BkM.layIn (h : BkM B M W) (n : Int) : BkM B ⟨M.F, M.S, n, M.high⟩ (W.setCell ⟨B.b, 2, none⟩ (.int .i64 n)) :=
  h.store (M' := ⟨M.F, M.S, n, M.high⟩) (Or.inl rfl) rfl rfl (fun g => RowIs.set g (k := 2) (by simp) _) (fun g => cell_far g (fun e => h.names.1 e.symm)) (fun g => cell_far g (fun e => h.names.2.1 e.symm))
theorem BkM.layHigh (h : BkM B M W) (n : Int) : BkM B ⟨M.F, M.S, M.inn, n⟩ (W.setCell ⟨B.b, 3, none⟩ (.int .i64 n)) :=
  h.store (M' := ⟨M.F, M.S, M.inn, n⟩) (Or.inl rfl) rfl rfl (fun g => RowIs.set g (k := 3) (by simp) _) (fun g => cell_far g (fun e => h.names.1 e.symm)) (fun g => cell_far g (fun e => h.names.2.1 e.symm))
theorem BkM.layF0 (h : BkM B M W) {i : Nat} {c : Int × Int} (hi : M.F[i]? = some c) (x : Int) : BkM B ⟨M.F.set i (x, c.2), M.S, M.inn, M.high⟩ (W.setCell ⟨B.gL, i * 2, none⟩ (.int .i64 x)) := by
  have hl := (List.getElem?_eq_some_iff.1 hi).1
  exact h.store (M' := ⟨M.F.set i (x, c.2), M.S, M.inn, M.high⟩) (Or.inr (Or.inl rfl)) (by simp) rfl (fun g => cell_far g h.names.1) (fun g => by
    have := RowIs.set g (k := i * 2) (by rw [flat2_len]; omega) (.int .i64 x)
    rw [flat2_set0 hi] at this
    exact this) (fun g => cell_far g (fun e => h.names.2.2 e.symm))
theorem BkM.layF1 (h : BkM B M W) {i : Nat} {c : Int × Int} (hi : M.F[i]? = some c) (x : Int) : BkM B ⟨M.F.set i (c.1, x), M.S, M.inn, M.high⟩ (W.setCell ⟨B.gL, i * 2 + 1, none⟩ (.int .i64 x)) := by
  have hl := (List.getElem?_eq_some_iff.1 hi).1
  exact h.store (M' := ⟨M.F.set i (c.1, x), M.S, M.inn, M.high⟩) (Or.inr (Or.inl rfl)) (by simp) rfl (fun g => cell_far g h.names.1) (fun g => by
    have := RowIs.set g (k := i * 2 + 1) (by rw [flat2_len]; omega) (.int .i64 x)
    rw [flat2_set1 hi] at this
    exact this) (fun g => cell_far g (fun e => h.names.2.2 e.symm))
theorem set_set_at {α : Type} {l : List α} {i : Nat} {x y : α} (h : i < l.length) : (l.set i x)[i]? = some x := by rw [List.getElem?_set, if_pos rfl, if_pos h]
theorem BkM.layF (h : BkM B M W) {i : Nat} (hi : i < M.F.length) (c : Int × Int) : BkM B ⟨M.F.set i c, M.S, M.inn, M.high⟩ ((W.setCell ⟨B.gL, i * 2, none⟩ (.int .i64 c.1)).setCell ⟨B.gL, i * 2 + 1, none⟩ (.int .i64 c.2)) := by
  have g := h.layF0 (List.getElem?_eq_getElem hi) c.1
  have g2 := g.layF1 (i := i) (c := (c.1, M.F[i].2)) (set_set_at (y := c) hi) c.2
  simpa using g2
theorem BkM.layS1 (h : BkM B M W) {y : Nat} (hy : y < M.S.length) (x : Int) : BkM B ⟨M.F, layAhead M.S (y : Int) x, M.inn, M.high⟩ (W.setCell ⟨B.gS, y * 3 + 1, none⟩ (.int .i64 x)) :=
  h.store (M' := ⟨M.F, layAhead M.S (y : Int) x, M.inn, M.high⟩) (Or.inr (Or.inr rfl)) rfl (layAhead_len M.S (y : Int) x) (fun g => cell_far g h.names.2.1) (fun g => cell_far g h.names.2.2) (fun g => by
    have := RowIs.set g (k := y * 3 + 1) (by rw [flat3_len]; omega) (.int .i64 x)
    rw [flat3_mod1 _ _ _ hy] at this
    show RowIs _ _ (flat3 (layAhead M.S (y : Int) x))
    unfold layAhead
    rw [if_neg (by omega)]
    exact this)
theorem BkM.layS2 (h : BkM B M W) {y : Nat} (hy : y < M.S.length) (x : Int) : BkM B ⟨M.F, layBehind M.S (y : Int) x, M.inn, M.high⟩ (W.setCell ⟨B.gS, y * 3 + 2, none⟩ (.int .i64 x)) :=
  h.store (M' := ⟨M.F, layBehind M.S (y : Int) x, M.inn, M.high⟩) (Or.inr (Or.inr rfl)) rfl (layBehind_len M.S (y : Int) x) (fun g => cell_far g h.names.2.1) (fun g => cell_far g h.names.2.2) (fun g => by
    have := RowIs.set g (k := y * 3 + 2) (by rw [flat3_len]; omega) (.int .i64 x)
    rw [flat3_mod2 _ _ _ hy] at this
    show RowIs _ _ (flat3 (layBehind M.S (y : Int) x))
    unfold layBehind
    rw [if_neg (by omega)]
    exact this)
theorem BkM.layS (h : BkM B M W) {v : Nat} (hv : v < M.S.length) (c : Int × Int × Int) : BkM B ⟨M.F, M.S.set v c, M.inn, M.high⟩ (((W.setCell ⟨B.gS, v * 3, none⟩ (.int .i64 c.1)).setCell ⟨B.gS, v * 3 + 1, none⟩ (.int .i64 c.2.1)).setCell ⟨B.gS, v * 3 + 2, none⟩ (.int .i64 c.2.2)) := by
  have hb : BQ B B.gS := Or.inr (Or.inr rfl)
  obtain ⟨g1, g2, g3, g4, g5, g6, g7⟩ := h
  refine ⟨?_, cell_far (cell_far (cell_far g2 g5.2.2) g5.2.2) g5.2.2, ?_, ⟨by simpa using g4.1, by simpa using g4.2⟩, g5, ?_, g7⟩
  · show RowIs _ _ [_, .slice _ (M.S.set v c).length (M.S.set v c).length, _, _]
    rw [List.length_set]
    exact cell_far (cell_far (cell_far g1 g5.2.1) g5.2.1) g5.2.1
  · have := RowIs.set (RowIs.set (RowIs.set g3 (k := v * 3) (by rw [flat3_len]; omega) (.int .i64 c.1)) (k := v * 3 + 1) (by rw [List.length_set, flat3_len]; omega) (.int .i64 c.2.1)) (k := v * 3 + 2) (by rw [List.length_set, List.length_set, flat3_len]; omega) (.int .i64 c.2.2)
    rw [flat3_set hv] at this
    exact this
  · have t : ∀ (W : World) i (v : Value), Turn (fun x => x = B.gS) W (W.setCell ⟨B.gS, i, none⟩ v) := fun W i v => Turn.cell W i v rfl
    have d : ∀ k, GQ k → ¬ k = B.gS := fun k hk e => g7 k hk (by rw [e]; exact hb)
    exact ((g6.past (t _ _ _) d).past (t _ _ _) d).past (t _ _ _) d
/-- From w0 on nothing but the row's blocks was turned; then it tells M. -/
def BkSt (B : Bl) (w0 : World) (M : Mb) (W : World) : Prop := Turn (BQ B) w0 W ∧ BkM B M W ∧ ∀ k, BQ B k ∨ GQ k → k < w0.heap.size
theorem BkSt.start (h : BkM B M W) : BkSt B W M W := ⟨Turn.refl _ _, h, fun k e => e.elim (h.lt k) (h.glob.lt k)⟩
variable {w0 : World}
theorem BkSt.keep (h : BkSt B w0 M W) (hb : Below W.heap.size W W') : BkSt B w0 M W' := ⟨h.1.trans (Turn.ofBelow (O := BQ B) hb) (fun _ e => Or.inl e), h.2.1.keep hb, h.2.2⟩
theorem BkSt.alloc (h : BkSt B w0 M W) (o : Obj) : BkSt B w0 M (W.alloc o) := h.keep ((Below.refl _ _).alloc (Nat.le_refl _) o)
theorem BkSt.drawn (h : BkSt B w0 M W) (n : Nat) : BkSt B w0 M (W.drewN n) := h.keep (below_drewN (Below.refl _ _) n)
theorem BkSt.far (h : BkSt B w0 M W) {k : Nat} (hk : w0.heap.size ≤ k) : (k ≠ B.b ∧ B.b ≠ k ∧ k ≠ B.gL ∧ B.gL ≠ k ∧ k ≠ B.gS ∧ B.gS ≠ k) ∧ (0 ≠ k ∧ 1 ≠ k) := by
  have f := h.2.2
  have f1 := f _ (Or.inl (Or.inl rfl))
  have f2 := f _ (Or.inl (Or.inr (Or.inl rfl)))
  have f3 := f _ (Or.inl (Or.inr (Or.inr rfl)))
  have f4 := f _ (Or.inr (Or.inl rfl))
  have f5 := f _ (Or.inr (Or.inr rfl))
  refine ⟨⟨by omega, by omega, by omega, by omega, by omega, by omega⟩, by omega, by omega⟩
/-- What a call that began at W makes of the row. -/
theorem BkSt.trans {M' : Mb} (h : BkSt B w0 M W) (k : BkSt B W M' W') : BkSt B w0 M' W' := ⟨h.1.trans k.1 (fun _ e => Or.inl e), k.2.1, h.2.2⟩
theorem BkSt.step {M' : Mb} (h : BkSt B w0 M W) (ht : Turn (BQ B) W W') (k : BkM B M' W') : BkSt B w0 M' W' := ⟨h.1.trans ht (fun _ e => Or.inl e), k, h.2.2⟩
theorem BkSt.layIn (h : BkSt B w0 M W) (n : Int) : BkSt B w0 ⟨M.F, M.S, n, M.high⟩ (W.setCell ⟨B.b, 2, none⟩ (.int .i64 n)) := h.step (Turn.cell W 2 _ (Or.inl rfl)) (h.2.1.layIn n)
theorem BkSt.layHigh (h : BkSt B w0 M W) (n : Int) : BkSt B w0 ⟨M.F, M.S, M.inn, n⟩ (W.setCell ⟨B.b, 3, none⟩ (.int .i64 n)) := h.step (Turn.cell W 3 _ (Or.inl rfl)) (h.2.1.layHigh n)
theorem BkSt.layF0 (h : BkSt B w0 M W) {i : Nat} {c : Int × Int} (hi : M.F[i]? = some c) (x : Int) : BkSt B w0 ⟨M.F.set i (x, c.2), M.S, M.inn, M.high⟩ (W.setCell ⟨B.gL, i * 2, none⟩ (.int .i64 x)) := h.step (Turn.cell W _ _ (Or.inr (Or.inl rfl))) (h.2.1.layF0 hi x)
theorem BkSt.layF1 (h : BkSt B w0 M W) {i : Nat} {c : Int × Int} (hi : M.F[i]? = some c) (x : Int) : BkSt B w0 ⟨M.F.set i (c.1, x), M.S, M.inn, M.high⟩ (W.setCell ⟨B.gL, i * 2 + 1, none⟩ (.int .i64 x)) := h.step (Turn.cell W _ _ (Or.inr (Or.inl rfl))) (h.2.1.layF1 hi x)
theorem BkSt.layF (h : BkSt B w0 M W) {i : Nat} (hi : i < M.F.length) (c : Int × Int) : BkSt B w0 ⟨M.F.set i c, M.S, M.inn, M.high⟩ ((W.setCell ⟨B.gL, i * 2, none⟩ (.int .i64 c.1)).setCell ⟨B.gL, i * 2 + 1, none⟩ (.int .i64 c.2)) :=
  h.step ((Turn.cell W _ _ (Or.inr (Or.inl rfl))).trans (Turn.cell _ _ _ (Or.inr (Or.inl rfl))) (fun _ e => Or.inl e)) (h.2.1.layF hi c)
theorem BkSt.layS1 (h : BkSt B w0 M W) {y : Nat} (hy : y < M.S.length) (x : Int) : BkSt B w0 ⟨M.F, layAhead M.S (y : Int) x, M.inn, M.high⟩ (W.setCell ⟨B.gS, y * 3 + 1, none⟩ (.int .i64 x)) := h.step (Turn.cell W _ _ (Or.inr (Or.inr rfl))) (h.2.1.layS1 hy x)
theorem BkSt.layS2 (h : BkSt B w0 M W) {y : Nat} (hy : y < M.S.length) (x : Int) : BkSt B w0 ⟨M.F, layBehind M.S (y : Int) x, M.inn, M.high⟩ (W.setCell ⟨B.gS, y * 3 + 2, none⟩ (.int .i64 x)) := h.step (Turn.cell W _ _ (Or.inr (Or.inr rfl))) (h.2.1.layS2 hy x)
theorem BkSt.layS (h : BkSt B w0 M W) {v : Nat} (hv : v < M.S.length) (c : Int × Int × Int) : BkSt B w0 ⟨M.F, M.S.set v c, M.inn, M.high⟩ (((W.setCell ⟨B.gS, v * 3, none⟩ (.int .i64 c.1)).setCell ⟨B.gS, v * 3 + 1, none⟩ (.int .i64 c.2.1)).setCell ⟨B.gS, v * 3 + 2, none⟩ (.int .i64 c.2.2)) :=
  h.step (((Turn.cell W _ _ (Or.inr (Or.inr rfl))).trans (Turn.cell _ _ _ (Or.inr (Or.inr rfl))) (fun _ e => Or.inl e)).trans (Turn.cell _ _ _ (Or.inr (Or.inr rfl))) (fun _ e => Or.inl e)) (h.2.1.layS hv c)
end
/-- The row tells who is in which bucket. -/
def BkAt (B : Bl) (N : Nat) (D : List (Nat × Nat)) (W : World) : Prop := N ≤ 4096 ∧ ∃ M, BkM B M W ∧ GoodB N D M
end Go.Proofs.YthiabjmnbkhehaaDoor
