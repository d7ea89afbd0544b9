/- A heap in memory: a struct of five parts, an arena of nodes, two rows of numbers; over calls that turn other blocks, over calls that turn the arena, and over stores. -/
import Derived.Test.YtndljbkjcgfdcaaNdGive
import Derived.Test.YtndljbkjcgfdcaaHpPure
namespace Go.Proofs.Ytndljbkjcgfdcaa
open Go.RowKit Go.ChangeShapes NdPure HpPure
/-- Where a heap lies: its struct, its cells, its keys, its arena. -/
structure Bl where
  b : Nat
  gC : Nat
  gK : Nat
  ba : Nat
/-- All that the heap lies in is in the blocks of O. -/
def HpAt (O : Nat → Prop) (B : Bl) (w : World) (M : Hp) : Prop :=
  ∃ Oa, RowIs B.b w [.pointer (some ⟨B.ba, 0, none⟩), .int .i64 M.links, .slice (some ⟨B.gC, 0, none⟩) M.C.length M.C.length, .slice (some ⟨B.gK, 0, none⟩) M.C.length M.C.length, .int .i64 M.root] ∧
    ArAt Oa B.ba w M.C.length M.S ∧ RowIs B.gC w (M.C.map encZ) ∧ RowIs B.gK w (M.Y.map encZ) ∧ M.Y.length = M.C.length ∧ (B.gC < w.heap.size ∧ B.gK < w.heap.size) ∧
    (¬ Oa B.b ∧ ¬ Oa B.gC ∧ ¬ Oa B.gK ∧ B.b ≠ B.gC ∧ B.b ≠ B.gK ∧ B.gC ≠ B.gK) ∧ ∀ k, O k ↔ k = B.b ∨ k = B.gC ∨ k = B.gK ∨ Oa k
section
variable {O : Nat → Prop} {B : Bl} {w w' : World} {M : Hp}
theorem HpAt.lt (h : HpAt O B w M) : ∀ k, O k → k < w.heap.size := by
  obtain ⟨Oa, h1, h2, h3, h4, h5, h6, h7, h8⟩ := h
  intro k hk
  rcases (h8 k).1 hk with rfl | rfl | rfl | hk
  · exact h1.lt (by simp)
  · exact h6.1
  · exact h6.2
  · exact (h2.lt k hk).2
theorem HpAt.past {O' : Nat → Prop} (h : HpAt O B w M) (ht : Turn O' w w') (hd : ∀ k, O k → ¬ O' k) : HpAt O B w' M := by
  have hl := h.lt
  obtain ⟨Oa, h1, h2, h3, h4, h5, h6, h7, h8⟩ := h
  have hk : ∀ k, O k → w'.heap[k]? = w.heap[k]? := fun k e => ht.2.2.2.2 k (hl k e) (hd k e)
  have hs := ht.size
  exact ⟨Oa, row_same h1 (hk B.b ((h8 B.b).2 (Or.inl rfl))), h2.past ht (fun k e => hd k ((h8 k).2 (Or.inr (Or.inr (Or.inr e))))), row_same h3 (hk B.gC ((h8 B.gC).2 (Or.inr (Or.inl rfl)))), row_same h4 (hk B.gK ((h8 B.gK).2 (Or.inr (Or.inr (Or.inl rfl))))), h5, ⟨by omega, by omega⟩, h7, h8⟩
theorem HpAt.keep (h : HpAt O B w M) (hb : Below w.heap.size w w') : HpAt O B w' M := h.past (Turn.ofBelow (O := fun _ => False) hb) (fun _ _ e => e)
/-- The arena is turned. -/
theorem HpAt.arena (h : HpAt O B w M) : ∃ Oa, ArAt Oa B.ba w M.C.length M.S ∧
    ∀ (w' : World) (Oa' : Nat → Prop) (S' : St), Turn Oa w w' → (∀ k, Oa' k → Oa k ∨ w.heap.size ≤ k) → ArAt Oa' B.ba w' M.C.length S' → Turn O w w' ∧ ∃ O', (∀ k, O' k → O k ∨ w.heap.size ≤ k) ∧ HpAt O' B w' (M.withS S') := by
  obtain ⟨Oa, h1, h2, h3, h4, h5, h6, ⟨n1, n2, n3, n4⟩, h8⟩ := h
  have hb := h1.lt (by simp)
  refine ⟨Oa, h2, fun w' Oa' S' ht ho ha => ⟨?_, fun k => k = B.b ∨ k = B.gC ∨ k = B.gK ∨ Oa' k, ?_, Oa', ?_, ha, ?_, ?_, h5, ?_, ?_, fun k => Iff.rfl⟩⟩
  · exact ⟨ht.1, ht.2.1, ht.2.2.1, ht.2.2.2.1, fun k hk e => ht.2.2.2.2 k hk (fun e2 => e ((h8 k).2 (Or.inr (Or.inr (Or.inr e2)))))⟩
  · intro k hk
    rcases hk with e | e | e | e
    · exact Or.inl ((h8 k).2 (Or.inl e))
    · exact Or.inl ((h8 k).2 (Or.inr (Or.inl e)))
    · exact Or.inl ((h8 k).2 (Or.inr (Or.inr (Or.inl e))))
    · rcases ho k e with e | e
      · exact Or.inl ((h8 k).2 (Or.inr (Or.inr (Or.inr e))))
      · exact Or.inr e
  · exact row_same h1 (ht.2.2.2.2 B.b hb n1)
  · exact row_same h3 (ht.2.2.2.2 B.gC h6.1 n2)
  · exact row_same h4 (ht.2.2.2.2 B.gK h6.2 n3)
  · have := ht.size
    exact ⟨by omega, by omega⟩
  · exact ⟨fun e => (ho B.b e).elim n1 (by omega), fun e => (ho B.gC e).elim n2 (by omega), fun e => (ho B.gK e).elim n3 (by omega), n4⟩
end
/-- From w0 on nothing but the blocks of O was turned; then the heap tells M. -/
def Hs (O : Nat → Prop) (B : Bl) (w0 : World) (M : Hp) (W : World) : Prop := Turn O w0 W ∧ ∃ O', (∀ k, O' k → O k ∨ w0.heap.size ≤ k) ∧ HpAt O' B W M
section
variable {O : Nat → Prop} {B : Bl} {w0 W W' : World} {M : Hp}
theorem Hs.start (h : HpAt O B W M) : Hs O B W M W := ⟨Turn.refl _ _, O, fun _ e => Or.inl e, h⟩
/-- What a call that began at W makes of the heap. -/
theorem Hs.trans {O1 : Nat → Prop} {M' : Hp} (ht : Turn O w0 W) (ho : ∀ k, O1 k → O k ∨ w0.heap.size ≤ k) (h : Hs O1 B W M' W') : Hs O B w0 M' W' := by
  obtain ⟨t, O', o, a⟩ := h
  refine ⟨ht.trans t ho, O', fun k e => ?_, a⟩
  rcases o k e with e | e
  · exact ho k e
  · exact Or.inr (Nat.le_trans ht.size e)
theorem Hs.keep (h : Hs O B w0 M W) (hb : Below W.heap.size W W') : Hs O B w0 M W' := by
  obtain ⟨t, O', o, a⟩ := h
  exact ⟨t.trans (Turn.ofBelow (O := O) hb) (fun _ e => Or.inl e), O', o, a.keep hb⟩
theorem Hs.drawn (h : Hs O B w0 M W) (k : Nat) : Hs O B w0 M (W.drewN k) := h.keep (below_drewN (Below.refl _ _) k)
theorem Hs.alloc (h : Hs O B w0 M W) (o : Obj) : Hs O B w0 M (W.alloc o) := h.keep ((Below.refl _ _).alloc (Nat.le_refl _) o)
/-- A block that is none of the heap's is turned. -/
theorem Hs.past {P : Nat → Prop} (h : Hs O B w0 M W) (ht : Turn P W W') (hp : ∀ k, P k → w0.heap.size ≤ k) (hd : ∀ O', HpAt O' B W M → ∀ k, O' k → ¬ P k) : Hs O B w0 M W' := by
  obtain ⟨t, O', o, a⟩ := h
  exact ⟨t.trans ht (fun k e => Or.inr (hp k e)), O', o, a.past ht (hd O' a)⟩
theorem Hs.arena (h : Hs O B w0 M W) : ∃ Oa, ArAt Oa B.ba W M.C.length M.S ∧
    ∀ (W' : World) (Oa' : Nat → Prop) (S' : St), Turn Oa W W' → (∀ k, Oa' k → Oa k ∨ W.heap.size ≤ k) → ArAt Oa' B.ba W' M.C.length S' → Hs O B w0 (M.withS S') W' := by
  obtain ⟨t, O', o, a⟩ := h
  obtain ⟨Oa, a1, a2⟩ := a.arena
  exact ⟨Oa, a1, fun W' Oa' S' ht ho ha => Hs.trans t o (a2 W' Oa' S' ht ho ha)⟩
theorem Hs.good (h : Hs O B w0 M W) : GoodS M.C.length M.S ∧ M.C.length ≤ 1048576 ∧ M.Y.length = M.C.length := by
  obtain ⟨t, O', o, Oa, -, ⟨a1, a2, -⟩, -, -, h5, -⟩ := h
  exact ⟨a2, a1, h5⟩
/-- What is read of a heap's struct. -/
theorem Hs.cells (h : Hs O B w0 M W) : (W.cell? ⟨B.b, 0, none⟩ = some (.pointer (some ⟨B.ba, 0, none⟩)) ∧ W.cell? ⟨B.b, 1, none⟩ = some (.int .i64 M.links) ∧ W.cell? ⟨B.b, 2, none⟩ = some (.slice (some ⟨B.gC, 0, none⟩) M.C.length M.C.length) ∧ W.cell? ⟨B.b, 3, none⟩ = some (.slice (some ⟨B.gK, 0, none⟩) M.C.length M.C.length) ∧ W.cell? ⟨B.b, 4, none⟩ = some (.int .i64 M.root)) ∧
    (W.frozen? ⟨B.b, 1, none⟩ = false ∧ W.frozen? ⟨B.b, 4, none⟩ = false) ∧ (B.b < W.heap.size ∧ B.gC < W.heap.size ∧ B.gK < W.heap.size) ∧ (B.b ≠ B.gC ∧ B.gC ≠ B.b ∧ B.b ≠ B.gK ∧ B.gK ≠ B.b) := by
  obtain ⟨t, O', o, Oa, h1, h2, h3, h4, h5, h6, ⟨n1, n2, n3, n4, n5, n6⟩, h8⟩ := h
  exact ⟨⟨(h1 0 (by simp)).1, (h1 1 (by simp)).1, (h1 2 (by simp)).1, (h1 3 (by simp)).1, (h1 4 (by simp)).1⟩, ⟨(h1 1 (by simp)).2, (h1 4 (by simp)).2⟩, ⟨h1.lt (by simp), h6⟩, n4, fun e => n4 e.symm, n5, fun e => n5 e.symm⟩
theorem Hs.getC (h : Hs O B w0 M W) {i : Nat} (hi : i < M.C.length) : W.cell? ⟨B.gC, i, none⟩ = some (.int .i64 M.C[i]) ∧ W.frozen? ⟨B.gC, i, none⟩ = false := by
  obtain ⟨t, O', o, Oa, h1, h2, h3, h4, h5, h6, h7, h8⟩ := h
  have := h3 i (by simpa using hi)
  rw [List.getElem_map] at this
  exact this
theorem Hs.getY (h : Hs O B w0 M W) {i : Nat} (hi : i < M.Y.length) : W.cell? ⟨B.gK, i, none⟩ = some (.int .i64 M.Y[i]) ∧ W.frozen? ⟨B.gK, i, none⟩ = false := by
  obtain ⟨t, O', o, Oa, h1, h2, h3, h4, h5, h6, h7, h8⟩ := h
  have := h4 i (by simpa using hi)
  rw [List.getElem_map] at this
  exact this
/-- The heap's own cells are laid anew: what each store makes. -/
theorem Hs.store {b' : Nat} {i : Nat} {v : Value} {M' : Hp} (h : Hs O B w0 M W) (hb : b' = B.b ∨ b' = B.gC ∨ b' = B.gK) (hS : M'.S = M.S) (hl : M'.C.length = M.C.length) (hy : M'.Y.length = M.Y.length)
    (h1 : RowIs B.b W [.pointer (some ⟨B.ba, 0, none⟩), .int .i64 M.links, .slice (some ⟨B.gC, 0, none⟩) M.C.length M.C.length, .slice (some ⟨B.gK, 0, none⟩) M.C.length M.C.length, .int .i64 M.root] → RowIs B.b (W.setCell ⟨b', i, none⟩ v) [.pointer (some ⟨B.ba, 0, none⟩), .int .i64 M'.links, .slice (some ⟨B.gC, 0, none⟩) M.C.length M.C.length, .slice (some ⟨B.gK, 0, none⟩) M.C.length M.C.length, .int .i64 M'.root])
    (h2 : RowIs B.gC W (M.C.map encZ) → RowIs B.gC (W.setCell ⟨b', i, none⟩ v) (M'.C.map encZ)) (h3 : RowIs B.gK W (M.Y.map encZ) → RowIs B.gK (W.setCell ⟨b', i, none⟩ v) (M'.Y.map encZ)) : Hs O B w0 M' (W.setCell ⟨b', i, none⟩ v) := by
  obtain ⟨t, O', o, Oa, g1, g2, g3, g4, g5, g6, g7, g8⟩ := h
  have ob : O' b' := (g8 b').2 (by rcases hb with e | e | e <;> simp [e])
  have na : ¬ Oa b' := by rcases hb with e | e | e <;> (rw [e]; first | exact g7.1 | exact g7.2.1 | exact g7.2.2.1)
  have hc := Turn.cell (O := O') W i v ob
  refine ⟨t.trans hc o, O', o, Oa, ?_, ?_, h2 g3, h3 g4, by omega, ⟨by simpa using g6.1, by simpa using g6.2⟩, g7, g8⟩
  · rw [hl]; exact h1 g1
  · rw [hS, hl]
    exact g2.past (Turn.cell (O := fun k => k = b') W i v rfl) (fun k e e2 => na (by rw [← show k = b' from e2]; exact e))
theorem cell_far {b b' i : Nat} {w : World} {v : Value} {vs : List Value} (h : RowIs b w vs) (hne : b ≠ b') : RowIs b (w.setCell ⟨b', i, none⟩ v) vs := row_same h (cell_other hne)
theorem Hs.names (h : Hs O B w0 M W) : B.b ≠ B.gC ∧ B.b ≠ B.gK ∧ B.gC ≠ B.gK := by
  obtain ⟨t, O', o, Oa, g1, g2, g3, g4, g5, g6, g7, g8⟩ := h
  exact g7.2.2.2
theorem Hs.layLinks (h : Hs O B w0 M W) (n : Int) : Hs O B w0 ⟨M.S, n, M.C, M.Y, M.root⟩ (W.setCell ⟨B.b, 1, none⟩ (.int .i64 n)) :=
  h.store (M' := ⟨M.S, n, M.C, M.Y, M.root⟩) (Or.inl rfl) rfl rfl rfl (fun g => RowIs.set g (k := 1) (by simp) _) (fun g => cell_far g (fun e => h.names.1 e.symm)) (fun g => cell_far g (fun e => h.names.2.1 e.symm))
theorem Hs.layRoot (h : Hs O B w0 M W) (n : Int) : Hs O B w0 ⟨M.S, M.links, M.C, M.Y, n⟩ (W.setCell ⟨B.b, 4, none⟩ (.int .i64 n)) :=
  h.store (M' := ⟨M.S, M.links, M.C, M.Y, n⟩) (Or.inl rfl) rfl rfl rfl (fun g => RowIs.set g (k := 4) (by simp) _) (fun g => cell_far g (fun e => h.names.1 e.symm)) (fun g => cell_far g (fun e => h.names.2.1 e.symm))
theorem Hs.layC (h : Hs O B w0 M W) {i : Nat} (hi : i < M.C.length) (n : Int) : Hs O B w0 ⟨M.S, M.links, M.C.set i n, M.Y, M.root⟩ (W.setCell ⟨B.gC, i, none⟩ (.int .i64 n)) :=
  h.store (M' := ⟨M.S, M.links, M.C.set i n, M.Y, M.root⟩) (Or.inr (Or.inl rfl)) rfl (by simp) rfl (fun g => cell_far g h.names.1) (fun g => by
    have := RowIs.set g (k := i) (by simpa using hi) (encZ n)
    rw [← List.map_set] at this
    exact this) (fun g => cell_far g (fun e => h.names.2.2 e.symm))
theorem Hs.layY (h : Hs O B w0 M W) {i : Nat} (hi : i < M.Y.length) (n : Int) : Hs O B w0 ⟨M.S, M.links, M.C, M.Y.set i n, M.root⟩ (W.setCell ⟨B.gK, i, none⟩ (.int .i64 n)) :=
  h.store (M' := ⟨M.S, M.links, M.C, M.Y.set i n, M.root⟩) (Or.inr (Or.inr rfl)) rfl rfl (by simp) (fun g => cell_far g h.names.2.1) (fun g => cell_far g h.names.2.2) (fun g => by
    have := RowIs.set g (k := i) (by simpa using hi) (encZ n)
    rw [← List.map_set] at this
    exact this)
end
end Go.Proofs.Ytndljbkjcgfdcaa
