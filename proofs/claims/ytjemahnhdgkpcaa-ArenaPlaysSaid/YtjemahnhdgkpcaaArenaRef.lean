/- The document's cells with numbers in memory: a struct of four parts: room, what is in each, which are given, the free list; over stores and appends. -/
import Derived.Test.YtjemahnhdgkpcaaArenaLive
namespace Go.Proofs.Ytjemahnhdgkpcaa
open Go.RowKit Go.ChangeShapes ArenaPure
def encO (v : Bool) : Value := .bool v
def encK (n : Nat) : Value := .int .i64 (n : Int)
theorem reads_same {α : Type} {enc : α → Value} {w w' : World} {q : Option Addr} {l : List α} (h : ReadsL enc w.heap.size w q l) (hk : ∀ z, q = some z → w'.heap[z.block]? = w.heap[z.block]?) (hs : w.heap.size ≤ w'.heap.size) : ReadsL enc w'.heap.size w' q l := by
  rcases h with h | ⟨b, off, rfl, hN, hc⟩
  · exact Or.inl h
  · exact Or.inr ⟨b, off, rfl, Nat.lt_of_lt_of_le hN hs, fun i hi => (World.cell?_of_block (a := ⟨b, off + i, none⟩) (hk ⟨b, off, none⟩ rfl)).trans (hc i hi)⟩
theorem reads_news {α : Type} {enc : α → Value} {N : Nat} {w : World} {ad : Addr} {l : List α} (h : ReadsL enc N w (some ad) l) : ∀ j u, (l.map enc)[j]? = some u → w.cell? (ad.add j) = some u := by
  intro j u hj
  rcases h with h | ⟨b, off, e, -, hc⟩
  · subst h; simp at hj
  · cases e
    obtain ⟨hjl, rfl⟩ := List.getElem?_eq_some_iff.1 hj
    rw [List.getElem_map, addr_add]
    exact hc j (by simpa using hjl)
theorem owns_apart {w : World} {B B' n n' s s' : Nat} {e e' : TypeId} {v v' : Value} {xs xs' : List Value} (h : w.ownsRow B e s v n xs) (h' : w.ownsRow B' e' s' v' n' xs') (hne : e ≠ e') : ∀ k, v.ownBlock = some k → v'.ownBlock ≠ some k := by
  intro k hk hk'
  obtain ⟨-, ⟨rfl, -⟩ | ⟨g, cap, cur, rfl, -, hg, -⟩⟩ := h
  · simp [Value.ownBlock] at hk
  obtain ⟨-, ⟨rfl, -⟩ | ⟨g', cap', cur', rfl, -, hg', -⟩⟩ := h'
  · simp [Value.ownBlock] at hk'
  simp [Value.ownBlock] at hk hk'
  subst hk
  subst hk'
  rw [hg] at hg'
  simp at hg'
  exact hne hg'.2
/-- At block b the parts of the document's arena; its lists in the blocks of O beside. -/
def RfM (O : Nat → Prop) (b : Nat) (w : World) (N : Nat) (X : List Int) (I : List Bool) (F : List Nat) : Prop :=
  ∃ vx vi q c, FourAt b w (.int .i64 (N : Int)) vx vi (.slice q F.length c) ∧ w.ownsRow (b + 1) 3 1 vx X.length (X.map encZ) ∧ w.ownsRow (b + 1) 4 1 vi I.length (I.map encO) ∧
    ReadsL encK w.heap.size w q F ∧ (F.length ≤ c ∧ (q = none → c = 0) ∧ ∀ z, q = some z → b < z.block ∧ z.block < w.heap.size ∧ vx.ownBlock ≠ some z.block ∧ vi.ownBlock ≠ some z.block) ∧
    ∀ k, O k ↔ k = b ∨ vx.ownBlock = some k ∨ vi.ownBlock = some k ∨ ∃ z, q = some z ∧ z.block = k
section
variable {O : Nat → Prop} {b : Nat} {w w' : World} {N : Nat} {X : List Int} {I : List Bool} {F : List Nat}
theorem RfM.lt (h : RfM O b w N X I F) : ∀ k, O k → b ≤ k ∧ k < w.heap.size := by
  obtain ⟨vx, vi, q, c, h1, h2, h3, -, ⟨-, -, h4⟩, h5⟩ := h
  intro k hk
  rcases (h5 k).1 hk with rfl | hk | hk | ⟨z, e, rfl⟩
  · exact ⟨Nat.le_refl _, h1.lt⟩
  · have := h2.lt k hk; omega
  · have := h3.lt k hk; omega
  · have := h4 z e; omega
theorem RfM.past {O' : Nat → Prop} (h : RfM O b w N X I F) (ht : Turn O' w w') (hd : ∀ k, O k → ¬ O' k) : RfM O b w' N X I F := by
  have hl := h.lt
  obtain ⟨vx, vi, q, c, h1, h2, h3, h4, ⟨h5, h6, h7⟩, h8⟩ := h
  have hk : ∀ k, O k → w'.heap[k]? = w.heap[k]? := fun k e => ht.2.2.2.2 k (hl k e).2 (hd k e)
  exact ⟨vx, vi, q, c, row_same h1 (hk b ((h8 b).2 (Or.inl rfl))), owns_same h2 (fun k e => hk k ((h8 k).2 (Or.inr (Or.inl e)))), owns_same h3 (fun k e => hk k ((h8 k).2 (Or.inr (Or.inr (Or.inl e))))),
    reads_same h4 (fun z e => hk _ ((h8 _).2 (Or.inr (Or.inr (Or.inr ⟨z, e, rfl⟩))))) ht.size, ⟨h5, h6, fun z e => ⟨(h7 z e).1, Nat.lt_of_lt_of_le (h7 z e).2.1 ht.size, (h7 z e).2.2⟩⟩, h8⟩
theorem RfM.keep (h : RfM O b w N X I F) (hb : Below w.heap.size w w') : RfM O b w' N X I F := h.past (Turn.ofBelow (O := fun _ => False) hb) (fun _ _ e => e)
theorem RfM.drawn (h : RfM O b w N X I F) (k : Nat) : RfM O b (w.drewN k) N X I F := h.keep (below_drewN (Below.refl _ _) k)
/-- One place of what is in the cells is laid anew. -/
theorem RfM.layX (h : RfM O b w N X I F) {n : Nat} (hn : n < X.length) (x : Int) :
    ∃ g cap, (w.cell? ⟨b, 1, none⟩ = some (.slice (some ⟨g, 0, none⟩) X.length cap) ∧ b < w.heap.size ∧ g < w.heap.size ∧ b ≠ g) ∧ (∃ u : Int, w.cell? ⟨g, n, none⟩ = some (.int .i64 u)) ∧ w.frozen? ⟨g, n, none⟩ = false ∧
      Turn O w (w.setCell ⟨g, n, none⟩ (.int .i64 x)) ∧ RfM O b (w.setCell ⟨g, n, none⟩ (.int .i64 x)) N (X.set n x) I F := by
  obtain ⟨vx, vi, q, c, h1, h2, h3, h4, ⟨h5, h6, h7⟩, h8⟩ := h
  obtain ⟨g, cap, rfl, hg, hgs⟩ := owns_slice h2 (by omega)
  have og : O g := (h8 g).2 (Or.inr (Or.inl rfl))
  have hst := (h2.stored n (.int .i64 x)).1
  have hap := owns_apart h2 h3 (by decide) g rfl
  have hc := h2.cellAt n (by omega)
  rw [List.getElem?_map, List.getElem?_eq_getElem hn] at hc
  refine ⟨g, cap, ⟨h1.cells.1.2.1, h1.lt, hgs, by omega⟩, ⟨_, hc⟩, h2.frozenAt n, Turn.cell w n _ og, .slice (some ⟨g, 0, none⟩) X.length cap, vi, q, c, row_same h1 (cell_other (by omega)), ?_, owns_same h3 (fun k e => cell_other (fun e2 => hap (by rw [e, e2]))),
    reads_same h4 (fun z e => cell_other (fun e2 => (h7 z e).2.2.1 (by rw [e2]; rfl))) (by simp), ⟨h5, h6, fun z e => by have := h7 z e; simpa using this⟩, h8⟩
  rw [List.length_set, List.map_set]
  exact hst
/-- One place of which are given is laid anew. -/
theorem RfM.layI (h : RfM O b w N X I F) {n : Nat} (hn : n < I.length) (u : Bool) :
    ∃ g cap, (w.cell? ⟨b, 2, none⟩ = some (.slice (some ⟨g, 0, none⟩) I.length cap) ∧ b < w.heap.size ∧ g < w.heap.size ∧ b ≠ g) ∧ (∃ u : Bool, w.cell? ⟨g, n, none⟩ = some (.bool u)) ∧ w.frozen? ⟨g, n, none⟩ = false ∧
      Turn O w (w.setCell ⟨g, n, none⟩ (.bool u)) ∧ RfM O b (w.setCell ⟨g, n, none⟩ (.bool u)) N X (I.set n u) F := by
  obtain ⟨vx, vi, q, c, h1, h2, h3, h4, ⟨h5, h6, h7⟩, h8⟩ := h
  obtain ⟨g, cap, rfl, hg, hgs⟩ := owns_slice h3 (by omega)
  have og : O g := (h8 g).2 (Or.inr (Or.inr (Or.inl rfl)))
  have hst := (h3.stored n (.bool u)).1
  have hap := owns_apart h3 h2 (by decide) g rfl
  have hc := h3.cellAt n (by omega)
  rw [List.getElem?_map, List.getElem?_eq_getElem hn] at hc
  refine ⟨g, cap, ⟨h1.cells.1.2.2.1, h1.lt, hgs, by omega⟩, ⟨_, hc⟩, h3.frozenAt n, Turn.cell w n _ og, vx, .slice (some ⟨g, 0, none⟩) I.length cap, q, c, row_same h1 (cell_other (by omega)), owns_same h2 (fun k e => cell_other (fun e2 => hap (by rw [e, e2]))), ?_,
    reads_same h4 (fun z e => cell_other (fun e2 => (h7 z e).2.2.2 (by rw [e2]; rfl))) (by simp), ⟨h5, h6, fun z e => by have := h7 z e; simpa using this⟩, h8⟩
  rw [List.length_set, List.map_set]
  exact hst
/-- What is read of one place. -/
theorem RfM.get (h : RfM O b w N X I F) (hl : X.length = I.length) {n : Nat} (hn : n < X.length) :
    ∃ gx cx gi ci, (w.cell? ⟨b, 1, none⟩ = some (.slice (some ⟨gx, 0, none⟩) X.length cx) ∧ w.cell? ⟨b, 2, none⟩ = some (.slice (some ⟨gi, 0, none⟩) X.length ci)) ∧ (b < w.heap.size ∧ gx < w.heap.size ∧ gi < w.heap.size) ∧
      w.cell? ⟨gx, n, none⟩ = some (.int .i64 (X.getD n 0)) ∧ w.cell? ⟨gi, n, none⟩ = some (.bool (I.getD n false)) := by
  obtain ⟨vx, vi, q, c, h1, h2, h3, -⟩ := h
  obtain ⟨gx, cx, rfl, -, hgx⟩ := owns_slice h2 (by omega)
  obtain ⟨gi, ci, rfl, -, hgi⟩ := owns_slice h3 (by omega)
  have hi : n < I.length := by omega
  have e1 := h2.cellAt n (by omega)
  have e2 := h3.cellAt n (by omega)
  rw [List.getElem?_map, List.getElem?_eq_getElem hn] at e1
  rw [List.getElem?_map, List.getElem?_eq_getElem hi] at e2
  refine ⟨gx, cx, gi, ci, ⟨h1.cells.1.2.1, by rw [hl]; exact h1.cells.1.2.2.1⟩, ⟨h1.lt, hgx, hgi⟩, ?_, ?_⟩
  · rw [e1, List.getD_eq_getElem?_getD, List.getElem?_eq_getElem hn]; rfl
  · rw [e2, List.getD_eq_getElem?_getD, List.getElem?_eq_getElem hi]; rfl
/-- Something is appended to what is in the cells. -/
theorem RfM.moreX (h : RfM O b w N X I F) : ∃ q c, w.cell? ⟨b, 1, none⟩ = some (.slice q X.length c) ∧ b < w.heap.size ∧ w.ownsRow (b + 1) 3 1 (.slice q X.length c) X.length (X.map encZ) ∧
    ∀ (o : Obj) (w' : World) (v' : Value) (x : Int), w'.ownsRow (b + 1) 3 1 v' (X.length + 1) (X.map encZ ++ [encZ x]) → (w.alloc o).grownBy w' (Value.slice q X.length c).ownBlock → (v'.ownBlock = (Value.slice q X.length c).ownBlock ∨ v'.ownBlock = some (w.alloc o).heap.size) →
      (w'.cell? ⟨b, 1, none⟩ = some (.slice q X.length c) ∧ w'.frozen? ⟨b, 1, none⟩ = false) ∧ b < w'.heap.size ∧ Turn O w (w'.setCell ⟨b, 1, none⟩ v') ∧ ∃ O', (∀ k, O' k → O k ∨ w.heap.size ≤ k) ∧ RfM O' b (w'.setCell ⟨b, 1, none⟩ v') N (X ++ [x]) I F := by
  obtain ⟨vx, vi, q, c, h1, h2, h3, h4, ⟨h5, h6, h7⟩, h8⟩ := h
  obtain ⟨qx, cx, rfl⟩ := owns_any h2
  refine ⟨qx, cx, h1.cells.1.2.1, h1.lt, h2, fun o w' v' x g1 g2 g3 => ?_⟩
  have hap := owns_apart h2 h3 (by decide)
  have hbx : ∀ k, (Value.slice qx X.length cx).ownBlock = some k → b < k ∧ k < w.heap.size := fun k e => h2.lt k e
  have hal := (Below.refl _ w).alloc (Nat.le_refl _) o
  have hsz : (w.alloc o).heap.size = w.heap.size + 1 := by simp
  have keep : ∀ k, k < w.heap.size → (Value.slice qx X.length cx).ownBlock ≠ some k → w'.heap[k]? = w.heap[k]? := fun k hk hne => (g2.block k (by omega) (fun e => hne e.symm)).trans (hal.block k hk)
  have keep2 : ∀ k, k < w.heap.size → k ≠ b → (Value.slice qx X.length cx).ownBlock ≠ some k → (w'.setCell ⟨b, 1, none⟩ v').heap[k]? = w.heap[k]? := fun k hk e hne => (cell_other e).trans (keep k hk hne)
  have h1' := row_same h1 (keep b h1.lt (fun e => by have := hbx b e; omega))
  have hw' := g2.size
  have hnew : ∀ k, v'.ownBlock = some k → (Value.slice qx X.length cx).ownBlock = some k ∨ w.heap.size < k := by
    intro k e
    rcases g3 with g3 | g3
    · exact Or.inl (g3 ▸ e)
    · rw [g3] at e
      have := Option.some.inj e
      exact Or.inr (by omega)
  have ob : O b := (h8 b).2 (Or.inl rfl)
  refine ⟨⟨(FourAt.cells h1').1.2.1, (FourAt.cells h1').2.2.1⟩, FourAt.lt h1', ?_, fun k => k = b ∨ v'.ownBlock = some k ∨ vi.ownBlock = some k ∨ ∃ z, q = some z ∧ z.block = k, ?_, v', vi, q, c, (four_set h1' v').1, ?_, ?_, ?_, ⟨h5, h6, ?_⟩, fun k => Iff.rfl⟩
  · exact ((Turn.ofBelow hal).trans (Turn.grown g2 (O := O) (fun k e => (h8 k).2 (Or.inr (Or.inl e)))) (fun _ e => Or.inl e)).trans (Turn.cell _ 1 _ ob) (fun _ e => Or.inl e)
  · rintro k (e | e | e | e)
    · exact Or.inl ((h8 k).2 (Or.inl e))
    · rcases hnew k e with e | e
      · exact Or.inl ((h8 k).2 (Or.inr (Or.inl e)))
      · exact Or.inr (by omega)
    · exact Or.inl ((h8 k).2 (Or.inr (Or.inr (Or.inl e))))
    · exact Or.inl ((h8 k).2 (Or.inr (Or.inr (Or.inr e))))
  · rw [List.length_append, List.map_append]
    exact owns_setCell g1 (p := ⟨b, 1, none⟩) (Nat.lt_succ_self b) v'
  · exact owns_same h3 (fun k e => keep2 k (h3.lt k e).2 (fun e2 => by have := h3.lt k e; omega) (fun e2 => hap k e2 e))
  · exact reads_same h4 (fun z e => keep2 _ (h7 z e).2.1 (fun e2 => by have := h7 z e; omega) (h7 z e).2.2.1) (by simp; omega)
  · intro z e
    obtain ⟨k1, k2, k3, k4⟩ := h7 z e
    refine ⟨k1, by simp; omega, fun e2 => ?_, k4⟩
    rcases hnew _ e2 with e3 | e3
    · exact k3 e3
    · omega
/-- Something is appended to which are given. -/
theorem RfM.moreI (h : RfM O b w N X I F) : ∃ q c, w.cell? ⟨b, 2, none⟩ = some (.slice q I.length c) ∧ b < w.heap.size ∧ w.ownsRow (b + 1) 4 1 (.slice q I.length c) I.length (I.map encO) ∧
    ∀ (o : Obj) (w' : World) (v' : Value) (u : Bool), w'.ownsRow (b + 1) 4 1 v' (I.length + 1) (I.map encO ++ [encO u]) → (w.alloc o).grownBy w' (Value.slice q I.length c).ownBlock → (v'.ownBlock = (Value.slice q I.length c).ownBlock ∨ v'.ownBlock = some (w.alloc o).heap.size) →
      (w'.cell? ⟨b, 2, none⟩ = some (.slice q I.length c) ∧ w'.frozen? ⟨b, 2, none⟩ = false) ∧ b < w'.heap.size ∧ Turn O w (w'.setCell ⟨b, 2, none⟩ v') ∧ ∃ O', (∀ k, O' k → O k ∨ w.heap.size ≤ k) ∧ RfM O' b (w'.setCell ⟨b, 2, none⟩ v') N X (I ++ [u]) F := by
  obtain ⟨vx, vi, q, c, h1, h2, h3, h4, ⟨h5, h6, h7⟩, h8⟩ := h
  obtain ⟨qi, ci, rfl⟩ := owns_any h3
  refine ⟨qi, ci, h1.cells.1.2.2.1, h1.lt, h3, fun o w' v' u g1 g2 g3 => ?_⟩
  have hap := owns_apart h3 h2 (by decide)
  have hbx : ∀ k, (Value.slice qi I.length ci).ownBlock = some k → b < k ∧ k < w.heap.size := fun k e => h3.lt k e
  have hal := (Below.refl _ w).alloc (Nat.le_refl _) o
  have hsz : (w.alloc o).heap.size = w.heap.size + 1 := by simp
  have keep : ∀ k, k < w.heap.size → (Value.slice qi I.length ci).ownBlock ≠ some k → w'.heap[k]? = w.heap[k]? := fun k hk hne => (g2.block k (by omega) (fun e => hne e.symm)).trans (hal.block k hk)
  have keep2 : ∀ k, k < w.heap.size → k ≠ b → (Value.slice qi I.length ci).ownBlock ≠ some k → (w'.setCell ⟨b, 2, none⟩ v').heap[k]? = w.heap[k]? := fun k hk e hne => (cell_other e).trans (keep k hk hne)
  have h1' := row_same h1 (keep b h1.lt (fun e => by have := hbx b e; omega))
  have hw' := g2.size
  have hnew : ∀ k, v'.ownBlock = some k → (Value.slice qi I.length ci).ownBlock = some k ∨ w.heap.size < k := by
    intro k e
    rcases g3 with g3 | g3
    · exact Or.inl (g3 ▸ e)
    · rw [g3] at e
      have := Option.some.inj e
      exact Or.inr (by omega)
  have ob : O b := (h8 b).2 (Or.inl rfl)
  refine ⟨⟨(FourAt.cells h1').1.2.2.1, (FourAt.cells h1').2.2.2.1⟩, FourAt.lt h1', ?_, fun k => k = b ∨ vx.ownBlock = some k ∨ v'.ownBlock = some k ∨ ∃ z, q = some z ∧ z.block = k, ?_, vx, v', q, c, (four_set h1' v').2.1, ?_, ?_, ?_, ⟨h5, h6, ?_⟩, fun k => Iff.rfl⟩
  · exact ((Turn.ofBelow hal).trans (Turn.grown g2 (O := O) (fun k e => (h8 k).2 (Or.inr (Or.inr (Or.inl e))))) (fun _ e => Or.inl e)).trans (Turn.cell _ 2 _ ob) (fun _ e => Or.inl e)
  · rintro k (e | e | e | e)
    · exact Or.inl ((h8 k).2 (Or.inl e))
    · exact Or.inl ((h8 k).2 (Or.inr (Or.inl e)))
    · rcases hnew k e with e | e
      · exact Or.inl ((h8 k).2 (Or.inr (Or.inr (Or.inl e))))
      · exact Or.inr (by omega)
    · exact Or.inl ((h8 k).2 (Or.inr (Or.inr (Or.inr e))))
  · exact owns_same h2 (fun k e => keep2 k (h2.lt k e).2 (fun e2 => by have := h2.lt k e; omega) (fun e2 => hap k e2 e))
  · rw [List.length_append, List.map_append]
    exact owns_setCell g1 (p := ⟨b, 2, none⟩) (Nat.lt_succ_self b) v'
  · exact reads_same h4 (fun z e => keep2 _ (h7 z e).2.1 (fun e2 => by have := h7 z e; omega) (h7 z e).2.2.2) (by simp; omega)
  · intro z e
    obtain ⟨k1, k2, k3, k4⟩ := h7 z e
    refine ⟨k1, by simp; omega, k3, fun e2 => ?_⟩
    rcases hnew _ e2 with e3 | e3
    · exact k4 e3
    · omega
/-- The free list's first one goes off it. -/
theorem RfM.tail {n : Nat} {r : List Nat} (h : RfM O b w N X I (n :: r)) : ∃ g off c, (w.cell? ⟨b, 3, none⟩ = some (.slice (some ⟨g, off, none⟩) (r.length + 1) c) ∧ w.frozen? ⟨b, 3, none⟩ = false) ∧ (b < w.heap.size ∧ g < w.heap.size ∧ b ≠ g ∧ r.length + 1 ≤ c) ∧ w.cell? ⟨g, off, none⟩ = some (.int .i64 (n : Int)) ∧
    Turn O w (w.setCell ⟨b, 3, none⟩ (.slice (if c = 1 then some ⟨g, off, none⟩ else some ⟨g, off + 1, none⟩) r.length (c - 1))) ∧ RfM O b (w.setCell ⟨b, 3, none⟩ (.slice (if c = 1 then some ⟨g, off, none⟩ else some ⟨g, off + 1, none⟩) r.length (c - 1))) N X I r := by
  obtain ⟨vx, vi, q, c, h1, h2, h3, h4, ⟨h5, h6, h7⟩, h8⟩ := h
  have ob : O b := (h8 b).2 (Or.inl rfl)
  rcases h4 with h4 | ⟨g, off, rfl, hg, hc⟩
  · cases h4
  · obtain ⟨k1, k2, k3, k4⟩ := h7 _ rfl
    simp only at k1 k2 k3 k4
    have hc0 := hc 0 (by simp)
    simp only [List.length_cons] at h5
    obtain ⟨o, ho, hoc⟩ : ∃ o, (if c = 1 then some (⟨g, off, none⟩ : Addr) else some ⟨g, off + 1, none⟩) = some ⟨g, o, none⟩ ∧ (c = 1 ∨ o = off + 1) := by
      by_cases e : c = 1
      · exact ⟨off, if_pos e, Or.inl e⟩
      · exact ⟨off + 1, if_neg e, Or.inr rfl⟩
    refine ⟨g, off, c, ⟨h1.cells.1.2.2.2, h1.cells.2.2.2.2⟩, ⟨h1.lt, hg, by omega, h5⟩, hc0, ?_⟩
    rw [ho]
    refine ⟨Turn.cell w 3 _ ob, vx, vi, some ⟨g, o, none⟩, c - 1, (four_set h1 _).2.2, owns_setCell h2 (p := ⟨b, 3, none⟩) (Nat.lt_succ_self b) _, owns_setCell h3 (p := ⟨b, 3, none⟩) (Nat.lt_succ_self b) _, ?_, ⟨by omega, ?_, ?_⟩, fun k => by rw [h8 k]; simp⟩
    rotate_left
    · intro e; cases e
    · intro z e; cases e; exact ⟨k1, by simpa using k2, k3, k4⟩
    rcases hoc with e | rfl
    · exact Or.inl (List.length_eq_zero_iff.1 (by omega))
    refine Or.inr ⟨g, off + 1, rfl, by simpa using hg, fun i hi => ?_⟩
    have := hc (i + 1) (by simpa using hi)
    rw [show off + 1 + i = off + (i + 1) by omega, World.cell?_of_block (a := ⟨g, off + (i + 1), none⟩) (cell_other (show g ≠ b by omega))]
    simpa using this
/-- The free list is another one. -/
theorem RfM.newF (h : RfM O b w N X I F) {F' : List Nat} {q : Option Addr} {c : Nat} (hb : Below w.heap.size w w') (hr : ReadsL encK w'.heap.size w' q F') (hc : F'.length ≤ c) (hn : q = none → c = 0) (hq : ∀ z, q = some z → w.heap.size ≤ z.block ∧ z.block < w'.heap.size) :
    Turn O w (w'.setCell ⟨b, 3, none⟩ (.slice q F'.length c)) ∧ ∃ O', (∀ k, O' k → O k ∨ w.heap.size ≤ k) ∧ RfM O' b (w'.setCell ⟨b, 3, none⟩ (.slice q F'.length c)) N X I F' := by
  have hk := h.keep hb
  obtain ⟨vx0, vi0, q0, c0, p1, p2, p3, -⟩ := h
  obtain ⟨vx, vi, q1, c1, h1, h2, h3, h4, ⟨h5, h6, h7⟩, h8⟩ := hk
  have ob : O b := (h8 b).2 (Or.inl rfl)
  have e1 : vx0 = vx := by have := (hb.cell (p := ⟨b, 1, none⟩) p1.lt).trans p1.cells.1.2.1; rw [h1.cells.1.2.1] at this; exact (Option.some.inj this).symm
  have e2 : vi0 = vi := by have := (hb.cell (p := ⟨b, 2, none⟩) p1.lt).trans p1.cells.1.2.2.1; rw [h1.cells.1.2.2.1] at this; exact (Option.some.inj this).symm
  subst e1
  subst e2
  have hbl := p1.lt
  refine ⟨(Turn.ofBelow hb).trans (Turn.cell _ 3 _ ob) (fun _ e => Or.inl e), fun k => k = b ∨ vx0.ownBlock = some k ∨ vi0.ownBlock = some k ∨ ∃ z, q = some z ∧ z.block = k, ?_, vx0, vi0, q, c, (four_set h1 _).2.2, owns_setCell h2 (p := ⟨b, 3, none⟩) (Nat.lt_succ_self b) _, owns_setCell h3 (p := ⟨b, 3, none⟩) (Nat.lt_succ_self b) _, ?_, ⟨hc, hn, fun z e => ?_⟩, fun k => Iff.rfl⟩
  · rintro k (e | e | e | ⟨z, e, rfl⟩)
    · exact Or.inl ((h8 k).2 (Or.inl e))
    · exact Or.inl ((h8 k).2 (Or.inr (Or.inl e)))
    · exact Or.inl ((h8 k).2 (Or.inr (Or.inr (Or.inl e))))
    · exact Or.inr (hq z e).1
  · exact reads_same hr (fun z e => cell_other (by have := hq z e; omega)) (by simp)
  · have := hq z e
    exact ⟨by omega, by simpa using this.2, fun e2 => by have := p2.lt _ e2; omega, fun e2 => by have := p3.lt _ e2; omega⟩
end
theorem rfM_new (w : World) (N : Nat) (T : TypeId) : RfM (fun k => k = w.heap.size) w.heap.size (w.alloc (.cells #[.int .i64 (N : Int), .slice none 0 0, .slice none 0 0, .slice none 0 0] T)) N [] [] [] :=
  ⟨.slice none 0 0, .slice none 0 0, none, 0, FourAt.new w _ _ _ _ T, World.ownsRow_nil _ _ _ _, World.ownsRow_nil _ _ _ _, Or.inl rfl, ⟨Nat.zero_le _, fun _ => rfl, fun z e => by cases e⟩, fun k => by simp [Value.ownBlock]⟩
end Go.Proofs.Ytjemahnhdgkpcaa
