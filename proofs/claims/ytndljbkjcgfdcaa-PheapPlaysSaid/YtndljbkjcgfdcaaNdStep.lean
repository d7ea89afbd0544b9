/- What setting, freeing and giving lay into an arena's memory. -/
import Derived.Test.YtndljbkjcgfdcaaNdCode
namespace Go.Proofs.Ytndljbkjcgfdcaa
open Go.RowKit Go.ChangeShapes NdPure
theorem ArAt.slot {O : Nat → Prop} {b : Nat} {w : World} {N : Nat} {S : St} {k : Nat} (h : ArAt O b w N S) (hk : k < S.I.length) :
    ∃ g cap f c cs, cs[k]? = some c ∧ O g ∧ O b ∧ b < g ∧ g < w.heap.size ∧ cs.length = S.I.length ∧ Fits cs f S ∧ FourAt b w (.int .i64 (N : Int)) (.slice (some ⟨g, 0, none⟩) S.I.length cap) (.int .i64 (liveN S : Int)) (.int .i64 f) ∧
      w.ownsRow (b + 1) 76 6 (.slice (some ⟨g, 0, none⟩) cs.length cap) cs.length (flat cs) ∧ (∀ k, O k ↔ k = b ∨ g = k) := by
  obtain ⟨-, -, v, f, cs, h1, h2, h3, h4⟩ := h
  have hl := h1.1
  obtain ⟨g, cap, rfl, hg, hg2⟩ := owns_slice h3 (by omega)
  have h4' : ∀ k, O k ↔ k = b ∨ g = k := fun k => by rw [h4 k]; simp [Value.ownBlock]
  refine ⟨g, cap, f, _, cs, List.getElem?_eq_getElem (by omega : k < cs.length), (h4' g).2 (Or.inr rfl), (h4' b).2 (Or.inl rfl), by omega, hg2, hl, h1, ?_, h3, h4'⟩
  rw [← hl]
  exact h2
/-- What is in one cell is laid anew. -/
def lay4 (w : World) (g n : Nat) (x : Nd) : World := (((w.setCell ⟨g, n * 6, none⟩ (.int .i64 x.v)).setCell ⟨g, n * 6 + 1, none⟩ (.int .i64 x.below)).setCell ⟨g, n * 6 + 2, none⟩ (.int .i64 x.next)).setCell ⟨g, n * 6 + 3, none⟩ (.int .i64 x.back)
/-- One cell's six parts are laid anew. -/
def lay6 (w : World) (g n : Nat) (c : Nd × Bool × Int) : World := ((lay4 w g n c.1).setCell ⟨g, n * 6 + 4, none⟩ (.bool c.2.1)).setCell ⟨g, n * 6 + 5, none⟩ (.int .i64 c.2.2)
theorem lay4_owns {w : World} {B g cap n : Nat} {cs : List (Nd × Bool × Int)} {c : Nd × Bool × Int} (h : w.ownsRow B 76 6 (.slice (some ⟨g, 0, none⟩) cs.length cap) cs.length (flat cs)) (hc : cs[n]? = some c) (x : Nd) :
    (lay4 w g n x).ownsRow B 76 6 (.slice (some ⟨g, 0, none⟩) (cs.set n (x, c.2)).length cap) (cs.set n (x, c.2)).length (flat (cs.set n (x, c.2))) := by
  have h1 := (h.stored (n * 6) (.int .i64 x.v)).1
  have h2 := (h1.stored (n * 6 + 1) (.int .i64 x.below)).1
  have h3 := (h2.stored (n * 6 + 2) (.int .i64 x.next)).1
  have h4 := (h3.stored (n * 6 + 3) (.int .i64 x.back)).1
  rw [flat_lay hc] at h4
  rw [List.length_set]
  exact h4
theorem lay6_owns {w : World} {B g cap n : Nat} {cs : List (Nd × Bool × Int)} (h : w.ownsRow B 76 6 (.slice (some ⟨g, 0, none⟩) cs.length cap) cs.length (flat cs)) (hn : n < cs.length) (c : Nd × Bool × Int) :
    (lay6 w g n c).ownsRow B 76 6 (.slice (some ⟨g, 0, none⟩) (cs.set n c).length cap) (cs.set n c).length (flat (cs.set n c)) := by
  have h1 := (h.stored (n * 6) (.int .i64 c.1.v)).1
  have h2 := (h1.stored (n * 6 + 1) (.int .i64 c.1.below)).1
  have h3 := (h2.stored (n * 6 + 2) (.int .i64 c.1.next)).1
  have h4 := (h3.stored (n * 6 + 3) (.int .i64 c.1.back)).1
  have h5 := (h4.stored (n * 6 + 4) (.bool c.2.1)).1
  have h6 := (h5.stored (n * 6 + 5) (.int .i64 c.2.2)).1
  rw [flat_set hn] at h6
  rw [List.length_set]
  exact h6
theorem lay4_turn {O : Nat → Prop} {g : Nat} (w : World) (n : Nat) (x : Nd) (ho : O g) : Turn O w (lay4 w g n x) :=
  (((Turn.cell w (n * 6) _ ho).trans (Turn.cell _ (n * 6 + 1) _ ho) (fun _ h => Or.inl h)).trans (Turn.cell _ (n * 6 + 2) _ ho) (fun _ h => Or.inl h)).trans (Turn.cell _ (n * 6 + 3) _ ho) (fun _ h => Or.inl h)
theorem lay6_turn {O : Nat → Prop} {g : Nat} (w : World) (n : Nat) (c : Nd × Bool × Int) (ho : O g) : Turn O w (lay6 w g n c) :=
  ((lay4_turn w n c.1 ho).trans (Turn.cell _ (n * 6 + 4) _ ho) (fun _ h => Or.inl h)).trans (Turn.cell _ (n * 6 + 5) _ ho) (fun _ h => Or.inl h)
theorem lay4_size (w : World) (g n : Nat) (x : Nd) : (lay4 w g n x).heap.size = w.heap.size := by simp [lay4]
theorem lay6_size (w : World) (g n : Nat) (c : Nd × Bool × Int) : (lay6 w g n c).heap.size = w.heap.size := by simp [lay6, lay4]
theorem lay4_other {w : World} {g n : Nat} {x : Nd} {k : Nat} (h : k ≠ g) : (lay4 w g n x).heap[k]? = w.heap[k]? := by
  by_cases hk : k < w.heap.size
  · exact (lay4_turn (O := fun x => x = g) w n x rfl).2.2.2.2 k hk h
  · have e := lay4_size w g n x
    rw [Array.getElem?_eq_none (by omega), Array.getElem?_eq_none (by omega)]
theorem lay6_other {w : World} {g n : Nat} {c : Nd × Bool × Int} {k : Nat} (h : k ≠ g) : (lay6 w g n c).heap[k]? = w.heap[k]? := by
  by_cases hk : k < w.heap.size
  · exact (lay6_turn (O := fun x => x = g) w n c rfl).2.2.2.2 k hk h
  · have e := lay6_size w g n c
    rw [Array.getElem?_eq_none (by omega), Array.getElem?_eq_none (by omega)]
theorem four_set {b : Nat} {w : World} {v0 v1 v2 v3 : Value} (h : FourAt b w v0 v1 v2 v3) (u : Value) :
    FourAt b (w.setCell ⟨b, 1, none⟩ u) v0 u v2 v3 ∧ FourAt b (w.setCell ⟨b, 2, none⟩ u) v0 v1 u v3 ∧ FourAt b (w.setCell ⟨b, 3, none⟩ u) v0 v1 v2 u :=
  ⟨RowIs.set h (k := 1) (by simp) u, RowIs.set h (k := 2) (by simp) u, RowIs.set h (k := 3) (by simp) u⟩
theorem cell_other {w : World} {b i k : Nat} {v : Value} (h : k ≠ b) : (w.setCell ⟨b, i, none⟩ v).heap[k]? = w.heap[k]? := Below.heap_setCell _ _ _ k (fun e => h e)
/-- What is put into a cell. -/
theorem ArAt.lay {O : Nat → Prop} {b : Nat} {w : World} {N : Nat} {S : St} {k : Nat} (h : ArAt O b w N S) (hk : S.I[k]? = some true) (x : Nd) :
    ∃ g K cap, w.cell? ⟨b, 1, none⟩ = some (.slice (some ⟨g, 0, none⟩) K cap) ∧ k < K ∧ b < w.heap.size ∧ g < w.heap.size ∧ (∃ u0 u1 u2 u3 : Int, w.cell? ⟨g, k * 6, none⟩ = some (.int .i64 u0) ∧ w.cell? ⟨g, k * 6 + 1, none⟩ = some (.int .i64 u1) ∧ w.cell? ⟨g, k * 6 + 2, none⟩ = some (.int .i64 u2) ∧ w.cell? ⟨g, k * 6 + 3, none⟩ = some (.int .i64 u3)) ∧
      (w.frozen? ⟨g, k * 6, none⟩ = false ∧ w.frozen? ⟨g, k * 6 + 1, none⟩ = false ∧ w.frozen? ⟨g, k * 6 + 2, none⟩ = false ∧ w.frozen? ⟨g, k * 6 + 3, none⟩ = false) ∧
      Turn O w (lay4 w g k x) ∧ ArAt O b (lay4 w g k x) N (layS S k x) := by
  have hlt := (List.getElem?_eq_some_iff.1 hk).1
  obtain ⟨g, cap, f, c, cs, hc, og, ob, hbg, hg, hl, hf, h4, hr, hO⟩ := h.slot hlt
  have hcl := cell_at hr hc
  refine ⟨g, _, cap, h4.cells.1.2.1, hlt, h4.lt, hg, ⟨_, _, _, _, hcl.1.1, hcl.1.2.1, hcl.1.2.2.1, hcl.1.2.2.2.1⟩, ⟨hcl.2.1, hcl.2.2.1, hcl.2.2.2.1, hcl.2.2.2.2.1⟩, lay4_turn w _ _ og, h.1, good_lay h.2.1 k x, .slice (some ⟨g, 0, none⟩) (cs.set k (x, c.2)).length cap, f, cs.set k (x, c.2), ⟨by simpa [layS] using hl, ?_, ?_⟩, ?_, ?_, ?_⟩
  · intro n d hd
    rw [List.getElem?_set] at hd
    show S.I[n]? = some d.2.1 ∧ (d.2.1 = true → (S.X.set k x)[n]? = some d.1)
    have hx := h.2.1.1
    by_cases e : k = n
    · subst e
      rw [if_pos rfl, if_pos (by omega)] at hd
      cases hd
      exact ⟨(hf.2.1 k c hc).1, fun _ => by rw [List.getElem?_set, if_pos rfl, if_pos (by omega)]⟩
    · rw [if_neg e] at hd
      rw [List.getElem?_set, if_neg e]
      exact hf.2.1 n d hd
  · have := chain_lay hc x c.2.1 hf.2.2
    exact this
  · rw [List.length_set, hl]
    exact row_same h4 (lay4_other (by omega))
  · exact lay4_owns hr hc x
  · intro j
    rw [hO j]
    simp [Value.ownBlock]
/-- A cell is freed: its three parts, the free list's head, how many are given. -/
theorem ArAt.drop {O : Nat → Prop} {b : Nat} {w : World} {N : Nat} {S : St} {k : Nat} (h : ArAt O b w N S) (hk : S.I[k]? = some true) :
    ∃ g K cap f, O g ∧ (w.cell? ⟨b, 1, none⟩ = some (.slice (some ⟨g, 0, none⟩) K cap) ∧ w.cell? ⟨b, 3, none⟩ = some (.int .i64 f)) ∧ k < K ∧ b < w.heap.size ∧ g < w.heap.size ∧ b < g ∧
      (∃ (u0 u1 u2 u3 : Int) (u4 : Bool) (u5 : Int), w.cell? ⟨g, k * 6, none⟩ = some (.int .i64 u0) ∧ w.cell? ⟨g, k * 6 + 1, none⟩ = some (.int .i64 u1) ∧ w.cell? ⟨g, k * 6 + 2, none⟩ = some (.int .i64 u2) ∧ w.cell? ⟨g, k * 6 + 3, none⟩ = some (.int .i64 u3) ∧ w.cell? ⟨g, k * 6 + 4, none⟩ = some (.bool u4) ∧ w.cell? ⟨g, k * 6 + 5, none⟩ = some (.int .i64 u5)) ∧ (w.frozen? ⟨g, k * 6, none⟩ = false ∧ w.frozen? ⟨g, k * 6 + 1, none⟩ = false ∧ w.frozen? ⟨g, k * 6 + 2, none⟩ = false ∧ w.frozen? ⟨g, k * 6 + 3, none⟩ = false ∧ w.frozen? ⟨g, k * 6 + 4, none⟩ = false ∧ w.frozen? ⟨g, k * 6 + 5, none⟩ = false) ∧
      ∃ a1 a2 : Value, FourAt b (lay6 w g k (nd0, false, f)) a1 a2 (.int .i64 (liveN S : Int)) (.int .i64 f) ∧
      Turn O w (((lay6 w g k (nd0, false, f)).setCell ⟨b, 3, none⟩ (.int .i64 (k : Int))).setCell ⟨b, 2, none⟩ (.int .i64 (liveN (dropS S k) : Int))) ∧
      ArAt O b (((lay6 w g k (nd0, false, f)).setCell ⟨b, 3, none⟩ (.int .i64 (k : Int))).setCell ⟨b, 2, none⟩ (.int .i64 (liveN (dropS S k) : Int))) N (dropS S k) := by
  have hlt := (List.getElem?_eq_some_iff.1 hk).1
  obtain ⟨g, cap, f, c, cs, hc, og, ob, hbg, hg, hl, hf, h4, hr, hO⟩ := h.slot hlt
  have hcl := cell_at hr hc
  have hr2 := lay6_owns hr (n := k) (by omega) (nd0, false, f)
  have h42 : FourAt b (lay6 w g k (nd0, false, f)) (.int .i64 (N : Int)) (.slice (some ⟨g, 0, none⟩) S.I.length cap) (.int .i64 (liveN S : Int)) (.int .i64 f) := row_same h4 (lay6_other (by omega))
  have hnot : k ∉ S.F := fun e => by rw [h.2.1.2.2.2.1 k e] at hk; simp at hk
  refine ⟨g, _, cap, f, og, ⟨h4.cells.1.2.1, h4.cells.1.2.2.2⟩, hlt, h4.lt, hg, hbg, ⟨_, _, _, _, _, _, hcl.1⟩, hcl.2, _, _, h42, ?_, h.1, good_drop h.2.1 hk, .slice (some ⟨g, 0, none⟩) (cs.set k (nd0, false, f)).length cap, k, cs.set k (nd0, false, f), ⟨by simpa [dropS] using hl, ?_, ?_⟩, ?_, ?_, ?_⟩
  · exact ((lay6_turn w k _ og).trans (Turn.cell _ 3 _ ob) (fun _ h => Or.inl h)).trans (Turn.cell _ 2 _ ob) (fun _ h => Or.inl h)
  · intro n d hd
    rw [List.getElem?_set] at hd
    show (S.I.set k false)[n]? = some d.2.1 ∧ (d.2.1 = true → S.X[n]? = some d.1)
    by_cases e : k = n
    · subst e
      rw [if_pos rfl, if_pos (by omega)] at hd
      cases hd
      exact ⟨by simp [hlt], fun e => by cases e⟩
    · rw [if_neg e] at hd
      rw [List.getElem?_set, if_neg e]
      exact hf.2.1 n d hd
  · exact ⟨rfl, (nd0, false, f), by rw [List.getElem?_set, if_pos rfl, if_pos (by omega)], chain_set hf.2.2 hnot⟩
  · rw [List.length_set, hl]
    exact (four_set (four_set h42 _).2.2 _).2.1
  · exact owns_setCell (owns_setCell hr2 (p := ⟨b, 3, none⟩) (Nat.lt_succ_self b) _) (p := ⟨b, 2, none⟩) (Nat.lt_succ_self b) _
  · intro j
    rw [hO j]
    simp [Value.ownBlock]
/-- A cell off the free list is given. -/
theorem ArAt.again {O : Nat → Prop} {b : Nat} {w : World} {N : Nat} {S : St} {n : Nat} {r : List Nat} (h : ArAt O b w N S) (hF : S.F = n :: r) (hlv : liveN S ≠ N) (x : Nd) :
    ∃ g K cap z, O g ∧ (w.cell? ⟨b, 1, none⟩ = some (.slice (some ⟨g, 0, none⟩) K cap) ∧ w.cell? ⟨b, 2, none⟩ = some (.int .i64 (liveN S : Int)) ∧ w.cell? ⟨b, 3, none⟩ = some (.int .i64 (n : Int))) ∧ (w.frozen? ⟨b, 2, none⟩ = false ∧ w.frozen? ⟨b, 3, none⟩ = false) ∧ n < K ∧ liveN S < K ∧ b < w.heap.size ∧ g < w.heap.size ∧ b < g ∧
      (∃ (u0 u1 u2 u3 : Int) (u4 : Bool), w.cell? ⟨g, n * 6, none⟩ = some (.int .i64 u0) ∧ w.cell? ⟨g, n * 6 + 1, none⟩ = some (.int .i64 u1) ∧ w.cell? ⟨g, n * 6 + 2, none⟩ = some (.int .i64 u2) ∧ w.cell? ⟨g, n * 6 + 3, none⟩ = some (.int .i64 u3) ∧ w.cell? ⟨g, n * 6 + 4, none⟩ = some (.bool u4) ∧ w.cell? ⟨g, n * 6 + 5, none⟩ = some (.int .i64 z)) ∧ (w.frozen? ⟨g, n * 6, none⟩ = false ∧ w.frozen? ⟨g, n * 6 + 1, none⟩ = false ∧ w.frozen? ⟨g, n * 6 + 2, none⟩ = false ∧ w.frozen? ⟨g, n * 6 + 3, none⟩ = false ∧ w.frozen? ⟨g, n * 6 + 4, none⟩ = false ∧ w.frozen? ⟨g, n * 6 + 5, none⟩ = false) ∧
      ∀ o, ∃ a0, (∃ a3, FourAt b (lay6 (((w.setCell ⟨b, 3, none⟩ (.int .i64 z)).alloc o).drewN 1) g n (x, true, 0)) a0 (.slice (some ⟨g, 0, none⟩) K cap) (.int .i64 (liveN S : Int)) a3) ∧ Turn O w ((lay6 (((w.setCell ⟨b, 3, none⟩ (.int .i64 z)).alloc o).drewN 1) g n (x, true, 0)).setCell ⟨b, 2, none⟩ (.int .i64 (liveN (putS S x) : Int))) ∧
      ArAt O b ((lay6 (((w.setCell ⟨b, 3, none⟩ (.int .i64 z)).alloc o).drewN 1) g n (x, true, 0)).setCell ⟨b, 2, none⟩ (.int .i64 (liveN (putS S x) : Int))) N (putS S x) := by
  obtain ⟨hlt, hfl, hlv2⟩ := first_free h.2.1 hF
  obtain ⟨g, cap, f, c, cs, hc, og, ob, hbg, hg, hl, hf, h4, hr, hO⟩ := h.slot hlt
  have hcl := cell_at hr hc
  have hch := hf.2.2
  rw [hF] at hch
  obtain ⟨rfl, c', hc', hch2⟩ := hch
  rw [hc] at hc'
  cases hc'
  have hnot : n ∉ r := by have := h.2.1.2.2.1; rw [hF] at this; exact (List.nodup_cons.1 this).1
  have hput : putS S x = ⟨S.X.set n x, S.I.set n true, r⟩ := by unfold putS; rw [hF]
  refine ⟨g, _, cap, c.2.2, og, ⟨h4.cells.1.2.1, h4.cells.1.2.2.1, h4.cells.1.2.2.2⟩, ⟨h4.cells.2.2.2.1, h4.cells.2.2.2.2⟩, hlt, hlv2, h4.lt, hg, hbg, ⟨_, _, _, _, _, hcl.1⟩, hcl.2, fun o => ?_⟩
  have t0 : Turn O w (((w.setCell ⟨b, 3, none⟩ (.int .i64 c.2.2)).alloc o).drewN 1) := ((Turn.cell w 3 (.int .i64 c.2.2) ob).trans (Turn.ofBelow (O := O) ((Below.refl _ _).alloc (Nat.le_refl _) o)) (fun _ h => Or.inl h)).drawn 1
  have hW : Below (w.setCell ⟨b, 3, none⟩ (.int .i64 c.2.2)).heap.size (w.setCell ⟨b, 3, none⟩ (.int .i64 c.2.2)) (((w.setCell ⟨b, 3, none⟩ (.int .i64 c.2.2)).alloc o).drewN 1) := below_drewN ((Below.refl _ _).alloc (Nat.le_refl _) o) 1
  have h41 := RowIs.on (four_set h4 (.int .i64 c.2.2)).2.2 hW (four_set h4 (.int .i64 c.2.2)).2.2.lt
  have hr1 := owns_below (owns_setCell hr (p := ⟨b, 3, none⟩) (Nat.lt_succ_self b) (.int .i64 c.2.2)) hW
  generalize ((w.setCell ⟨b, 3, none⟩ (.int .i64 c.2.2)).alloc o).drewN 1 = W at *
  have hr2 := lay6_owns hr1 (n := n) (by omega) (x, true, 0)
  have h42 := row_same h41 (lay6_other (w := W) (g := g) (n := n) (c := (x, true, 0)) (k := b) (by omega))
  refine ⟨_, ⟨_, h42⟩, ?_, h.1, good_put h.2.1 hlv, .slice (some ⟨g, 0, none⟩) (cs.set n (x, true, 0)).length cap, c.2.2, cs.set n (x, true, 0), ⟨by rw [hput]; simpa using hl, ?_, ?_⟩, ?_, ?_, ?_⟩
  · exact (t0.trans (lay6_turn _ n _ og) (fun _ h => Or.inl h)).trans (Turn.cell _ 2 _ ob) (fun _ h => Or.inl h)
  · intro m d hd
    rw [List.getElem?_set] at hd
    rw [hput]
    show (S.I.set n true)[m]? = some d.2.1 ∧ (d.2.1 = true → (S.X.set n x)[m]? = some d.1)
    have hx := h.2.1.1
    by_cases e : n = m
    · subst e
      rw [if_pos rfl, if_pos (by omega)] at hd
      cases hd
      exact ⟨by simp [hlt], fun _ => by rw [List.getElem?_set, if_pos rfl, if_pos (by omega)]⟩
    · rw [if_neg e] at hd
      rw [List.getElem?_set, if_neg e, List.getElem?_set, if_neg e]
      exact hf.2.1 m d hd
  · rw [hput]
    exact chain_set hch2 hnot
  · rw [List.length_set, hl]
    exact (four_set h42 _).2.1
  · exact owns_setCell hr2 (p := ⟨b, 2, none⟩) (Nat.lt_succ_self b) _
  · intro j
    rw [hO j]
    simp [Value.ownBlock]
/-- A new cell is given, behind all that were ever given. -/
theorem ArAt.more {O : Nat → Prop} {b : Nat} {w w' : World} {N K : Nat} {S : St} {v v' : Value} {f : Int} {cs : List (Nd × Bool × Int)} {o : Obj} (hN : N ≤ 1048576) (hg : GoodS N S) (hF : S.F = []) (hlv : liveN S ≠ N) (x : Nd) (hf : Fits cs f S) (hK : K = cs.length)
    (h4 : FourAt b w (.int .i64 (N : Int)) v (.int .i64 (liveN S : Int)) (.int .i64 f)) (hO : ∀ k, O k ↔ k = b ∨ v.ownBlock = some k) (hown : w'.ownsRow (b + 1) 76 6 v' (K + 1) (flat cs ++ [.int .i64 x.v, .int .i64 x.below, .int .i64 x.next, .int .i64 x.back, .bool true, .int .i64 0])) (hgr : (w.alloc o).grownBy w' v.ownBlock) (hv : ∀ k, v.ownBlock = some k → b < k)
    (hv' : ∀ k, v'.ownBlock = some k → v.ownBlock = some k ∨ w.heap.size ≤ k) :
    FourAt b w' (.int .i64 (N : Int)) v (.int .i64 (liveN S : Int)) (.int .i64 f) ∧ Turn O w ((w'.setCell ⟨b, 1, none⟩ v').setCell ⟨b, 2, none⟩ (.int .i64 (liveN (putS S x) : Int))) ∧
    ∃ O', (∀ k, O' k → O k ∨ w.heap.size ≤ k) ∧ ArAt O' b ((w'.setCell ⟨b, 1, none⟩ v').setCell ⟨b, 2, none⟩ (.int .i64 (liveN (putS S x) : Int))) N (putS S x) := by
  subst hK
  have hput : putS S x = ⟨S.X ++ [x], S.I ++ [true], []⟩ := by unfold putS; rw [hF]
  have hbo : (w.alloc o).heap[b]? = w.heap[b]? := ((Below.refl _ w).alloc (Nat.le_refl _) o).block b h4.lt
  have hb1 : w'.heap[b]? = w.heap[b]? := (hgr.block b (by have := h4.lt; simp; omega) (fun e => by have := hv b e.symm; omega)).trans hbo
  have h41 := row_same h4 hb1
  have hob : O b := (hO b).2 (Or.inl rfl)
  have hl := hf.1
  have hx := hg.1
  refine ⟨h41, ?_, fun k => k = b ∨ v'.ownBlock = some k, fun k hk => ?_, hN, good_put hg hlv, v', f, cs ++ [(x, true, 0)], ⟨by rw [hput]; simp [hl], ?_, by rw [hput]; trivial⟩, ?_, ?_, fun k => Iff.rfl⟩
  · have t1 : Turn O w w' := (Turn.ofBelow ((Below.refl _ w).alloc (Nat.le_refl _) o)).trans (Turn.grown hgr (O := O) (fun k e => (hO k).2 (Or.inr e))) (fun _ h => Or.inl h)
    exact (t1.trans (Turn.cell _ 1 _ hob) (fun _ h => Or.inl h)).trans (Turn.cell _ 2 _ hob) (fun _ h => Or.inl h)
  · rcases hk with e | e
    · exact Or.inl ((hO k).2 (Or.inl e))
    · rcases hv' k e with e | e
      · exact Or.inl ((hO k).2 (Or.inr e))
      · exact Or.inr e
  · intro m d hd
    rw [hput]
    show (S.I ++ [true])[m]? = some d.2.1 ∧ (d.2.1 = true → (S.X ++ [x])[m]? = some d.1)
    by_cases e : m < cs.length
    · rw [List.getElem?_append_left e] at hd
      rw [List.getElem?_append_left (by omega), List.getElem?_append_left (by omega)]
      exact hf.2.1 m d hd
    · have hm : m < (cs ++ [(x, true, (0 : Int))]).length := (List.getElem?_eq_some_iff.1 hd).1
      simp at hm
      have : m = cs.length := by omega
      subst this
      simp at hd
      subst hd
      exact ⟨by rw [hl]; simp, fun _ => by rw [hl, ← hx]; simp⟩
  · exact (four_set (four_set h41 _).1 _).2.1
  · rw [flat_snoc, List.length_append]
    exact owns_setCell (owns_setCell hown (p := ⟨b, 1, none⟩) (Nat.lt_succ_self b) _) (p := ⟨b, 2, none⟩) (Nat.lt_succ_self b) _
end Go.Proofs.Ytndljbkjcgfdcaa
