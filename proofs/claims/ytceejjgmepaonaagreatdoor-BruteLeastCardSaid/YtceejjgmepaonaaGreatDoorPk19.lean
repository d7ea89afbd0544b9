/- Texts that the laws of this seat stand on, part 19. -/
import Derived.Test.YtceejjgmepaonaaGreatDoorPk18
import Derived.Test.YtceejjgmepaonaaGreatDoorPk3
import Derived.Test.YtceejjgmepaonaaGreatDoorPk6
import Derived.Maps.AppendAt
import Derived.Laws.OwnMore
import Derived.Deep.RegionWith
import Derived.BigQuiet
/- A graph in memory: a row of stars (what a vertex's edges weigh, its other ends), while it is filled and as it is read; the graph itself, or nil. -/
namespace Go.Proofs.YtceejjgmepaonaaGreatDoor
open Go.RowKit Go.ChangeShapes EdPure NtPure
def updN {α : Type} (f : Nat → α) (k : Nat) (x : α) (i : Nat) : α := if i = k then x else f i
theorem updN_at {α : Type} (f : Nat → α) (k : Nat) (x : α) : updN f k x k = x := if_pos rfl
theorem updN_ne {α : Type} (f : Nat → α) {k i : Nat} (x : α) (h : i ≠ k) : updN f k x i = f i := if_neg h
/-- A row of stars that a call fills: the i-th one's degree and list as L tells, its list's slice as V tells; no two lists lie in one block. -/
def StV (B b n : Nat) (w : World) (L : Nat → Int × List Int) (V : Nat → Value) : Prop :=
  (B ≤ b ∧ b < w.heap.size) ∧
  (∀ i, i < n → w.cell? ⟨b, i * 2, none⟩ = some (.int .i64 (L i).1) ∧ w.cell? ⟨b, i * 2 + 1, none⟩ = some (V i) ∧ w.frozen? ⟨b, i * 2, none⟩ = false ∧ w.frozen? ⟨b, i * 2 + 1, none⟩ = false) ∧
  (∀ i, i < n → w.ownsRow B 3 1 (V i) (L i).2.length ((L i).2.map encZ) ∧ ((V i).ownBlock = none ∨ (V i).ownBlock ≠ some b)) ∧
  ∀ i j, i < n → j < n → i ≠ j → (V i).ownBlock = none ∨ (V i).ownBlock ≠ (V j).ownBlock
section
variable {B b n : Nat} {w w1 w2 : World} {L : Nat → Int × List Int} {V : Nat → Value}
theorem StV.keep (h : StV B b n w L V) (hb : Below w.heap.size w w1) : StV B b n w1 L V := by
  obtain ⟨⟨h1, h2⟩, h3, h4, h5⟩ := h
  exact ⟨⟨h1, Nat.lt_of_lt_of_le h2 hb.size⟩, fun i hi => ⟨(hb.cell (by exact h2)).trans (h3 i hi).1, (hb.cell (by exact h2)).trans (h3 i hi).2.1, (hb.frozen (by exact h2)).trans (h3 i hi).2.2.1, (hb.frozen (by exact h2)).trans (h3 i hi).2.2.2⟩,
    fun i hi => ⟨owns_below (h4 i hi).1 hb, (h4 i hi).2⟩, h5⟩
/-- A degree is laid anew. -/
theorem StV.deg (h : StV B b n w L V) {k : Nat} (_hk : k < n) (d : Int) : StV B b n (w.setCell ⟨b, k * 2, none⟩ (.int .i64 d)) (updN L k (d, (L k).2)) V := by
  obtain ⟨⟨h1, h2⟩, h3, h4, h5⟩ := h
  have hs : w.grownBy (w.setCell ⟨b, k * 2, none⟩ (.int .i64 d)) (some b) := ⟨rfl, rfl, rfl, by simp, fun j _ hj => Below.heap_setCell _ _ _ j (fun e => hj (by rw [e]))⟩
  refine ⟨⟨h1, by simpa using h2⟩, fun i hi => ?_, fun i hi => ?_, h5⟩
  · obtain ⟨c0, c1, f0, f1⟩ := h3 i hi
    have e1 : (w.setCell ⟨b, k * 2, none⟩ (.int .i64 d)).cell? ⟨b, i * 2 + 1, none⟩ = some (V i) := (World.cell?_setCell_other _ ⟨b, k * 2, none⟩ ⟨b, i * 2 + 1, none⟩ _ (fun e => by injection e with _ e _; omega)).trans c1
    by_cases e : i = k
    · subst e
      rw [updN_at]
      exact ⟨World.cell?_setCell_same _ _ _ c0, e1, by simpa using f0, by simpa using f1⟩
    · rw [updN_ne _ _ e]
      exact ⟨(World.cell?_setCell_other _ ⟨b, k * 2, none⟩ ⟨b, i * 2, none⟩ _ (fun e2 => by injection e2 with _ e2 _; omega)).trans c0, e1, by simpa using f0, by simpa using f1⟩
  · have e1 := (h4 i hi).1.kept hs (h4 i hi).2
    by_cases e : i = k
    · subst e
      rw [updN_at]
      exact ⟨e1, (h4 i hi).2⟩
    · rw [updN_ne _ _ e]
      exact ⟨e1, (h4 i hi).2⟩
/-- A number is put behind a list. -/
theorem StV.put {v' : Value} {x : Int} (h : StV B b n w L V) {k : Nat} (hk : k < n) (hb : Below w.heap.size w w1) (hown : w2.ownsRow B 3 1 v' ((L k).2.length + 1) ((L k).2.map encZ ++ [encZ x]))
    (hg : w1.grownBy w2 (V k).ownBlock) (hat : v'.ownBlock = (V k).ownBlock ∨ v'.ownBlock = some w1.heap.size) :
    (w2.cell? ⟨b, k * 2 + 1, none⟩ = some (V k) ∧ w2.frozen? ⟨b, k * 2 + 1, none⟩ = false ∧ b < w2.heap.size) ∧ StV B b n (w2.setCell ⟨b, k * 2 + 1, none⟩ v') (updN L k ((L k).1, (L k).2 ++ [x])) (updN V k v') := by
  have hlt : ∀ i, i < n → ∀ j, (V i).ownBlock = some j → j < w.heap.size := fun i hi j hj => ((h.2.2.1 i hi).1.lt j hj).2
  have h' := h.keep hb
  have s1 := hb.size
  obtain ⟨⟨h1, h2⟩, h3, h4, h5⟩ := h'
  obtain ⟨⟨-, k2⟩, -, -, -⟩ := h
  have hbb : w2.heap[b]? = w1.heap[b]? := hg.block b h2 (fun e => by rcases (h4 k hk).2 with e2 | e2 <;> rw [← e] at e2 <;> first | cases e2 | exact e2 rfl)
  have own2 : ∀ i, i < n → i ≠ k → w2.ownsRow B 3 1 (V i) (L i).2.length ((L i).2.map encZ) := fun i hi e => (h4 i hi).1.kept hg (h5 i k hi hk e)
  have hvb : v'.ownBlock = none ∨ v'.ownBlock ≠ some b := by
    rcases hat with e | e
    · rw [e]; exact (h4 k hk).2
    · rw [e]; exact Or.inr (fun e2 => by injection e2 with e2; omega)
  have hs : w2.grownBy (w2.setCell ⟨b, k * 2 + 1, none⟩ v') (some b) := ⟨rfl, rfl, rfl, by simp, fun j _ hj => Below.heap_setCell _ _ _ j (fun e => hj (by rw [e]))⟩
  have cw : ∀ i, i < n → w2.cell? ⟨b, i * 2, none⟩ = some (.int .i64 (L i).1) ∧ w2.cell? ⟨b, i * 2 + 1, none⟩ = some (V i) ∧ w2.frozen? ⟨b, i * 2, none⟩ = false ∧ w2.frozen? ⟨b, i * 2 + 1, none⟩ = false := fun i hi => by
    obtain ⟨c0, c1, f0, f1⟩ := h3 i hi
    exact ⟨(World.cell?_of_block (a := ⟨b, i * 2, none⟩) hbb).trans c0, (World.cell?_of_block (a := ⟨b, i * 2 + 1, none⟩) hbb).trans c1, (World.frozen?_of_block (a := ⟨b, i * 2, none⟩) hbb).trans f0, (World.frozen?_of_block (a := ⟨b, i * 2 + 1, none⟩) hbb).trans f1⟩
  have other : ∀ i, i < n → i ≠ k → ((V i).ownBlock = none ∨ (V i).ownBlock ≠ v'.ownBlock) ∧ (v'.ownBlock = none ∨ v'.ownBlock ≠ (V i).ownBlock) := fun i hi e => by
    rcases hat with e1 | e1
    · rw [e1]; exact ⟨h5 i k hi hk e, h5 k i hk hi (fun e2 => e e2.symm)⟩
    · rw [e1]
      refine ⟨?_, Or.inr fun e2 => by have := hlt i hi _ e2.symm; omega⟩
      cases e3 : (V i).ownBlock with
      | none => exact Or.inl rfl
      | some j => exact Or.inr fun e2 => by injection e2 with e2; have := hlt i hi j e3; omega
  refine ⟨⟨(cw k hk).2.1, (cw k hk).2.2.2, Nat.lt_of_lt_of_le h2 hg.size⟩, ⟨h1, by simpa using Nat.lt_of_lt_of_le h2 hg.size⟩, fun i hi => ?_, fun i hi => ?_, fun i j hi hj hij => ?_⟩
  · obtain ⟨c0, c1, f0, f1⟩ := cw i hi
    have e0 : (w2.setCell ⟨b, k * 2 + 1, none⟩ v').cell? ⟨b, i * 2, none⟩ = some (.int .i64 (L i).1) := (World.cell?_setCell_other _ ⟨b, k * 2 + 1, none⟩ ⟨b, i * 2, none⟩ _ (fun e => by injection e with _ e _; omega)).trans c0
    by_cases e : i = k
    · subst e
      rw [updN_at, updN_at]
      exact ⟨e0, World.cell?_setCell_same _ _ _ c1, by simpa using f0, by simpa using f1⟩
    · rw [updN_ne _ _ e, updN_ne _ _ e]
      exact ⟨e0, (World.cell?_setCell_other _ ⟨b, k * 2 + 1, none⟩ ⟨b, i * 2 + 1, none⟩ _ (fun e2 => by injection e2 with _ e2 _; omega)).trans c1, by simpa using f0, by simpa using f1⟩
  · by_cases e : i = k
    · subst e
      rw [updN_at, updN_at, List.length_append, List.map_append]
      exact ⟨hown.kept hs hvb, hvb⟩
    · rw [updN_ne _ _ e, updN_ne _ _ e]
      exact ⟨(own2 i hi e).kept hs (h4 i hi).2, (h4 i hi).2⟩
  · by_cases e : i = k
    · by_cases e' : j = k
      · exact absurd (e.trans e'.symm) hij
      · subst e
        rw [updN_at, updN_ne _ _ e']
        exact (other j hj e').2
    · by_cases e' : j = k
      · subst e'
        rw [updN_at, updN_ne _ _ e]
        exact (other i hi e).1
      · rw [updN_ne _ _ e, updN_ne _ _ e']
        exact h5 i j hi hj hij
end
/-- What is read of a row of stars. -/
def StarsR (N : Nat) (w : World) (a : Option Addr) (n : Nat) (M : List Ed) : Prop :=
  n = 0 ∨ ∃ b off, a = some ⟨b, off, none⟩ ∧ b < N ∧ ∀ i, i < n → w.cell? ⟨b, off + i * 2, none⟩ = some (.int .i64 (degE M i)) ∧ ∃ q c, w.cell? ⟨b, off + i * 2 + 1, none⟩ = some (.slice q (nearE M i).length c) ∧ ReadsL encZ N w q (nearE M i)
theorem StarsR.mono {N N' : Nat} {w : World} {a : Option Addr} {n : Nat} {M : List Ed} (h : StarsR N w a n M) (hN : N ≤ N') : StarsR N' w a n M := by
  rcases h with h | ⟨b, off, ha, hb, hc⟩
  · exact Or.inl h
  · exact Or.inr ⟨b, off, ha, Nat.lt_of_lt_of_le hb hN, fun i hi => by obtain ⟨h1, q, c, h2, h3⟩ := hc i hi; exact ⟨h1, q, c, h2, h3.mono hN⟩⟩
theorem StarsR.on {N : Nat} {w w' : World} {a : Option Addr} {n : Nat} {M : List Ed} (h : StarsR N w a n M) (hb : Below N w w') : StarsR N w' a n M := by
  rcases h with h | ⟨b, off, ha, hN, hc⟩
  · exact Or.inl h
  · exact Or.inr ⟨b, off, ha, hN, fun i hi => by obtain ⟨h1, q, c, h2, h3⟩ := hc i hi; exact ⟨(hb.cell (by exact hN)).trans h1, q, c, (hb.cell (by exact hN)).trans h2, h3.on hb⟩⟩
theorem StarsR.over {N : Nat} {w w' : World} {a : Option Addr} {n : Nat} {M : List Ed} (h : StarsR N w a n M) (hb : Below w.heap.size w w') (hN : N ≤ w.heap.size) : StarsR w'.heap.size w' a n M := ((h.mono hN).on hb).mono hb.size
theorem StV.reads {B b n : Nat} {w : World} {M : List Ed} {V : Nat → Value} (h : StV B b n w (fun i => (degE M i, nearE M i)) V) : StarsR w.heap.size w (some ⟨b, 0, none⟩) n M := by
  obtain ⟨⟨h1, h2⟩, h3, h4, h5⟩ := h
  refine Or.inr ⟨b, 0, rfl, h2, fun i hi => ?_⟩
  obtain ⟨c0, c1, -, -⟩ := h3 i hi
  obtain ⟨q, c, e, hr, -⟩ := owns_readsL rfl (h4 i hi).1
  rw [e] at c1
  rw [Nat.zero_add]
  exact ⟨c0, q, c, c1, hr⟩
/-- A graph in memory, or nil, which has no vertices. -/
def NetAt (p : Option Addr) (n : Nat) (M : List Ed) (w : World) : Prop :=
  (p = none ∧ n = 0 ∧ M = []) ∨ ∃ g pv cv pe ce, p = some ⟨g, 0, none⟩ ∧ g < w.heap.size ∧ w.cell? ⟨g, 0, none⟩ = some (.slice pv n cv) ∧ w.cell? ⟨g, 1, none⟩ = some (.slice pe M.length ce) ∧ ReadsE w.heap.size w pe M ∧ StarsR w.heap.size w pv n M
theorem NetAt.over {p : Option Addr} {n : Nat} {M : List Ed} {w w' : World} (h : NetAt p n M w) (hb : Below w.heap.size w w') : NetAt p n M w' := by
  rcases h with h | ⟨g, pv, cv, pe, ce, h1, h2, h3, h4, h5, h6⟩
  · exact Or.inl h
  · exact Or.inr ⟨g, pv, cv, pe, ce, h1, Nat.lt_of_lt_of_le h2 hb.size, (hb.cell (by exact h2)).trans h3, (hb.cell (by exact h2)).trans h4, h5.over hb (Nat.le_refl _), h6.over hb (Nat.le_refl _)⟩
theorem NetAt.nil (w : World) : NetAt none 0 [] w := Or.inl ⟨rfl, rfl, rfl⟩
end Go.Proofs.YtceejjgmepaonaaGreatDoor
/- Contracts of what a graph tells without any search: parts, N, M, Edges, Edge, Degree, Near, Total; of nil too. -/
namespace Go.Proofs.YtceejjgmepaonaaGreatDoor
open Go.RowKit Go.ChangeShapes EdPure NtPure NumPure
@[go_sem] theorem net_vs (x y : Value) (w : World) : (Instr.field 63 (.agg #[x, y]) 0).run Tryz.prog w = .ok x w := by kernel_rfl
@[go_sem] theorem net_es (x y : Value) (w : World) : (Instr.field 63 (.agg #[x, y]) 1).run Tryz.prog w = .ok y w := by kernel_rfl
@[go_sem] theorem star_dg (x y : Value) (w : World) : (Instr.field 96 (.agg #[x, y]) 0).run Tryz.prog w = .ok x w := by kernel_rfl
@[go_sem] theorem star_nr (x y : Value) (w : World) : (Instr.field 96 (.agg #[x, y]) 1).run Tryz.prog w = .ok y w := by kernel_rfl
@[go_sem] theorem edge_wt (x y z : Value) (w : World) : (Instr.field 51 (.agg #[x, y, z]) 2).run Tryz.prog w = .ok z w := by kernel_rfl
/-- What a graph is made of. -/
def PartsOut (n : Nat) (M : List Ed) (w : World) (e : Ending) (w' : World) : Prop :=
  Below w.heap.size w w' ∧ ∃ pv cv pe ce, e = .returned (.agg #[.slice pv n cv, .slice pe M.length ce]) ∧ ReadsE w'.heap.size w' pe M ∧ StarsR w'.heap.size w' pv n M
theorem nparts_any (p : Option Addr) (n : Nat) (M : List Ed) (w : World) (h : NetAt p n M w) :
    Calls Tryz.prog 43 #[.pointer p] w fun e w' => PartsOut n M w e w' := by
  have HB : Hid (Below w.heap.size w (w.alloc (.cells #[.slice none 0 0, .slice none 0 0] 63))) := Lib.hid ((Below.refl _ _).alloc (Nat.le_refl _) _)
  rcases h with ⟨rfl, rfl, rfl⟩ | ⟨g, pv, cv, pe, ce, rfl, h2, h3, h4, h5, h6⟩
  · go_enter Tryz.func43, Tryz.ntmps43
    go_wp2
    refine bodyPost_ret (v := .agg #[.slice none 0 0, .slice none 0 0]) (by simp [results, Tryz.results43, go_sem]) rfl ?_
    have hb : Below w.heap.size w (((w.alloc (.cells #[.slice none 0 0, .slice none 0 0] 63)).setCell ⟨w.heap.size, 0, none⟩ (.slice none 0 0)).setCell ⟨w.heap.size, 1, none⟩ (.slice none 0 0)) :=
      (HB.out.setCell (p := ⟨w.heap.size, 0, none⟩) (Nat.le_refl _) _).setCell (p := ⟨w.heap.size, 1, none⟩) (Nat.le_refl _) _
    refine ⟨?_, none, 0, none, 0, rfl, Or.inl rfl, Or.inl rfl⟩
    first | exact hb | exact HB.out
  · have HE := Lib.hid h5
    have HS := Lib.hid h6
    clear h5 h6
    go_enter Tryz.func43, Tryz.ntmps43
    go_wp2
    refine bodyPost_ret (v := .agg #[.slice pv n cv, .slice pe M.length ce]) (by simp [results, Tryz.results43, go_sem]) rfl ?_
    have hb : ∀ x y, Below w.heap.size w (((w.alloc (.cells #[.slice none 0 0, .slice none 0 0] 63)).setCell ⟨w.heap.size, 0, none⟩ x).setCell ⟨w.heap.size, 1, none⟩ y) := fun x y =>
      (HB.out.setCell (p := ⟨w.heap.size, 0, none⟩) (Nat.le_refl _) _).setCell (p := ⟨w.heap.size, 1, none⟩) (Nat.le_refl _) _
    have hb2 : ∀ x, Below w.heap.size w (w.alloc x) := fun x => (Below.refl _ _).alloc (Nat.le_refl _) _
    first
      | exact ⟨hb2 _, pv, cv, pe, ce, rfl, HE.out.over (hb2 _) (Nat.le_refl _), HS.out.over (hb2 _) (Nat.le_refl _)⟩
      | exact ⟨hb _ _, pv, cv, pe, ce, rfl, HE.out.over (hb _ _) (Nat.le_refl _), HS.out.over (hb _ _) (Nat.le_refl _)⟩
set_option maxRecDepth 100000 in
theorem num_any (p : Option Addr) (n : Nat) (M : List Ed) (w : World) (h : NetAt p n M w) :
    Calls Tryz.prog 20 #[.pointer p] w fun e w' => e = .returned (.int .i64 (n : Int)) ∧ Below w.heap.size w w' := by
  have HN := Lib.hid h
  clear h
  go_enter Tryz.func20, Tryz.ntmps20
  go_wp2_with fail
  refine (nparts_any p n M w HN.out).mono ?_
  rintro e w1 ⟨hb, pv, cv, pe, ce, rfl, -, -⟩
  have HB := Lib.hid hb
  clear hb
  go_wp2
  go_ret
  exact ⟨rfl, HB.out⟩
/-- The edge of number i, or none. -/
def atE (l : List Ed) (i : Int) : Ed := if h : 0 ≤ i ∧ i < l.length then l[i.toNat]'(by omega) else (0, 0, 0)
def inE (l : List Ed) (i : Int) : Bool := decide (0 ≤ i ∧ i < l.length)
theorem ret_eb {e e' : Ed} {b b' : Bool} (h1 : e = e') (h2 : b = b') : Ending.returned (.tuple #[encE e, .bool b]) = .returned (.tuple #[encE e', .bool b']) := by rw [h1, h2]
theorem numbered_any (a : Option Addr) (c : Nat) (l : List Ed) (i : Int) (w : World) (hR : ReadsE w.heap.size w a l) :
    Calls Tryz.prog 99 #[.slice a l.length c, .int .i64 i] w fun e w' => e = .returned (.tuple #[encE (atE l i), .bool (inE l i)]) ∧ Below w.heap.size w w' := by
  have HB : Hid (Below w.heap.size w (w.alloc (.cells #[.int .i64 0, .int .i64 0, .int .i64 0] 51))) := Lib.hid ((Below.refl _ _).alloc (Nat.le_refl _) _)
  have hb : ∀ x y z, Below w.heap.size w ((((w.alloc (.cells #[.int .i64 0, .int .i64 0, .int .i64 0] 51)).setCell ⟨w.heap.size, 0, none⟩ x).setCell ⟨w.heap.size, 1, none⟩ y).setCell ⟨w.heap.size, 2, none⟩ z) := fun x y z =>
    ((HB.out.setCell (p := ⟨w.heap.size, 0, none⟩) (Nat.le_refl _) _).setCell (p := ⟨w.heap.size, 1, none⟩) (Nat.le_refl _) _).setCell (p := ⟨w.heap.size, 2, none⟩) (Nat.le_refl _) _
  have hb2 : ∀ x, Below w.heap.size w (w.alloc x) := fun x => (Below.refl _ _).alloc (Nat.le_refl _) _
  have HB2 := Lib.hid hb
  have HB3 := Lib.hid hb2
  clear hb hb2
  have no : ¬ (0 ≤ i ∧ i < l.length) → Hid (atE l i = (0, 0, 0) ∧ inE l i = false) := fun h => Lib.hid ⟨dif_neg h, decide_eq_false h⟩
  by_cases h1 : i < 0
  · have HX := no (by omega)
    clear no hR
    go_enter Tryz.func99, Tryz.ntmps99
    go_wp2
    refine bodyPost_ret (v := .tuple #[encE (0, 0, 0), .bool false]) (by simp [results, Tryz.results99, go_sem, encE]) rfl ⟨ret_eb HX.out.1.symm HX.out.2.symm, ?_⟩
    first | exact HB3.out _ | exact HB2.out _ _ _
  · by_cases h2 : i ≥ (l.length : Int)
    · have HX := no (by omega)
      clear no hR
      go_enter Tryz.func99, Tryz.ntmps99
      go_wp2
      refine bodyPost_ret (v := .tuple #[encE (0, 0, 0), .bool false]) (by simp [results, Tryz.results99, go_sem, encE]) rfl ⟨ret_eb HX.out.1.symm HX.out.2.symm, ?_⟩
      first | exact HB3.out _ | exact HB2.out _ _ _
    · obtain ⟨k, rfl⟩ : ∃ k : Nat, i = k := ⟨i.toNat, by omega⟩
      have hk : k < l.length := by omega
      obtain ⟨u, v, x, he⟩ : ∃ u v x, l[k] = (u, v, x) := ⟨_, _, _, rfl⟩
      have HX : Hid (atE l (k : Int) = (u, v, x) ∧ inE l (k : Int) = true) := Lib.hid ⟨by
        unfold atE
        rw [dif_pos (by omega), ← he]
        rfl, decide_eq_true (by omega)⟩
      have i0 : (0 : Int) ≤ (k : Int) := by omega
      have i1 : (k : Int) < (l.length : Int) := by omega
      obtain ⟨b, off, rfl, hbw, hbr, c0, c1, c2⟩ := hR.cells hk (Below.refl _ _) he
      clear no hR he hbr
      go_enter Tryz.func99, Tryz.ntmps99
      go_wp2
      refine bodyPost_ret (v := .tuple #[encE (u, v, x), .bool true]) (by simp [results, Tryz.results99, go_sem, encE]) rfl ⟨ret_eb HX.out.1.symm HX.out.2.symm, ?_⟩
      first | exact HB3.out _ | exact HB2.out _ _ _
end Go.Proofs.YtceejjgmepaonaaGreatDoor
