/- Texts that the laws of this seat stand on, part 6. -/
import Derived.Test.YtceejjgmepaonaaGreatDoorProg
import Derived.WalkKit
import Derived.WalkSpells
import Derived.WalkLawsBesides
import Derived.OpenShut
import Derived.Lib.Hide
import Derived.OwnWalk
import Derived.Laws.AppendOwnNone
import Derived.Laws.MakeOwn
import Derived.Deep.QuietTactic
import Derived.BigQuiet
/- Small facts on memory and on endings that the walks of this seat share: no function of the program is named. -/
namespace Go.Proofs.YtceejjgmepaonaaGreatDoor
open Go.RowKit Go.ChangeShapes
theorem ret_ib {k : IntKind} {a b : Int} {c d : Bool} (h1 : a = b) (h2 : c = d) : Ending.returned (.tuple #[.int k a, .bool c]) = .returned (.tuple #[.int k b, .bool d]) := by rw [h1, h2]
theorem ret_i {k : IntKind} {a b : Int} (h1 : a = b) : Ending.returned (.int k a) = .returned (.int k b) := by rw [h1]
theorem agg_ib {k : IntKind} {a b : Int} {c d : Bool} (h1 : a = b) (h2 : c = d) : Ending.returned (.agg #[.int k a, .bool c]) = .returned (.agg #[.int k b, .bool d]) := by rw [h1, h2]
theorem bool_ret {a b : Bool} (h : a = b) : Ending.returned (.bool a) = .returned (.bool b) := by rw [h]
/-- What is told of a list of numbers that lies in memory. -/
def Reads (N : Nat) (w : World) (a : Option Addr) (l : List Int) : Prop :=
  l = [] ∨ ∃ b off, a = some ⟨b, off, none⟩ ∧ b < N ∧ ∀ i, i < l.length → w.cell? ⟨b, off + i, none⟩ = some (.int .i64 (l.getD i 0))
theorem Reads.on {N : Nat} {w w' : World} {a : Option Addr} {l : List Int} (h : Reads N w a l) (hb : Below N w w') : Reads N w' a l := by
  rcases h with h | ⟨b, off, ha, hN, hc⟩
  · exact Or.inl h
  · exact Or.inr ⟨b, off, ha, hN, fun i hi => (hb.cell (by exact hN)).trans (hc i hi)⟩
theorem Reads.at {N : Nat} {w : World} {a : Option Addr} {l : List Int} (h : Reads N w a l) {k : Nat} (hk : k < l.length) : ∃ b off, a = some ⟨b, off, none⟩ ∧ b < N ∧ w.cell? ⟨b, off + k, none⟩ = some (.int .i64 (l.getD k 0)) := by
  rcases h with h | ⟨b, off, ha, hN, hc⟩
  · rw [h] at hk; simp at hk
  · exact ⟨b, off, ha, hN, hc k hk⟩
theorem Reads.mono {N N' : Nat} {w : World} {a : Option Addr} {l : List Int} (h : Reads N w a l) (hN : N ≤ N') : Reads N' w a l := by
  rcases h with h | ⟨b, off, ha, hb, hc⟩
  · exact Or.inl h
  · exact Or.inr ⟨b, off, ha, Nat.lt_of_lt_of_le hb hN, hc⟩
theorem Reads.take {N : Nat} {w : World} {a : Option Addr} {l : List Int} (h : Reads N w a l) (k : Nat) : Reads N w a (l.take k) := by
  rcases h with h | ⟨b, off, ha, hb, hc⟩
  · exact Or.inl (by rw [h]; simp)
  · refine Or.inr ⟨b, off, ha, hb, fun i hi => ?_⟩
    rw [List.length_take] at hi
    rw [hc i (by omega)]
    simp [List.getD_eq_getElem?_getD, show i < k by omega]
def Rng (l : List Int) : Prop := ∀ i, i < l.length → -9223372036854775808 ≤ l.getD i 0 ∧ l.getD i 0 ≤ 9223372036854775807
theorem Rng.take {l : List Int} (h : Rng l) (k : Nat) : Rng (l.take k) := by
  intro i hi
  rw [List.length_take] at hi
  have := h i (by omega)
  simpa [List.getD_eq_getElem?_getD, List.getElem?_take, show i < k by omega] using this
/-- In w' only block N may be otherwise. -/
def OnlyAt (N : Nat) (w w' : World) : Prop := (∀ b i, b ≠ N → w'.cell? ⟨b, i, none⟩ = w.cell? ⟨b, i, none⟩) ∧ (∀ b i, b ≠ N → w'.frozen? ⟨b, i, none⟩ = w.frozen? ⟨b, i, none⟩) ∧ w.heap.size ≤ w'.heap.size
theorem OnlyAt.refl (N : Nat) (w : World) : OnlyAt N w w := ⟨fun _ _ _ => rfl, fun _ _ _ => rfl, Nat.le_refl _⟩
theorem OnlyAt.two (N : Nat) (w : World) (u v : Value) : OnlyAt N w ((w.setCell ⟨N, 0, none⟩ u).setCell ⟨N, 1, none⟩ v) := by
  refine ⟨fun b i h => ?_, fun b i h => ?_, by simp⟩
  · rw [World.cell?_setCell_other _ ⟨N, 1, none⟩ ⟨b, i, none⟩ _ (fun e => h (congrArg Addr.block e).symm), World.cell?_setCell_other _ ⟨N, 0, none⟩ ⟨b, i, none⟩ _ (fun e => h (congrArg Addr.block e).symm)]
  · simp
theorem addr_add (b off i : Nat) : (⟨b, off, none⟩ : Addr).add i = ⟨b, off + i, none⟩ := by
  unfold Addr.add
  by_cases h : i = 0 <;> simp [h]
/-- A row of numbers as the statements' frame tells of it, as 'Reads' and 'Rng' tell of its elements. -/
theorem rows_reads {w : World} {x : Addr} {len cap : Nat} {zs : List Int} (hl : len ≤ cap) (hz : zs.length = cap) (hcell : ∀ i, i < zs.length → w.cell? (x.add i) = some (.int .i64 (zs.getD i 0)))
    (hwz : ∀ n ∈ zs, (Lit.int .i64 n).wf = true) : (zs.take len).length = len ∧ Rng (zs.take len) ∧ Reads w.heap.size w (some x) (zs.take len) := by
  have hlen : (zs.take len).length = len := by rw [List.length_take]; omega
  have hget : ∀ i, i < len → (zs.take len).getD i 0 = zs.getD i 0 := by
    intro i hi
    simp [List.getD_eq_getElem?_getD, hi]
  refine ⟨hlen, ?_, ?_⟩
  · intro i hi
    rw [hlen] at hi
    rw [hget i hi]
    have hi' : i < zs.length := by omega
    rw [List.getD_eq_getElem?_getD, List.getElem?_eq_getElem hi']
    exact bounds_i64 (hwz _ (List.getElem_mem hi'))
  · by_cases h0 : len = 0
    · left; rw [h0]; simp
    · right
      have hc0 := hcell 0 (by omega)
      obtain ⟨b, off, spot⟩ := x
      have hspot : spot = none := by simpa [Addr.add] using World.cell?_spot hc0
      subst hspot
      refine ⟨b, off, rfl, World.block_lt_of_cell? w _ hc0, fun i hi => ?_⟩
      rw [hlen] at hi
      rw [hget i hi]
      have := hcell i (by omega)
      rw [addr_add] at this
      exact this
theorem below_drewN {N : Nat} {w w' : World} (h : Below N w w') (n : Nat) : Below N w (w'.drewN n) :=
  h.trans ⟨rfl, rfl, rfl, Nat.le_refl _, fun _ _ => rfl⟩
theorem bcell {W w1 : World} (hb : Below W.heap.size W w1) : (∀ b o, b < W.heap.size → w1.cell? ⟨b, o, none⟩ = W.cell? ⟨b, o, none⟩) ∧ (∀ b o, b < W.heap.size → w1.frozen? ⟨b, o, none⟩ = W.frozen? ⟨b, o, none⟩) :=
  ⟨fun b o h => hb.cell (p := ⟨b, o, none⟩) h, fun b o h => hb.frozen (p := ⟨b, o, none⟩) h⟩
end Go.Proofs.YtceejjgmepaonaaGreatDoor
/- Lists in memory, whatever their elements: what is read of a slice; a slice that a call fills place by place; one that it gathers by append. No function of the program is named. -/
namespace Go.Proofs.YtceejjgmepaonaaGreatDoor
open Go.RowKit Go.ChangeShapes
/-- What is told of a list whose elements lie in memory as 'enc' lays them. -/
def ReadsL {α : Type} (enc : α → Value) (N : Nat) (w : World) (a : Option Addr) (l : List α) : Prop :=
  l = [] ∨ ∃ b off, a = some ⟨b, off, none⟩ ∧ b < N ∧ ∀ i (h : i < l.length), w.cell? ⟨b, off + i, none⟩ = some (enc l[i])
def encInt (k : IntKind) (n : Int) : Value := .int k n
theorem ReadsL.on {α : Type} {enc : α → Value} {N : Nat} {w w' : World} {a : Option Addr} {l : List α} (h : ReadsL enc N w a l) (hb : Below N w w') : ReadsL enc N w' a l := by
  rcases h with h | ⟨b, off, ha, hN, hc⟩
  · exact Or.inl h
  · exact Or.inr ⟨b, off, ha, hN, fun i hi => (hb.cell (by exact hN)).trans (hc i hi)⟩
theorem ReadsL.at {α : Type} {enc : α → Value} {N : Nat} {w : World} {a : Option Addr} {l : List α} (h : ReadsL enc N w a l) {k : Nat} (hk : k < l.length) :
    ∃ b off, a = some ⟨b, off, none⟩ ∧ b < N ∧ w.cell? ⟨b, off + k, none⟩ = some (enc l[k]) := by
  rcases h with h | ⟨b, off, ha, hN, hc⟩
  · subst h; simp at hk
  · exact ⟨b, off, ha, hN, hc k hk⟩
theorem ReadsL.mono {α : Type} {enc : α → Value} {N N' : Nat} {w : World} {a : Option Addr} {l : List α} (h : ReadsL enc N w a l) (hN : N ≤ N') : ReadsL enc N' w a l := by
  rcases h with h | ⟨b, off, ha, hb, hc⟩
  · exact Or.inl h
  · exact Or.inr ⟨b, off, ha, Nat.lt_of_lt_of_le hb hN, hc⟩
/-- Over what makes memory and leaves the old as it is. -/
theorem ReadsL.over {α : Type} {enc : α → Value} {N : Nat} {w w' : World} {a : Option Addr} {l : List α} (h : ReadsL enc N w a l) (hb : Below w.heap.size w w') (hN : N ≤ w.heap.size) : ReadsL enc w'.heap.size w' a l :=
  ((h.mono hN).on hb).mono hb.size
theorem ReadsL.nil {α : Type} (enc : α → Value) (N : Nat) (w : World) (a : Option Addr) : ReadsL enc N w a ([] : List α) := Or.inl rfl
theorem ReadsL.map {α β : Type} {enc : β → Value} {f : α → β} {N : Nat} {w : World} {a : Option Addr} {l : List α} : ReadsL (fun x => enc (f x)) N w a l ↔ ReadsL enc N w a (l.map f) := by
  unfold ReadsL
  constructor
  · rintro (h | ⟨b, off, h1, h2, h3⟩)
    · exact Or.inl (by rw [h]; rfl)
    · exact Or.inr ⟨b, off, h1, h2, fun i hi => by rw [List.getElem_map]; exact h3 i (by simpa using hi)⟩
  · rintro (h | ⟨b, off, h1, h2, h3⟩)
    · exact Or.inl (List.map_eq_nil_iff.1 h)
    · exact Or.inr ⟨b, off, h1, h2, fun i hi => by have := h3 i (by simpa using hi); rwa [List.getElem_map] at this⟩
/-- The cells of a block that the call made, from its first one on. -/
def RowIs (G : Nat) (w : World) (vs : List Value) : Prop := ∀ i (h : i < vs.length), w.cell? ⟨G, i, none⟩ = some vs[i] ∧ w.frozen? ⟨G, i, none⟩ = false
theorem RowIs.on {G M : Nat} {w w' : World} {vs : List Value} (h : RowIs G w vs) (hb : Below M w w') (hG : G < M) : RowIs G w' vs :=
  fun i hi => ⟨(hb.cell (by exact hG)).trans (h i hi).1, (hb.frozen (by exact hG)).trans (h i hi).2⟩
theorem RowIs.set {G : Nat} {w : World} {vs : List Value} (h : RowIs G w vs) {k : Nat} (hk : k < vs.length) (v : Value) : RowIs G (w.setCell ⟨G, k, none⟩ v) (vs.set k v) := by
  intro i hi'
  have hi : i < vs.length := by rwa [List.length_set] at hi'
  refine ⟨?_, by have := (h i hi).2; simpa using this⟩
  by_cases hik : i = k
  · subst hik
    rw [List.getElem_set_self]
    exact World.cell?_setCell_same _ _ _ (h i hi).1
  · rw [List.getElem_set_ne (fun e => hik e.symm)]
    exact (World.cell?_setCell_other _ ⟨G, k, none⟩ ⟨G, i, none⟩ _ (fun e => hik (congrArg Addr.off e).symm)).trans (h i hi).1
theorem RowIs.lt {G : Nat} {w : World} {vs : List Value} (h : RowIs G w vs) (h0 : 0 < vs.length) : G < w.heap.size := World.block_lt_of_cell? w _ (h 0 h0).1
theorem RowIs.reads {α : Type} {enc : α → Value} {G : Nat} {w : World} {l : List α} (h : RowIs G w (l.map enc)) : ReadsL enc w.heap.size w (some ⟨G, 0, none⟩) l := by
  by_cases h0 : l = []
  · exact Or.inl h0
  · have hl : 0 < l.length := List.length_pos_iff.2 h0
    refine Or.inr ⟨G, 0, rfl, h.lt (by simpa using hl), fun i hi => ?_⟩
    have := (h i (by simpa using hi)).1
    rw [List.getElem_map] at this
    rwa [Nat.zero_add]
theorem rowIs_made (w : World) (v : Value) (n : Nat) (T : TypeId) : RowIs w.heap.size (w.alloc (.cells (madeCells #[v] n) T)) (List.replicate n v) := by
  intro i hi
  rw [List.length_replicate] at hi
  refine ⟨?_, by rw [World.frozen?_alloc_at _ _ _ _ rfl]⟩
  rw [World.cell?_alloc_at _ _ _ _ rfl, List.getElem_replicate]
  unfold madeCells
  rw [Array.getElem?_map]
  simp [hi, Nat.mod_one]
theorem info_of {P : Program} {T : TypeId} {z : Value} {a b : Nat} (h : (P.info? T).map (fun i => (i.zero, i.size, i.bytes)) = some (some z, a, b)) : ∃ i, P.info? T = some i ∧ i.zero = some z ∧ i.size = a ∧ i.bytes = b := by
  cases hi : P.info? T with
  | none => rw [hi] at h; cases h
  | some i =>
    rw [hi] at h
    simp only [Option.map_some, Option.some.injEq, Prod.mk.injEq] at h
    exact ⟨i, rfl, h.1, h.2.1, h.2.2⟩
/-- make([]E, n), E of one cell. -/
theorem makeRow {P : Program} {T E : TypeId} {z : Value} {c : Nat} (hu : P.underlying T = some (.slice E)) (h : (P.info? E).map (fun i => (i.zero, i.size, i.bytes)) = some (some z, 1, c)) (hc : c ≤ 100) (hz : z.cells = #[z]) (n : Nat) (hn : n ≤ 1000000) (w : World) :
    (Instr.makeSlice T (.int .i64 (n : Int)) (.int .i64 (n : Int))).run P w = .ok (.slice (some ⟨w.heap.size, 0, none⟩) n n) (w.alloc (.cells (madeCells #[z] n) E)) := by
  obtain ⟨i, h1, h2, h3, h4⟩ := info_of h
  have hb : n * c ≤ n * 100 := Nat.mul_le_mul_left _ hc
  have hb2 : c * n = n * c := Nat.mul_comm _ _
  rw [run_make w T E i _ hu h1 h2 .i64 .i64 n n (by omega) (by omega) (by rw [h4]; omega) (by omega)]
  rw [h3, hz]
  simp
theorem owns_mono {w : World} {B B' : Nat} {e : TypeId} {size n : Nat} {v : Value} {xs : List Value} (h : w.ownsRow B e size v n xs) (hB : B' ≤ B) : w.ownsRow B' e size v n xs := by
  obtain ⟨h1, h2 | ⟨g, cap, cur, h2, h3, h4⟩⟩ := h
  · exact ⟨h1, Or.inl h2⟩
  · exact ⟨h1, Or.inr ⟨g, cap, cur, h2, Nat.le_trans hB h3, h4⟩⟩
/-- A slice of the call's own, and what it reads. -/
theorem owns_readsL {α : Type} {w : World} {B n : Nat} {e : TypeId} {v : Value} {l : List α} {enc : α → Value} (hn : n = l.length) (h : w.ownsRow B e 1 v n (l.map enc)) :
    ∃ p cap, v = .slice p l.length cap ∧ ReadsL enc w.heap.size w p l ∧ l.length ≤ cap := by
  subst hn
  have hc := fun g (hg : v.ownBlock = some g) => h.cells hg
  have hlt := h.lt
  obtain ⟨h1, ⟨rfl, h2⟩ | ⟨g, cap, cur, rfl, h3, h4, h5, h6, h7, h8⟩⟩ := h
  · have : l = [] := List.length_eq_zero_iff.1 h2
    subst this
    exact ⟨none, 0, rfl, Or.inl rfl, Nat.zero_le _⟩
  · refine ⟨some ⟨g, 0, none⟩, cap, rfl, Or.inr ⟨g, 0, rfl, (hlt g rfl).2, fun i hi => ?_⟩, h5⟩
    have := hc g rfl i (enc l[i]) (by simp [hi])
    rwa [addr_add] at this
theorem owns_below {w w' : World} {B : Nat} {e : TypeId} {size n : Nat} {v : Value} {xs : List Value} (h : w.ownsRow B e size v n xs) (hb : Below w.heap.size w w') : w'.ownsRow B e size v n xs := by
  have hlt := h.lt
  obtain ⟨h1, h2 | ⟨g, cap, cur, rfl, h3, h4, h5⟩⟩ := h
  · exact ⟨h1, Or.inl h2⟩
  · exact ⟨h1, Or.inr ⟨g, cap, cur, rfl, h3, (hb.block g (hlt g rfl).2).trans h4, h5⟩⟩
theorem owns_setCell {w : World} {B : Nat} {e : TypeId} {size n : Nat} {v : Value} {xs : List Value} (h : w.ownsRow B e size v n xs) {p : Addr} (hp : p.block < B) (u : Value) : (w.setCell p u).ownsRow B e size v n xs := by
  obtain ⟨h1, h2 | ⟨g, cap, cur, rfl, h3, h4, h5⟩⟩ := h
  · exact ⟨h1, Or.inl h2⟩
  · exact ⟨h1, Or.inr ⟨g, cap, cur, rfl, h3, (Below.heap_setCell _ _ _ _ (by omega)).trans h4, h5⟩⟩
/-- At the head of a round: what was gathered by append so far. -/
def GrowRel {α : Type} (enc : α → Value) (T : TypeId) (w0 : World) (xs : List α) (v : Value) (w : World) : Prop := Below w0.heap.size w0 w ∧ w.ownsRow w0.heap.size T 1 v xs.length (xs.map enc)
theorem GrowRel.start {α : Type} (enc : α → Value) (T : TypeId) (w : World) : GrowRel enc T w ([] : List α) (.slice none 0 0) w := ⟨Below.refl _ _, World.ownsRow_nil _ _ _ _⟩
/-- Over a call that makes memory of its own. -/
theorem GrowRel.on {α : Type} {enc : α → Value} {T : TypeId} {w0 w w' : World} {xs : List α} {v : Value} (h : GrowRel enc T w0 xs v w) (hb : Below w.heap.size w w') : GrowRel enc T w0 xs v w' :=
  ⟨h.1.trans (hb.mono h.1.size), owns_below h.2 hb⟩
theorem GrowRel.step {α : Type} {enc : α → Value} {T : TypeId} {w0 w w' : World} {xs : List α} {v v' : Value} {o : Obj} (h : GrowRel enc T w0 xs v w) (x : α) (h1 : w'.ownsRow w0.heap.size T 1 v' (xs.length + 1) (xs.map enc ++ [enc x])) (hg : (w.alloc o).grownBy w' v.ownBlock) :
    GrowRel enc T w0 (xs ++ [x]) v' w' := by
  refine ⟨(h.1.alloc h.1.size o).grown hg (h.1.alloc h.1.size o).size fun j hj => (h.2.lt j hj).1, ?_⟩
  rw [List.map_append, List.length_append]
  exact h1
theorem GrowRel.reads {α : Type} {enc : α → Value} {T : TypeId} {w0 w : World} {xs : List α} {v : Value} (h : GrowRel enc T w0 xs v w) : ∃ p cap, v = .slice p xs.length cap ∧ ReadsL enc w.heap.size w p xs ∧ xs.length ≤ cap := owns_readsL rfl h.2
theorem one_news {w : World} {u : Value} {T : TypeId} : ∀ j x, [u][j]? = some x → (w.alloc (.cells #[u] T)).cell? ((⟨w.heap.size, 0, none⟩ : Addr).add j) = some x := by
  intro j x hj
  match j, hj with
  | 0, hj => simp at hj; subst hj; simp [Addr.add]
theorem one_newsAt {w : World} {u : Value} {T : TypeId} {g : Nat} (hg : g = w.heap.size) : ∀ j x, [u][j]? = some x → (w.alloc (.cells #[u] T)).cell? ((⟨g, 0, none⟩ : Addr).add j) = some x := by
  subst hg; exact one_news
theorem take_snoc {α : Type} (l : List α) (k : Nat) (hk : k < l.length) : l.take (k + 1) = l.take k ++ [l[k]] := by
  rw [List.take_add_one, List.getElem?_eq_getElem hk]; rfl
/-- A row of numbers that came in, nil or not. -/
def IsRow (k : IntKind) (w : World) (a : Option Addr) (len cap : Nat) (zs : List Int) : Prop :=
  (a = none ∧ len = 0 ∧ cap = 0 ∧ zs = []) ∨
  ∃ x, a = some x ∧ len ≤ cap ∧ cap ≤ maxLen ∧ zs.length = cap ∧ (∀ i, i < zs.length → w.cell? (x.add i) = some (.int k (zs.getD i 0))) ∧ ∀ n ∈ zs, (Lit.int k n).wf = true
/-- A row of numbers as a statement's frame tells of it. -/
theorem row_reads {k : IntKind} {w : World} {a : Option Addr} {len cap : Nat} {zs : List Int} (h : IsRow k w a len cap zs) :
    ∃ l : List Int, l.length = len ∧ (∀ n ∈ l, (Lit.int k n).wf = true) ∧ ReadsL (encInt k) w.heap.size w a l ∧ len ≤ maxLen ∧ len ≤ cap ∧ l = zs.take len := by
  rcases h with ⟨rfl, rfl, rfl, rfl⟩ | ⟨x, rfl, hl, hm, hz, hcell, hwz⟩
  · exact ⟨[], rfl, fun n hn => by simp at hn, Or.inl rfl, Nat.zero_le _, Nat.zero_le _, rfl⟩
  · have hlen : (zs.take len).length = len := by rw [List.length_take]; omega
    refine ⟨zs.take len, hlen, fun n hn => hwz n (List.mem_of_mem_take hn), ?_, by omega, hl, rfl⟩
    by_cases h0 : len = 0
    · left; rw [h0]; simp
    · right
      have hc0 := hcell 0 (by omega)
      obtain ⟨b, off, spot⟩ := x
      have hspot : spot = none := by simpa [Addr.add] using World.cell?_spot hc0
      subst hspot
      refine ⟨b, off, rfl, World.block_lt_of_cell? w _ hc0, fun i hi => ?_⟩
      rw [hlen] at hi
      have := hcell i (by omega)
      rw [addr_add] at this
      rw [this, List.getElem_take]
      unfold encInt
      simp [List.getD_eq_getElem?_getD, List.getElem?_eq_getElem (show i < zs.length by omega)]
theorem row_readsU {w : World} {a : Option Addr} {len cap : Nat} {zs : List Int} (h : IsRow .u64 w a len cap zs) :
    ∃ l : List Nat, l.length = len ∧ (∀ i (h : i < l.length), (l[i] : Int) ≤ 18446744073709551615) ∧ ReadsL (fun n : Nat => .int .u64 (n : Int)) w.heap.size w a l ∧ len ≤ maxLen := by
  obtain ⟨l, h1, h2, h3, h4, -⟩ := row_reads h
  have hb : ∀ n ∈ l, 0 ≤ n ∧ n ≤ 18446744073709551615 := fun n hn => bounds_u64 (h2 n hn)
  refine ⟨l.map Int.toNat, by simpa using h1, fun i hi => ?_, ?_, h4⟩
  · have hi' : i < l.length := by simpa using hi
    rw [List.getElem_map]
    have := hb _ (List.getElem_mem hi')
    omega
  · rcases h3 with h3 | ⟨b, off, e, hN, hc⟩
    · exact Or.inl (by rw [h3]; rfl)
    · refine Or.inr ⟨b, off, e, hN, fun i hi => ?_⟩
      have hi' : i < l.length := by simpa using hi
      rw [hc i hi', List.getElem_map]
      have := hb _ (List.getElem_mem hi')
      show some (Value.int .u64 l[i]) = some (Value.int .u64 ((l[i].toNat : Nat) : Int))
      rw [Int.toNat_of_nonneg this.1]
end Go.Proofs.YtceejjgmepaonaaGreatDoor
/- Ints (of the document's answers of layer 9) tells of any two lists whether they are the same. -/
namespace Go.Proofs.YtceejjgmepaonaaGreatDoor
open Go.RowKit Go.ChangeShapes
def encZ (z : Int) : Value := .int .i64 z
/-- Ints of any two lists. -/
def EqRel (l r : List Int) (w0 : World) (k : Nat) (w : World) : Prop := k ≤ l.length ∧ (∃ m, w = w0.drewN m) ∧ l.take k = r.take k
theorem ints_any (a a' : Option Addr) (c1 c2 : Nat) (l r : List Int) (w : World) (h1 : ReadsL encZ w.heap.size w a l) (h2 : ReadsL encZ w.heap.size w a' r) (hl1 : l.length ≤ 1000000000) :
    Calls Tryz.prog 15 #[.slice a l.length c1, .slice a' r.length c2] w fun e w' => e = .returned (.bool (decide (l = r))) ∧ ∃ m, w' = w.drewN m := by
  have H1 := Lib.hid h1
  have H2 := Lib.hid h2
  clear h1 h2
  by_cases hn : l.length = r.length
  · have t : ((l.length : Int) != (r.length : Int)) = false := by simp [hn]
    have HN := Lib.hid hn
    go_enter Tryz.func15, Tryz.ntmps15
    clear hn
    go_wp2
    go_loopw [5] (fun i wr => ∃ k : Nat, i = .int .i64 k ∧ Hid (EqRel l r w k wr)) (fun i _ => l.length - (intOf i).toNat)
    case atStart => exact ⟨0, rfl, Lib.hid ⟨Nat.zero_le _, ⟨0, rfl⟩, rfl⟩⟩
    case round =>
      obtain ⟨k, rfl, HK⟩ := hrel
      have hk := HK.out.1
      obtain ⟨m, rfl⟩ := HK.out.2.1
      have i0 : (0 : Int) ≤ (k : Int) := by omega
      by_cases hlt : k < l.length
      · have hlt2 : k < r.length := by have := HN.out; omega
        have i1 : (k : Int) < (l.length : Int) := by omega
        have i2 : (k : Int) < (r.length : Int) := by omega
        obtain ⟨b, off, rfl, hbN, d1⟩ := H1.out.at hlt
        obtain ⟨b', off', rfl, hbN', d2⟩ := H2.out.at hlt2
        unfold encZ at d1 d2
        by_cases he : l[k] = r[k]
        · have hN : Hid (l.take (k + 1) = r.take (k + 1)) := Lib.hid (by rw [take_snoc l k hlt, take_snoc r k hlt2, HK.out.2.2, he])
          rw [he] at d1
          clear he
          generalize r[k] = x at *
          go_wp2
          go_quiet (fail)
          go_wp2
          go_roundw
          case rel => exact ⟨k + 1, by go_num, Lib.hid ⟨by omega, ⟨_, rfl⟩, hN.out⟩⟩
          case measure => (simp [intOf] <;> omega)
        · have hN : Hid (decide (l = r) = false) := Lib.hid (by refine decide_eq_false (fun h => he ?_); subst h; rfl)
          have t2 : (l[k] != r[k]) = true := by simpa using he
          clear he
          generalize l[k] = x at *
          generalize r[k] = y at *
          go_wp2
          go_quiet (fail)
          go_wp2
          go_ret
          exact ⟨bool_ret hN.out.symm, _, World.drewN_drewN _ _ _⟩
      · have hke : k = l.length := by omega
        have hfin : l = r := by
          have := HK.out.2.2
          rw [hke, List.take_length, HN.out, List.take_length] at this
          exact this
        have HF := Lib.hid hfin
        clear hfin
        go_wp2
        go_ret
        exact ⟨bool_ret (by rw [decide_eq_true HF.out]), _, rfl⟩
  · have t : ((l.length : Int) != (r.length : Int)) = true := by
      have : (l.length : Int) ≠ (r.length : Int) := fun e => hn (by omega)
      simpa using this
    have HN : Hid (decide (l = r) = false) := Lib.hid (decide_eq_false (fun e => hn (by rw [e])))
    clear hn
    go_enter Tryz.func15, Tryz.ntmps15
    go_wp2
    go_ret
    exact ⟨bool_ret HN.out.symm, 0, rfl⟩
end Go.Proofs.YtceejjgmepaonaaGreatDoor
