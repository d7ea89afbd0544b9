/- Texts that the laws of this seat stand on, part 7. -/
import Derived.Test.YtceejjgmepaonaaGreatDoorPk6
import Derived.Maps.AppendAt
import Derived.Laws.OwnMore
/- A slice of slices of numbers that a call gathers: no two rows lie in one block; a row put behind, a number put behind a row; what is read of it at the end. No function of the program is named. -/
namespace Go.Proofs.YtceejjgmepaonaaGreatDoor
open Go.RowKit Go.ChangeShapes
/-- lv is the slice, vs its cells, L what its rows hold; all of it lies in blocks of the call's own, from B on. -/
def LAt (B : Nat) (w : World) (lv : Value) (vs : List Value) (L : List (List Int)) : Prop :=
  vs.length = L.length ∧ w.ownsRow B 28 1 lv L.length vs ∧ (∀ (i : Nat) v l, vs[i]? = some v → L[i]? = some l → w.ownsRow B 3 1 v l.length (l.map encZ)) ∧
  (∀ (i j : Nat) u v, vs[i]? = some u → vs[j]? = some v → i ≠ j → u.ownBlock = none ∨ u.ownBlock ≠ v.ownBlock) ∧ ∀ (i : Nat) u, vs[i]? = some u → u.ownBlock = none ∨ u.ownBlock ≠ lv.ownBlock
theorem LAt.row {B : Nat} {w : World} {lv : Value} {vs : List Value} {L : List (List Int)} (h : LAt B w lv vs L) {i : Nat} {v : Value} (hv : vs[i]? = some v) : ∃ l, L[i]? = some l ∧ w.ownsRow B 3 1 v l.length (l.map encZ) := by
  have hi : i < L.length := by rw [← h.1]; exact (List.getElem?_eq_some_iff.1 hv).1
  exact ⟨L[i], List.getElem?_eq_getElem hi, h.2.2.1 i v _ hv (List.getElem?_eq_getElem hi)⟩
/-- The blocks that it lies in. -/
theorem LAt.lt {B : Nat} {w : World} {lv : Value} {vs : List Value} {L : List (List Int)} (h : LAt B w lv vs L) : (∀ k, lv.ownBlock = some k → B ≤ k ∧ k < w.heap.size) ∧ ∀ (i : Nat) v k, vs[i]? = some v → v.ownBlock = some k → B ≤ k ∧ k < w.heap.size :=
  ⟨h.2.1.lt, fun i v k hv hk => by obtain ⟨l, -, ho⟩ := h.row hv; exact ho.lt k hk⟩
/-- Other blocks are turned. -/
theorem LAt.kept {B : Nat} {w w' : World} {lv : Value} {vs : List Value} {L : List (List Int)} {row : Option Nat} (h : LAt B w lv vs L) (hg : w.grownBy w' row) (h1 : lv.ownBlock = none ∨ lv.ownBlock ≠ row) (h2 : ∀ (i : Nat) v, vs[i]? = some v → v.ownBlock = none ∨ v.ownBlock ≠ row) : LAt B w' lv vs L :=
  ⟨h.1, h.2.1.kept hg h1, fun i v l hv hl => (h.2.2.1 i v l hv hl).kept hg (h2 i v hv), h.2.2.2⟩
theorem owns_past {w w' : World} {B : Nat} {e : TypeId} {size n : Nat} {v : Value} {xs : List Value} (h : w.ownsRow B e size v n xs) (hb : ∀ k, B ≤ k → k < w.heap.size → w'.heap[k]? = w.heap[k]?) : w'.ownsRow B e size v n xs := by
  have hlt := h.lt
  obtain ⟨h1, h2 | ⟨g, cap, cur, rfl, h3, h4, h5⟩⟩ := h
  · exact ⟨h1, Or.inl h2⟩
  · exact ⟨h1, Or.inr ⟨g, cap, cur, rfl, h3, (hb g h3 (hlt g rfl).2).trans h4, h5⟩⟩
theorem LAt.past {B : Nat} {w w' : World} {lv : Value} {vs : List Value} {L : List (List Int)} (h : LAt B w lv vs L) (hb : ∀ k, B ≤ k → k < w.heap.size → w'.heap[k]? = w.heap[k]?) : LAt B w' lv vs L :=
  ⟨h.1, owns_past h.2.1 hb, fun i v l hv hl => owns_past (h.2.2.1 i v l hv hl) hb, h.2.2.2⟩
theorem LAt.keep {B : Nat} {w w' : World} {lv : Value} {vs : List Value} {L : List (List Int)} (h : LAt B w lv vs L) (hb : Below w.heap.size w w') : LAt B w' lv vs L := h.past fun k _ hk => hb.block k hk
theorem owns_form {w : World} {B : Nat} {e : TypeId} {size n : Nat} {v : Value} {xs : List Value} (h : w.ownsRow B e size v n xs) : ∃ q c, v = .slice q n c := by
  obtain ⟨h1, ⟨rfl, rfl⟩ | ⟨g, cap, cur, rfl, h3, h4, h5⟩⟩ := h
  · exact ⟨_, _, rfl⟩
  · exact ⟨_, _, rfl⟩
/-- A map's block is no row. -/
theorem owns_no_map {w : World} {B : Nat} {e : TypeId} {size n m : Nat} {v : Value} {xs : List Value} {es : Array MapEntry} {clock : Nat} (h : w.ownsRow B e size v n xs) (hm : w.heap[m]? = some (.map es clock)) : v.ownBlock = none ∨ v.ownBlock ≠ some m := by
  obtain ⟨h1, ⟨rfl, h2⟩ | ⟨g, cap, cur, rfl, h3, h4, h5⟩⟩ := h
  · exact Or.inl rfl
  · refine Or.inr fun e => ?_
    have : g = m := Option.some.inj e
    subst this
    rw [h4] at hm
    cases hm
theorem LAt.no_map {B m : Nat} {w : World} {lv : Value} {vs : List Value} {L : List (List Int)} {es : Array MapEntry} {clock : Nat} (h : LAt B w lv vs L) (hm : w.heap[m]? = some (.map es clock)) :
    (lv.ownBlock = none ∨ lv.ownBlock ≠ some m) ∧ ∀ (i : Nat) v, vs[i]? = some v → v.ownBlock = none ∨ v.ownBlock ≠ some m :=
  ⟨owns_no_map h.2.1 hm, fun i v hv => by obtain ⟨l, -, ho⟩ := h.row hv; exact owns_no_map ho hm⟩
theorem LAt.nil (B : Nat) (w : World) : LAt B w (.slice none 0 0) [] [] := ⟨rfl, World.ownsRow_nil _ _ _ _, fun i v l h => by simp at h, fun i j u v h => by simp at h, fun i u h => by simp at h⟩
theorem LAt.made {B : Nat} (w : World) (cur : Array Value) (cap : Nat) (hb : B ≤ w.heap.size) (hm : cap ≤ maxLen) (hs : cur.size = cap) :
    LAt B (w.alloc (.cells cur 28)) (.slice (some ⟨w.heap.size, 0, none⟩) 0 cap) [] [] :=
  ⟨rfl, World.ownsRow_made w cur cap hb hm (by rw [hs, Nat.mul_one]), fun i v l h => by simp at h, fun i j u v h => by simp at h, fun i u h => by simp at h⟩
/-- A row of its own is put behind. -/
theorem LAt.push {B : Nat} {w w1 w2 : World} {lv lv' v : Value} {vs : List Value} {L : List (List Int)} {l : List Int} (h : LAt B w lv vs L) (hb : Below w.heap.size w w1) (hv : w1.ownsRow B 3 1 v l.length (l.map encZ))
    (hn : ∀ k, v.ownBlock = some k → w.heap.size ≤ k) (hown : w2.ownsRow B 28 1 lv' (L.length + 1) (vs ++ [v])) (hg : w1.grownBy w2 lv.ownBlock) (hat : lv'.ownBlock = lv.ownBlock ∨ lv'.ownBlock = some w1.heap.size) : LAt B w2 lv' (vs ++ [v]) (L ++ [l]) := by
  have h1 := h.keep hb
  have hlt := h.lt
  have hvlt := hv.lt
  have s1 := hb.size
  have hvl : v.ownBlock = none ∨ v.ownBlock ≠ lv.ownBlock := by
    cases e : v.ownBlock with
    | none => exact Or.inl rfl
    | some k => exact Or.inr fun e2 => by have := hn k e; have := (hlt.1 k e2.symm).2; omega
  have apart : ∀ (i : Nat) u, vs[i]? = some u → u.ownBlock = none ∨ u.ownBlock ≠ v.ownBlock := fun i u hu => by
    cases e : u.ownBlock with
    | none => exact Or.inl rfl
    | some k => exact Or.inr fun e2 => by have := hn k e2.symm; have := (hlt.2 i u k hu e).2; omega
  have h2 := h1.2.2.1
  refine ⟨by rw [List.length_append, List.length_append, h.1]; rfl, by rw [List.length_append]; exact hown, fun i u l' hu hl => ?_, fun i j a b ha hb' hij => ?_, fun i u hu => ?_⟩
  · rcases Nat.lt_or_ge i vs.length with e | e
    · rw [List.getElem?_append_left e] at hu
      rw [List.getElem?_append_left (by rw [← h.1]; exact e)] at hl
      exact (h2 i u l' hu hl).kept hg (h.2.2.2.2 i u hu)
    · rw [List.getElem?_append_right e] at hu
      rw [List.getElem?_append_right (by rw [← h.1]; exact e)] at hl
      have hi := (List.getElem?_eq_some_iff.1 hu).1
      have e0 : i - vs.length = 0 := by simpa using hi
      rw [e0] at hu
      rw [← h.1, e0] at hl
      simp at hu hl
      subst hu; subst hl
      exact hv.kept hg hvl
  · rcases Nat.lt_or_ge i vs.length with e | e <;> rcases Nat.lt_or_ge j vs.length with e' | e'
    · rw [List.getElem?_append_left e] at ha
      rw [List.getElem?_append_left e'] at hb'
      exact h.2.2.2.1 i j a b ha hb' hij
    · rw [List.getElem?_append_left e] at ha
      rw [List.getElem?_append_right e'] at hb'
      have hi := (List.getElem?_eq_some_iff.1 hb').1
      have e0 : j - vs.length = 0 := by simpa using hi
      rw [e0] at hb'
      simp at hb'
      subst hb'
      exact apart i a ha
    · rw [List.getElem?_append_right e] at ha
      rw [List.getElem?_append_left e'] at hb'
      have hi := (List.getElem?_eq_some_iff.1 ha).1
      have e0 : i - vs.length = 0 := by simpa using hi
      rw [e0] at ha
      simp at ha
      subst ha
      rcases apart j b hb' with k | k
      · rw [k]
        cases e3 : v.ownBlock with
        | none => exact Or.inl rfl
        | some z => exact Or.inr (by simp)
      · exact Or.inr fun e2 => k e2.symm
    · have hi := (List.getElem?_eq_some_iff.1 ha).1
      have hj := (List.getElem?_eq_some_iff.1 hb').1
      simp at hi hj
      omega
  · rcases Nat.lt_or_ge i vs.length with e | e
    · rw [List.getElem?_append_left e] at hu
      rcases hat with hat | hat
      · rw [hat]; exact h.2.2.2.2 i u hu
      · cases e3 : u.ownBlock with
        | none => exact Or.inl rfl
        | some k => exact Or.inr fun e2 => by rw [hat] at e2; have := Option.some.inj e2; have := (hlt.2 i u k hu e3).2; omega
    · rw [List.getElem?_append_right e] at hu
      have hi := (List.getElem?_eq_some_iff.1 hu).1
      have e0 : i - vs.length = 0 := by simpa using hi
      rw [e0] at hu
      simp at hu
      subst hu
      rcases hat with hat | hat
      · rw [hat]; exact hvl
      · cases e3 : v.ownBlock with
        | none => exact Or.inl rfl
        | some k => exact Or.inr fun e2 => by rw [hat] at e2; have := Option.some.inj e2; have := (hvlt k e3).2; omega
theorem LAt.form {B : Nat} {w : World} {lv : Value} {vs : List Value} {L : List (List Int)} (h : LAt B w lv vs L) (h0 : 0 < L.length) : ∃ g cap, lv = .slice (some ⟨g, 0, none⟩) L.length cap := by
  rcases h.2.1.2 with ⟨-, e⟩ | ⟨g, cap, cur, e, -⟩
  · omega
  · exact ⟨g, cap, e⟩
/-- A number is put behind the row at place i. -/
theorem LAt.put {B g cap : Nat} {w w1 w2 : World} {v v' : Value} {vs : List Value} {L : List (List Int)} {l : List Int} {x : Int} (h : LAt B w (.slice (some ⟨g, 0, none⟩) L.length cap) vs L) (hb : Below w.heap.size w w1) {i : Nat} (hv : vs[i]? = some v) (hl : L[i]? = some l)
    (hown : w2.ownsRow B 3 1 v' (l.length + 1) (l.map encZ ++ [encZ x])) (hg : w1.grownBy w2 v.ownBlock) (hat : v'.ownBlock = v.ownBlock ∨ v'.ownBlock = some w1.heap.size) :
    LAt B (w2.setCell ⟨g, i, none⟩ v') (.slice (some ⟨g, 0, none⟩) L.length cap) (vs.set i v') (L.set i (l ++ [x])) := by
  have h1 := h.keep hb
  have hlt := h.lt
  have s1 := hb.size
  have hvl : (Value.slice (some ⟨g, 0, none⟩) L.length cap).ownBlock = none ∨ (Value.slice (some ⟨g, 0, none⟩) L.length cap).ownBlock ≠ v.ownBlock := by
    rcases h.2.2.2.2 i v hv with k | k
    · rw [k]; exact Or.inr (by simp [Value.ownBlock])
    · exact Or.inr fun e => k e.symm
  obtain ⟨st1, st2⟩ := (h1.2.1.kept hg hvl).stored i v'
  have hv'g : v'.ownBlock = none ∨ v'.ownBlock ≠ some g := by
    rcases hat with hat | hat
    · rw [hat]; exact h.2.2.2.2 i v hv
    · rw [hat]; exact Or.inr fun e => by have := Option.some.inj e; have := (hlt.1 g rfl).2; omega
  have key : ∀ (j : Nat) u, (vs.set i v')[j]? = some u → j = i ∧ u = v' ∨ j ≠ i ∧ vs[j]? = some u := fun j u hu => by
    by_cases e : j = i
    · subst e
      rw [List.getElem?_set_self (List.getElem?_eq_some_iff.1 hv).1] at hu
      exact Or.inl ⟨rfl, (Option.some.inj hu).symm⟩
    · rw [List.getElem?_set_ne (fun e2 => e e2.symm)] at hu
      exact Or.inr ⟨e, hu⟩
  have other : ∀ (j : Nat) u, j ≠ i → vs[j]? = some u → (u.ownBlock = none ∨ u.ownBlock ≠ v'.ownBlock) ∧ (v'.ownBlock = none ∨ v'.ownBlock ≠ u.ownBlock) := fun j u hj hu => by
    rcases hat with hat | hat
    · rw [hat]; exact ⟨h.2.2.2.1 j i u v hu hv hj, h.2.2.2.1 i j v u hv hu (fun e => hj e.symm)⟩
    · rw [hat]
      refine ⟨?_, Or.inr fun e => by have := (hlt.2 j u _ hu e.symm).2; omega⟩
      cases e3 : u.ownBlock with
      | none => exact Or.inl rfl
      | some k => exact Or.inr fun e2 => by have := Option.some.inj e2; have := (hlt.2 j u k hu e3).2; omega
  have st2' : ∀ (u : Value) (n : Nat) (xs : List Value), w2.ownsRow B 3 1 u n xs → (u.ownBlock = none ∨ u.ownBlock ≠ some g) → (w2.setCell ⟨g, i, none⟩ v').ownsRow B 3 1 u n xs := fun _ _ _ hu hne => hu.kept st2 hne
  refine ⟨by rw [List.length_set, List.length_set]; exact h.1, by rw [List.length_set]; exact st1, fun j u l' hu hl' => ?_, fun j k a b ha hb' hjk => ?_, fun j u hu => ?_⟩
  · rcases key j u hu with ⟨rfl, rfl⟩ | ⟨e, hu⟩
    · rw [List.getElem?_set_self (List.getElem?_eq_some_iff.1 hl).1] at hl'
      have := Option.some.inj hl'
      subst this
      rw [List.length_append, List.map_append]
      exact st2' _ _ _ hown hv'g
    · rw [List.getElem?_set_ne (fun e2 => e e2.symm)] at hl'
      exact st2' _ _ _ ((h1.2.2.1 j u l' hu hl').kept hg (h.2.2.2.1 j i u v hu hv e)) (h.2.2.2.2 j u hu)
  · rcases key j a ha with ⟨e1, e2⟩ | ⟨e, k1⟩ <;> rcases key k b hb' with ⟨e3, e4⟩ | ⟨e', k2⟩
    · exact absurd (e1.trans e3.symm) hjk
    · rw [e2]; exact (other k b e' k2).2
    · rw [e4]; exact (other j a e k1).1
    · exact h.2.2.2.1 j k a b k1 k2 hjk
  · rcases key j u hu with ⟨rfl, rfl⟩ | ⟨e, hu⟩
    · exact hv'g
    · exact h.2.2.2.2 j u hu
/-- What is read of rows of numbers that lie from M on. -/
def RowsAt (M : Nat) (w : World) (a : Option Addr) (L : List (List Int)) : Prop :=
  L = [] ∨ ∃ h off, a = some ⟨h, off, none⟩ ∧ M ≤ h ∧ h < w.heap.size ∧ ∀ (i : Nat) l, L[i]? = some l → ∃ q c, w.cell? ⟨h, off + i, none⟩ = some (.slice q l.length c) ∧ ReadsL encZ w.heap.size w q l ∧ ∀ z, q = some z → M ≤ z.block
theorem reads_past {α : Type} {enc : α → Value} {M : Nat} {w w' : World} {a : Option Addr} {l : List α} (h : ReadsL enc w.heap.size w a l) (hM : ∀ z, a = some z → M ≤ z.block) (hs : w.heap.size ≤ w'.heap.size) (hb : ∀ k, M ≤ k → k < w.heap.size → w'.heap[k]? = w.heap[k]?) : ReadsL enc w'.heap.size w' a l := by
  rcases h with h | ⟨b, off, rfl, hN, hc⟩
  · exact Or.inl h
  · exact Or.inr ⟨b, off, rfl, Nat.lt_of_lt_of_le hN hs, fun i hi => (World.cell?_of_block (hb b (hM _ rfl) hN)).trans (hc i hi)⟩
theorem RowsAt.past {M : Nat} {w w' : World} {a : Option Addr} {L : List (List Int)} (h : RowsAt M w a L) (hs : w.heap.size ≤ w'.heap.size) (hb : ∀ k, M ≤ k → k < w.heap.size → w'.heap[k]? = w.heap[k]?) : RowsAt M w' a L := by
  rcases h with h | ⟨b, off, rfl, hM, hN, hc⟩
  · exact Or.inl h
  · refine Or.inr ⟨b, off, rfl, hM, Nat.lt_of_lt_of_le hN hs, fun i l hl => ?_⟩
    obtain ⟨q, c, h1, h2, h3⟩ := hc i l hl
    exact ⟨q, c, (World.cell?_of_block (hb b hM hN)).trans h1, reads_past h2 h3 hs hb, h3⟩
theorem RowsAt.keep {M : Nat} {w w' : World} {a : Option Addr} {L : List (List Int)} (h : RowsAt M w a L) (hb : Below w.heap.size w w') : RowsAt M w' a L := h.past hb.size fun k _ hk => hb.block k hk
theorem LAt.rows {B : Nat} {w : World} {lv : Value} {vs : List Value} {L : List (List Int)} (h : LAt B w lv vs L) : ∃ a c, lv = .slice a L.length c ∧ RowsAt B w a L := by
  by_cases h0 : 0 < L.length
  · obtain ⟨g, cap, rfl⟩ := h.form h0
    refine ⟨_, cap, rfl, Or.inr ⟨g, 0, rfl, (h.lt.1 g rfl).1, (h.lt.1 g rfl).2, fun i l hl => ?_⟩⟩
    have hi := (List.getElem?_eq_some_iff.1 hl).1
    have hi' : i < vs.length := by rw [h.1]; exact hi
    have hv : vs[i]? = some vs[i] := List.getElem?_eq_getElem hi'
    obtain ⟨q, c, e, hr, -⟩ := owns_readsL rfl (h.2.2.1 i _ l hv hl)
    refine ⟨q, c, ?_, hr, fun z hz => ?_⟩
    · rw [Nat.zero_add, h.2.1.cellAt i (by omega), hv, e]
    · have := h.lt.2 i _ z.block hv (by rw [e, hz]; rfl)
      exact this.1
  · have e : L = [] := List.length_eq_zero_iff.1 (by omega)
    subst e
    rcases h.2.1.2 with ⟨rfl, -⟩ | ⟨g, cap, cur, rfl, -⟩
    · exact ⟨none, 0, rfl, Or.inl rfl⟩
    · exact ⟨_, cap, rfl, Or.inl rfl⟩
theorem makeCap {P : Program} {T E : TypeId} {z : Value} {c : Nat} (hu : P.underlying T = some (.slice E)) (h : (P.info? E).map (fun i => (i.zero, i.size, i.bytes)) = some (some z, 1, c)) (hc : c ≤ 100) (hz : z.cells = #[z]) (n : Nat) (hn : n ≤ 1000000) (w : World) :
    (Instr.makeSlice T (.int .i64 0) (.int .i64 (n : Int))).run P w = .ok (.slice (some ⟨w.heap.size, 0, none⟩) 0 n) (w.alloc (.cells (madeCells #[z] n) E)) := by
  obtain ⟨i, h1, h2, h3, h4⟩ := info_of h
  have hb : n * c ≤ n * 100 := Nat.mul_le_mul_left _ hc
  have hb2 : c * n = n * c := Nat.mul_comm _ _
  rw [run_make w T E i _ hu h1 h2 .i64 .i64 0 n (by omega) (by omega) (by rw [h4]; omega) (by omega)]
  rw [h3, hz]
  simp
theorem size_made (z : Value) (n : Nat) : (madeCells #[z] n).size = n := by simp [madeCells]
end Go.Proofs.YtceejjgmepaonaaGreatDoor
/- A block of two or three cells that a call made (a struct's result): what lies in it, over calls and stores. No function of the program is named. -/
namespace Go.Proofs.YtceejjgmepaonaaGreatDoor
open Go.RowKit Go.ChangeShapes
def TwoAt (N : Nat) (w : World) (u v : Value) : Prop :=
  w.cell? ⟨N, 0, none⟩ = some u ∧ w.cell? ⟨N, 1, none⟩ = some v ∧ w.frozen? ⟨N, 0, none⟩ = false ∧ w.frozen? ⟨N, 1, none⟩ = false
theorem TwoAt.lt {N : Nat} {w : World} {u v : Value} (h : TwoAt N w u v) : N < w.heap.size := World.block_lt_of_cell? w _ h.1
theorem TwoAt.on {N M : Nat} {w w' : World} {u v : Value} (h : TwoAt N w u v) (hb : Below M w w') (hM : N < M) : TwoAt N w' u v := by
  obtain ⟨h0, h1, f0, f1⟩ := h
  exact ⟨(hb.cell (by exact hM)).trans h0, (hb.cell (by exact hM)).trans h1, (hb.frozen (by exact hM)).trans f0, (hb.frozen (by exact hM)).trans f1⟩
theorem TwoAt.new (w : World) (u v : Value) (T : TypeId) : TwoAt w.heap.size (w.alloc (.cells #[u, v] T)) u v :=
  ⟨by simp, by simp, by simp, by simp⟩
theorem TwoAt.set {N : Nat} {w : World} {u v : Value} (h : TwoAt N w u v) (a b : Value) : TwoAt N ((w.setCell ⟨N, 0, none⟩ a).setCell ⟨N, 1, none⟩ b) a b := by
  obtain ⟨h0, h1, f0, f1⟩ := h
  have h1' : (w.setCell ⟨N, 0, none⟩ a).cell? ⟨N, 1, none⟩ = some v := (World.cell?_setCell_other w ⟨N, 0, none⟩ ⟨N, 1, none⟩ _ (by simp)).trans h1
  refine ⟨(World.cell?_setCell_other _ ⟨N, 1, none⟩ ⟨N, 0, none⟩ _ (by simp)).trans (World.cell?_setCell_same _ _ _ h0), World.cell?_setCell_same _ _ _ h1', ?_, ?_⟩
  · simpa using f0
  · simpa using f1
def ThreeAt (N : Nat) (w : World) (u v x : Value) : Prop :=
  w.cell? ⟨N, 0, none⟩ = some u ∧ w.cell? ⟨N, 1, none⟩ = some v ∧ w.cell? ⟨N, 2, none⟩ = some x ∧ w.frozen? ⟨N, 0, none⟩ = false ∧ w.frozen? ⟨N, 1, none⟩ = false ∧ w.frozen? ⟨N, 2, none⟩ = false
theorem ThreeAt.lt {N : Nat} {w : World} {u v x : Value} (h : ThreeAt N w u v x) : N < w.heap.size := World.block_lt_of_cell? w _ h.1
theorem ThreeAt.on {N M : Nat} {w w' : World} {u v x : Value} (h : ThreeAt N w u v x) (hb : Below M w w') (hM : N < M) : ThreeAt N w' u v x := by
  obtain ⟨h0, h1, h2, f0, f1, f2⟩ := h
  exact ⟨(hb.cell (by exact hM)).trans h0, (hb.cell (by exact hM)).trans h1, (hb.cell (by exact hM)).trans h2, (hb.frozen (by exact hM)).trans f0, (hb.frozen (by exact hM)).trans f1, (hb.frozen (by exact hM)).trans f2⟩
theorem ThreeAt.new (w : World) (u v x : Value) (T : TypeId) : ThreeAt w.heap.size (w.alloc (.cells #[u, v, x] T)) u v x :=
  ⟨by simp, by simp, by simp, by simp, by simp, by simp⟩
theorem ThreeAt.set {N : Nat} {w : World} {u v x : Value} (h : ThreeAt N w u v x) (a b c : Value) : ThreeAt N (((w.setCell ⟨N, 0, none⟩ a).setCell ⟨N, 1, none⟩ b).setCell ⟨N, 2, none⟩ c) a b c := by
  obtain ⟨h0, h1, h2, f0, f1, f2⟩ := h
  have h1' : (w.setCell ⟨N, 0, none⟩ a).cell? ⟨N, 1, none⟩ = some v := (World.cell?_setCell_other w ⟨N, 0, none⟩ ⟨N, 1, none⟩ _ (by simp)).trans h1
  have h2' : ((w.setCell ⟨N, 0, none⟩ a).setCell ⟨N, 1, none⟩ b).cell? ⟨N, 2, none⟩ = some x := (World.cell?_setCell_other _ ⟨N, 1, none⟩ ⟨N, 2, none⟩ _ (by simp)).trans ((World.cell?_setCell_other w ⟨N, 0, none⟩ ⟨N, 2, none⟩ _ (by simp)).trans h2)
  have h0' : ((w.setCell ⟨N, 0, none⟩ a).setCell ⟨N, 1, none⟩ b).cell? ⟨N, 0, none⟩ = some a := (World.cell?_setCell_other _ ⟨N, 1, none⟩ ⟨N, 0, none⟩ _ (by simp)).trans (World.cell?_setCell_same _ _ _ h0)
  refine ⟨(World.cell?_setCell_other _ ⟨N, 2, none⟩ ⟨N, 0, none⟩ _ (by simp)).trans h0', (World.cell?_setCell_other _ ⟨N, 2, none⟩ ⟨N, 1, none⟩ _ (by simp)).trans (World.cell?_setCell_same _ _ _ h1'), World.cell?_setCell_same _ _ _ h2', ?_, ?_, ?_⟩
  · simpa using f0
  · simpa using f1
  · simpa using f2
end Go.Proofs.YtceejjgmepaonaaGreatDoor
