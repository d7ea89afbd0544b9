/- One list of arcs, cut into a part for each vertex: in memory while it is cut, and while arcs are put into the parts. -/
import Derived.Test.YtaoocokcfppmaaaCsAsk
import Derived.ArgAppend
namespace Go.Proofs.Ytaoocokcfppmaaa.Cs
open Go.RowKit Go.ChangeShapes EdPure NtPure CsPure
/-- The row b of parts while it is cut: the first v of its cells are parts of the list R, from p on the rest lies. -/
def RowSt (B b R n : Nat) (M : List Ed) (v p : Nat) (w : World) : Prop :=
  ((B ≤ b ∧ b < w.heap.size) ∧ (B ≤ R ∧ R < w.heap.size) ∧ b ≠ R) ∧
  (∀ i, i < v → ∃ o, w.cell? ⟨b, i, none⟩ = some (.slice (some ⟨R, o, none⟩) 0 (roomN M i)) ∧ (roomN M i = 0 ∨ o = fromN M i)) ∧
  (∀ i, i < n → (w.cell? ⟨b, i, none⟩).isSome = true ∧ w.frozen? ⟨b, i, none⟩ = false) ∧
  (∀ j, j < 2 * M.length → (w.cell? ⟨R, j, none⟩).isSome = true ∧ w.frozen? ⟨R, j, none⟩ = false) ∧
  (2 * M.length - fromN M v = 0 ∨ p = fromN M v)
/-- Behind that: in each part the arcs that L tells, and room. -/
def CutSt (B b R n : Nat) (M : List Ed) (L : Nat → List Nat) (w : World) : Prop :=
  ((B ≤ b ∧ b < w.heap.size) ∧ (B ≤ R ∧ R < w.heap.size) ∧ b ≠ R) ∧
  (∀ i, i < n → ∃ o, w.cell? ⟨b, i, none⟩ = some (.slice (some ⟨R, o, none⟩) (L i).length (roomN M i)) ∧ w.frozen? ⟨b, i, none⟩ = false ∧ (roomN M i = 0 ∨ o = fromN M i)) ∧
  (∀ i, i < n → ∀ k, k < roomN M i → (w.cell? ⟨R, fromN M i + k, none⟩).isSome = true ∧ w.frozen? ⟨R, fromN M i + k, none⟩ = false) ∧
  (∀ i, i < n → ∀ k (hk : k < (L i).length), w.cell? ⟨R, fromN M i + k, none⟩ = some (.int .i64 ((L i)[k] : Int))) ∧
  ∀ i, i < n → (L i).length ≤ roomN M i
section
variable {B b R n : Nat} {M : List Ed} {w w1 : World} {v p : Nat} {L : Nat → List Nat}
theorem some_keep {a : Addr} (hb : Below w.heap.size w w1) (ha : a.block < w.heap.size) (h : (w.cell? a).isSome = true ∧ w.frozen? a = false) : (w1.cell? a).isSome = true ∧ w1.frozen? a = false :=
  ⟨by rw [hb.cell (by exact ha)]; exact h.1, by rw [hb.frozen (by exact ha)]; exact h.2⟩
theorem RowSt.keep (h : RowSt B b R n M v p w) (hb : Below w.heap.size w w1) : RowSt B b R n M v p w1 := by
  obtain ⟨⟨⟨h1, h2⟩, ⟨h3, h4⟩, h5⟩, h6, h7, h8, h9⟩ := h
  exact ⟨⟨⟨h1, Nat.lt_of_lt_of_le h2 hb.size⟩, ⟨h3, Nat.lt_of_lt_of_le h4 hb.size⟩, h5⟩,
    fun i hi => by obtain ⟨o, g1, g2⟩ := h6 i hi; exact ⟨o, (hb.cell (by exact h2)).trans g1, g2⟩,
    fun i hi => some_keep hb h2 (h7 i hi), fun j hj => some_keep hb h4 (h8 j hj), h9⟩
theorem some_set {c : Addr} {a : Addr} {x : Value} (h : (w.cell? a).isSome = true ∧ w.frozen? a = false) : ((w.setCell c x).cell? a).isSome = true ∧ (w.setCell c x).frozen? a = false := by
  refine ⟨?_, by rw [World.frozen?_setCell]; exact h.2⟩
  by_cases e : c = a
  · subst e
    obtain ⟨u, hu⟩ := Option.isSome_iff_exists.1 h.1
    rw [World.cell?_setCell_same _ _ _ hu]; rfl
  · rw [World.cell?_setCell_other _ c a _ e]; exact h.1
/-- One part more. -/
theorem RowSt.cut (h : RowSt B b R n M v p w) (hv : v < n) (hs : fromN M (v + 1) ≤ 2 * M.length) {q : Nat} (hq : 2 * M.length - fromN M v - roomN M v = 0 ∨ q = p + roomN M v) :
    RowSt B b R n M (v + 1) q (w.setCell ⟨b, v, none⟩ (.slice (some ⟨R, p, none⟩) 0 (roomN M v))) := by
  obtain ⟨⟨⟨h1, h2⟩, ⟨h3, h4⟩, h5⟩, h6, h7, h8, h9⟩ := h
  have hf : fromN M (v + 1) = fromN M v + roomN M v := rfl
  refine ⟨⟨⟨h1, by simpa using h2⟩, ⟨h3, by simpa using h4⟩, h5⟩, fun i hi => ?_, fun i hi => some_set (h7 i hi), fun j hj => some_set (h8 j hj), ?_⟩
  · by_cases e : i = v
    · subst e
      obtain ⟨u, hu⟩ := Option.isSome_iff_exists.1 (h7 i hv).1
      exact ⟨p, World.cell?_setCell_same _ _ _ hu, by omega⟩
    · obtain ⟨o, g1, g2⟩ := h6 i (by omega)
      exact ⟨o, (World.cell?_setCell_other _ ⟨b, v, none⟩ ⟨b, i, none⟩ _ (fun e2 => e (congrArg Addr.off e2).symm)).trans g1, g2⟩
  · omega
theorem RowSt.start {w0 : World} {T1 T2 : TypeId} {x : Value} (hB : B ≤ w0.heap.size) (w2 : World) (hb : Below (w0.heap.size + 1) (w0.alloc (.cells (madeCells #[.int .i64 0] (2 * M.length)) T1)) w2) :
    RowSt B w2.heap.size w0.heap.size n M 0 0 (w2.alloc (.cells (madeCells #[x] n) T2)) := by
  have hR := rowIs_made w0 (.int .i64 0) (2 * M.length) T1
  have hN := rowIs_made w2 x n T2
  have hs := hb.size
  simp at hs
  have hb2 : Below w2.heap.size w2 (w2.alloc (.cells (madeCells #[x] n) T2)) := (Below.refl _ _).alloc (Nat.le_refl _) _
  refine ⟨⟨⟨by omega, by simp⟩, ⟨hB, by simp; omega⟩, by omega⟩, fun i hi => absurd hi (by omega), fun i hi => ?_, fun j hj => ?_, Or.inr rfl⟩
  · obtain ⟨g1, g2⟩ := hN i (by simpa using hi)
    exact ⟨by rw [g1]; rfl, g2⟩
  · obtain ⟨g1, g2⟩ := hR j (by simpa using hj)
    refine some_keep hb2 (by simp; omega) (a := ⟨w0.heap.size, j, none⟩) ⟨?_, ?_⟩
    · rw [hb.cell (by simp), g1]; rfl
    · rw [hb.frozen (by simp)]; exact g2
theorem RowSt.done (h : RowSt B b R n M n p w) (hs : fromN M n ≤ 2 * M.length) : CutSt B b R n M (fun _ => []) w := by
  obtain ⟨h1, h6, h7, h8, h9⟩ := h
  refine ⟨h1, fun i hi => ?_, fun i hi k hk => h8 _ ?_, fun i hi k hk => absurd hk (by simp), fun i hi => by simp⟩
  · obtain ⟨o, g1, g2⟩ := h6 i hi
    exact ⟨o, g1, (h7 i hi).2, g2⟩
  · have := from_past M hi
    omega
theorem CutSt.keep (h : CutSt B b R n M L w) (hb : Below w.heap.size w w1) : CutSt B b R n M L w1 := by
  obtain ⟨⟨⟨h1, h2⟩, ⟨h3, h4⟩, h5⟩, h6, h7, h8, h9⟩ := h
  exact ⟨⟨⟨h1, Nat.lt_of_lt_of_le h2 hb.size⟩, ⟨h3, Nat.lt_of_lt_of_le h4 hb.size⟩, h5⟩,
    fun i hi => by obtain ⟨o, g1, g2, g3⟩ := h6 i hi; exact ⟨o, (hb.cell (by exact h2)).trans g1, (hb.frozen (by exact h2)).trans g2, g3⟩,
    fun i hi k hk => some_keep hb h4 (h7 i hi k hk), fun i hi k hk => (hb.cell (by exact h4)).trans (h8 i hi k hk), h9⟩
/-- Where there is room the part starts where it should; what is stored into is there. -/
theorem CutSt.at (h : CutSt B b R n M L w) {i : Nat} (hi : i < n) (hr : (L i).length + 1 ≤ roomN M i) :
    w.cell? ⟨b, i, none⟩ = some (.slice (some ⟨R, fromN M i, none⟩) (L i).length (roomN M i)) ∧ w.frozen? ⟨b, i, none⟩ = false ∧ (w.cell? ⟨R, fromN M i + (L i).length, none⟩).isSome = true ∧ w.frozen? ⟨R, fromN M i + (L i).length, none⟩ = false := by
  obtain ⟨-, h6, h7, -, -⟩ := h
  obtain ⟨o, g1, g2, g3⟩ := h6 i hi
  rcases g3 with g3 | g3
  · omega
  · subst g3
    exact ⟨g1, g2, h7 i hi _ (by omega)⟩
/-- An arc is put into a part. -/
theorem CutSt.put (h : CutSt B b R n M L w) {i : Nat} (hi : i < n) (hr : (L i).length + 1 ≤ roomN M i) (x : Nat) :
    CutSt B b R n M (updN L i (L i ++ [x])) ((w.setCell ⟨R, fromN M i + (L i).length, none⟩ (.int .i64 (x : Int))).setCell ⟨b, i, none⟩ (.slice (some ⟨R, fromN M i, none⟩) ((L i).length + 1) (roomN M i))) := by
  have hat := h.at hi hr
  obtain ⟨⟨⟨h1, h2⟩, ⟨h3, h4⟩, h5⟩, h6, h7, h8, h9⟩ := h
  have key : ∀ j, j < n → j ≠ i → ∀ k, k < roomN M j → fromN M j + k ≠ fromN M i + (L i).length := fun j hj hne k hk => by
    rcases Nat.lt_or_gt_of_ne hne with e | e
    · have := from_past M e; omega
    · have := from_past M e; omega
  refine ⟨⟨⟨h1, by simpa using h2⟩, ⟨h3, by simpa using h4⟩, h5⟩, fun j hj => ?_, fun j hj k hk => some_set (some_set (h7 j hj k hk)), fun j hj k hk => ?_, fun j hj => ?_⟩
  · have c1 : (w.setCell ⟨R, fromN M i + (L i).length, none⟩ (.int .i64 (x : Int))).cell? ⟨b, j, none⟩ = w.cell? ⟨b, j, none⟩ := World.cell?_setCell_other _ _ _ _ (fun e => h5 (congrArg Addr.block e).symm)
    obtain ⟨o, g1, g2, g3⟩ := h6 j hj
    by_cases e : j = i
    · subst e
      rw [updN_at]
      refine ⟨fromN M j, ?_, by simpa using g2, Or.inr rfl⟩
      rw [List.length_append]
      exact World.cell?_setCell_same _ _ _ (c1.trans g1)
    · rw [updN_ne _ _ e]
      exact ⟨o, ((World.cell?_setCell_other _ ⟨b, i, none⟩ ⟨b, j, none⟩ _ (fun e2 => e (congrArg Addr.off e2).symm)).trans c1).trans g1, by simpa using g2, g3⟩
  · rw [World.cell?_setCell_other _ ⟨b, i, none⟩ ⟨R, fromN M j + k, none⟩ _ (fun e => h5 (congrArg Addr.block e))]
    by_cases e : j = i
    · subst e
      revert hk
      rw [updN_at]
      intro hk
      rw [List.length_append] at hk
      by_cases ek : k = (L j).length
      · subst ek
        obtain ⟨u, hu⟩ := Option.isSome_iff_exists.1 hat.2.2.1
        rw [World.cell?_setCell_same _ _ _ hu]
        simp
      · rw [World.cell?_setCell_other _ _ _ _ (fun e2 => ek (by have := congrArg Addr.off e2; simp only at this; omega))]
        have hk' : k < (L j).length := by simp at hk; omega
        rw [h8 j hj k hk', List.getElem_append_left hk']
    · revert hk
      rw [updN_ne _ _ e]
      intro hk
      have := h9 j hj
      rw [World.cell?_setCell_other _ _ _ _ (fun e2 => key j hj e k (by omega) (congrArg Addr.off e2).symm)]
      exact h8 j hj k hk
  · by_cases e : j = i
    · subst e
      rw [updN_at, List.length_append]
      exact hr
    · rw [updN_ne _ _ e]
      exact h9 j hj
theorem CutSt.reads (h : CutSt B b R n M (fun i => outE M (i : Int) M.length) w) : PartsR w.heap.size w (some ⟨b, 0, none⟩) n M := by
  obtain ⟨⟨⟨h1, h2⟩, ⟨h3, h4⟩, h5⟩, h6, h7, h8, h9⟩ := h
  refine Or.inr ⟨b, rfl, h2, fun i hi => ?_⟩
  obtain ⟨o, g1, g2, g3⟩ := h6 i hi
  refine ⟨some ⟨R, o, none⟩, roomN M i, g1, ?_⟩
  by_cases e : roomN M i = 0
  · have := h9 i hi
    simp only at this
    have e2 : outE M (i : Int) M.length = [] := List.length_eq_zero_iff.1 (by omega)
    exact Or.inl (by rw [e2]; rfl)
  · rcases g3 with g3 | g3
    · exact absurd g3 e
    · subst g3
      refine Or.inr ⟨R, fromN M i, rfl, h4, fun k hk => ?_⟩
      rw [zN_len] at hk
      have := h8 i hi k hk
      rw [this]
      simp [zN, encZ]
end
theorem set_one (w : World) (b o : Nat) (x : Value) : w.setCells b o [x] = w.setCell ⟨b, o, none⟩ x := rfl
end Go.Proofs.Ytaoocokcfppmaaa.Cs
