/- Two graphs of the document's that are made in one statement, in whatever order their variables are laid. -/
import Derived.Test.YtibjpoadpciiaaaNtLaw
namespace Go.Proofs.Ytibjpoadpciiaaa
open Go.RowKit Go.ChangeShapes EdPure NtPure NumPure
/-- A variable in which nothing was put. -/
def Zero4 (X : Nat) (w : World) : Prop := QuadAt X w (.int .i64 0) (.slice none 0 0) (.int .i64 0) (.int .i64 0) ∧ ∀ i, 4 ≤ i → w.cell? ⟨X, i, none⟩ = none
theorem Zero4.on {X M : Nat} {w w' : World} (h : Zero4 X w) (hb : Below M w w') (hM : X < M) : Zero4 X w' := ⟨h.1.on hb hM, fun i hi => (hb.cell (p := ⟨X, i, none⟩) hM).trans (h.2 i hi)⟩
theorem Zero4.new (w : World) : Zero4 w.heap.size (w.alloc (.cells #[.int .i64 0, .slice none 0 0, .int .i64 0, .int .i64 0] 32)) :=
  ⟨QuadAt.new _ _ _ _ _ _, fun i hi => by
    rw [World.cell?_alloc_at _ _ _ _ rfl]
    simp
    omega⟩
abbrev Got := Option Addr × List Ed
def PartSt (w2 : World) (o8 o9 : Option Nat) (c3 c7 : Option Got) (w : World) : Prop :=
  Below w2.heap.size w2 w ∧ (∀ X, o8 = some X → w2.heap.size ≤ X ∧ Zero4 X w) ∧ (∀ Y, o9 = some Y → w2.heap.size ≤ Y ∧ Zero4 Y w) ∧ (∀ X, o8 = some X → o9 ≠ some X) ∧ (∀ t, c3 = some t → ReadsE w.heap.size w t.1 t.2) ∧ ∀ t, c7 = some t → ReadsE w.heap.size w t.1 t.2
section
variable {w2 w w' : World} {o8 o9 : Option Nat} {c3 c7 : Option Got}
theorem PartSt.start (h : Below w2.heap.size w2 w) : PartSt w2 none none none none w := ⟨h, fun _ e => (by cases e), fun _ e => (by cases e), fun _ e => (by cases e), fun _ e => (by cases e), fun _ e => (by cases e)⟩
theorem PartSt.keep (h : PartSt w2 o8 o9 c3 c7 w) (hb : Below w.heap.size w w') : PartSt w2 o8 o9 c3 c7 w' := by
  obtain ⟨h1, h2, h3, h4, h5, h6⟩ := h
  exact ⟨h1.trans (hb.mono h1.size), fun X e => ⟨(h2 X e).1, (h2 X e).2.on hb (h2 X e).2.1.lt⟩, fun X e => ⟨(h3 X e).1, (h3 X e).2.on hb (h3 X e).2.1.lt⟩, h4, fun t e => (h5 t e).over hb (Nat.le_refl _), fun t e => (h6 t e).over hb (Nat.le_refl _)⟩
theorem PartSt.alloc8 (h : PartSt w2 none o9 c3 c7 w) : PartSt w2 (some w.heap.size) o9 c3 c7 (w.alloc (.cells #[.int .i64 0, .slice none 0 0, .int .i64 0, .int .i64 0] 32)) := by
  obtain ⟨h1, h2, h3, h4, h5, h6⟩ := h.keep ((Below.refl _ _).alloc (Nat.le_refl _) (.cells #[.int .i64 0, .slice none 0 0, .int .i64 0, .int .i64 0] 32))
  exact ⟨h1, fun X e => by obtain rfl := Option.some.inj e; exact ⟨h.1.size, Zero4.new w⟩, h3, fun X e e2 => by obtain rfl := Option.some.inj e; have := (h.2.2.1 _ e2).2.1.lt; omega, h5, h6⟩
theorem PartSt.alloc9 (h : PartSt w2 o8 none c3 c7 w) : PartSt w2 o8 (some w.heap.size) c3 c7 (w.alloc (.cells #[.int .i64 0, .slice none 0 0, .int .i64 0, .int .i64 0] 32)) := by
  obtain ⟨h1, h2, h3, h4, h5, h6⟩ := h.keep ((Below.refl _ _).alloc (Nat.le_refl _) (.cells #[.int .i64 0, .slice none 0 0, .int .i64 0, .int .i64 0] 32))
  exact ⟨h1, h2, fun X e => by obtain rfl := Option.some.inj e; exact ⟨h.1.size, Zero4.new w⟩, fun X e e2 => by have e3 := Option.some.inj e2; have := (h.2.1 X e).2.1.lt; omega, h5, h6⟩
theorem PartSt.call3 {q : Option Addr} {M : List Ed} (h : PartSt w2 o8 o9 none c7 w) (hb : Below w.heap.size w w') (hr : ReadsE w'.heap.size w' q M) : PartSt w2 o8 o9 (some (q, M)) c7 w' := by
  obtain ⟨h1, h2, h3, h4, h5, h6⟩ := h.keep hb
  exact ⟨h1, h2, h3, h4, fun t e => by obtain rfl := Option.some.inj e; exact hr, h6⟩
theorem PartSt.call7 {q : Option Addr} {M : List Ed} (h : PartSt w2 o8 o9 c3 none w) (hb : Below w.heap.size w w') (hr : ReadsE w'.heap.size w' q M) : PartSt w2 o8 o9 c3 (some (q, M)) w' := by
  obtain ⟨h1, h2, h3, h4, h5, h6⟩ := h.keep hb
  exact ⟨h1, h2, h3, h4, h5, fun t e => by obtain rfl := Option.some.inj e; exact hr⟩
end
/-- What the document's New says of a graph, or of none. -/
def RefK (n : Int) (l : List Ed) (x : Int) (M : List Ed) : Prop := (errN n l).1 ≠ 0 ∧ x = 0 ∧ M = [] ∨ errN n l = (0, 0) ∧ x = n ∧ mergeE l = some M
/-- Four cells are laid anew. -/
def lay4 (w : World) (X : Nat) (a b c d : Value) : World := (((w.setCell ⟨X, 0, none⟩ a).setCell ⟨X, 1, none⟩ b).setCell ⟨X, 2, none⟩ c).setCell ⟨X, 3, none⟩ d
theorem lay4_cell {w : World} {X k : Nat} {a b c d : Value} (h : k ≠ X) (i : Nat) : (lay4 w X a b c d).cell? ⟨k, i, none⟩ = w.cell? ⟨k, i, none⟩ := by
  unfold lay4
  rw [World.cell?_setCell_other _ ⟨X, 3, none⟩ ⟨k, i, none⟩ _ (fun e => h (congrArg Addr.block e).symm), World.cell?_setCell_other _ ⟨X, 2, none⟩ ⟨k, i, none⟩ _ (fun e => h (congrArg Addr.block e).symm), World.cell?_setCell_other _ ⟨X, 1, none⟩ ⟨k, i, none⟩ _ (fun e => h (congrArg Addr.block e).symm), World.cell?_setCell_other _ ⟨X, 0, none⟩ ⟨k, i, none⟩ _ (fun e => h (congrArg Addr.block e).symm)]
theorem lay4_quad {w : World} {X k : Nat} {a b c d a' b' c' d' : Value} (h : k ≠ X) (hq : QuadAt k w a' b' c' d') : QuadAt k (lay4 w X a b c d) a' b' c' d' := by
  intro i hi
  rw [lay4_cell h i]
  exact ⟨(hq i hi).1, by have := (hq i hi).2; unfold lay4; simpa using this⟩
theorem lay4_below {N : Nat} {w0 w : World} {X : Nat} {a b c d : Value} (h : Below N w0 w) (hX : N ≤ X) : Below N w0 (lay4 w X a b c d) :=
  (((h.setCell (p := ⟨X, 0, none⟩) hX a).setCell (p := ⟨X, 1, none⟩) hX b).setCell (p := ⟨X, 2, none⟩) hX c).setCell (p := ⟨X, 3, none⟩) hX d
/-- The first variable is laid. -/
def MidSt (w2 : World) (X Y : Nat) (t u : Got) (v1 v2 v3 v4 : Value) (w : World) : Prop :=
  Below w2.heap.size w2 w ∧ QuadAt X w v1 v2 v3 v4 ∧ (w2.heap.size ≤ Y ∧ Zero4 Y w) ∧ X ≠ Y ∧ ReadsE w.heap.size w t.1 t.2 ∧ ReadsE w.heap.size w u.1 u.2
theorem PartSt.lay {w2 w : World} {X Y : Nat} {t u : Got} (h : PartSt w2 (some X) (some Y) (some t) (some u) w) (v1 v2 v3 v4 : Value) : MidSt w2 X Y t u v1 v2 v3 v4 (lay4 w X v1 v2 v3 v4) := by
  obtain ⟨h1, h2, h3, h4, h5, h6⟩ := h
  have hne : X ≠ Y := fun e => h4 X rfl (by rw [e])
  obtain ⟨a1, a2⟩ := h2 X rfl
  obtain ⟨b1, b2⟩ := h3 Y rfl
  exact ⟨lay4_below h1 a1, a2.1.set _ _ _ _, ⟨b1, lay4_quad (fun e => hne e.symm) b2.1, fun i hi => by rw [lay4_cell (fun e => hne e.symm)]; exact b2.2 i hi⟩, hne,
    quad_apart a2.1 a2.2 (h5 t rfl) (Nat.le_refl _) _ _ _ _, quad_apart a2.1 a2.2 (h6 u rfl) (Nat.le_refl _) _ _ _ _⟩
/-- Both are. -/
def BothSt (w2 : World) (X Y : Nat) (t u : Got) (v1 v2 v3 v4 u1 u2 u3 u4 : Value) (w : World) : Prop :=
  Below w2.heap.size w2 w ∧ QuadAt X w v1 v2 v3 v4 ∧ QuadAt Y w u1 u2 u3 u4 ∧ ReadsE w.heap.size w t.1 t.2 ∧ ReadsE w.heap.size w u.1 u.2
theorem MidSt.lay {w2 w : World} {X Y : Nat} {t u : Got} {v1 v2 v3 v4 : Value} (h : MidSt w2 X Y t u v1 v2 v3 v4 w) (u1 u2 u3 u4 : Value) : BothSt w2 X Y t u v1 v2 v3 v4 u1 u2 u3 u4 (lay4 w Y u1 u2 u3 u4) := by
  obtain ⟨h1, h2, ⟨b1, b2⟩, hne, h5, h6⟩ := h
  exact ⟨lay4_below h1 b1, lay4_quad hne h2, b2.1.set _ _ _ _, quad_apart b2.1 b2.2 h5 (Nat.le_refl _) _ _ _ _, quad_apart b2.1 b2.2 h6 (Nat.le_refl _) _ _ _ _⟩
theorem BothSt.keep {w2 w w' : World} {X Y : Nat} {t u : Got} {v1 v2 v3 v4 u1 u2 u3 u4 : Value} (h : BothSt w2 X Y t u v1 v2 v3 v4 u1 u2 u3 u4 w) (hb : Below w.heap.size w w') : BothSt w2 X Y t u v1 v2 v3 v4 u1 u2 u3 u4 w' :=
  ⟨h.1.trans (hb.mono h.1.size), h.2.1.on hb h.2.1.lt, h.2.2.1.on hb h.2.2.1.lt, h.2.2.2.1.over hb (Nat.le_refl _), h.2.2.2.2.over hb (Nat.le_refl _)⟩
end Go.Proofs.Ytibjpoadpciiaaa
