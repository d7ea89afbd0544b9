/- A drawn region whose operations may come up in many orders, gone over by what is done, not by the order: what is left of it as a letter (G), the frame as a function of what was made (F). No function of the program is named. -/
import Derived.Test.YtbankocbncpepaaCells
import Derived.Deep.RegionHeld3
namespace Go.Proofs.Ytbankocbncpepaa
open Go.RowKit Go.ChangeShapes
theorem dag_of {P : Program} {md : Region.Mode} {ops : Array Oper} {Q : Exit → Act → World → Prop} {S : World → Prop} {n : Nat} {d : Array Bool} {a : Act} {w : World}
    (h : ∀ G : Nat → Array Bool → Act → World → Prop, (∀ n d a w, wpAnyH P md ops Q S n d a w → G n d a w) → (∀ n d a w, G n d a w → wpAnyH P md ops Q S n d a w) → G n d a w) : wpAnyH P md ops Q S n d a w :=
  h (fun n d a w => wpAnyH P md ops Q S n d a w) (fun _ _ _ _ h => h) (fun _ _ _ _ h => h)
/-- The same, with each operation's step as a letter (T), so that a call's step is walked once, whatever was laid so far. -/
theorem dag_of2 {P : Program} {md : Region.Mode} {ops : Array Oper} {Q : Exit → Act → World → Prop} {S : World → Prop} {n : Nat} {d : Array Bool} {a : Act} {w : World}
    (h : ∀ (G : Nat → Array Bool → Act → World → Prop) (T : Nat → Act → World → (Act → World → Prop) → Prop), (∀ n d a w, wpAnyH P md ops Q S n d a w → G n d a w) → (∀ n d a w, G n d a w → wpAnyH P md ops Q S n d a w) →
      (∀ i o, ops[i]? = some o → ∀ a w K, (if Region.wanted o (yielded ops a.tmps) = true then Oper.wp P o a w K Q else K (a.put o.dst undef) w) ↔ T i a w K) → G n d a w) : wpAnyH P md ops Q S n d a w :=
  h (fun n d a w => wpAnyH P md ops Q S n d a w) (fun i a w K => ∀ o, ops[i]? = some o → if Region.wanted o (yielded ops a.tmps) = true then Oper.wp P o a w K Q else K (a.put o.dst undef) w) (fun _ _ _ _ h => h) (fun _ _ _ _ h => h)
    (fun i o ho a w K => ⟨fun h o' ho' => by rw [ho] at ho'; obtain rfl := Option.some.inj ho'; exact h, fun h => h o ho⟩)
/-- An operation is taken first; where its value goes is told as it stands (else each step holds the whole list of operations in its 'dst'). -/
theorem dag_take {P : Program} {md : Region.Mode} {ops : Array Oper} {Q : Exit → Act → World → Prop} {S : World → Prop} {i d : Nat} {oi : Oper} {v : Value} {fuel : Nat} {listed : Array Bool} {a : Act} {w : World} (hi : ops[i]? = some oi) (hd : oi.dst = some d)
    (hs : Region.noSelect ops = true) (hf : Region.free md ops listed i = true) (hr : (Region.ready md ops listed).contains i = true)
    (hQ : ∀ c a w, Q (.panic c) (a.put oi.dst v) w → Q (.panic c) a w) (hy : YieldsIf P ops S oi v a) (hS : S w)
    (h : wpAnyH P md ops Q S fuel (listed.setIfInBounds i true) (a.put (some d) v) w) : wpAnyH P md ops Q S (fuel + 1) listed a w :=
  wpAnyH_take hi hs hf hr hQ hy hS (hd ▸ h)
theorem dag_frame4 {G : Nat → Array Bool → Act → World → Prop} {n : Nat} {d : Array Bool} {a : Act} {w : World} (i1 i2 i3 i4 : Nat)
    (h : ∀ F : Value → Value → Value → Value → Act, (∀ x1 x2 x3 x4, F x1 x2 x3 x4 = ((((a.put (some i1) x1).put (some i2) x2).put (some i3) x3).put (some i4) x4)) → G n d a w) : G n d a w := h _ (fun _ _ _ _ => rfl)
theorem dag_frame6 {G : Nat → Array Bool → Act → World → Prop} {n : Nat} {d : Array Bool} {a : Act} {w : World} (i1 i2 i3 i4 i5 i6 : Nat)
    (h : ∀ F : Value → Value → Value → Value → Value → Value → Act, (∀ x1 x2 x3 x4 x5 x6, F x1 x2 x3 x4 x5 x6 = ((((((a.put (some i1) x1).put (some i2) x2).put (some i3) x3).put (some i4) x4).put (some i5) x5).put (some i6) x6)) → G n d a w) : G n d a w := h _ (fun _ _ _ _ _ _ => rfl)
theorem two_other {N M : Nat} {w : World} {u v : Value} (h : TwoAt N w u v) (hne : N ≠ M) (a b : Value) : TwoAt N ((w.setCell ⟨M, 0, none⟩ a).setCell ⟨M, 1, none⟩ b) u v := by
  obtain ⟨h0, h1, f0, f1⟩ := h
  refine ⟨?_, ?_, by simpa using f0, by simpa using f1⟩
  · rw [World.cell?_setCell_other _ ⟨M, 1, none⟩ ⟨N, 0, none⟩ _ (fun e => hne (congrArg Addr.block e).symm), World.cell?_setCell_other _ ⟨M, 0, none⟩ ⟨N, 0, none⟩ _ (fun e => hne (congrArg Addr.block e).symm)]; exact h0
  · rw [World.cell?_setCell_other _ ⟨M, 1, none⟩ ⟨N, 1, none⟩ _ (fun e => hne (congrArg Addr.block e).symm), World.cell?_setCell_other _ ⟨M, 0, none⟩ ⟨N, 1, none⟩ _ (fun e => hne (congrArg Addr.block e).symm)]; exact h1
theorem below_lay2 {N : Nat} {w0 w : World} {X : Nat} {a b : Value} (h : Below N w0 w) (hX : N ≤ X) : Below N w0 ((w.setCell ⟨X, 0, none⟩ a).setCell ⟨X, 1, none⟩ b) :=
  (h.setCell (p := ⟨X, 0, none⟩) hX a).setCell (p := ⟨X, 1, none⟩) hX b
theorem dag_at {G : Nat → Array Bool → Act → World → Prop} {n n' : Nat} {d d' : Array Bool} {a a' : Act} {w : World} (h : G n d a w) (hn : n = n') (hd : d = d') (ha : a = a') : G n' d' a' w := by subst hn; subst hd; subst ha; exact h
/-- Variables of two numbers that were laid so far, behind w0. -/
def VarsSt (w0 : World) (o : List (Option Nat)) (w : World) : Prop :=
  Below w0.heap.size w0 w ∧ (∀ X, some X ∈ o → w0.heap.size ≤ X ∧ TwoAt X w (.int .i64 0) (.int .i64 0)) ∧ ∀ (i j : Nat) (X Y : Nat), o[i]? = some (some X) → o[j]? = some (some Y) → i ≠ j → X ≠ Y
theorem VarsSt.start {w0 w : World} {o : List (Option Nat)} (h : Below w0.heap.size w0 w) (ho : ∀ x ∈ o, x = none) : VarsSt w0 o w :=
  ⟨h, fun X hX => (by have := ho _ hX; cases this), fun i _ X _ hi _ _ => (by have := ho _ (List.mem_of_getElem? hi); cases this)⟩
theorem VarsSt.keep {w0 w w' : World} {o : List (Option Nat)} (h : VarsSt w0 o w) (hb : Below w.heap.size w w') : VarsSt w0 o w' :=
  ⟨h.1.trans (hb.mono h.1.size), fun X hX => ⟨(h.2.1 X hX).1, (h.2.1 X hX).2.on hb (h.2.1 X hX).2.lt⟩, h.2.2⟩
theorem VarsSt.alloc {w0 w : World} {o : List (Option Nat)} (h : VarsSt w0 o w) (i : Nat) (T : TypeId) : VarsSt w0 (o.set i (some w.heap.size)) (w.alloc (.cells #[.int .i64 0, .int .i64 0] T)) := by
  have hk := h.keep ((Below.refl _ _).alloc (Nat.le_refl _) (.cells #[.int .i64 0, .int .i64 0] T))
  have old : ∀ (k : Nat) (Y : Nat), o[k]? = some (some Y) → Y < w.heap.size := fun k Y hY => (h.2.1 Y (List.mem_of_getElem? hY)).2.lt
  have key : ∀ (k : Nat) (Y : Nat), (o.set i (some w.heap.size))[k]? = some (some Y) → (k = i ∧ Y = w.heap.size) ∨ (k ≠ i ∧ o[k]? = some (some Y)) := fun k Y hY => by
    by_cases e : k = i
    · subst e
      have hlt : k < o.length := by
        have := (List.getElem?_eq_some_iff.1 hY).1
        simpa using this
      rw [List.getElem?_set_self hlt] at hY
      exact Or.inl ⟨rfl, (Option.some.inj (Option.some.inj hY)).symm⟩
    · rw [List.getElem?_set_ne (fun e2 => e e2.symm)] at hY
      exact Or.inr ⟨e, hY⟩
  refine ⟨hk.1, fun X hX => ?_, fun a b X Y ha hb hab => ?_⟩
  · obtain ⟨k, hk2⟩ := List.getElem?_of_mem hX
    rcases key k X hk2 with ⟨-, rfl⟩ | ⟨-, h2⟩
    · exact ⟨h.1.size, TwoAt.new _ _ _ _⟩
    · exact hk.2.1 X (List.mem_of_getElem? h2)
  · rcases key a X ha with ⟨rfl, rfl⟩ | ⟨e1, h1⟩ <;> rcases key b Y hb with ⟨rfl, rfl⟩ | ⟨e2, h2⟩
    · exact absurd rfl hab
    · have := old b Y h2; omega
    · have := old a X h1; omega
    · exact h.2.2 a b X Y h1 h2 hab
end Go.Proofs.Ytbankocbncpepaa
