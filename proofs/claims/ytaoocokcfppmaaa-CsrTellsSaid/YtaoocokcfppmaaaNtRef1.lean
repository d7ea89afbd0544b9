/- The document's Weight of a graph. -/
import Derived.Test.YtaoocokcfppmaaaNtAsk2
import Derived.Test.YtaoocokcfppmaaaEdRef2
namespace Go.Proofs.Ytaoocokcfppmaaa
open Go.RowKit Go.ChangeShapes EdPure NtPure NumPure
theorem wOf_hit {M : List Ed} {p q : Int} : ∀ {k : Nat} (hk : k < M.length), isAt p q M[k] → (∀ j (hj : j < M.length), j < k → ¬ isAt p q M[j]) → wOf M p q = M[k].2.2 := by
  induction M with
  | nil => intro k hk; simp at hk
  | cons x r ih =>
    intro k hk h1 h2
    cases k with
    | zero => simp only [wOf, List.getElem_cons_zero]; exact if_pos h1
    | succ k =>
      have h0 : ¬ isAt p q x := h2 0 (by simp) (by omega)
      simp only [wOf]
      rw [if_neg h0, ih (by simpa using hk) h1 (fun j hj hjk => h2 (j + 1) (by simpa using hj) (by omega))]
      rfl
theorem wOf_miss {M : List Ed} {p q : Int} (h : ∀ j (hj : j < M.length), ¬ isAt p q M[j]) : wOf M p q = 0 := by
  induction M with
  | nil => rfl
  | cons x r ih =>
    have h0 : ¬ isAt p q x := h 0 (by simp)
    simp only [wOf]
    rw [if_neg h0]
    exact ih fun j hj => h (j + 1) (by simpa using hj)
/-- A graph of the document's, as a value and as it lies in a variable. -/
def RnAt (N : Nat) (n : Int) (a : Option Addr) (c : Nat) (M : List Ed) (w : World) : Prop := TwoAt N w (.int .i64 n) (.slice a M.length c) ∧ ReadsE w.heap.size w a M
theorem RnAt.keep {N : Nat} {n : Int} {a : Option Addr} {c : Nat} {M : List Ed} {w w' : World} (h : RnAt N n a c M w) (hb : Below w.heap.size w w') : RnAt N n a c M w' := ⟨h.1.on hb h.1.lt, h.2.over hb (Nat.le_refl _)⟩
theorem RnAt.box {n : Int} {a : Option Addr} {c : Nat} {M : List Ed} {w : World} (h : ReadsE w.heap.size w a M) : RnAt w.heap.size n a c M (w.alloc (.cells #[.int .i64 n, .slice a M.length c] 37)) :=
  ⟨TwoAt.new _ _ _ _, h.over ((Below.refl _ _).alloc (Nat.le_refl _) _) (Nat.le_refl _)⟩
def noneTo (M : List Ed) (p q : Int) (k : Nat) : Prop := k ≤ M.length ∧ ∀ j (hj : j < M.length), j < k → ¬ isAt p q M[j]
theorem noneTo.next {M : List Ed} {p q : Int} {k : Nat} (h : noneTo M p q k) (hk : k < M.length) (h0 : ¬ isAt p q M[k]) : noneTo M p q (k + 1) :=
  ⟨hk, fun j hj hjk => by
    by_cases e : j = k
    · subst e; exact h0
    · exact h.2 j hj (by omega)⟩
end Go.Proofs.Ytaoocokcfppmaaa
