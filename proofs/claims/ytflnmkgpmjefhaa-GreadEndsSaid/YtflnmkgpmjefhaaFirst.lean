/- The first of a list of which a function tells an error: its error, its place. No program in sight. -/
import Derived.WalkKit
namespace Go.Proofs.Ytflnmkgpmjefhaa.First
/-- The first place in l of which E tells an error, or l's length. -/
def firstBad {α : Type} (E : α → Int) : List α → Nat
  | [] => 0
  | x :: t => if E x = 0 then firstBad E t + 1 else 0
def errAt {α : Type} (E : α → Int) (l : List α) : Int := match l[firstBad E l]? with | some x => E x | none => 0
def plcAt {α : Type} (E : α → Int) (l : List α) : Int := if firstBad E l < l.length then (firstBad E l : Int) else 0
theorem first_le {α : Type} (E : α → Int) (l : List α) : firstBad E l ≤ l.length := by
  induction l with
  | nil => simp [firstBad]
  | cons x t ih => unfold firstBad; split <;> simp <;> omega
theorem first_good {α : Type} (E : α → Int) (l : List α) : ∀ j (h : j < l.length), j < firstBad E l → E l[j] = 0 := by
  induction l with
  | nil => intro j h; simp at h
  | cons x t ih =>
    intro j h hj
    unfold firstBad at hj
    by_cases hx : E x = 0
    · rw [if_pos hx] at hj
      cases j with
      | zero => exact hx
      | succ j => exact ih j (by simpa using h) (by omega)
    · rw [if_neg hx] at hj; omega
theorem first_bad {α : Type} (E : α → Int) (l : List α) : ∀ h : firstBad E l < l.length, E l[firstBad E l] ≠ 0 := by
  induction l with
  | nil => intro h; simp [firstBad] at h
  | cons x t ih =>
    intro h
    by_cases hx : E x = 0
    · have e : firstBad E (x :: t) = firstBad E t + 1 := by rw [firstBad, if_pos hx]
      have h' : firstBad E t < t.length := by rw [e] at h; simpa using h
      have := ih h'
      simp only [e, List.getElem_cons_succ]
      exact this
    · have e : firstBad E (x :: t) = 0 := by rw [firstBad, if_neg hx]
      simp only [e, List.getElem_cons_zero]
      exact hx
theorem err_bad {α : Type} (E : α → Int) (l : List α) (k : Nat) (h : k < l.length) (hk : firstBad E l = k) : errAt E l = E l[k] ∧ plcAt E l = (k : Int) := by
  subst hk
  unfold errAt plcAt
  rw [List.getElem?_eq_getElem h, if_pos h]
  exact ⟨rfl, rfl⟩
theorem err_good {α : Type} (E : α → Int) (l : List α) (hk : firstBad E l = l.length) : errAt E l = 0 ∧ plcAt E l = 0 := by
  unfold errAt plcAt
  rw [hk, List.getElem?_eq_none (Nat.le_refl _), if_neg (by omega)]
  exact ⟨rfl, rfl⟩
/-- No error just if none is told. -/
theorem err_iff {α : Type} (E : α → Int) (l : List α) : errAt E l = 0 ↔ firstBad E l = l.length := by
  constructor
  · intro h
    refine Nat.le_antisymm (first_le E l) (Nat.le_of_not_lt fun hc => ?_)
    have := first_bad E l hc
    rw [(err_bad E l _ hc rfl).1] at h
    exact this h
  · intro h; exact (err_good E l h).1
theorem first_all {α : Type} (E : α → Int) (l : List α) (h : ∀ x ∈ l, E x = 0) : firstBad E l = l.length := by
  induction l with
  | nil => rfl
  | cons x t ih =>
    rw [firstBad, if_pos (h x (by simp)), ih (fun y hy => h y (by simp [hy]))]; rfl
theorem all_first {α : Type} (E : α → Int) (l : List α) (h : firstBad E l = l.length) : ∀ x ∈ l, E x = 0 := by
  intro x hx
  obtain ⟨j, hj, rfl⟩ := List.getElem_of_mem hx
  exact first_good E l j hj (by omega)
/-- Behind good ones the first bad one is the first bad one of the rest. -/
theorem first_append {α : Type} (E : α → Int) (d r : List α) (h : ∀ x ∈ d, E x = 0) : firstBad E (d ++ r) = d.length + firstBad E r := by
  induction d with
  | nil => simp
  | cons x t ih =>
    rw [List.cons_append, firstBad, if_pos (h x (by simp)), ih (fun y hy => h y (by simp [hy])), List.length_cons]
    omega
/-- .. so a bad one behind them is it. -/
theorem first_at {α : Type} (E : α → Int) (d r : List α) (x : α) (h : ∀ y ∈ d, E y = 0) (hx : E x ≠ 0) : errAt E (d ++ x :: r) = E x ∧ plcAt E (d ++ x :: r) = (d.length : Int) := by
  have hf : firstBad E (d ++ x :: r) = d.length := by rw [first_append E d _ h, firstBad, if_neg hx]; rfl
  obtain ⟨h1, h2⟩ := err_bad E (d ++ x :: r) d.length (by simp) hf
  exact ⟨by rw [h1]; simp, h2⟩
theorem none_at {α : Type} (E : α → Int) (d : List α) (h : ∀ y ∈ d, E y = 0) : errAt E d = 0 ∧ plcAt E d = 0 := err_good E d (first_all E d h)
end Go.Proofs.Ytflnmkgpmjefhaa.First
