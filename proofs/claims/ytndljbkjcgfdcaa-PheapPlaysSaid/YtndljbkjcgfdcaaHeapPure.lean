/- A heap as it is meant: of each vertex its key, if it is in; what each call answers and leaves; which one is the first. Plain facts: no function of the program is named. -/
import Derived.Test.YtndljbkjcgfdcaaProg
namespace Go.Proofs.Ytndljbkjcgfdcaa
namespace HeapPure
def inA (A : List (Option Int)) (v : Int) : Bool := decide (0 ≤ v) && decide (v < (A.length : Int)) && (A.getD v.toNat none).isSome
def keyA (A : List (Option Int)) (v : Int) : Int := if inA A v = true then (A.getD v.toNat none).getD 0 else 0
def pushB (A : List (Option Int)) (v : Int) : Bool := decide (0 ≤ v) && decide (v < (A.length : Int)) && !inA A v
def pushA (A : List (Option Int)) (v k : Int) : List (Option Int) := if pushB A v = true then A.set v.toNat (some k) else A
def raiseB (A : List (Option Int)) (v k : Int) : Bool := inA A v && decide (keyA A v ≤ k)
def raiseA (A : List (Option Int)) (v k : Int) : List (Option Int) := if raiseB A v k = true then A.set v.toNat (some k) else A
def dropA (A : List (Option Int)) (v : Int) : List (Option Int) := if inA A v = true then A.set v.toNat none else A
def lenA (A : List (Option Int)) : Nat := A.countP Option.isSome
def better (r : Option (Nat × Int)) (k : Nat) (x : Int) : Option (Nat × Int) :=
  match r with
  | none => some (k, x)
  | some (m, y) => if y < x then some (k, x) else some (m, y)
/-- The first one of the first k vertices. -/
def firstUp (A : List (Option Int)) : Nat → Option (Nat × Int)
  | 0 => none
  | k + 1 => match A.getD k none with
    | none => firstUp A k
    | some x => better (firstUp A k) k x
def firstA (A : List (Option Int)) : Option (Nat × Int) := firstUp A A.length
def topB (A : List (Option Int)) : Bool := (firstA A).isSome
def topV (A : List (Option Int)) : Int := match firstA A with | none => 0 | some (m, _) => (m : Int)
def topK (A : List (Option Int)) : Int := match firstA A with | none => 0 | some (_, y) => y
def popA (A : List (Option Int)) : List (Option Int) := match firstA A with | none => A | some (m, _) => A.set m none
theorem in_yes {A : List (Option Int)} {v : Int} (h : inA A v = true) : ∃ (u : Nat) (k : Int), v = (u : Int) ∧ A[u]? = some (some k) ∧ u < A.length := by
  unfold inA at h
  simp only [Bool.and_eq_true, decide_eq_true_eq] at h
  obtain ⟨⟨h0, h1⟩, h2⟩ := h
  have hk : v.toNat < A.length := by omega
  rw [List.getD_eq_getElem?_getD, List.getElem?_eq_getElem hk] at h2
  have h2' : (A[v.toNat]).isSome = true := h2
  obtain ⟨k, hk2⟩ := Option.isSome_iff_exists.1 h2'
  exact ⟨v.toNat, k, by omega, by rw [List.getElem?_eq_getElem hk, hk2], hk⟩
theorem in_of {A : List (Option Int)} {u : Nat} {k : Int} (h : A[u]? = some (some k)) : inA A (u : Int) = true := by
  obtain ⟨hl, he⟩ := List.getElem?_eq_some_iff.1 h
  unfold inA
  rw [Int.toNat_natCast, List.getD_eq_getElem?_getD, h]
  simp
  omega
theorem key_of {A : List (Option Int)} {u : Nat} {k : Int} (h : A[u]? = some (some k)) : keyA A (u : Int) = k := by
  unfold keyA
  rw [if_pos (in_of h), Int.toNat_natCast, List.getD_eq_getElem?_getD, h]
  rfl
theorem in_none {A : List (Option Int)} {u : Nat} (h : A[u]? = some none) : inA A (u : Int) = false := by
  unfold inA
  rw [Int.toNat_natCast, List.getD_eq_getElem?_getD, h]
  simp
theorem in_low {A : List (Option Int)} {v : Int} (h : v < 0) : inA A v = false := by
  unfold inA
  rw [decide_eq_false (by omega)]
  rfl
theorem in_past {A : List (Option Int)} {v : Int} (h : ¬ v < (A.length : Int)) : inA A v = false := by
  unfold inA
  rw [decide_eq_false h, Bool.and_false, Bool.false_and]
theorem key_no {A : List (Option Int)} {v : Int} (h : inA A v = false) : keyA A v = 0 := by
  unfold keyA
  rw [if_neg (by rw [h]; decide)]
/-- A vertex is none, is not in, or is in. -/
theorem three (A : List (Option Int)) (v : Int) : v < 0 ∨ (¬ v < (A.length : Int)) ∨ ∃ u : Nat, v = (u : Int) ∧ u < A.length ∧ (A[u]? = some none ∨ ∃ k, A[u]? = some (some k)) := by
  by_cases h0 : v < 0
  · exact Or.inl h0
  by_cases h1 : v < (A.length : Int)
  · right; right
    have hk : v.toNat < A.length := by omega
    refine ⟨v.toNat, by omega, hk, ?_⟩
    rw [List.getElem?_eq_getElem hk]
    cases A[v.toNat] with
    | none => exact Or.inl rfl
    | some k => exact Or.inr ⟨k, rfl⟩
  · exact Or.inr (Or.inl h1)
theorem push_yes {A : List (Option Int)} {u : Nat} (h : A[u]? = some none) : pushB A (u : Int) = true := by
  obtain ⟨hl, he⟩ := List.getElem?_eq_some_iff.1 h
  unfold pushB
  rw [in_none h]
  simp
  omega
theorem push_in {A : List (Option Int)} {v : Int} (h : inA A v = true) : pushB A v = false := by unfold pushB; rw [h, Bool.not_true, Bool.and_false]
theorem push_low {A : List (Option Int)} {v : Int} (h : v < 0) : pushB A v = false := by unfold pushB; rw [decide_eq_false (by omega)]; rfl
theorem push_past {A : List (Option Int)} {v : Int} (h : ¬ v < (A.length : Int)) : pushB A v = false := by unfold pushB; rw [decide_eq_false h, Bool.and_false, Bool.false_and]
theorem firstUp_spec (A : List (Option Int)) : ∀ k, k ≤ A.length → (firstUp A k = none ∧ ∀ u, u < k → A[u]? = some none) ∨
    ∃ m y, firstUp A k = some (m, y) ∧ m < k ∧ A[m]? = some (some y) ∧ ∀ u z, u < k → A[u]? = some (some z) → u ≠ m → z < y ∨ (z = y ∧ m < u) := by
  intro k
  induction k with
  | zero => intro _; exact Or.inl ⟨rfl, fun u h => by omega⟩
  | succ k ih =>
    intro hk
    have hl : k < A.length := by omega
    have hg : A.getD k none = A[k] := by rw [List.getD_eq_getElem?_getD, List.getElem?_eq_getElem hl]; rfl
    have hs : firstUp A (k + 1) = match A[k] with | none => firstUp A k | some x => better (firstUp A k) k x := by rw [← hg]; rfl
    have hkk : A[k]? = some A[k] := List.getElem?_eq_getElem hl
    cases hx : A[k] with
    | none =>
      rw [hx] at hs hkk
      rcases ih (by omega) with ⟨h1, h2⟩ | ⟨m, y, h1, h2, h3, h4⟩
      · refine Or.inl ⟨hs.trans h1, fun u hu => ?_⟩
        by_cases e : u = k
        · rw [e]; exact hkk
        · exact h2 u (by omega)
      · refine Or.inr ⟨m, y, hs.trans h1, by omega, h3, fun u z hu hz hne => ?_⟩
        by_cases e : u = k
        · rw [e, hkk] at hz; cases hz
        · exact h4 u z (by omega) hz hne
    | some x =>
      rw [hx] at hs hkk
      right
      rcases ih (by omega) with ⟨h1, h2⟩ | ⟨m, y, h1, h2, h3, h4⟩
      · refine ⟨k, x, by rw [hs, h1]; rfl, by omega, hkk, fun u z hu hz hne => ?_⟩
        rw [h2 u (by omega)] at hz
        cases hz
      · by_cases hyx : y < x
        · refine ⟨k, x, by rw [hs, h1]; exact if_pos hyx, by omega, hkk, fun u z hu hz hne => ?_⟩
          by_cases e : u = m
          · rw [e, h3] at hz
            cases hz
            exact Or.inl hyx
          · have := h4 u z (by omega) hz e
            omega
        · refine ⟨m, y, by rw [hs, h1]; exact if_neg hyx, by omega, h3, fun u z hu hz hne => ?_⟩
          by_cases e : u = k
          · rw [e, hkk] at hz
            cases hz
            omega
          · exact h4 u z (by omega) hz hne
theorem first_spec (A : List (Option Int)) : (firstA A = none ∧ ∀ u, u < A.length → A[u]? = some none) ∨
    ∃ m y, firstA A = some (m, y) ∧ A[m]? = some (some y) ∧ ∀ u z, A[u]? = some (some z) → u ≠ m → z < y ∨ (z = y ∧ m < u) := by
  rcases firstUp_spec A A.length (Nat.le_refl _) with h | ⟨m, y, h1, h2, h3, h4⟩
  · exact Or.inl h
  · exact Or.inr ⟨m, y, h1, h3, fun u z hz hne => h4 u z (List.getElem?_eq_some_iff.1 hz).1 hz hne⟩
theorem count_set {α : Type} (p : α → Bool) {l : List α} {k : Nat} {v : α} (h : l[k]? = some v) (u : α) : (l.set k u).countP p + (if p v = true then 1 else 0) = l.countP p + (if p u = true then 1 else 0) := by
  induction l generalizing k with
  | nil => simp at h
  | cons a l ih =>
    cases k with
    | zero =>
      simp at h
      subst h
      simp only [List.set_cons_zero, List.countP_cons]
      omega
    | succ k =>
      have := ih (k := k) (by simpa using h)
      simp only [List.set_cons_succ, List.countP_cons]
      omega
theorem len_le (A : List (Option Int)) : lenA A ≤ A.length := List.countP_le_length
theorem len_lt {A : List (Option Int)} {u : Nat} (h : A[u]? = some none) : lenA A < A.length := by
  have h1 := count_set Option.isSome h (some (0 : Int))
  have h2 := List.countP_le_length (p := Option.isSome) (l := A.set u (some (0 : Int)))
  rw [List.length_set] at h2
  unfold lenA
  simp at h1
  omega
theorem len_zero (A : List (Option Int)) : lenA A = 0 ↔ firstA A = none := by
  rcases first_spec A with ⟨h1, h2⟩ | ⟨m, y, h1, h2, -⟩
  · refine ⟨fun _ => h1, fun _ => ?_⟩
    unfold lenA
    rw [List.countP_eq_zero]
    intro x hx
    obtain ⟨u, hu, rfl⟩ := List.getElem_of_mem hx
    have := h2 u hu
    rw [List.getElem?_eq_getElem hu] at this
    rw [Option.some.inj this]
    decide
  · refine ⟨fun h => ?_, fun h => by rw [h1] at h; cases h⟩
    unfold lenA at h
    rw [List.countP_eq_zero] at h
    exact absurd rfl (h _ (List.mem_of_getElem? h2))
theorem len_push {A : List (Option Int)} {u : Nat} (h : A[u]? = some none) (k : Int) : lenA (A.set u (some k)) = lenA A + 1 := by
  have := count_set Option.isSome h (some k)
  unfold lenA
  simp at this
  exact this
theorem len_raise {A : List (Option Int)} {u : Nat} {x : Int} (h : A[u]? = some (some x)) (k : Int) : lenA (A.set u (some k)) = lenA A := by
  have := count_set Option.isSome h (some k)
  unfold lenA
  simp at this
  exact this
theorem len_drop {A : List (Option Int)} {u : Nat} {x : Int} (h : A[u]? = some (some x)) : lenA (A.set u none) + 1 = lenA A := by
  have := count_set Option.isSome h none
  unfold lenA
  simp at this
  exact this
end HeapPure
end Go.Proofs.Ytndljbkjcgfdcaa
