/- How long each vertex's part of the arcs is, where it starts, what is in it while edges come; plainly. No program in sight. -/
import Derived.Test.YtaoocokcfppmaaaCsPure
namespace Go.Proofs.Ytaoocokcfppmaaa.CsPure
open EdPure NtPure
/-- How many arcs lead from v, and from those ahead of it. -/
def roomN (M : List Ed) (v : Nat) : Nat := (nearE M (v : Int)).length
def fromN (M : List Ed) : Nat → Nat
  | 0 => 0
  | v + 1 => fromN M v + roomN M v
theorem from_mono (M : List Ed) {u v : Nat} (h : u ≤ v) : fromN M u ≤ fromN M v := by
  induction v with
  | zero => obtain rfl : u = 0 := by omega
            exact Nat.le_refl _
  | succ v ih =>
    by_cases e : u = v + 1
    · rw [e]; exact Nat.le_refl _
    · have := ih (by omega)
      show fromN M u ≤ fromN M v + roomN M v
      omega
theorem from_past (M : List Ed) {u v : Nat} (h : u < v) : fromN M u + roomN M u ≤ fromN M v := from_mono M (u := u + 1) h
theorem nearE_cons (e : Ed) (M : List Ed) (v : Int) : (nearE (e :: M) v).length = (if atB v e = true then 1 else 0) + (nearE M v).length := by
  unfold nearE
  by_cases h : atB v e = true
  · rw [List.filter_cons_of_pos h, if_pos h]; simp; omega
  · rw [List.filter_cons_of_neg h, if_neg h]; omega
theorem from_cons {e : Ed} {M : List Ed} (h : e.1 < e.2.1) (h0 : 0 ≤ e.1) (k : Nat) : fromN (e :: M) k = (if e.1 < k then 1 else 0) + (if e.2.1 < k then 1 else 0) + fromN M k := by
  induction k with
  | zero => unfold fromN; rw [if_neg (by omega), if_neg (by omega)]
  | succ k ih =>
    unfold fromN roomN
    rw [ih, nearE_cons]
    unfold atB
    simp only [decide_eq_true_eq]
    repeat' split
    all_goals omega
theorem from_all {M : List Ed} (h : ∀ e ∈ M, e.1 < e.2.1) (h0 : ∀ e ∈ M, 0 ≤ e.1) (k : Nat) : fromN M k ≤ 2 * M.length := by
  induction M with
  | nil =>
    induction k with
    | zero => exact Nat.le_refl _
    | succ k ih =>
      have : roomN [] k = 0 := rfl
      unfold fromN
      omega
  | cons e r ih =>
    have := ih (fun x hx => h x (by simp [hx])) (fun x hx => h0 x (by simp [hx]))
    rw [from_cons (h e (by simp)) (h0 e (by simp)), List.length_cons]
    split <;> split <;> omega
theorem from_le {n : Int} {M : List Ed} (h : GoodN n M) (k : Nat) : fromN M k ≤ 2 * M.length :=
  from_all (fun e he => (h.1.2 e he).1) (fun e he => (h.2.1 e he).1) k
theorem nearE_snoc (M : List Ed) {k : Nat} (hk : k < M.length) (v : Int) : (nearE (M.take (k + 1)) v).length = (nearE (M.take k) v).length + (if atB v M[k] = true then 1 else 0) := by
  rw [List.take_add_one, List.getElem?_eq_getElem hk]
  unfold nearE
  rw [List.filter_append, List.map_append, List.length_append]
  congr 1
  by_cases h : atB v M[k] = true
  · simp [h]
  · simp [h]
theorem outE_step (M : List Ed) {k : Nat} (hk : k < M.length) (v : Int) : outE M v (k + 1) = outE M v k ++ (if M[k].1 = v then [2 * k] else if M[k].2.1 = v then [2 * k + 1] else []) := by
  conv => lhs; unfold outE
  rw [List.getElem?_eq_getElem hk]
theorem outE_len {M : List Ed} (k : Nat) (hk : k ≤ M.length) (v : Int) : (outE M v k).length = (nearE (M.take k) v).length := by
  induction k with
  | zero => simp [outE, nearE]
  | succ k ih =>
    rw [outE_step M (by omega), List.length_append, ih (by omega), nearE_snoc M (by omega)]
    congr 1
    unfold atB
    simp only [decide_eq_true_eq]
    split
    · next h => rw [if_pos (Or.inl h)]; rfl
    · next h =>
      split
      · next h2 => rw [if_pos (Or.inr h2)]; rfl
      · next h2 => rw [if_neg (by rintro (h3 | h3); exact h h3; exact h2 h3)]; rfl
theorem outE_mono (M : List Ed) (v : Int) {j k : Nat} (h : j ≤ k) (hk : k ≤ M.length) : (outE M v j).length ≤ (outE M v k).length := by
  induction k with
  | zero => obtain rfl : j = 0 := by omega
            exact Nat.le_refl _
  | succ k ih =>
    by_cases e : j = k + 1
    · rw [e]; exact Nat.le_refl _
    · have := ih (by omega) (by omega)
      rw [outE_step M (by omega), List.length_append]
      omega
theorem outE_room {M : List Ed} {k : Nat} (hk : k ≤ M.length) (v : Nat) : (outE M (v : Int) k).length ≤ roomN M v := by
  have h1 := outE_mono M (v : Int) hk (Nat.le_refl _)
  have h2 := outE_len (M := M) M.length (Nat.le_refl _) (v : Int)
  rw [List.take_length] at h2
  unfold roomN
  omega
theorem outE_all (M : List Ed) (v : Nat) : (outE M (v : Int) M.length).length = roomN M v := by
  have h2 := outE_len (M := M) M.length (Nat.le_refl _) (v : Int)
  rwa [List.take_length] at h2
theorem outE_two {M : List Ed} {k u v : Nat} {x : Int} (hk : k < M.length) (he : M[k] = ((u : Int), (v : Int), x)) (huv : u ≠ v) :
    outE M (u : Int) (k + 1) = outE M (u : Int) k ++ [2 * k] ∧ outE M (v : Int) (k + 1) = outE M (v : Int) k ++ [2 * k + 1] ∧ ∀ i : Nat, i ≠ u → i ≠ v → outE M (i : Int) (k + 1) = outE M (i : Int) k := by
  have hs := outE_step M hk
  rw [he] at hs
  simp only at hs
  refine ⟨by rw [hs, if_pos rfl], by rw [hs, if_neg (by omega), if_pos rfl], fun i h1 h2 => by rw [hs, if_neg (by omega), if_neg (by omega), List.append_nil]⟩
theorem outE_less {M : List Ed} {k u v : Nat} {x : Int} (hk : k < M.length) (he : M[k] = ((u : Int), (v : Int), x)) (huv : u ≠ v) :
    (outE M (u : Int) k).length + 1 ≤ roomN M u ∧ (outE M (v : Int) k).length + 1 ≤ roomN M v := by
  obtain ⟨h1, h2, -⟩ := outE_two hk he huv
  have g1 := outE_room (M := M) (k := k + 1) (by omega) u
  have g2 := outE_room (M := M) (k := k + 1) (by omega) v
  rw [h1, List.length_append] at g1
  rw [h2, List.length_append] at g2
  exact ⟨g1, g2⟩
theorem outE_lt {M : List Ed} (v : Int) (k : Nat) : ∀ x ∈ outE M v k, x < 2 * k := by
  induction k with
  | zero => simp [outE]
  | succ k ih =>
    intro x hx
    unfold outE at hx
    rcases List.mem_append.1 hx with h | h
    · have := ih x h; omega
    · split at h
      · split at h
        · rw [List.mem_singleton] at h; omega
        · split at h
          · rw [List.mem_singleton] at h; omega
          · simp at h
      · simp at h
end Go.Proofs.Ytaoocokcfppmaaa.CsPure
