/- Sides, plainly: whether numbers are one, what crosses one, and weighs, all others, the normal form. No program in sight. -/
import Derived.Test.YtbankocbncpepaaPk9
namespace Go.Proofs.Ytbankocbncpepaa.SdPure
open EdPure NtPure CutPure
def inS (l : List Int) (v : Int) : Bool := decide (v ∈ l)
theorem inS_iff {l : List Int} {v : Int} : inS l v = true ↔ v ∈ l := by unfold inS; exact decide_eq_true_iff
/-- Rising numbers of vertices. -/
def RightS (n : Int) (l : List Int) : Prop := (∀ v ∈ l, 0 ≤ v ∧ v < n) ∧ l.Pairwise (· < ·)
instance (n : Int) (l : List Int) : Decidable (RightS n l) := by unfold RightS; infer_instance
def chkS (n : Int) (l : List Int) : Int := if RightS n l then (if l = [] ∨ (l.length : Int) = n then 16 else 0) else 4
theorem chkS_rng (n : Int) (l : List Int) : chkS n l = 0 ∨ chkS n l = 4 ∨ chkS n l = 16 := by unfold chkS; split <;> (try split) <;> simp
theorem chkS_ok {n : Int} {l : List Int} (h : chkS n l = 0) : RightS n l ∧ l ≠ [] ∧ (l.length : Int) ≠ n := by
  unfold chkS at h
  by_cases h1 : RightS n l
  · rw [if_pos h1] at h
    by_cases h2 : l = [] ∨ (l.length : Int) = n
    · rw [if_pos h2] at h; cases h
    · exact ⟨h1, fun e => h2 (Or.inl e), fun e => h2 (Or.inr e)⟩
  · rw [if_neg h1] at h; cases h
/-- One more that may be. -/
theorem right_snoc {n : Int} {l : List Int} {x : Int} : RightS n (l ++ [x]) ↔ RightS n l ∧ (0 ≤ x ∧ x < n) ∧ ∀ y, l.getLast? = some y → y < x := by
  unfold RightS
  rw [List.pairwise_append]
  constructor
  · rintro ⟨h1, h2, -, h3⟩
    exact ⟨⟨fun v hv => h1 v (by simp [hv]), h2⟩, h1 x (by simp), fun y hy => h3 y (List.mem_of_getLast? hy) x (by simp)⟩
  · rintro ⟨⟨h1, h2⟩, h3, h4⟩
    refine ⟨fun v hv => ?_, h2, by simp, fun a ha b hb => ?_⟩
    · rcases List.mem_append.1 hv with hv | hv
      · exact h1 v hv
      · rw [List.mem_singleton.1 hv]; exact h3
    · rw [List.mem_singleton.1 hb]
      cases hl : l.getLast? with
      | none => rw [List.getLast?_eq_none_iff] at hl; rw [hl] at ha; simp at ha
      | some y =>
        have hy := h4 y hl
        obtain ⟨l', rfl⟩ := List.getLast?_eq_some_iff.1 hl
        rcases List.mem_append.1 ha with ha | ha
        · have := (List.pairwise_append.1 h2).2.2 a ha y (by simp)
          omega
        · rw [List.mem_singleton.1 ha]; exact hy
theorem right_take {n : Int} {l : List Int} (h : RightS n l) (k : Nat) : RightS n (l.take k) := ⟨fun v hv => h.1 v (List.mem_of_mem_take hv), h.2.sublist (List.take_sublist k l)⟩
theorem take_one {l : List Int} {k : Nat} (hk : k < l.length) : l.take (k + 1) = l.take k ++ [l[k]] := by rw [List.take_add_one, List.getElem?_eq_getElem hk]; rfl
theorem take_last {l : List Int} {k : Nat} (hk : k < l.length) : (l.take (k + 1)).getLast? = some l[k] := by rw [take_one hk, List.getLast?_concat]
/-- A number more: it may be, or it may not. -/
theorem right_next {n : Int} {l : List Int} {k : Nat} (hk : k < l.length) (h : RightS n (l.take k)) : RightS n (l.take (k + 1)) ↔ (0 ≤ l[k] ∧ l[k] < n) ∧ (∀ hk0 : 0 < k, l[k - 1]'(by omega) < l[k]) := by
  rw [take_one hk, right_snoc]
  constructor
  · rintro ⟨-, h2, h3⟩
    refine ⟨h2, fun hk0 => h3 _ ?_⟩
    have := take_last (l := l) (k := k - 1) (by omega)
    rwa [show k - 1 + 1 = k by omega] at this
  · rintro ⟨h2, h3⟩
    refine ⟨h, h2, fun y hy => ?_⟩
    by_cases hk0 : 0 < k
    · have := take_last (l := l) (k := k - 1) (by omega)
      rw [show k - 1 + 1 = k by omega, hy] at this
      rw [Option.some.inj this]; exact h3 hk0
    · have : k = 0 := by omega
      subst this; simp at hy
theorem chk_bad {n : Int} {l : List Int} {k : Nat} (h : ¬ RightS n (l.take k)) : chkS n l = 4 := by unfold chkS; rw [if_neg (fun e => h (right_take e k))]
theorem chk_good {n : Int} {l : List Int} (h : RightS n l) : chkS n l = if l = [] ∨ (l.length : Int) = n then 16 else 0 := by unfold chkS; rw [if_pos h]
/-- The numbers of the first k edges that cross. -/
def crossL (M : List Ed) (S : Int → Bool) : Nat → List Int
  | 0 => []
  | k + 1 => crossL M S k ++ (match M[k]? with | some e => if crossB S e = true then [(k : Int)] else [] | none => [])
theorem cross_succ {M : List Ed} (S : Int → Bool) {k : Nat} (hk : k < M.length) : crossL M S (k + 1) = crossL M S k ++ (if crossB S M[k] = true then [(k : Int)] else []) := by
  show crossL M S k ++ (match M[k]? with | some e => if crossB S e = true then [(k : Int)] else [] | none => []) = _
  rw [List.getElem?_eq_getElem hk]
theorem cross_mem {M : List Ed} {S : Int → Bool} {x : Int} : ∀ {k : Nat}, k ≤ M.length → x ∈ crossL M S k → 0 ≤ x ∧ x < k := by
  intro k
  induction k with
  | zero => intro _ hx; simp [crossL] at hx
  | succ k ih =>
    intro hk hx
    rw [cross_succ S (by omega)] at hx
    rcases List.mem_append.1 hx with hx | hx
    · have := ih (by omega) hx; omega
    · split at hx
      · rw [List.mem_singleton] at hx; omega
      · simp at hx
theorem cross_len (M : List Ed) (S : Int → Bool) : ∀ {k : Nat}, k ≤ M.length → (crossL M S k).length ≤ k := by
  intro k
  induction k with
  | zero => intro _; exact Nat.le_refl _
  | succ k ih =>
    intro hk
    have := ih (by omega)
    rw [cross_succ S (by omega), List.length_append]
    split <;> simp <;> omega
/-- What edges of these numbers weigh. -/
def wtN (M : List Ed) (x : Int) : Int := (M.getD x.toNat (0, 0, 0)).2.2
def wtL (M : List Ed) (c : List Int) : Int := (c.map (wtN M)).sum
theorem wt_snoc (M : List Ed) (c : List Int) (x : Int) : wtL M (c ++ [x]) = wtL M c + wtN M x := by unfold wtL; simp
theorem wt_cross {M : List Ed} (S : Int → Bool) : ∀ {k : Nat}, k ≤ M.length → wtL M (crossL M S k) = cutW (M.take k) S := by
  intro k
  induction k with
  | zero => intro _; rfl
  | succ k ih =>
    intro hk
    have hk' : k < M.length := by omega
    have e : M.take (k + 1) = M.take k ++ [M[k]] := by rw [List.take_add_one, List.getElem?_eq_getElem hk']; rfl
    rw [cross_succ S hk', e, cut_snoc, ← ih (by omega)]
    unfold crE
    by_cases hc : crossB S M[k] = true
    · rw [if_pos hc, if_pos hc, wt_snoc]
      unfold wtN
      rw [List.getD_eq_getElem?_getD, Int.toNat_natCast, List.getElem?_eq_getElem hk']
      rfl
    · rw [if_neg hc, if_neg hc, List.append_nil]; omega
theorem wt_all {M : List Ed} (S : Int → Bool) : wtL M (crossL M S M.length) = cutW M S := by rw [wt_cross S (Nat.le_refl _), List.take_length]
/-- All below k that are not among these. -/
def othL (l : List Int) : Nat → List Int
  | 0 => []
  | k + 1 => othL l k ++ (if inS l k = true then [] else [(k : Int)])
theorem oth_len (l : List Int) (k : Nat) : (othL l k).length ≤ k := by
  induction k with
  | zero => exact Nat.le_refl _
  | succ k ih => unfold othL; rw [List.length_append]; split <;> simp <;> omega
theorem oth_mem (l : List Int) (v : Int) (k : Nat) : v ∈ othL l k ↔ (0 ≤ v ∧ v < k) ∧ v ∉ l := by
  induction k with
  | zero => simp [othL]; omega
  | succ k ih =>
    unfold othL
    rw [List.mem_append, ih]
    by_cases hk : inS l k = true
    · rw [if_pos hk]
      have := inS_iff.1 hk
      constructor
      · rintro (⟨h1, h2⟩ | h)
        · exact ⟨by omega, h2⟩
        · simp at h
      · rintro ⟨h1, h2⟩
        refine Or.inl ⟨?_, h2⟩
        by_cases e : v = k
        · rw [e] at h2; exact absurd this h2
        · omega
    · rw [if_neg hk, List.mem_singleton]
      constructor
      · rintro (⟨h1, h2⟩ | h)
        · exact ⟨by omega, h2⟩
        · exact ⟨by omega, by rw [h]; exact fun e => hk (inS_iff.2 e)⟩
      · rintro ⟨h1, h2⟩
        by_cases e : v = k
        · exact Or.inr e
        · exact Or.inl ⟨by omega, h2⟩
def normL (n : Int) (l : List Int) : List Int := if inS l 0 = true then othL l n.toNat else l
def partsB (n : Int) (l : List Int) (u v : Int) : Bool := decide (chkS n l = 0) && (decide (0 ≤ u) && (decide (u < n) && (decide (0 ≤ v) && (decide (v < n) && (inS l u != inS l v)))))
theorem parts_symm (n : Int) (l : List Int) (u v : Int) : partsB n l u v = partsB n l v u := by
  unfold partsB
  cases decide (chkS n l = 0) <;> cases decide (0 ≤ u) <;> cases decide (u < n) <;> cases decide (0 ≤ v) <;> cases decide (v < n) <;> cases inS l u <;> cases inS l v <;> rfl
/-- A side and its other side weigh the same. -/
theorem oth_cut {n : Nat} {M : List Ed} (h : GoodN n M) (l : List Int) : cutW M (inS (othL l n)) = cutW M (inS l) := by
  rw [← cut_not M (inS l)]
  refine cut_same h fun v v0 v1 => ?_
  unfold inS
  by_cases hv : v ∈ l
  · rw [decide_eq_true hv, decide_eq_false (fun e => ((oth_mem l v n).1 e).2 hv)]; rfl
  · rw [decide_eq_false hv, decide_eq_true ((oth_mem l v n).2 ⟨⟨v0, v1⟩, hv⟩)]; rfl
end Go.Proofs.Ytbankocbncpepaa.SdPure
