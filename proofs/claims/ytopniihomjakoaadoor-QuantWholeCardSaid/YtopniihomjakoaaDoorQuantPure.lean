/- Plain facts on floats as whole numbers of steps: the first of a list that can't be, how many steps a float is, the greatest step of a list. No program in sight. -/
import Derived.Test.YtopniihomjakoaaDoorFbitPure
namespace Go.Proofs.YtopniihomjakoaaDoor.QuantPure
open Go.RowKit FbitPure

/-- The first place in l of which E tells an error, or l's length. -/
def firstBad {α : Type} (E : α → Int) : List α → Nat
  | [] => 0
  | x :: t => if E x = 0 then firstBad E t + 1 else 0
def errAt {α : Type} (E : α → Int) (l : List α) : Int := match l[firstBad E l]? with | some x => E x | none => 0
def plcAt {α : Type} (E : α → Int) (l : List α) : Int := if firstBad E l < l.length then (firstBad E l : Int) else 0
theorem first_le {α : Type} (E : α → Int) (l : List α) : firstBad E l ≤ l.length := by
  induction l with
  | nil => simp [firstBad]
  | cons x t ih => unfold firstBad; split <;> simp <;> omega
theorem first_good {α : Type} (E : α → Int) (l : List α) : ∀ j (h : j < l.length), j < firstBad E l → E l[j] = 0 := by
  induction l with
  | nil => intro j h; simp at h
  | cons x t ih =>
    intro j h hj
    unfold firstBad at hj
    by_cases hx : E x = 0
    · rw [if_pos hx] at hj
      cases j with
      | zero => exact hx
      | succ j => exact ih j (by simpa using h) (by omega)
    · rw [if_neg hx] at hj; omega
theorem first_bad {α : Type} (E : α → Int) (l : List α) : ∀ h : firstBad E l < l.length, E l[firstBad E l] ≠ 0 := by
  induction l with
  | nil => intro h; simp [firstBad] at h
  | cons x t ih =>
    intro h
    by_cases hx : E x = 0
    · have e : firstBad E (x :: t) = firstBad E t + 1 := by rw [firstBad, if_pos hx]
      have h' : firstBad E t < t.length := by rw [e] at h; simpa using h
      have := ih h'
      simp only [e, List.getElem_cons_succ]
      exact this
    · have e : firstBad E (x :: t) = 0 := by rw [firstBad, if_neg hx]
      simp only [e, List.getElem_cons_zero]
      exact hx
theorem err_bad {α : Type} (E : α → Int) (l : List α) (k : Nat) (h : k < l.length) (hk : firstBad E l = k) : errAt E l = E l[k] ∧ plcAt E l = (k : Int) := by
  subst hk
  unfold errAt plcAt
  rw [List.getElem?_eq_getElem h, if_pos h]
  exact ⟨rfl, rfl⟩
theorem err_good {α : Type} (E : α → Int) (l : List α) (hk : firstBad E l = l.length) : errAt E l = 0 ∧ plcAt E l = 0 := by
  unfold errAt plcAt
  rw [hk, List.getElem?_eq_none (Nat.le_refl _), if_neg (by omega)]
  exact ⟨rfl, rfl⟩
/-- No error just if none is told. -/
theorem err_iff {α : Type} (E : α → Int) (l : List α) : errAt E l = 0 ↔ firstBad E l = l.length := by
  constructor
  · intro h
    refine Nat.le_antisymm (first_le E l) (Nat.le_of_not_lt fun hc => ?_)
    have := first_bad E l hc
    rw [(err_bad E l _ hc rfl).1] at h
    exact this h
  · intro h; exact (err_good E l h).1
theorem first_all {α : Type} (E : α → Int) (l : List α) (h : ∀ x ∈ l, E x = 0) : firstBad E l = l.length := by
  induction l with
  | nil => rfl
  | cons x t ih =>
    rw [firstBad, if_pos (h x (by simp)), ih (fun y hy => h y (by simp [hy]))]; rfl
theorem all_first {α : Type} (E : α → Int) (l : List α) (h : firstBad E l = l.length) : ∀ x ∈ l, E x = 0 := by
  intro x hx
  obtain ⟨j, hj, rfl⟩ := List.getElem_of_mem hx
  exact first_good E l j hj (by omega)

/-- Why a float has no parts: ErrNaN, ErrInf, or OK. -/
def noE (b : Nat) : Int := if kindN b = 0 then 11 else if kindN b = 1 then 12 else 0
theorem noE_cases (b : Nat) : (kindN b = 0 ∧ noE b = 11 ∧ partOk b = false ∧ partM b = 0 ∧ partE b = 0) ∨ (kindN b = 1 ∧ noE b = 12 ∧ partOk b = false ∧ partM b = 0 ∧ partE b = 0) ∨ (2 ≤ kindN b ∧ noE b = 0 ∧ partOk b = true) := by
  unfold noE
  rcases kind_cases b with ⟨h1, h2, h3⟩ | ⟨h1, h2, h3⟩ | ⟨h1, h2, h3⟩ | ⟨h1, h2, h3⟩ | ⟨h1, h2, h3⟩
  · obtain ⟨p1, p2, p3⟩ := part_none b (by omega)
    exact Or.inl ⟨h3, by simp [h3], p3, p1, p2⟩
  · obtain ⟨p1, p2, p3⟩ := part_none b (by omega)
    exact Or.inr (Or.inl ⟨h3, by simp [h3], p3, p1, p2⟩)
  all_goals exact Or.inr (Or.inr ⟨by omega, by simp [h3], by unfold partOk; simp [h3]⟩)

/-- The sign as the parts tell it: none where there are no parts. -/
def fneg (b : Nat) : Bool := partOk b && negB b
/-- How far from nought there is room for. -/
def roomN (neg : Bool) : Nat := if neg then 9223372036854775808 else 9223372036854775807
/-- Why ± m · 2^p is no number of steps k. -/
def stepsE (neg : Bool) (m : Nat) (p k : Int) : Int :=
  if m = 0 then 0 else if p < k then 13 else if m * 2 ^ (p - k).toNat ≤ roomN neg then 0 else 10
def farN (neg : Bool) (z : Nat) : Int := if neg then -(z : Int) else (z : Int)
def stepsN (neg : Bool) (m : Nat) (p k : Int) : Int :=
  if stepsE neg m p k = 0 then (if m = 0 then 0 else farN neg (m * 2 ^ (p - k).toNat)) else 0
theorem room_cases (neg : Bool) : 9223372036854775807 ≤ roomN neg ∧ roomN neg ≤ 9223372036854775808 := by cases neg <;> decide
/-- The number that is z from nought, on its side, and whether there is room for it. -/
def sgnE (neg : Bool) (z : Int) : Int := if z ≤ (roomN neg : Int) then 0 else 10
def sgnN (neg : Bool) (z : Int) : Int := if z ≤ (roomN neg : Int) then (if neg then -z else z) else 0
theorem sgn_pos (z : Int) (h : z < 9223372036854775808) : sgnE false z = 0 ∧ sgnN false z = z := by
  have : roomN false = 9223372036854775807 := rfl
  unfold sgnE sgnN
  rw [if_pos (by omega), if_pos (by omega)]; exact ⟨rfl, rfl⟩
theorem sgn_neg (z : Int) (h : z ≤ 9223372036854775808) : sgnE true z = 0 ∧ sgnN true z = -z := by
  have : roomN true = 9223372036854775808 := rfl
  unfold sgnE sgnN
  rw [if_pos (by omega), if_pos (by omega)]; exact ⟨rfl, rfl⟩
theorem sgn_wide (neg : Bool) (z : Int) (h : (roomN neg : Int) < z) : sgnE neg z = 10 ∧ sgnN neg z = 0 := by
  unfold sgnE sgnN
  rw [if_neg (by omega), if_neg (by omega)]; exact ⟨rfl, rfl⟩
theorem sgn_pos_no (z : Int) (h : 9223372036854775808 ≤ z) : sgnE false z = 10 ∧ sgnN false z = 0 := sgn_wide false z (by have : roomN false = 9223372036854775807 := rfl; omega)
theorem sgn_neg_no (z : Int) (h : 9223372036854775808 < z) : sgnE true z = 10 ∧ sgnN true z = 0 := sgn_wide true z (by have : roomN true = 9223372036854775808 := rfl; omega)
theorem steps_nought (neg : Bool) (p k : Int) : stepsE neg 0 p k = 0 ∧ stepsN neg 0 p k = 0 := by
  have h : stepsE neg 0 p k = 0 := if_pos rfl
  exact ⟨h, by unfold stepsN; rw [if_pos h, if_pos rfl]⟩
theorem steps_frac (neg : Bool) (m : Nat) (p k : Int) (h0 : m ≠ 0) (h : p < k) : stepsE neg m p k = 13 ∧ stepsN neg m p k = 0 := by
  have e : stepsE neg m p k = 13 := by unfold stepsE; rw [if_neg h0, if_pos h]
  exact ⟨e, by unfold stepsN; rw [if_neg (by omega)]⟩
theorem steps_wide (neg : Bool) (m : Nat) (p k : Int) (h0 : m ≠ 0) (h : k ≤ p) (hr : roomN neg < m * 2 ^ (p - k).toNat) : stepsE neg m p k = 10 ∧ stepsN neg m p k = 0 := by
  have e : stepsE neg m p k = 10 := by unfold stepsE; rw [if_neg h0, if_neg (by omega), if_neg (by omega)]
  exact ⟨e, by unfold stepsN; rw [if_neg (by omega)]⟩
theorem steps_fit (neg : Bool) (m : Nat) (p k : Int) (h0 : m ≠ 0) (h : k ≤ p) (hr : m * 2 ^ (p - k).toNat ≤ roomN neg) : stepsE neg m p k = 0 ∧ stepsN neg m p k = farN neg (m * 2 ^ (p - k).toNat) := by
  have e : stepsE neg m p k = 0 := by unfold stepsE; rw [if_neg h0, if_neg (by omega), if_pos hr]
  exact ⟨e, by unfold stepsN; rw [if_pos e, if_neg h0]⟩
/-- Beyond 64 bits there is no room. -/
theorem wide_pow (m u : Nat) (h0 : m ≠ 0) (hm : m < 18446744073709551616) (h : 64 < bl m + u) : 18446744073709551616 ≤ m * 2 ^ u := by
  obtain ⟨g1, g2, g3, g4⟩ := bl_spec m h0 hm
  have hp := Nat.two_pow_pos u
  have a1 : 2 ^ bl m * 2 ^ u ≤ 2 * m * 2 ^ u := Nat.mul_le_mul_right _ g2
  rw [← Nat.pow_add] at a1
  have a2 : 2 ^ 65 ≤ 2 ^ (bl m + u) := Nat.pow_le_pow_right (by decide) (by omega)
  rw [Nat.mul_assoc] at a1
  omega
theorem fit_pow (m u : Nat) (h0 : m ≠ 0) (hm : m < 18446744073709551616) (h : bl m + u ≤ 64) : m * 2 ^ u < 18446744073709551616 := by
  obtain ⟨g1, g2, g3, g4⟩ := bl_spec m h0 hm
  have hp := Nat.two_pow_pos u
  have a1 : m * 2 ^ u < 2 ^ bl m * 2 ^ u := Nat.mul_lt_mul_of_pos_right g1 hp
  rw [← Nat.pow_add] at a1
  have a2 : 2 ^ (bl m + u) ≤ 2 ^ 64 := Nat.pow_le_pow_right (by decide) h
  omega
theorem steps_far (neg : Bool) (m : Nat) (p k : Int) (h0 : m ≠ 0) (hm : m < 18446744073709551616) (h : k ≤ p) (hu : 64 < bl m + (p - k)) : stepsE neg m p k = 10 ∧ stepsN neg m p k = 0 := by
  refine steps_wide neg m p k h0 h ?_
  have := wide_pow m (p - k).toNat h0 hm (by omega)
  have := room_cases neg
  omega
theorem steps_sgn (neg : Bool) (m : Nat) (p k : Int) (h0 : m ≠ 0) (h : k ≤ p) : stepsE neg m p k = sgnE neg ((m * 2 ^ (p - k).toNat : Nat) : Int) ∧ stepsN neg m p k = sgnN neg ((m * 2 ^ (p - k).toNat : Nat) : Int) := by
  by_cases hr : m * 2 ^ (p - k).toNat ≤ roomN neg
  · obtain ⟨h1, h2⟩ := steps_fit neg m p k h0 h hr
    rw [h1, h2]
    have hc : ((m * 2 ^ (p - k).toNat : Nat) : Int) ≤ (roomN neg : Int) := Int.ofNat_le.2 hr
    unfold sgnE sgnN farN
    rw [if_pos hc, if_pos hc]; exact ⟨rfl, rfl⟩
  · obtain ⟨h1, h2⟩ := steps_wide neg m p k h0 h (by omega)
    obtain ⟨h3, h4⟩ := sgn_wide neg ((m * 2 ^ (p - k).toNat : Nat) : Int) (by omega)
    rw [h1, h2, h3, h4]; exact ⟨rfl, rfl⟩
/-- What stays as it is while m is doubled. -/
def UpQ (m u n i : Nat) : Prop := i ≤ u ∧ n = m * 2 ^ i ∧ n < 18446744073709551616
theorem UpQ.start (m u : Nat) (h : m < 18446744073709551616) : UpQ m u m 0 := ⟨Nat.zero_le _, by simp, h⟩
theorem UpQ.step {m u n i : Nat} (h : UpQ m u n i) (hi : i < u) (hn : n < 9223372036854775808) : UpQ m u (n * 2) (i + 1) := ⟨hi, by rw [h.2.1, Nat.pow_succ, Nat.mul_assoc], by omega⟩
theorem UpQ.big {m u n i : Nat} (h : UpQ m u n i) (hi : i < u) (hn : 9223372036854775808 ≤ n) : 18446744073709551616 ≤ m * 2 ^ u := by
  have h1 : m * 2 ^ (i + 1) ≤ m * 2 ^ u := Nat.mul_le_mul_left _ (Nat.pow_le_pow_right (by decide) hi)
  have h2 : m * 2 ^ (i + 1) = n * 2 := by rw [h.2.1, Nat.pow_succ, Nat.mul_assoc]
  omega
theorem UpQ.done {m u n i : Nat} (h : UpQ m u n i) (hi : ¬ i < u) : n = m * 2 ^ u := by
  have e : i = u := Nat.le_antisymm h.1 (Nat.le_of_not_lt hi)
  rw [h.2.1, e]
/-- Why the word b is no number of steps k, and which it is. -/
def cntE (k : Int) (b : Nat) : Int := if partOk b then stepsE (negB b) (partM b) (partE b) k else noE b
def cntN (k : Int) (b : Nat) : Int := if partOk b then stepsN (negB b) (partM b) (partE b) k else 0
theorem cnt_ok (k : Int) (b : Nat) (h : partOk b = true) : cntE k b = stepsE (negB b) (partM b) (partE b) k ∧ cntN k b = stepsN (negB b) (partM b) (partE b) k := by
  unfold cntE cntN; rw [if_pos h, if_pos h]; exact ⟨rfl, rfl⟩
theorem cnt_no (k : Int) (b : Nat) (h : partOk b = false) : cntE k b = noE b ∧ cntN k b = 0 := by
  unfold cntE cntN; rw [h]; exact ⟨rfl, rfl⟩
theorem cntN_room (k : Int) (b : Nat) : -9223372036854775808 ≤ cntN k b ∧ cntN k b ≤ 9223372036854775807 := by
  unfold cntN stepsN
  split
  · split
    · split
      · decide
      · rename_i h1 h2 h3
        unfold stepsE at h2
        rw [if_neg h3] at h2
        split at h2
        · omega
        · split at h2
          · rename_i h5
            revert h5
            generalize partM b * 2 ^ (partE b - k).toNat = z
            cases negB b <;> simp only [roomN, farN] <;> simp <;> omega
          · omega
    · decide
  · decide
theorem cnt_fneg (k : Int) (b : Nat) (h : noE b = 0) : cntE k b = stepsE (fneg b) (partM b) (partE b) k ∧ cntN k b = stepsN (fneg b) (partM b) (partE b) k := by
  have hp : partOk b = true := by
    rcases noE_cases b with ⟨_, g, _⟩ | ⟨_, g, _⟩ | ⟨_, _, g⟩
    · omega
    · omega
    · exact g
  unfold fneg
  rw [hp, Bool.true_and]
  exact cnt_ok k b hp
theorem cnt_err (k : Int) (b : Nat) (h : noE b ≠ 0) : cntE k b = noE b := by
  rcases noE_cases b with ⟨_, g, h3, _⟩ | ⟨_, g, h3, _⟩ | ⟨_, g, _⟩
  · exact (cnt_no k b h3).1
  · exact (cnt_no k b h3).1
  · omega
/-- What is gone over goes on: a float's parts once each. -/
def stp (s : Int × Bool) (b : Nat) : Int × Bool := if partM b ≠ 0 ∧ (s.2 = false ∨ partE b < s.1) then (partE b, true) else s
def stq (k : Int) (fd : Bool) (m : Nat) (p : Int) : Int × Bool := if m ≠ 0 ∧ (fd = false ∨ p < k) then (p, true) else (k, fd)
theorem stp_stq (s : Int × Bool) (b : Nat) : stp s b = stq s.1 s.2 (partM b) (partE b) := rfl
theorem stq_on (k : Int) (fd : Bool) (m : Nat) (p : Int) (h : m ≠ 0 ∧ (fd = false ∨ p < k)) : (stq k fd m p).1 = p ∧ (stq k fd m p).2 = true := by unfold stq; rw [if_pos h]; exact ⟨rfl, rfl⟩
theorem stq_off (k : Int) (fd : Bool) (m : Nat) (p : Int) (h : ¬ (m ≠ 0 ∧ (fd = false ∨ p < k))) : (stq k fd m p).1 = k ∧ (stq k fd m p).2 = fd := by unfold stq; rw [if_neg h]; exact ⟨rfl, rfl⟩
def fold (l : List Nat) : Int × Bool := l.foldl stp (0, false)
theorem fold_snoc (l : List Nat) (x : Nat) : fold (l ++ [x]) = stp (fold l) x := by unfold fold; rw [List.foldl_append]; rfl
def stepK (l : List Nat) : Int := if firstBad noE l = l.length then (fold l).1 else 0
def cnts (k : Int) (l : List Nat) : List Int := if firstBad (cntE k) l = l.length then l.map (cntN k) else []
theorem cnts_len (k : Int) (l : List Nat) : (cnts k l).length ≤ l.length := by unfold cnts; split <;> simp
theorem stp_bounds (s : Int × Bool) (b : Nat) (h : -1200 ≤ s.1 ∧ s.1 ≤ 1100) : -1200 ≤ (stp s b).1 ∧ (stp s b).1 ≤ 1100 := by
  unfold stp
  split
  · exact (part_bounds b).2
  · exact h
theorem foldl_bounds (l : List Nat) : ∀ s : Int × Bool, -1200 ≤ s.1 ∧ s.1 ≤ 1100 → -1200 ≤ (l.foldl stp s).1 ∧ (l.foldl stp s).1 ≤ 1100 := by
  induction l with
  | nil => intro s h; exact h
  | cons x t ih => intro s h; exact ih _ (stp_bounds s x h)
theorem fold_bounds (l : List Nat) : -1200 ≤ (fold l).1 ∧ (fold l).1 ≤ 1100 := foldl_bounds l _ (by decide)
theorem stepK_bounds (l : List Nat) : -1200 ≤ stepK l ∧ stepK l ≤ 1100 := by
  unfold stepK
  split
  · exact fold_bounds l
  · decide
/-- What the fold is: the least power, or that there is none. -/
theorem foldl_spec (l : List Nat) : ∀ s : Int × Bool,
    ((l.foldl stp s).2 = false ↔ s.2 = false ∧ ∀ x ∈ l, partM x = 0) ∧
    ((s.2 = true → (l.foldl stp s).1 ≤ s.1) ∧ ∀ x ∈ l, partM x ≠ 0 → (l.foldl stp s).1 ≤ partE x) ∧
    ((l.foldl stp s).2 = true → (s.2 = true ∧ (l.foldl stp s).1 = s.1) ∨ ∃ x ∈ l, partM x ≠ 0 ∧ (l.foldl stp s).1 = partE x) := by
  induction l with
  | nil => intro s; simp
  | cons x t ih =>
    intro s
    obtain ⟨h1, ⟨h2, h3⟩, h4⟩ := ih (stp s x)
    rw [List.foldl_cons]
    by_cases hx : partM x ≠ 0 ∧ (s.2 = false ∨ partE x < s.1)
    · have e : stp s x = (partE x, true) := if_pos hx
      rw [e] at h1 h2 h3 h4 ⊢
      refine ⟨?_, ⟨fun hs => ?_, ?_⟩, fun h => ?_⟩
      · rw [h1]
        constructor
        · intro h; simp at h
        · intro h; exact absurd (h.2 x (by simp)) hx.1
      · have := h2 rfl
        have := hx.2.resolve_left (by simp [hs])
        simp only at *
        omega
      · intro y hy hm
        rcases List.mem_cons.1 hy with rfl | hy
        · exact h2 rfl
        · exact h3 y hy hm
      · rcases h4 h with ⟨_, h5⟩ | ⟨y, hy, h5, h6⟩
        · exact Or.inr ⟨x, by simp, hx.1, h5⟩
        · exact Or.inr ⟨y, by simp [hy], h5, h6⟩
    · have e : stp s x = s := if_neg hx
      rw [e] at h1 h2 h3 h4 ⊢
      refine ⟨?_, ⟨h2, ?_⟩, fun h => ?_⟩
      · rw [h1]
        constructor
        · rintro ⟨g1, g2⟩
          refine ⟨g1, fun y hy => ?_⟩
          rcases List.mem_cons.1 hy with rfl | hy
          · exact Classical.byContradiction fun hc => hx ⟨hc, Or.inl g1⟩
          · exact g2 y hy
        · rintro ⟨g1, g2⟩
          exact ⟨g1, fun y hy => g2 y (by simp [hy])⟩
      · intro y hy hm
        rcases List.mem_cons.1 hy with rfl | hy
        · have hs : s.2 = true := by
            cases hs : s.2
            · exact absurd ⟨hm, Or.inl hs⟩ hx
            · rfl
          have g := h2 hs
          have : ¬ partE y < s.1 := fun hc => hx ⟨hm, Or.inr hc⟩
          omega
        · exact h3 y hy hm
      · rcases h4 h with h5 | ⟨y, hy, h5⟩
        · exact Or.inl h5
        · exact Or.inr ⟨y, by simp [hy], h5⟩
theorem fold_least (l : List Nat) : ∀ x ∈ l, partM x ≠ 0 → (fold l).1 ≤ partE x := (foldl_spec l (0, false)).2.1.2
theorem fold_some (l : List Nat) (x : Nat) (hx : x ∈ l) (hm : partM x ≠ 0) : ∃ y ∈ l, partM y ≠ 0 ∧ (fold l).1 = partE y := by
  obtain ⟨h1, h2, h3⟩ := foldl_spec l (0, false)
  have : (fold l).2 = true := by
    cases h : (fold l).2
    · exact absurd ((h1.1 h).2 x hx) hm
    · rfl
  rcases h3 this with ⟨h, _⟩ | h
  · cases h
  · exact h
/-- Why n steps k are no float; 1 for none. -/
def backE (k n : Int) : Int := if makeOk n.natAbs k then 0 else 1
def backW (k n : Int) : Nat := makeW (decide (n < 0)) n.natAbs k
def backs (k : Int) (l : List Int) : List Nat := if firstBad (backE k) l = l.length then l.map (backW k) else []
def backOk (k : Int) (l : List Int) : Bool := decide (firstBad (backE k) l = l.length)
theorem backs_len (k : Int) (l : List Int) : (backs k l).length ≤ l.length := by unfold backs; split <;> simp
theorem backE_iff (k n : Int) : backE k n = 0 ↔ makeOk n.natAbs k = true := by
  unfold backE; split <;> simp_all
end Go.Proofs.YtopniihomjakoaaDoor.QuantPure
