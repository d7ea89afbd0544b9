/- Cuts, plainly: what crosses a side, what that weighs; a side and its other side weigh the same, what two share and what both have weigh together no more than both; the least cut between two, its least side. No program in sight. -/
import Derived.Test.YtbankocbncpepaaPk8
namespace Go.Proofs.Ytbankocbncpepaa.CutPure
open EdPure NtPure
/-- Does an edge cross a side? -/
def crossB (S : Int → Bool) (e : Ed) : Bool := S e.1 != S e.2.1
def crE (S : Int → Bool) (e : Ed) : Int := if crossB S e = true then e.2.2 else 0
/-- What all edges that cross a side weigh. -/
def cutW (M : List Ed) (S : Int → Bool) : Int := (M.map (crE S)).sum
theorem cut_nil (S : Int → Bool) : cutW [] S = 0 := rfl
theorem cut_cons (e : Ed) (M : List Ed) (S : Int → Bool) : cutW (e :: M) S = crE S e + cutW M S := by unfold cutW; simp
theorem cut_append (L M : List Ed) (S : Int → Bool) : cutW (L ++ M) S = cutW L S + cutW M S := by unfold cutW; simp
theorem cut_snoc (M : List Ed) (e : Ed) (S : Int → Bool) : cutW (M ++ [e]) S = cutW M S + crE S e := by rw [cut_append, cut_cons, cut_nil]; omega
theorem cr_congr {S T : Int → Bool} {e : Ed} (h1 : S e.1 = T e.1) (h2 : S e.2.1 = T e.2.1) : crE S e = crE T e := by unfold crE crossB; rw [h1, h2]
theorem cut_congr {M : List Ed} {S T : Int → Bool} (h : ∀ e ∈ M, S e.1 = T e.1 ∧ S e.2.1 = T e.2.1) : cutW M S = cutW M T := by
  induction M with
  | nil => rfl
  | cons e r ih => rw [cut_cons, cut_cons, cr_congr (h e (by simp)).1 (h e (by simp)).2, ih (fun x hx => h x (by simp [hx]))]
theorem cut_same {n : Int} {M : List Ed} (hM : GoodN n M) {S T : Int → Bool} (h : ∀ v, 0 ≤ v → v < n → S v = T v) : cutW M S = cutW M T := by
  refine cut_congr fun e he => ?_
  have h1 := hM.2.1 e he
  have h2 := (hM.1.2 e he).1
  exact ⟨h _ (by omega) (by omega), h _ (by omega) (by omega)⟩
theorem cut_not (M : List Ed) (S : Int → Bool) : cutW M (fun v => !S v) = cutW M S := by
  induction M with
  | nil => rfl
  | cons e r ih =>
    have h : crossB (fun v => !S v) e = crossB S e := by
      show ((!S e.1) != (!S e.2.1)) = (S e.1 != S e.2.1)
      cases S e.1 <;> cases S e.2.1 <;> rfl
    rw [cut_cons, cut_cons, ih]
    unfold crE
    rw [h]
theorem cr_nonneg {e : Ed} (h : 0 ≤ e.2.2) (S : Int → Bool) : 0 ≤ crE S e := by unfold crE; split <;> omega
theorem cut_nonneg {M : List Ed} (h : NonNeg M) (S : Int → Bool) : 0 ≤ cutW M S := by
  induction M with
  | nil => exact Int.le_refl _
  | cons e r ih =>
    have h1 := cr_nonneg (h e (by simp)) S
    have h2 := ih (fun x hx => h x (by simp [hx]))
    rw [cut_cons]; omega
theorem cut_le_all {M : List Ed} (h : NonNeg M) (S : Int → Bool) : cutW M S ≤ allW M := by
  induction M with
  | nil => exact Int.le_refl _
  | cons e r ih =>
    have h1 := h e (by simp)
    have h2 := ih (fun x hx => h x (by simp [hx]))
    have h3 : crE S e ≤ e.2.2 := by unfold crE; split <;> omega
    have h4 : allW (e :: r) = e.2.2 + allW r := by unfold allW; simp
    rw [cut_cons, h4]; omega
theorem bool_two (x : Int) (h : 0 ≤ x) (a b c d : Bool) : (if ((a && c) != (b && d)) = true then x else 0) + (if ((a || c) != (b || d)) = true then x else 0) ≤ (if (a != b) = true then x else 0) + (if (c != d) = true then x else 0) := by
  cases a <;> cases b <;> cases c <;> cases d <;> simp <;> omega
theorem bool_xor (x : Int) (h : 0 ≤ x) (a b c d : Bool) : (if ((a != c) != (b != d)) = true then x else 0) ≤ (if (a != b) = true then x else 0) + (if (c != d) = true then x else 0) := by
  cases a <;> cases b <;> cases c <;> cases d <;> simp <;> omega
/-- What two sides share, and what both have, weigh together no more than both. -/
theorem cut_two {M : List Ed} (h : NonNeg M) (S T : Int → Bool) : cutW M (fun v => S v && T v) + cutW M (fun v => S v || T v) ≤ cutW M S + cutW M T := by
  induction M with
  | nil => exact Int.le_refl _
  | cons e r ih =>
    have h1 := h e (by simp)
    have h2 := ih (fun x hx => h x (by simp [hx]))
    simp only [cut_cons]
    have h3 : crE (fun v => S v && T v) e + crE (fun v => S v || T v) e ≤ crE S e + crE T e := bool_two _ h1 (S e.1) (S e.2.1) (T e.1) (T e.2.1)
    omega
/-- What one has and the other has not, either way. -/
theorem cut_apart {M : List Ed} (h : NonNeg M) (S T : Int → Bool) : cutW M (fun v => S v && !T v) + cutW M (fun v => T v && !S v) ≤ cutW M S + cutW M T := by
  have h1 := cut_two h S (fun v => !T v)
  rw [cut_not M T] at h1
  have h2 : cutW M (fun v => S v || !T v) = cutW M (fun v => T v && !S v) := by
    rw [← cut_not M (fun v => T v && !S v)]
    have hb : ∀ a b : Bool, (a || !b) = !(b && !a) := by decide
    exact cut_congr fun e _ => ⟨hb _ _, hb _ _⟩
  rw [h2] at h1
  exact h1
/-- What just one of two sides has. -/
theorem cut_xor {M : List Ed} (h : NonNeg M) (S T : Int → Bool) : cutW M (fun v => S v != T v) ≤ cutW M S + cutW M T := by
  induction M with
  | nil => exact Int.le_refl _
  | cons e r ih =>
    have h1 := h e (by simp)
    have h2 := ih (fun x hx => h x (by simp [hx]))
    simp only [cut_cons]
    have h3 : crE (fun v => S v != T v) e ≤ crE S e + crE T e := bool_xor _ h1 (S e.1) (S e.2.1) (T e.1) (T e.2.1)
    omega
theorem cut_none (M : List Ed) (b : Bool) : cutW M (fun _ => b) = 0 := by
  induction M with
  | nil => rfl
  | cons e r ih =>
    rw [cut_cons, ih]
    unfold crE crossB
    simp
/-! ### The least number with a property -/
theorem least_ex {P : Nat → Prop} (h : ∃ k, P k) : ∃ k, P k ∧ ∀ j, P j → k ≤ j := by
  obtain ⟨k, hk⟩ := h
  induction k using Nat.strongRecOn with
  | _ k ih =>
    by_cases h : ∃ j, j < k ∧ P j
    · obtain ⟨j, hj, hp⟩ := h
      exact ih j hj hp
    · exact ⟨k, hk, fun j hj => by
        by_cases hjk : k ≤ j
        · exact hjk
        · exact absurd ⟨j, by omega, hj⟩ h⟩
/-- A side that parts s from t, with s in it. -/
def Parts (S : Int → Bool) (s t : Int) : Prop := S s = true ∧ S t = false
/-- Of the sides that part s from t one weighs w, and none less. -/
def IsLam (M : List Ed) (s t : Int) (w : Int) : Prop := (∃ S, Parts S s t ∧ cutW M S = w) ∧ ∀ S, Parts S s t → w ≤ cutW M S
theorem lam_ex {M : List Ed} (h : NonNeg M) {s t : Int} (hst : s ≠ t) : ∃ w, IsLam M s t w := by
  have h0 : ∃ k : Nat, ∃ S, Parts S s t ∧ cutW M S = (k : Int) := by
    refine ⟨(cutW M (fun v => decide (v = s))).toNat, fun v => decide (v = s), ⟨by simp, by simp; omega⟩, ?_⟩
    have := cut_nonneg h (fun v => decide (v = s))
    omega
  obtain ⟨k, hk, hl⟩ := least_ex h0
  refine ⟨k, hk, fun S hS => ?_⟩
  have h1 := cut_nonneg h S
  have := hl (cutW M S).toNat ⟨S, hS, by omega⟩
  omega
theorem lam_one {M : List Ed} {s t w w' : Int} (h : IsLam M s t w) (h' : IsLam M s t w') : w = w' := by
  obtain ⟨⟨S, hS, e⟩, hl⟩ := h
  obtain ⟨⟨S', hS', e'⟩, hl'⟩ := h'
  have h1 := hl S' hS'
  have h2 := hl' S hS
  omega
theorem parts_not {S : Int → Bool} {s t : Int} (h : Parts S s t) : Parts (fun v => !S v) t s := by
  unfold Parts at *
  simp only [h.1, h.2]
  exact ⟨rfl, rfl⟩
theorem lam_symm {M : List Ed} {s t w : Int} (h : IsLam M s t w) : IsLam M t s w := by
  obtain ⟨⟨S, hS, e⟩, hl⟩ := h
  refine ⟨⟨fun v => !S v, parts_not hS, by rw [cut_not]; exact e⟩, fun T hT => ?_⟩
  rw [← cut_not]
  exact hl _ (parts_not hT)
/-- A least side between s and t. -/
def LeastS (M : List Ed) (s t : Int) (S : Int → Bool) : Prop := Parts S s t ∧ ∀ T, Parts T s t → cutW M S ≤ cutW M T
theorem LeastS.lam {M : List Ed} {s t : Int} {S : Int → Bool} (h : LeastS M s t S) : IsLam M s t (cutW M S) := ⟨⟨S, h.1, rfl⟩, h.2⟩
theorem leastS_of {M : List Ed} {s t w : Int} {S : Int → Bool} (h : IsLam M s t w) (hp : Parts S s t) (e : cutW M S = w) : LeastS M s t S := ⟨hp, fun T hT => by rw [e]; exact h.2 T hT⟩
/-- What two least sides share is one. -/
theorem least_and {M : List Ed} (h : NonNeg M) {s t : Int} {S T : Int → Bool} (hS : LeastS M s t S) (hT : LeastS M s t T) : LeastS M s t (fun v => S v && T v) ∧ LeastS M s t (fun v => S v || T v) := by
  have p1 : Parts (fun v => S v && T v) s t := ⟨by simp [hS.1.1, hT.1.1], by simp [hS.1.2]⟩
  have p2 : Parts (fun v => S v || T v) s t := ⟨by simp [hS.1.1], by simp [hS.1.2, hT.1.2]⟩
  have h1 := cut_two h S T
  have h2 := hS.2 _ p1
  have h3 := hS.2 _ p2
  have h4 := hT.2 _ hS.1
  have h5 := hS.2 _ hT.1
  exact ⟨⟨p1, fun U hU => by have := hS.2 U hU; omega⟩, ⟨p2, fun U hU => by have := hS.2 U hU; omega⟩⟩
/-- How many vertices below n a side has. -/
def cntS (S : Int → Bool) : Nat → Nat
  | 0 => 0
  | k + 1 => cntS S k + (if S (k : Int) = true then 1 else 0)
theorem cnt_le {S T : Int → Bool} {n : Nat} (h : ∀ k : Nat, k < n → S k = true → T k = true) : cntS S n ≤ cntS T n := by
  induction n with
  | zero => exact Nat.le_refl _
  | succ n ih =>
    have h1 := ih (fun k hk => h k (by omega))
    have h2 := h n (by omega)
    unfold cntS
    by_cases hs : S n = true
    · rw [if_pos hs, if_pos (h2 hs)]; omega
    · rw [if_neg hs]; omega
theorem cnt_eq {S T : Int → Bool} {n : Nat} (h : ∀ k : Nat, k < n → S k = true → T k = true) (e : cntS S n = cntS T n) : ∀ k : Nat, k < n → S k = T k := by
  induction n with
  | zero => intro k hk; omega
  | succ n ih =>
    have h1 := cnt_le (S := S) (T := T) (n := n) (fun k hk => h k (by omega))
    have h2 := h n (by omega)
    unfold cntS at e
    have h3 : S n = T n := by
      cases hs : S n with
      | true => exact (h2 hs).symm
      | false =>
        cases ht : T n with
        | false => rfl
        | true => rw [if_neg (by rw [hs]; decide), if_pos ht] at e; omega
    have h4 : cntS S n = cntS T n := by rw [h3] at e; omega
    intro k hk
    by_cases hkn : k = n
    · rw [hkn]; exact h3
    · exact ih (fun j hj => h j (by omega)) h4 k (by omega)
/-- The least of the least sides lies in all of them. -/
theorem core_ex {M : List Ed} (h : NonNeg M) {s t : Int} (hst : s ≠ t) (n : Nat) : ∃ S, LeastS M s t S ∧ ∀ T, LeastS M s t T → ∀ k : Nat, k < n → S k = true → T k = true := by
  obtain ⟨w, ⟨S0, hp, e⟩, hl⟩ := lam_ex h hst
  have h0 : ∃ k, ∃ S, LeastS M s t S ∧ cntS S n = k := ⟨_, S0, leastS_of ⟨⟨S0, hp, e⟩, hl⟩ hp e, rfl⟩
  obtain ⟨k, ⟨S, hS, hk⟩, hmin⟩ := least_ex h0
  refine ⟨S, hS, fun T hT j hj hs => ?_⟩
  have ha := (least_and h hS hT).1
  have h1 : cntS (fun v => S v && T v) n ≤ cntS S n := cnt_le fun k _ hk => by simp at hk; exact hk.1
  have h2 := hmin _ ⟨_, ha, rfl⟩
  have h3 := cnt_eq (S := fun v => S v && T v) (T := S) (n := n) (fun k _ hk => by simp at hk; exact hk.1) (by omega) j hj
  rw [hs] at h3
  simp only [Bool.true_and] at h3
  exact h3
/-- There is just one such side, as far as there are vertices. -/
theorem core_one {M : List Ed} {s t : Int} {n : Nat} {S S' : Int → Bool} (h : LeastS M s t S ∧ ∀ T, LeastS M s t T → ∀ k : Nat, k < n → S k = true → T k = true) (h' : LeastS M s t S' ∧ ∀ T, LeastS M s t T → ∀ k : Nat, k < n → S' k = true → T k = true) :
    ∀ k : Nat, k < n → S k = S' k := by
  intro k hk
  have h1 := h.2 S' h'.1 k hk
  have h2 := h'.2 S h.1 k hk
  cases hs : S k with
  | true => exact (h1 hs).symm
  | false =>
    cases hs' : S' k with
    | false => rfl
    | true => rw [h2 hs'] at hs; cases hs
/-- Of three vertices the two least cuts weigh the same: the least between two is no less than the less one of both others. -/
theorem lam_three {M : List Ed} {a b c x y z : Int} (h1 : IsLam M a b x) (h2 : IsLam M b c y) (h3 : IsLam M a c z) : min x y ≤ z := by
  obtain ⟨⟨S, hS, e⟩, -⟩ := h3
  cases hb : S b with
  | true => have := h2.2 S ⟨hb, hS.2⟩; omega
  | false => have := h1.2 S ⟨hS.1, hb⟩; omega
end Go.Proofs.Ytbankocbncpepaa.CutPure
